/- merged: LK LL LM LN LO LP LQ LR LS LT -/
import Derived.Test.YtflllkamdihfaaaLMA
import Derived.Deep.DeepCutAuto
import Derived.Laws.ResultCell
import Derived.Laws.CopyOwn
namespace Go.Proofs.Ytflllkamdihfaaa
open Go.RowKit Go.Sort
section
def sgI (i : Nat) : Int := if i % 2 = 0 then 1 else -1
theorem sg_succ (i : Nat) : sgI (i + 1) = - sgI i := by
  unfold sgI
  rcases Nat.mod_two_eq_zero_or_one i with h | h
  · rw [if_neg (by omega), if_pos h]
  · rw [if_pos (by omega), if_neg (by omega)]; rfl
theorem sg_le (i : Nat) : (sgI i).natAbs ≤ 1 := by unfold sgI; split <;> decide
/-- the determinant of so many rows. -/
def detF : Nat → List (List Int) → Int
  | 0, _ => 1
  | m + 1, t => ((List.range (m + 1)).map fun i => sgI i * nth (lth t 0) i * detF m (woL i (t.drop 1))).sum
def detS (m : Nat) (t : List (List Int)) (i : Nat) : Int := ((List.range i).map fun i => sgI i * nth (lth t 0) i * detF m (woL i (t.drop 1))).sum
theorem detS_succ (m : Nat) (t : List (List Int)) (i : Nat) : detS m t (i + 1) = detS m t i + sgI i * nth (lth t 0) i * detF m (woL i (t.drop 1)) := by
  unfold detS
  rw [List.range_succ, List.map_append, List.sum_append]
  simp
def detK : Nat → Nat
  | 0 => 1
  | m + 1 => (m + 1) * (65536 * detK m)
def BndT (t : List (List Int)) : Prop := ∀ l ∈ t, ∀ x ∈ l, x.natAbs ≤ 65536
theorem BndT.at {t : List (List Int)} (h : BndT t) (k i : Nat) : (nth (lth t k) i).natAbs ≤ 65536 := by
  by_cases hi : i < (lth t k).length
  · have hk : k < t.length := by
      rcases Nat.lt_or_ge k t.length with q | q
      · exact q
      · rw [lth_eq, List.getElem?_eq_none q] at hi; simp at hi
    refine h _ ?_ _ (nth_mem hi)
    rw [lth_eq, List.getElem?_eq_getElem hk]; exact List.getElem_mem hk
  · rw [nth_eq, List.getElem?_eq_none (by omega)]; decide
theorem BndT.wo {t : List (List Int)} (h : BndT t) (i : Nat) : BndT (woL i (t.drop 1)) := fun l hl x hx => by
  obtain ⟨r, hr, rfl⟩ := List.mem_map.1 hl
  have hr2 := List.mem_of_mem_drop hr
  rcases List.mem_append.1 hx with q | q
  · exact h r hr2 x (List.mem_of_mem_take q)
  · exact h r hr2 x (List.mem_of_mem_drop q)
theorem mul3_le {a b c : Int} {A B C : Nat} (ha : a.natAbs ≤ A) (hb : b.natAbs ≤ B) (hc : c.natAbs ≤ C) : (a * b * c).natAbs ≤ A * B * C := by
  rw [Int.natAbs_mul, Int.natAbs_mul]
  exact Nat.mul_le_mul (Nat.mul_le_mul ha hb) hc
theorem det_le : ∀ (m : Nat) (t : List (List Int)), BndT t → (detF m t).natAbs ≤ detK m ∧ ∀ i, (detS m t i).natAbs ≤ i * (65536 * detK m)
  | m, t, h => by
    have hs : (∀ t, BndT t → (detF m t).natAbs ≤ detK m) → ∀ i, (detS m t i).natAbs ≤ i * (65536 * detK m) := fun hm i => by
      induction i with
      | zero => unfold detS; simp
      | succ i ih =>
        rw [detS_succ, Nat.succ_mul]
        have h1 := mul3_le (sg_le i) (h.at 0 i) (hm _ (h.wo i))
        have h2 := Int.natAbs_add_le (detS m t i) (sgI i * nth (lth t 0) i * detF m (woL i (t.drop 1)))
        omega
    have hd : ∀ m t, BndT t → (detF m t).natAbs ≤ detK m := fun m => by
      induction m with
      | zero => intro t _; unfold detF detK; decide
      | succ m ih =>
        intro t ht
        have : ∀ i, (detS m t i).natAbs ≤ i * (65536 * detK m) := fun i => by
          induction i with
          | zero => unfold detS; simp
          | succ i ihi =>
            rw [detS_succ, Nat.succ_mul]
            have h1 := mul3_le (sg_le i) (ht.at 0 i) (ih _ (ht.wo i))
            have h2 := Int.natAbs_add_le (detS m t i) (sgI i * nth (lth t 0) i * detF m (woL i (t.drop 1)))
            omega
        exact this (m + 1)
    exact ⟨hd m t h, hs (hd m)⟩
theorem det_facts (m : Nat) (hm : m ≤ 2) (t : List (List Int)) (h : BndT t) (i : Nat) (hi : i ≤ 3) : ∃ sg x p d q s : Int, sgI i = sg ∧ nth (lth t 0) i = x ∧ detF m (woL i (t.drop 1)) = d ∧ detS m t i = s ∧ detS m t (i + 1) = s + q ∧ sgI (i + 1) = -sg ∧
    (IntKind.i64.wrap (sg * x) = p ∧ wrap64 (sg * x) = p ∧ IntKind.i64.wrap (p * d) = q ∧ wrap64 (p * d) = q) ∧ -1 ≤ sg ∧ sg ≤ 1 ∧ -562949953421312 ≤ q ∧ q ≤ 562949953421312 ∧ -1688849860263936 ≤ s ∧ s ≤ 1688849860263936 := by
  have hk : detK m ≤ 8589934592 := by
    rcases (by omega : m = 0 ∨ m = 1 ∨ m = 2) with rfl | rfl | rfl <;> decide
  have h1 := sg_le i
  have h2 := h.at 0 i
  have h3 := (det_le m _ (h.wo i)).1
  have h4 := (det_le m t h).2 i
  have h5 : (sgI i * nth (lth t 0) i).natAbs ≤ 65536 := by
    rw [Int.natAbs_mul]
    have := Nat.mul_le_mul h1 h2
    omega
  have h6 : (sgI i * nth (lth t 0) i * detF m (woL i (t.drop 1))).natAbs ≤ 562949953421312 := by
    rw [Int.natAbs_mul]
    have := Nat.mul_le_mul h5 (Nat.le_trans h3 hk)
    omega
  have h7 : (detS m t i).natAbs ≤ 1688849860263936 := by
    have := Nat.mul_le_mul hi (Nat.mul_le_mul_left 65536 hk)
    omega
  have w1 : ∀ z : Int, z.natAbs ≤ 562949953421312 → IntKind.i64.wrap z = z ∧ wrap64 z = z := fun z hz => ⟨IntWalk.i64_in _ ⟨by omega, by omega⟩, by unfold wrap64; omega⟩
  refine ⟨_, _, sgI i * nth (lth t 0) i, _, sgI i * nth (lth t 0) i * detF m (woL i (t.drop 1)), _, rfl, rfl, rfl, rfl, detS_succ m t i, sg_succ i, ⟨(w1 _ (by omega)).1, (w1 _ (by omega)).2, (w1 _ h6).1, (w1 _ h6).2⟩, by omega, by omega, by omega, by omega, by omega, by omega⟩
set_option maxRecDepth 100000 in
set_option maxHeartbeats 4000000 in
theorem det_any : ∀ (m : Nat), m ≤ 3 → ∀ (a : Option Addr) (cap : Nat) (t : List (List Int)) (w : World), LstC w a t → t.length = m → m ≤ cap → (∀ k, k < m → (lth t k).length = m) → BndT t →
    Calls Try.prog 79 #[.slice a m cap] w fun e w' => e = .returned (.int .i64 (detF m t)) ∧ Fut w w' := by
  intro m
  induction m with
  | zero =>
    intro _ a cap t w _ _ _ _ _
    unfold detF
    go_enter Try.func79, Try.ntmps79
    go_wp2_with fail
    go_ret
    exact ⟨rfl, Fut.rfl⟩
  | succ m ih =>
    intro hm a cap t w hL ht hcap hlen hb
    obtain ⟨bb, off, rl, rc, rfl, _, c1, _, _, hI0⟩ := hL 0 (by omega)
    have hl0 := hlen 0 (by omega)
    rw [hl0, Nat.add_zero] at c1
    have hdl : (t.drop 1).length = m := by rw [List.length_drop]; omega
    have hsl : ∀ W, (Instr.sliceAt 35 (.slice (some ⟨bb, off, none⟩) (m + 1) cap) (some (.int .i64 1)) none none).run Try.prog W = .ok (.slice (some ⟨bb, offK off 1 cap, none⟩) (m + 1 - 1) (cap - 1)) W := fun W => slice_fromL bb off (m + 1) cap 1 (by omega) hcap W
    rw [Nat.add_sub_cancel] at hsl
    have hwlen : ∀ i, i < m + 1 → ∀ k, k < m → (lth (woL i (t.drop 1)) k).length = m := fun i hi k hk => by
      have e : lth (woL i (t.drop 1)) k = (lth t (k + 1)).take i ++ (lth t (k + 1)).drop (i + 1) := by
        unfold woL
        rw [lth_eq, List.getElem?_map, List.getElem?_drop, lth_eq, Nat.add_comm 1 k, List.getElem?_eq_getElem (show k + 1 < t.length by omega)]
        rfl
      rw [e, List.length_append, List.length_take, List.length_drop, hlen (k + 1) (by omega)]
      omega
    have HWO : Hid (∀ i, i < m + 1 → ∀ W, Fut w W → Calls Try.prog 109 #[.int .i64 (i : Int), .slice (some ⟨bb, offK off 1 cap, none⟩) m (cap - 1)] W fun e w' => ∃ l c, e = .returned (.slice l m c) ∧ m ≤ c ∧ LstC w' l (woL i (t.drop 1)) ∧ Fut W w') := Lib.hid (fun i hi W F => by
      have h := without_any i (some ⟨bb, offK off 1 cap, none⟩) (cap - 1) (t.drop 1) W ((hL.fut F).drop (k := 1) (by omega)) (by omega) (fun k hk => by
        rw [hdl] at hk
        have e : lth (t.drop 1) k = lth t (k + 1) := by rw [lth_eq, List.getElem?_drop, lth_eq, Nat.add_comm 1 k]
        rw [e, hlen (k + 1) (by omega)]
        omega)
      rw [hdl] at h
      refine h.mono ?_
      rintro _ w' ⟨v, rfl, hO, F'⟩
      obtain ⟨l, c, rfl, h1, _, h3⟩ := hO.listsC
      have hwl : (woL i (t.drop 1)).length = m := by unfold woL; rw [List.length_map]; exact hdl
      rw [hwl] at h1
      exact ⟨l, c, by rw [hwl], h1, h3, F'⟩)
    have HIH : Hid (∀ i, i < m + 1 → ∀ (l : Option Addr) (c : Nat) (W : World), LstC W l (woL i (t.drop 1)) → m ≤ c → Calls Try.prog 79 #[.slice l m c] W fun e w' => e = .returned (.int .i64 (detF m (woL i (t.drop 1)))) ∧ Fut W w') := Lib.hid (fun i hi l c W h1 h2 => ih (by omega) l c _ W h1 (by unfold woL; rw [List.length_map]; exact hdl) h2 (hwlen i hi) (hb.wo i))
    have HFA := Lib.hid (fun i (hi : i < m + 1) => det_facts m (by omega) t hb i (by omega))
    have HD0 : Hid (detS m t 0 = 0) := Lib.hid rfl
    have HDA : Hid (detF (m + 1) t = detS m t (m + 1)) := Lib.hid rfl
    have HI0 := Lib.hid hI0
    have HL0 := Lib.hid hl0
    have hmx : (m : Int) + 1 ≤ 3 := by omega
    rw [HDA.out]
    clear ih hL ht hlen hb hI0 hl0 hdl hwlen HDA
    go_enter Try.func79, Try.ntmps79
    go_wp2_with fail
    clear c1
    go_loopw [3, 4, 14] (fun sv gv iv wr => ∃ i : Nat, i ≤ m + 1 ∧ sv = .int .i64 (detS m t i) ∧ gv = .int .i64 (sgI i) ∧ iv = .int .i64 i ∧ Hid (Fut w wr)) (fun _ _ iv _ => m + 1 - (intOf iv).toNat)
    case atStart => exact ⟨0, Nat.zero_le _, by rw [HD0.out], rfl, rfl, Lib.hid Fut.rfl⟩
    case round =>
      obtain ⟨i, hi, rfl, rfl, rfl, HF⟩ := hrel
      obtain ⟨wo, hwo⟩ : ∃ wo, wo = wr := ⟨_, rfl⟩
      subst hwo
      by_cases hil : i < m + 1
      · have hix : (i : Int) < (m : Int) + 1 := by omega
        obtain ⟨rb, ro, rfl, _, c2⟩ := (HI0.out.fut HF.out) i (by rw [HL0.out]; exact hil)
        obtain ⟨sg, x, p, d, q, s, e1, e2, e3, e4, e5, e6, hW, b1, b2, b3, b4, b5, b6⟩ := HFA.out i hil
        have HW1 := Lib.hid (HWO.out i hil wo HF.out)
        have HI1 := Lib.hid (HIH.out i hil)
        have HE := Lib.hid (And.intro e5 e6)
        rw [e3] at HI1
        rw [e2] at c2
        rw [e1, e4]
        clear e1 e2 e3 e4 e5 e6
        generalize woL i (t.drop 1) = wt at *
        have HB := Lib.hid (And.intro b1 (And.intro b2 (And.intro b3 (And.intro b4 (And.intro b5 b6)))))
        clear b1 b2 b3 b4 b5 b6
        obtain ⟨hw1, hw2, hw3, hw4⟩ := hW
        go_wp2_with fail
        refine HW1.out.mono ?_
        rintro _ w2 ⟨l2, c3, rfl, hc3, hL2, F⟩
        have HF2 := Lib.hid (HF.out.trans F)
        have HI2 := Lib.hid (HI1.out l2 c3 w2 hL2 hc3)
        clear F hL2 hc3 c2
        go_wp2_with fail
        refine HI2.out.mono ?_
        rintro _ w3 ⟨rfl, F⟩
        have HF3 := Lib.hid (HF2.out.trans F)
        clear F
        have hB := HB.out
        have hws : IntKind.i64.wrap (s + q) = s + q := IntWalk.i64_in _ ⟨by omega, by omega⟩
        obtain ⟨b1, b2, b3, b4, b5, b6⟩ := hB
        go_wp2_with fail
        clear hw1 hw2 hw3 hw4
        go_roundw
        case rel => first | exact ⟨i + 1, by omega, by rw [HE.out.1], by rw [HE.out.2], by go_num, HF3⟩ | ((repeat apply Exists.intro); exact ⟨⟨i + 1, by omega, by rw [HE.out.1], by rw [HE.out.2], by go_num, HF3⟩, rfl⟩)
        case measure => simp [intOf]; omega
      · obtain rfl : m + 1 = i := by omega
        go_wp2_with fail
        go_ret
        exact ⟨rfl, HF.out⟩
end
section
theorem way_le (c m : Int) (S : List Int) (k d : Int) : wayN c m S k d ≤ 65536 := by
  unfold wayN
  split
  · exact Nat.le_trans (wn_le c m S d 16 k) (by decide)
  · omega
theorem tab_good {r c : Int} {S Y T : List Int} (h : chkP r c S Y T = 0) : (tabL r c S Y T).length = Y.length ∧ (∀ k, k < Y.length → lth (tabL r c S Y T) k = rowT c (r * c) S Y T k T.length) ∧ (∀ k, k < Y.length → (lth (tabL r c S Y T) k).length = Y.length) ∧ BndT (tabL r c S Y T) := by
  have ht := (chk_side h).2.2.1
  have e : tabL r c S Y T = (List.range Y.length).map fun k => rowT c (r * c) S Y T k T.length := by unfold tabL; rw [if_pos h]
  have hk : ∀ k, k < Y.length → lth (tabL r c S Y T) k = rowT c (r * c) S Y T k T.length := fun k hk => by
    rw [e, lth_eq, List.getElem?_map, List.getElem?_range hk]; rfl
  refine ⟨by rw [e]; simp, hk, fun k h => ?_, fun l hl x hx => ?_⟩
  · rw [hk k h]; unfold rowT; simp [ht]
  · rw [e] at hl
    obtain ⟨k, _, rfl⟩ := List.mem_map.1 hl
    unfold rowT at hx
    obtain ⟨t, _, rfl⟩ := List.mem_map.1 hx
    have := way_le c (r * c) S (nth Y k) t
    omega
/-- what Signed answers. -/
def sgnV (r c : Int) (S Y T : List Int) : Int := if chkP r c S Y T = 0 then detF Y.length (tabL r c S Y T) else 0
set_option maxRecDepth 100000 in
set_option maxHeartbeats 2000000 in
theorem signed_any (r c : Int) (a : Option Addr) (cap : Nat) (S : List Int) (ya : Option Addr) (yc : Nat) (Y : List Int) (ta : Option Addr) (tc : Nat) (T : List Int) (w : World) (h : InPQ w a S ya yc Y ta tc T) :
    Calls Try.prog 23 #[parV r c a S.length cap, plaV ya Y.length yc ta T.length tc] w fun e w' => e = .returned (.tuple #[.int .i64 (sgnV r c S Y T), .int .i64 (chkP r c S Y T)]) ∧ Fut w w' := by
  have hA : Fut w ((w.alloc (.cells #[.int .i64 r, .int .i64 c, .slice a S.length cap] 24)).alloc (.cells #[.slice ya Y.length yc, .slice ta T.length tc] 26)) := (Fut.alloc _ _).trans (Fut.alloc _ _)
  have hBP := (BoxP.new w r c a S.length cap).fut (Fut.alloc _ (.cells #[.slice ya Y.length yc, .slice ta T.length tc] 26))
  have hBQ := BoxQ.new (w.alloc (.cells #[.int .i64 r, .int .i64 c, .slice a S.length cap] 24)) ya Y.length yc ta T.length tc
  rw [World.size_alloc] at hBQ
  have HTB := Lib.hid (fun W (F : Fut w W) => table_any r c a cap S ya yc Y ta tc T W (h.fut F))
  have HA := Lib.hid hA
  obtain ⟨_, p0, p1, p2⟩ := hBP
  obtain ⟨_, q0, q1⟩ := hBQ
  clear hA h
  unfold sgnV
  by_cases hc : chkP r c S Y T = 0
  · rw [if_pos hc]
    obtain ⟨t1, _, t3, t4⟩ := tab_good hc
    have hy3 := (chk_side hc).2.2.2.2.1
    rw [hc] at HTB ⊢
    have HDT := Lib.hid (fun (l : Option Addr) (lc : Nat) W (hL : LstC W l (tabL r c S Y T)) (hlc : Y.length ≤ lc) => det_any Y.length hy3 l lc _ W hL t1 hlc t3 t4)
    have HT1 := Lib.hid t1
    generalize detF Y.length (tabL r c S Y T) = dv at *
    generalize tabL r c S Y T = tb at *
    clear t1 t3 t4 hc hy3
    go_enter Try.func23, Try.ntmps23
    go_wp2_with fail
    refine (HTB.out _ HA.out).mono ?_
    rintro _ w2 ⟨l, lc, rfl, hl1, hl2, hL, F⟩
    have HF2 := Lib.hid (HA.out.trans F)
    rw [HT1.out] at hl1
    have HD := Lib.hid (HDT.out l lc w2 hL hl1)
    rw [HT1.out]
    clear p0 p1 p2 q0 q1 F hL hl1 hl2
    go_wp2_with fail
    refine HD.out.mono ?_
    rintro _ w3 ⟨rfl, F⟩
    have HF3 := Lib.hid (HF2.out.trans F)
    clear F
    go_wp2_with fail
    go_ret2
    exact ⟨rfl, HF3.out⟩
  · rw [if_neg hc]
    have HC := Lib.hid hc
    generalize tabL r c S Y T = tb at *
    generalize chkP r c S Y T = ce at *
    go_enter Try.func23, Try.ntmps23
    go_wp2_with fail
    refine (HTB.out _ HA.out).mono ?_
    rintro _ w2 ⟨l, lc, rfl, _, _, _, F⟩
    have HF2 := Lib.hid (HA.out.trans F)
    clear p0 p1 p2 q0 q1 F
    go_wp2_with fail
    go_ret2
    exact ⟨rfl, HF2.out⟩
end
section
/-- the error of a way, wherever it begins and ends. -/
def cwF (c m : Int) (S : List Int) (all : List Int) : List Int → Nat → Int
  | [], _ => 0
  | x :: t, k => if atE m S x = 0 then (if k = 0 ∨ (stL c m S (nth all (k - 1))).contains x = true then cwF c m S all t (k + 1) else 7) else atE m S x
def cwE (c m : Int) (S l : List Int) : Int := if l = [] then 4 else cwF c m S l l 0
theorem at_in {m : Int} {S : List Int} {x : Int} (h : atE m S x = 0) : 0 ≤ x ∧ x < m := by
  unfold atE at h
  by_cases hi : inB m x = true
  · unfold inB at hi; simp at hi; omega
  · rw [if_neg hi] at h; omega
set_option maxRecDepth 100000 in
set_option maxHeartbeats 2000000 in
theorem checkWay_any (r c m : Int) (hs : Side r c m) (a : Option Addr) (cap : Nat) (S : List Int) (b : Option Addr) (bap : Nat) (zs : List Int) (w : World) (hS : IntsAt w a S) (hl : S.length ≤ 1000) (hZ : IntsAt w b zs) (hzl : zs.length ≤ 1000) :
    Calls Try.prog 85 #[parV r c a S.length cap, .slice b zs.length bap] w fun e w' => e = .returned (.int .i64 (cwE c m S zs)) ∧ Fut w w' := by
  have HAT := Lib.hid (fun k W (F : Fut w W) => at_any r c m hs a cap S k W (hS.fut F) hl)
  have HST := Lib.hid (fun k (hk : 0 ≤ k ∧ k < m) W (F : Fut w W) => steps_any r c m hs a cap S k hk W (hS.fut F) hl)
  have HA := Lib.hid hZ
  have hzx : (zs.length : Int) ≤ 1000 := by omega
  have HF := Lib.hid (Fut.alloc w (.cells #[.int .i64 r, .int .i64 c, .slice a S.length cap] 24))
  have HBP := Lib.hid (BoxP.new w r c a S.length cap)
  have HSL := Lib.hid (stL_len c m S)
  unfold cwE
  by_cases h0 : zs = []
  · rw [if_pos h0]
    subst h0
    clear HAT HST HSL hS hl hs hZ
    go_enter Try.func85, Try.ntmps85
    go_wp2_with fail
    go_ret
    exact ⟨rfl, HF.out⟩
  · rw [if_neg h0]
    have hz0 : 0 < zs.length := List.length_pos_iff.2 h0
    have hz0x : ¬ (zs.length : Int) = 0 := by omega
    have hz0b : ((zs.length : Int) == 0) = false := by rw [beq_eq_false_iff_ne]; exact hz0x
    have HE : Hid (cwF c m S zs zs 0 = cwF c m S zs (zs.drop 0) 0) := Lib.hid rfl
    generalize cwF c m S zs zs 0 = E at *
    clear hS hl hs hZ h0
    go_enter Try.func85, Try.ntmps85
    go_wp2_with fail
    generalize w.alloc (.cells #[.int .i64 r, .int .i64 c, .slice a S.length cap] 24) = w1 at *
    go_loopw [13] (fun kv wr => ∃ k : Nat, k ≤ zs.length ∧ kv = .int .i64 k ∧ Hid (E = cwF c m S zs (zs.drop k) k) ∧ Hid (∀ j, j < k → atE m S (nth zs j) = 0) ∧ Hid (Fut w1 wr)) (fun kv _ => zs.length - (intOf kv).toNat)
    case atStart => exact ⟨0, Nat.zero_le _, rfl, HE, Lib.hid (fun j hj => absurd hj (Nat.not_lt_zero j)), Lib.hid Fut.rfl⟩
    case round =>
      obtain ⟨k, hk, rfl, HK, HG, HFk⟩ := hrel
      obtain ⟨wo, hwo⟩ : ∃ wo, wo = wr := ⟨_, rfl⟩
      subst hwo
      have HFW := Lib.hid (HF.out.trans HFk.out)
      by_cases hkl : k < zs.length
      · have hkx : (k : Int) < zs.length := by omega
        have hkk := HK.out
        rw [nth_drop zs k hkl, cwF] at hkk
        obtain ⟨b1, o1, rfl, hb, c1⟩ := (HA.out.fut HFW.out) k hkl
        have HBPo := Lib.hid (HBP.out.fut HFk.out)
        obtain ⟨_, d0, d1, d2⟩ := HBPo.out
        have HI := Lib.hid (HAT.out (nth zs k) wo HFW.out)
        by_cases hae : atE m S (nth zs k) = 0
        · rw [hae] at HI
          rw [if_pos hae] at hkk
          have HG2 : Hid (∀ j, j < k + 1 → atE m S (nth zs j) = 0) := Lib.hid (fun j hj => by
            by_cases e : j = k
            · subst e; exact hae
            · exact HG.out j (by omega))
          by_cases hk0 : 0 < k
          · have hk0x : (0 : Int) < k := by omega
            obtain ⟨b2, o2, e2, _, c2⟩ := (HA.out.fut HFW.out) (k - 1) (by omega)
            simp only [Option.some.injEq, Addr.mk.injEq, and_true] at e2
            obtain ⟨rfl, rfl⟩ := e2
            have hwk : IntKind.i64.wrap ((k : Int) - 1) = ((k - 1 : Nat) : Int) := by rw [IntWalk.i64_in _ ⟨by omega, by omega⟩]; omega
            have hk1x : ((k - 1 : Nat) : Int) < zs.length := by omega
            have hk1n : (0 : Int) ≤ ((k - 1 : Nat) : Int) := by omega
            have HS1 := Lib.hid (fun W F => HST.out (nth zs (k - 1)) (at_in (HG.out (k - 1) (by omega))) W F)
            have hsl2 := HSL.out (nth zs (k - 1))
            generalize nth zs (k - 1) = y at *
            generalize nth zs k = x at *
            generalize k - 1 = k1 at *
            generalize stL c m S y = L at *
            have HCT := Lib.hid (fun (l : Option Addr) (lc : Nat) W (hI : IntsAt W l L) => contains_any l lc L x W hI (by omega))
            cases hct : L.contains x
            · rw [hct] at HCT
              rw [if_neg (by rw [hct]; rintro (q | q); omega; cases q)] at hkk
              have HE2 := Lib.hid hkk
              clear hkk HK hct hae
              go_wp2_with fail
              refine HI.out.mono ?_
              rintro _ w2 ⟨rfl, F⟩
              have HF2 := Lib.hid (HFW.out.trans F)
              have HFk2 := Lib.hid (HFk.out.trans F)
              have c2' := (RowKit.Below.cell F (World.block_lt_of_cell? _ _ c2)).trans c2
              have HBP2 := Lib.hid (HBPo.out.fut F)
              clear F d0 d1 d2 c1 c2
              obtain ⟨_, d0, d1, d2⟩ := HBP2.out
              go_upto_region 9 with fail
              have hS0 : BoxP w2 w.heap.size r c a S.length cap := HBP2.out
              have hlt := hS0.lt
              have hlt2 := World.block_lt_of_cell? _ _ c2'
              go_region_held3 (fun w' => w'.cell? ⟨w.heap.size, 0, none⟩ = some (.int .i64 r) ∧ w'.cell? ⟨w.heap.size, 1, none⟩ = some (.int .i64 c) ∧ w'.cell? ⟨w.heap.size, 2, none⟩ = some (.slice a S.length cap) ∧ w'.cell? ⟨b1, o1 + k1, none⟩ = some (.int .i64 y)) (first | exact hS5 | exact ⟨d0, d1, d2, c2'⟩)
                (first
                  | (go_at_call 108; refine (HS1.out w2.drew (HF2.out.trans (Fut.drewN w2 1))).mono ?_; rintro _ w5 ⟨v5, rfl, hO5, F5⟩; obtain ⟨l5, c5, rfl, hI5⟩ := hO5.ints; have FA5 : Fut w2 w5 := Fut.trans (Fut.drewN w2 1) F5; have hS5 : w5.cell? ⟨w.heap.size, 0, none⟩ = some (.int .i64 r) ∧ w5.cell? ⟨w.heap.size, 1, none⟩ = some (.int .i64 c) ∧ w5.cell? ⟨w.heap.size, 2, none⟩ = some (.slice a S.length cap) ∧ w5.cell? ⟨b1, o1 + k1, none⟩ = some (.int .i64 y) := ⟨(RowKit.Below.cell FA5 (p := ⟨w.heap.size, 0, none⟩) hlt).trans d0, (RowKit.Below.cell FA5 (p := ⟨w.heap.size, 1, none⟩) hlt).trans d1, (RowKit.Below.cell FA5 (p := ⟨w.heap.size, 2, none⟩) hlt).trans d2, (RowKit.Below.cell FA5 (p := ⟨b1, o1 + k1, none⟩) hlt2).trans c2'⟩)
                  | (go_at_call 57; refine (HCT.out l5 c5 w5 hI5).mono ?_; rintro _ _ ⟨rfl, rfl⟩))
              all_goals
                have HF5 := Lib.hid (HF2.out.trans FA5)
                have HFk5 := Lib.hid (HFk2.out.trans FA5)
                clear hO5 hI5 F5 FA5 hwk d0 d1 d2 c2' hS5 hS0 hlt hlt2
                go_wp2
                go_ret
                exact ⟨ret_int HE2.out.symm, HF5.out⟩
            · rw [hct] at HCT
              rw [if_pos (.inr hct)] at hkk
              have HE2 := Lib.hid hkk
              clear hkk HK hct hae
              go_wp2_with fail
              refine HI.out.mono ?_
              rintro _ w2 ⟨rfl, F⟩
              have HF2 := Lib.hid (HFW.out.trans F)
              have HFk2 := Lib.hid (HFk.out.trans F)
              have c2' := (RowKit.Below.cell F (World.block_lt_of_cell? _ _ c2)).trans c2
              have HBP2 := Lib.hid (HBPo.out.fut F)
              clear F d0 d1 d2 c1 c2
              obtain ⟨_, d0, d1, d2⟩ := HBP2.out
              go_upto_region 9 with fail
              have hS0 : BoxP w2 w.heap.size r c a S.length cap := HBP2.out
              have hlt := hS0.lt
              have hlt2 := World.block_lt_of_cell? _ _ c2'
              go_region_held3 (fun w' => w'.cell? ⟨w.heap.size, 0, none⟩ = some (.int .i64 r) ∧ w'.cell? ⟨w.heap.size, 1, none⟩ = some (.int .i64 c) ∧ w'.cell? ⟨w.heap.size, 2, none⟩ = some (.slice a S.length cap) ∧ w'.cell? ⟨b1, o1 + k1, none⟩ = some (.int .i64 y)) (first | exact hS5 | exact ⟨d0, d1, d2, c2'⟩)
                (first
                  | (go_at_call 108; refine (HS1.out w2.drew (HF2.out.trans (Fut.drewN w2 1))).mono ?_; rintro _ w5 ⟨v5, rfl, hO5, F5⟩; obtain ⟨l5, c5, rfl, hI5⟩ := hO5.ints; have FA5 : Fut w2 w5 := Fut.trans (Fut.drewN w2 1) F5; have hS5 : w5.cell? ⟨w.heap.size, 0, none⟩ = some (.int .i64 r) ∧ w5.cell? ⟨w.heap.size, 1, none⟩ = some (.int .i64 c) ∧ w5.cell? ⟨w.heap.size, 2, none⟩ = some (.slice a S.length cap) ∧ w5.cell? ⟨b1, o1 + k1, none⟩ = some (.int .i64 y) := ⟨(RowKit.Below.cell FA5 (p := ⟨w.heap.size, 0, none⟩) hlt).trans d0, (RowKit.Below.cell FA5 (p := ⟨w.heap.size, 1, none⟩) hlt).trans d1, (RowKit.Below.cell FA5 (p := ⟨w.heap.size, 2, none⟩) hlt).trans d2, (RowKit.Below.cell FA5 (p := ⟨b1, o1 + k1, none⟩) hlt2).trans c2'⟩)
                  | (go_at_call 57; refine (HCT.out l5 c5 w5 hI5).mono ?_; rintro _ _ ⟨rfl, rfl⟩))
              all_goals
                have HF5 := Lib.hid (HF2.out.trans FA5)
                have HFk5 := Lib.hid (HFk2.out.trans FA5)
                clear hO5 hI5 F5 FA5 hwk d0 d1 d2 c2' hS5 hS0 hlt hlt2
                go_wp2
                go_roundw
              all_goals first
                | exact ⟨k + 1, by omega, by go_num, HE2, HG2, HFk5⟩
                | ((repeat apply Exists.intro); exact ⟨⟨k + 1, by omega, by go_num, HE2, HG2, HFk5⟩, rfl⟩)
                | (simp [intOf]; omega)
          · have hk0x : ¬ (0 : Int) < k := by omega
            rw [if_pos (.inl (by omega))] at hkk
            have HE2 := Lib.hid hkk
            clear hkk HK hae HST HAT
            generalize nth zs k = x at *
            go_wp2_with fail
            refine HI.out.mono ?_
            rintro _ w2 ⟨rfl, F⟩
            have HFk2 := Lib.hid (HFk.out.trans F)
            clear F d0 d1 d2 c1
            go_wp2_with fail
            refine region_fut (by kernel_rfl) (by kernel_rfl) ?_
            repeat (go_big_quiet_step (fail))
            refine wpQuiet_nil ?_
            intro w10 hw'
            have HF10 := Lib.hid (HFk2.out.trans (after_fut hw'))
            clear hw'
            go_wp2
            go_roundw
            case rel => first | exact ⟨k + 1, by omega, by go_num, HE2, HG2, HF10⟩ | ((repeat apply Exists.intro); exact ⟨⟨k + 1, by omega, by go_num, HE2, HG2, HF10⟩, rfl⟩)
            case measure => simp [intOf]; omega
        · rw [if_neg hae] at hkk
          have HE2 := Lib.hid hkk
          generalize atE m S (nth zs k) = ae at *
          generalize nth zs k = x at *
          clear hkk HK HST HAT
          go_wp2_with fail
          refine HI.out.mono ?_
          rintro _ w2 ⟨rfl, F⟩
          have HF2 := Lib.hid (HFW.out.trans F)
          clear F d0 d1 d2 c1
          go_wp2_with fail
          go_ret
          exact ⟨ret_int HE2.out.symm, HF2.out⟩
      · obtain rfl : k = zs.length := by omega
        have hkk := HK.out
        rw [List.drop_length, cwF] at hkk
        have HE2 := Lib.hid hkk
        clear hkk
        go_wp2_with fail
        go_ret
        exact ⟨ret_int HE2.out.symm, HFW.out⟩
end
section
/-- the first place of a number in a list, or -1. -/
def idxF (x : Int) : List Int → Nat → Int
  | [], _ => -1
  | y :: t, k => if y = x then (k : Int) else idxF x t (k + 1)
def idxE (l : List Int) (x : Int) : Int := idxF x l 0
theorem idx_in (x : Int) : ∀ (l : List Int) (k : Nat), -1 ≤ idxF x l k ∧ idxF x l k < k + l.length ∧ (idxF x l k = -1 ∨ (k : Int) ≤ idxF x l k)
  | [], k => by unfold idxF; simp; omega
  | y :: t, k => by
    unfold idxF
    split
    · simp; omega
    · have := idx_in x t (k + 1)
      simp only [List.length_cons]
      omega
set_option maxRecDepth 100000 in
set_option maxHeartbeats 1000000 in
theorem index_any (a : Option Addr) (cap : Nat) (zs : List Int) (x : Int) (w : World) (hA : IntsAt w a zs) (hl : zs.length ≤ 1000) :
    Calls Try.prog 86 #[.slice a zs.length cap, .int .i64 x] w fun e w' => e = .returned (.int .i64 (idxE zs x)) ∧ w = w' := by
  have HA := Lib.hid hA
  have hlx : (zs.length : Int) ≤ 1000 := by omega
  have HE : Hid (idxE zs x = idxF x (zs.drop 0) 0) := Lib.hid rfl
  generalize idxE zs x = E at *
  clear hA
  go_enter Try.func86, Try.ntmps86
  go_wp2_with fail
  go_loop [8] (fun iv => ∃ k : Nat, k ≤ zs.length ∧ iv = .int .i64 k ∧ Hid (E = idxF x (zs.drop k) k)) (fun iv => zs.length - (intOf iv).toNat)
  case atStart => exact ⟨0, Nat.zero_le _, rfl, HE⟩
  case round =>
    obtain ⟨k, hk, rfl, HO⟩ := hrel
    by_cases hlt : k < zs.length
    · have hkx : (k : Int) < zs.length := by omega
      obtain ⟨b, off, ea, hb, c1⟩ := HA.out k hlt
      subst ea
      have hoo := HO.out
      rw [nth_drop zs k hlt, idxF] at hoo
      generalize nth zs k = z at *
      clear HA HO
      by_cases hq : x = z
      · have hb2 : (x == z) = true := by rw [hq]; simp
        rw [if_pos hq.symm] at hoo
        have HO := Lib.hid hoo
        subst hq
        clear hb2 hoo
        go_wp2
        go_ret
        exact ⟨ret_int HO.out.symm, rfl⟩
      · have hb2 : (x == z) = false := by rw [beq_eq_false_iff_ne]; exact hq
        rw [if_neg (fun e => hq e.symm)] at hoo
        have HO := Lib.hid hoo
        clear hoo
        go_wp2
        go_round
        case rel => exact ⟨k + 1, by omega, by go_num, HO⟩
        case measure => simp [intOf]; omega
    · obtain rfl : k = zs.length := by omega
      have hoo := HO.out
      rw [List.drop_of_length_le (Nat.le_refl _), idxF] at hoo
      have HO := Lib.hid hoo
      clear hoo
      go_wp2
      go_ret
      exact ⟨ret_int HO.out.symm, rfl⟩
/-- Order, way by way: the error, and the order so far. -/
def orG (c m : Int) (S Y T : List Int) (F : List (List Int)) : Nat → Nat → List Int → Int × List Int
  | 0, _, o => (0, o)
  | f + 1, k, o =>
    if cwE c m S (lth F k) = 0 then
      (if nth (lth F k) 0 = nth Y k ∧ 0 ≤ idxE T (nth (lth F k) ((lth F k).length - 1)) then
        (if o.contains (idxE T (nth (lth F k) ((lth F k).length - 1))) = true then (6, []) else orG c m S Y T F f (k + 1) (o ++ [idxE T (nth (lth F k) ((lth F k).length - 1))]))
      else (12, []))
    else (cwE c m S (lth F k), [])
/-- what Order answers. -/
def ordP (r c : Int) (S Y T : List Int) (F : List (List Int)) : Int × List Int :=
  if chkP r c S Y T = 0 then (if F.length = Y.length then orG c (r * c) S Y T F F.length 0 [] else (5, [])) else (chkP r c S Y T, [])
end
section
set_option maxRecDepth 100000 in
set_option maxHeartbeats 8000000 in
theorem order_any (r c : Int) (a : Option Addr) (cap : Nat) (S : List Int) (ya : Option Addr) (yc : Nat) (Y : List Int) (ta : Option Addr) (tc : Nat) (T : List Int) (fa : Option Addr) (fc : Nat) (F : List (List Int)) (w : World) (h : InPQ w a S ya yc Y ta tc T) (hF : LstAt w fa F) (hFl : F.length ≤ 1000) (hFk : ∀ k, k < F.length → (lth F k).length ≤ 1000) :
    Calls Try.prog 30 #[parV r c a S.length cap, plaV ya Y.length yc ta T.length tc, .slice fa F.length fc] w (TupL (ordP r c S Y T F).1 (ordP r c S Y T F).2 w) := by
  obtain ⟨i0, hi0, hz0, hz1, hz2⟩ := info_parts info3
  have hA : Fut w ((w.alloc (.cells #[.int .i64 r, .int .i64 c, .slice a S.length cap] 24)).alloc (.cells #[.slice ya Y.length yc, .slice ta T.length tc] 26)) := (Fut.alloc _ _).trans (Fut.alloc _ _)
  have hBP := (BoxP.new w r c a S.length cap).fut (Fut.alloc _ (.cells #[.slice ya Y.length yc, .slice ta T.length tc] 26))
  have hBQ := BoxQ.new (w.alloc (.cells #[.int .i64 r, .int .i64 c, .slice a S.length cap] 24)) ya Y.length yc ta T.length tc
  rw [World.size_alloc] at hBQ
  have HCK := Lib.hid (fun W (F : Fut w W) => chk_any r c a cap S ya yc Y ta tc T W (h.fut F))
  have HA := Lib.hid hA
  have HBP := Lib.hid hBP
  have HBQ := Lib.hid hBQ
  obtain ⟨_, p0, p1, p2⟩ := hBP
  obtain ⟨_, q0, q1⟩ := hBQ
  unfold ordP
  by_cases hc : chkP r c S Y T = 0
  · rw [if_pos hc]
    rw [hc] at HCK
    have hs := (chk_side hc).1
    have hy3 := (chk_side hc).2.2.2.2.1
    have HCW := Lib.hid (fun k (hk : k < F.length) W (G : Fut w W) => by
      obtain ⟨b, o, l, lc, _, _, _, hI⟩ := hF k hk
      exact (⟨l, lc, hI.fut G⟩ : ∃ (l : Option Addr) (lc : Nat), IntsAt W l (lth F k)))
    have HCV := Lib.hid (fun (l : Option Addr) (lc : Nat) k (hk : k < F.length) W (G : Fut w W) (hI : IntsAt W l (lth F k)) => checkWay_any r c _ hs a cap S l lc (lth F k) W (h.s.fut G) h.sl hI (hFk k hk))
    generalize r * c = m at *
    have HT := Lib.hid (And.intro h.t h.tl)
    have HY := Lib.hid h.y
    have HFA := Lib.hid hF
    have HFK := Lib.hid hFk
    have hyx : (Y.length : Int) ≤ 3 := by omega
    have hfx : (F.length : Int) ≤ 1000 := by omega
    clear hc hs h hF hFk hA HCW
    by_cases hl : F.length = Y.length
    · rw [if_pos hl]
      have hlx : ((F.length : Int) != (Y.length : Int)) = false := by rw [bne_eq_false_iff_eq]; omega
      have hlx2 : ¬ ((F.length : Int) ≠ (Y.length : Int)) := by omega
      have HFY := Lib.hid hl
      obtain ⟨E, hE⟩ : ∃ E, E = orG c m S Y T F F.length 0 [] := ⟨_, rfl⟩
      rw [← hE]
      have HE := Lib.hid hE
      clear hE hl
      go_enter Try.func30, Try.ntmps30
      go_wp2_with fail
      refine (HCK.out _ HA.out).mono ?_
      rintro _ w2 ⟨rfl, F2⟩
      have HF2 := Lib.hid (HA.out.trans F2)
      have HBP2 := Lib.hid (HBP.out.fut F2)
      have HBQ2 := Lib.hid (HBQ.out.fut F2)
      clear p0 p1 p2 q0 q1 F2 HBP HBQ HA HCK
      obtain ⟨_, q0, q1⟩ := HBQ2.out
      go_wp2_with fail
      clear q0 q1
      go_loopw [9, 28] (fun ov iv wr => ∃ (k : Nat) (o : List Int) (l : Option Addr) (cc : Nat), k ≤ F.length ∧ ov = .slice l o.length cc ∧ iv = .int .i64 k ∧ Hid (Owns wr w2.heap.size (.slice l o.length cc) o) ∧ Hid (E = orG c m S Y T F (F.length - k) k o) ∧ Hid (o.length = k) ∧ Hid (Fut w2 wr)) (fun _ iv _ => F.length - (intOf iv).toNat)
      case atStart => exact ⟨0, [], none, 0, Nat.zero_le _, rfl, rfl, Lib.hid (World.ownsRow_nil _ _ _ _), HE, Lib.hid rfl, Lib.hid Fut.rfl⟩
      case round =>
        obtain ⟨k, o, l, cc, hk, rfl, rfl, HO, HG, HOL, HFX⟩ := hrel
        obtain ⟨wo, hwo⟩ : ∃ wo, wo = wr := ⟨_, rfl⟩
        subst hwo
        have HFW := Lib.hid (HF2.out.trans HFX.out)
        by_cases hkl : k < F.length
        · have hkx : (k : Int) < F.length := by omega
          have hky : (k : Int) < Y.length := by have := HFY.out; omega
          have hg := HG.out
          obtain ⟨n, hn⟩ : ∃ n, F.length - k = n + 1 := ⟨F.length - k - 1, by omega⟩
          rw [hn, orG] at hg
          obtain ⟨fb, fo, wl, wlc, rfl, _, d1, hI⟩ := (HFA.out.fut HFW.out) k hkl
          have HCC := Lib.hid (HCV.out wl wlc k hkl wo HFW.out hI)
          have HI := Lib.hid hI
          have HWK := Lib.hid (HFK.out k hkl)
          have HBPo := Lib.hid (HBP2.out.fut HFX.out)
          obtain ⟨_, p0, p1, p2⟩ := HBPo.out
          generalize lth F k = way at *
          clear hI
          by_cases hce : cwE c m S way = 0
          · rw [if_pos hce] at hg
            rw [hce] at HCC
            have hwn : way ≠ [] := fun e => by
              rw [e] at hce
              unfold cwE at hce
              rw [if_pos rfl] at hce
              omega
            have hwl : 0 < way.length := List.length_pos_iff.2 hwn
            have hw1 : IntKind.i64.wrap ((way.length : Int) - 1) = ((way.length - 1 : Nat) : Int) := by rw [IntWalk.i64_in _ ⟨by omega, by have := HWK.out; omega⟩]; omega
            have hwlx : ((way.length - 1 : Nat) : Int) < way.length := by omega
            have hwln : (0 : Int) ≤ ((way.length - 1 : Nat) : Int) := by omega
            have hw0x : (0 : Int) < way.length := by omega
            clear hce hwn
            go_wp2_with fail
            refine HCC.out.mono ?_
            rintro _ w3 ⟨rfl, F3⟩
            have HF3 := Lib.hid (HFX.out.trans F3)
            have HFW3 := Lib.hid (HFW.out.trans F3)
            have HO3 := Lib.hid (HO.out.fut F3)
            have HBQ3 := Lib.hid ((HBQ2.out.fut HFX.out).fut F3)
            have HI3 := Lib.hid (HI.out.fut F3)
            clear p0 p1 p2 F3 d1 HBPo
            obtain ⟨_, q0, q1⟩ := HBQ3.out
            obtain ⟨wb, wof, rfl, _, e1⟩ := HI3.out (way.length - 1) (by omega)
            obtain ⟨wb2, wof2, ee, _, e2⟩ := HI3.out 0 (by omega)
            simp only [Option.some.injEq, Addr.mk.injEq, and_true] at ee
            obtain ⟨rfl, rfl⟩ := ee
            rw [Nat.add_zero] at e2
            obtain ⟨yb, yo, rfl, _, e3⟩ := (HY.out.fut HFW3.out) k (by have := HFY.out; omega)
            have HIX := Lib.hid (fun q => index_any ta tc T (nth way (way.length - 1)) (w3.drewN q) (HT.out.1.fut (HFW3.out.trans (Fut.drewN w3 q))) HT.out.2)
            generalize nth way (way.length - 1) = z at *
            generalize nth way 0 = z0 at *
            generalize nth Y k = yk at *
            generalize hwl1 : way.length - 1 = wl1 at *
            have htb := idx_in z T 0
            have htl : idxE T z < T.length := by have := htb.2.1; unfold idxE; omega
            have htg : -1 ≤ idxE T z := htb.1
            generalize idxE T z = tip at *
            clear htb hwl1
            go_upto_region 13 with fail
            go_quiet (first | (go_at_call 86; exact Calls.quiet_of_same ((HIX.out _).mono fun _ _ ⟨h, h'⟩ => ⟨h, h'.symm⟩)))
            have hq4 : Fut w3 (w3.drewN nq) := Fut.drewN _ _
            have HF4 := Lib.hid (HF3.out.trans hq4)
            have HFW4 := Lib.hid (HFW3.out.trans hq4)
            have HO4 := Lib.hid (HO3.out.fut hq4)
            have HBQ4 := Lib.hid (HBQ3.out.fut hq4)
            replace e2 := (RowKit.Below.cell hq4 (World.block_lt_of_cell? _ _ e2)).trans e2
            replace e3 := (RowKit.Below.cell hq4 (World.block_lt_of_cell? _ _ e3)).trans e3
            clear q0 q1 e1 hq4 HF3 HFW3 HO3 HBQ3 HIX hw1 hwlx hwln
            generalize w3.drewN nq = w4 at *
            obtain ⟨_, q0, q1⟩ := HBQ4.out
            by_cases hz : z0 = yk
            · have hzb : (z0 != yk) = false := by rw [bne_eq_false_iff_eq]; exact hz
              by_cases ht : 0 ≤ tip
              · have htn : ¬ tip < 0 := by omega
                rw [if_pos ⟨hz, ht⟩] at hg
                have HCN := Lib.hid (fun W (hW : Owns W w2.heap.size (.slice l o.length cc) o) => by
                  obtain ⟨l', cc', e, hI⟩ := hW.ints
                  simp only [Value.slice.injEq, true_and] at e
                  obtain ⟨rfl, rfl⟩ := e
                  exact contains_any l cc o tip W hI (by have := HOL.out; omega))
                go_upto_region 14 with fail
                go_quiet (fail)
                have hq5 : Fut w4 (w4.drewN nq) := Fut.drewN _ _
                have HF5 := Lib.hid (HF4.out.trans hq5)
                have HO5 := Lib.hid (HO4.out.fut hq5)
                clear q0 q1 e2 e3 hq5 hzb htn
                generalize w4.drewN nq = w5 at *
                have HC5 := Lib.hid (HCN.out w5 HO5.out)
                cases hct : o.contains tip
                · rw [hct] at HC5 hg
                  rw [if_neg (by decide)] at hg
                  have HG2 := Lib.hid hg
                  clear hct hg
                  have hok : o.length ≤ 1000 := by have := HOL.out; omega
                  have HR : Hid ((w5.alloc (.cells #[.int .i64 tip] 3)).ownsRow w2.heap.size 3 1 (.slice l o.length cc) o.length (o.map (Value.int .i64))) := Lib.hid (HO5.out.fut (Fut.alloc _ _))
                  have hFa : Fut w2 (w5.alloc (.cells #[.int .i64 tip] 3)) := HF5.out.trans (Fut.alloc _ _)
                  have HZ := Lib.hid (RowKit.Below.size hFa)
                  go_wp2_with fail
                  refine HC5.out.mono ?_
                  rintro _ _ ⟨rfl, rfl⟩
                  go_wp2_with (at_builtin; refine wpList_append_lies _ rfl _ _ 22 rfl w2.heap.size 3 i0 (.int .i64 0) 1 8 Try.underlying22 hi0 hz0 hz1 hz2 rfl (by decide) _ o.length (o.map (Value.int .i64)) rfl HR.out ⟨w5.heap.size, 0, none⟩ 1 1 [.int .i64 tip] rfl rfl (cell_one (by simp [go_sem])) (by simp [Value.oneCell']) (by omega) (by unfold maxLen; omega) (by omega) HZ.out _ rfl ?_)
                  intro g8 c8 w8 hown8 hgrow8 _ _
                  have HO8 : Hid (Owns w8 w2.heap.size (.slice (some ⟨g8, 0, none⟩) (o.length + 1) c8) (o ++ [tip])) := Lib.hid (by
                    unfold Owns
                    rw [List.length_append, List.length_singleton, List.map_append]
                    exact hown8)
                  have HF8 : Hid (Fut w2 w8) := Lib.hid (RowKit.Below.grown hFa hgrow8 HZ.out fun q hq => (World.ownsRow.lt HR.out q hq).1)
                  have HOL8 : Hid ((o ++ [tip]).length = k + 1) := Lib.hid (by rw [List.length_append, HOL.out]; rfl)
                  have hnk : F.length - (k + 1) = n := by omega
                  clear hown8 hgrow8 hFa
                  go_wp2_with fail
                  go_roundw
                  case rel =>
                    have HO9 : Hid (Owns w8 w2.heap.size (.slice (some ⟨g8, 0, none⟩) (o ++ [tip]).length c8) (o ++ [tip])) := Lib.hid (by rw [List.length_append]; exact HO8.out)
                    first
                    | exact ⟨k + 1, o ++ [tip], some ⟨g8, 0, none⟩, c8, by omega, by rw [List.length_append]; rfl, by go_num, HO9, by rw [hnk]; exact HG2, HOL8, HF8⟩
                    | ((repeat apply Exists.intro); exact ⟨⟨k + 1, o ++ [tip], some ⟨g8, 0, none⟩, c8, by omega, by rw [List.length_append]; rfl, by go_num, HO9, by rw [hnk]; exact HG2, HOL8, HF8⟩, rfl⟩)
                  case measure => simp [intOf]; omega
                · rw [hct] at HC5 hg
                  rw [if_pos rfl] at hg
                  have HG2 := Lib.hid hg
                  clear hct hg
                  go_wp2_with fail
                  refine HC5.out.mono ?_
                  rintro _ _ ⟨rfl, rfl⟩
                  go_wp2_with fail
                  go_ret2
                  rw [HG2.out]
                  exact ⟨none, 0, rfl, nil_ints _ _, HF2.out.trans HF5.out⟩
              · have htn : tip < 0 := by omega
                rw [if_neg (fun q => ht q.2)] at hg
                have HG2 := Lib.hid hg
                clear hg
                go_upto_region 14 with fail
                go_quiet (fail)
                have HF5 := Lib.hid (HF4.out.trans (Fut.drewN w4 nq))
                clear q0 q1 e2 e3
                go_wp2
                go_ret2
                rw [HG2.out]
                exact ⟨none, 0, rfl, nil_ints _ _, HF2.out.trans HF5.out⟩
            · have hzb : (z0 != yk) = true := by rw [bne_iff_ne]; exact hz
              rw [if_neg (fun q => hz q.1)] at hg
              have HG2 := Lib.hid hg
              clear hg
              go_upto_region 14 with fail
              go_quiet (fail)
              have HF5 := Lib.hid (HF4.out.trans (Fut.drewN w4 nq))
              clear q0 q1 e2 e3
              go_wp2
              go_ret2
              rw [HG2.out]
              exact ⟨none, 0, rfl, nil_ints _ _, HF2.out.trans HF5.out⟩
          · rw [if_neg hce] at hg
            have HG2 := Lib.hid hg
            clear hg
            generalize cwE c m S way = ce at *
            go_wp2_with fail
            refine HCC.out.mono ?_
            rintro _ w3 ⟨rfl, F3⟩
            have HF3 := Lib.hid (HFX.out.trans F3)
            clear p0 p1 p2 F3 d1 HBPo
            go_wp2_with fail
            go_ret2
            rw [HG2.out]
            exact ⟨none, 0, rfl, nil_ints _ _, HF2.out.trans HF3.out⟩
        · obtain rfl : F.length = k := by omega
          have hg := HG.out
          rw [Nat.sub_self, orG] at hg
          have HG2 := Lib.hid hg
          clear hg
          obtain ⟨l', cc', e, hI⟩ := HO.out.ints
          simp only [Value.slice.injEq, true_and] at e
          obtain ⟨rfl, rfl⟩ := e
          have HI := Lib.hid hI
          clear hI
          go_wp2_with fail
          go_ret2
          rw [HG2.out]
          exact ⟨l, cc, rfl, HI.out, HFW.out⟩
    · rw [if_neg hl]
      have hlx : ((F.length : Int) != (Y.length : Int)) = true := by rw [bne_iff_ne]; omega
      have hlx2 : (F.length : Int) ≠ (Y.length : Int) := by omega
      go_enter Try.func30, Try.ntmps30
      go_wp2_with fail
      refine (HCK.out _ HA.out).mono ?_
      rintro _ w2 ⟨rfl, F2⟩
      have HF2 := Lib.hid (HA.out.trans F2)
      have HBQ2 := Lib.hid (HBQ.out.fut F2)
      clear p0 p1 p2 q0 q1 F2
      obtain ⟨_, q0, q1⟩ := HBQ2.out
      go_wp2_with fail
      go_ret2
      exact ⟨none, 0, rfl, nil_ints _ _, HF2.out⟩
  · rw [if_neg hc]
    generalize chkP r c S Y T = ce at *
    clear hA h hF hFk
    go_enter Try.func30, Try.ntmps30
    go_wp2_with fail
    refine (HCK.out _ HA.out).mono ?_
    rintro _ w2 ⟨rfl, F2⟩
    have HF2 := Lib.hid (HA.out.trans F2)
    clear p0 p1 p2 q0 q1 F2
    go_wp2_with fail
    go_ret2
    exact ⟨none, 0, rfl, nil_ints _ _, HF2.out⟩
end
section
/-- the first other way that has a corner. -/
def fm3 (F : List (List Int)) (i : Nat) (x : Int) : Nat → Nat → Option (Nat × Nat × Int)
  | 0, _ => none
  | f + 1, j => if j ≠ i ∧ (lth F j).contains x = true then some (i, j, x) else fm3 F i x f (j + 1)
def fm2 (F : List (List Int)) (i : Nat) : List Int → Option (Nat × Nat × Int)
  | [] => none
  | x :: t => match fm3 F i x F.length 0 with
    | some r => some r
    | none => fm2 F i t
def fm1 (F : List (List Int)) : Nat → Nat → Option (Nat × Nat × Int)
  | 0, _ => none
  | f + 1, i => match fm2 F i (lth F i) with
    | some r => some r
    | none => fm1 F f (i + 1)
/-- the first meeting. -/
def fmE (F : List (List Int)) : Option (Nat × Nat × Int) := fm1 F F.length 0
def fmV : Option (Nat × Nat × Int) → Value
  | some (i, j, x) => .tuple #[.agg #[.int .i64 (i : Int), .int .i64 (j : Int), .int .i64 x], .bool true]
  | none => .tuple #[.agg #[.int .i64 0, .int .i64 0, .int .i64 0], .bool false]
theorem res90 {tmps : Array Value} {w : World} {cs : Array Value} {b : Bool} (h2 : tmps.getD 2 undef = .pointer (some ⟨w.heap.size, 0, none⟩)) (h3 : tmps.getD 3 undef = .bool b) (hc : cs.size = 3) :
    (results Try.f90 tmps).run Try.prog (w.alloc (.cells cs 112)) = .ok (.tuple #[.agg cs, .bool b]) (w.alloc (.cells cs 112)) := by
  rw [results_cell_tmp rfl, h2, h3]
  have hr := run_loadVar_row (P := Try.prog) (w.alloc (.cells cs 112)) w.heap.size 112 112 cs (0, 0) _ (World.alloc_heap_new _ _) Try.underlying112 rfl (by rw [hc]; kernel_rfl)
  simp [asAddr, hr, Result.andThen]
set_option maxRecDepth 100000 in
set_option maxHeartbeats 4000000 in
theorem firstMeeting_any (fa : Option Addr) (fc : Nat) (F : List (List Int)) (w : World) (hF : LstAt w fa F) (hFl : F.length ≤ 1000) (hFk : ∀ k, k < F.length → (lth F k).length ≤ 1000) :
    Calls Try.prog 90 #[.slice fa F.length fc] w fun e w' => e = .returned (fmV (fmE F)) ∧ Fut w w' := by
  have HFA := Lib.hid hF
  have HFK := Lib.hid hFk
  have hfx : (F.length : Int) ≤ 1000 := by omega
  obtain ⟨E, hE⟩ : ∃ E, E = fm1 F F.length 0 := ⟨_, rfl⟩
  unfold fmE
  rw [← hE]
  have HE := Lib.hid hE
  clear hE hF hFk
  go_enter Try.func90, Try.ntmps90
  go_wp2_with fail
  have HLW : Hid (LstAt (w.alloc (.cells #[.int .i64 0, .int .i64 0, .int .i64 0] 112)) fa F) := Lib.hid (HFA.out.fut (Fut.alloc _ _))
  have HFW : Hid (Fut w (w.alloc (.cells #[.int .i64 0, .int .i64 0, .int .i64 0] 112))) := Lib.hid (Fut.alloc _ _)
  go_loopw [12] (fun iv wr => ∃ i : Nat, i ≤ F.length ∧ iv = .int .i64 i ∧ Hid (E = fm1 F (F.length - i) i) ∧ wr = (w.alloc (.cells #[.int .i64 0, .int .i64 0, .int .i64 0] 112))) (fun iv _ => F.length - (intOf iv).toNat)
  case atStart => exact ⟨0, Nat.zero_le _, rfl, HE, rfl⟩
  case round =>
    obtain ⟨i, hi, rfl, HG, rfl⟩ := hrel
    by_cases hil : i < F.length
    · have hix : (i : Int) < F.length := by omega
      have hg := HG.out
      obtain ⟨n, hn⟩ : ∃ n, F.length - i = n + 1 := ⟨F.length - i - 1, by omega⟩
      rw [hn, fm1] at hg
      have hni : F.length - (i + 1) = n := by omega
      obtain ⟨fb, fo, wl, wlc, rfl, _, d1, hI⟩ := HLW.out i hil
      have HI := Lib.hid hI
      have hwl := HFK.out i hil
      generalize hway : lth F i = way at *
      have hwx : (way.length : Int) ≤ 1000 := by omega
      have HGM := Lib.hid hg
      have HNI := Lib.hid hni
      clear hI hg hway hn hni HG
      go_wp2_with fail
      clear d1
      go_loopw [19] (fun kv wr => ∃ k : Nat, k ≤ way.length ∧ kv = .int .i64 k ∧ Hid (fm2 F i way = fm2 F i (way.drop k)) ∧ wr = (w.alloc (.cells #[.int .i64 0, .int .i64 0, .int .i64 0] 112))) (fun kv _ => way.length - (intOf kv).toNat)
      case atStart => exact ⟨0, Nat.zero_le _, rfl, Lib.hid rfl, rfl⟩
      case round =>
        obtain ⟨k, hk, rfl, HK, rfl⟩ := hrel
        by_cases hkl : k < way.length
        · have hkx : (k : Int) < way.length := by omega
          have hkk := HK.out
          rw [nth_drop way k hkl, fm2] at hkk
          obtain ⟨wb, wo, rfl, _, e1⟩ := HI.out k hkl
          generalize nth way k = x at *
          have HKK := Lib.hid hkk
          have HF3 : Hid (fm3 F i x F.length 0 = fm3 F i x (F.length - 0) 0) := Lib.hid rfl
          clear hkk HK
          go_wp2_with fail
          clear e1
          go_loopw [25] (fun jv wr => ∃ j : Nat, j ≤ F.length ∧ jv = .int .i64 j ∧ Hid (fm3 F i x F.length 0 = fm3 F i x (F.length - j) j) ∧ wr = (w.alloc (.cells #[.int .i64 0, .int .i64 0, .int .i64 0] 112))) (fun jv _ => F.length - (intOf jv).toNat)
          case atStart => exact ⟨0, Nat.zero_le _, rfl, HF3, rfl⟩
          case round =>
            obtain ⟨j, hj, rfl, HJ, rfl⟩ := hrel
            by_cases hjl : j < F.length
            · have hjx : (j : Int) < F.length := by omega
              have hjj := HJ.out
              obtain ⟨n2, hn2⟩ : ∃ n2, F.length - j = n2 + 1 := ⟨F.length - j - 1, by omega⟩
              rw [hn2, fm3] at hjj
              have hnj : F.length - (j + 1) = n2 := by omega
              obtain ⟨fb2, fo2, jl, jlc, ee, _, d2, hIj⟩ := HLW.out j hjl
              simp only [Option.some.injEq, Addr.mk.injEq, and_true] at ee
              obtain ⟨rfl, rfl⟩ := ee
              have HCT := Lib.hid (contains_any jl jlc (lth F j) x _ hIj (HFK.out j hjl))
              generalize (lth F j).contains x = bc at *
              clear hIj HF3 HJ
              by_cases hji : j = i
              · rw [if_neg (fun q => q.1 hji)] at hjj
                have HJ2 : Hid (fm3 F i x F.length 0 = fm3 F i x (F.length - (j + 1)) (j + 1)) := Lib.hid (by rw [hnj]; exact hjj)
                clear hjj hn2 hnj HCT
                subst hji
                go_wp2_with fail
                go_roundw
                case rel => first | exact ⟨j + 1, by omega, by go_num, HJ2, by first | rfl | trivial⟩ | ((repeat apply Exists.intro); exact ⟨⟨j + 1, by omega, by go_num, HJ2, by first | rfl | trivial⟩, rfl⟩)
                case measure => simp [intOf]; omega
              · have hjn : ((j : Int) != (i : Int)) = true := by rw [bne_iff_ne]; omega
                cases bc
                · rw [if_neg (fun q => by cases q.2)] at hjj
                  have HJ2 : Hid (fm3 F i x F.length 0 = fm3 F i x (F.length - (j + 1)) (j + 1)) := Lib.hid (by rw [hnj]; exact hjj)
                  clear hjj hn2 hnj
                  go_wp2_with fail
                  refine HCT.out.mono ?_
                  rintro _ _ ⟨rfl, rfl⟩
                  go_wp2_with fail
                  clear hjn
                  go_roundw
                  case rel => first | exact ⟨j + 1, by omega, by go_num, HJ2, by first | rfl | trivial⟩ | ((repeat apply Exists.intro); exact ⟨⟨j + 1, by omega, by go_num, HJ2, by first | rfl | trivial⟩, rfl⟩)
                  case measure => simp [intOf]; omega
                · rw [if_pos ⟨hji, rfl⟩] at hjj
                  have HEE : Hid (E = some (i, j, x)) := Lib.hid (by
                    rw [HGM.out, HKK.out, hjj])
                  clear hjj hn2 hnj
                  go_wp2_with fail
                  refine HCT.out.mono ?_
                  rintro _ _ ⟨rfl, rfl⟩
                  go_wp2_with fail
                  (try simp only [Exit.inBlock, Exit.then])
                  refine bodyPost_ret (res90 rfl rfl rfl) rfl ?_
                  exact ⟨by rw [HEE.out]; rfl, Fut.alloc _ _⟩
            · obtain rfl : F.length = j := by omega
              have hjj := HJ.out
              rw [Nat.sub_self, fm3] at hjj
              have HK2 : Hid (fm2 F i way = fm2 F i (way.drop (k + 1))) := Lib.hid (by rw [HKK.out, hjj])
              clear hjj
              go_wp2_with fail
              go_roundw
              case rel => first | exact ⟨k + 1, by omega, by go_num, HK2, by first | rfl | trivial⟩ | ((repeat apply Exists.intro); exact ⟨⟨k + 1, by omega, by go_num, HK2, by first | rfl | trivial⟩, rfl⟩)
              case measure => simp [intOf]; omega
        · obtain rfl : way.length = k := by omega
          have hkk := HK.out
          rw [List.drop_length, fm2] at hkk
          have HG2 : Hid (E = fm1 F (F.length - (i + 1)) (i + 1)) := Lib.hid (by rw [HGM.out, hkk, HNI.out])
          clear hkk
          go_wp2_with fail
          go_roundw
          case rel => first | exact ⟨i + 1, by omega, by go_num, HG2, by first | rfl | trivial⟩ | ((repeat apply Exists.intro); exact ⟨⟨i + 1, by omega, by go_num, HG2, by first | rfl | trivial⟩, rfl⟩)
          case measure => simp [intOf]; omega
    · obtain rfl : F.length = i := by omega
      have hg := HG.out
      rw [Nat.sub_self, fm1] at hg
      subst hg
      go_wp2_with fail
      (try simp only [Exit.inBlock, Exit.then])
      refine bodyPost_ret (res90 rfl rfl rfl) rfl ?_
      exact ⟨rfl, Fut.alloc _ _⟩
end
section
/-- what Apart answers. -/
def aptE (r c : Int) (S Y T : List Int) (F : List (List Int)) : Int := if (ordP r c S Y T F).1 = 0 then (if (fmE F).isSome = true then 13 else 0) else (ordP r c S Y T F).1
set_option maxRecDepth 100000 in
set_option maxHeartbeats 4000000 in
theorem apart_any (r c : Int) (a : Option Addr) (cap : Nat) (S : List Int) (ya : Option Addr) (yc : Nat) (Y : List Int) (ta : Option Addr) (tc : Nat) (T : List Int) (fa : Option Addr) (fc : Nat) (F : List (List Int)) (w : World) (h : InPQ w a S ya yc Y ta tc T) (hF : LstAt w fa F) (hFl : F.length ≤ 1000) (hFk : ∀ k, k < F.length → (lth F k).length ≤ 1000) :
    Calls Try.prog 35 #[parV r c a S.length cap, plaV ya Y.length yc ta T.length tc, .slice fa F.length fc] w fun e w' => e = .returned (.int .i64 (aptE r c S Y T F)) ∧ Fut w w' := by
  have hA : Fut w ((w.alloc (.cells #[.int .i64 r, .int .i64 c, .slice a S.length cap] 24)).alloc (.cells #[.slice ya Y.length yc, .slice ta T.length tc] 26)) := (Fut.alloc _ _).trans (Fut.alloc _ _)
  have hBP := (BoxP.new w r c a S.length cap).fut (Fut.alloc _ (.cells #[.slice ya Y.length yc, .slice ta T.length tc] 26))
  have hBQ := BoxQ.new (w.alloc (.cells #[.int .i64 r, .int .i64 c, .slice a S.length cap] 24)) ya Y.length yc ta T.length tc
  rw [World.size_alloc] at hBQ
  have HOR := Lib.hid (fun W (G : Fut w W) => order_any r c a cap S ya yc Y ta tc T fa fc F W (h.fut G) (hF.fut G) hFl hFk)
  have HFM := Lib.hid (fun W (G : Fut w W) => firstMeeting_any fa fc F W (hF.fut G) hFl hFk)
  have HA := Lib.hid hA
  obtain ⟨_, p0, p1, p2⟩ := hBP
  obtain ⟨_, q0, q1⟩ := hBQ
  unfold aptE
  clear hA h hF hFk hFl
  generalize (ordP r c S Y T F).2 = ol at *
  by_cases hc : (ordP r c S Y T F).1 = 0
  · rw [if_pos hc]
    rw [hc] at HOR
    clear hc
    cases hm : fmE F with
    | none =>
      rw [hm] at HFM
      clear hm
      show Calls Try.prog 35 _ w fun e w' => e = .returned (.int .i64 0) ∧ Fut w w'
      go_enter Try.func35, Try.ntmps35
      go_wp2_with fail
      refine (HOR.out _ HA.out).mono ?_
      rintro _ w2 ⟨l, lc, rfl, _, G⟩
      have HF2 := Lib.hid (HA.out.trans G)
      clear p0 p1 p2 q0 q1 G
      go_wp2_with fail
      refine (HFM.out _ HF2.out).mono ?_
      rintro _ w3 ⟨rfl, G⟩
      have HF3 := Lib.hid (HF2.out.trans G)
      clear G
      rw [fmV]
      go_wp2_with fail
      go_ret
      exact ⟨rfl, HF3.out.trans (Fut.alloc _ _)⟩
    | some p =>
      obtain ⟨i, j, x⟩ := p
      rw [hm] at HFM
      clear hm
      show Calls Try.prog 35 _ w fun e w' => e = .returned (.int .i64 13) ∧ Fut w w'
      go_enter Try.func35, Try.ntmps35
      go_wp2_with fail
      refine (HOR.out _ HA.out).mono ?_
      rintro _ w2 ⟨l, lc, rfl, _, G⟩
      have HF2 := Lib.hid (HA.out.trans G)
      clear p0 p1 p2 q0 q1 G
      go_wp2_with fail
      refine (HFM.out _ HF2.out).mono ?_
      rintro _ w3 ⟨rfl, G⟩
      have HF3 := Lib.hid (HF2.out.trans G)
      clear G
      rw [fmV]
      go_wp2_with fail
      go_ret
      exact ⟨rfl, HF3.out.trans (Fut.alloc _ _)⟩
  · rw [if_neg hc]
    generalize (ordP r c S Y T F).1 = ce at *
    go_enter Try.func35, Try.ntmps35
    go_wp2_with fail
    refine (HOR.out _ HA.out).mono ?_
    rintro _ w2 ⟨l, lc, rfl, _, G⟩
    have HF2 := Lib.hid (HA.out.trans G)
    clear p0 p1 p2 q0 q1 G
    go_wp2_with fail
    go_ret
    exact ⟨rfl, HF2.out⟩
end
section
theorem made_list (n : Nat) : madeCells #[Value.int .i64 0] n = (List.replicate n (Value.int .i64 0)).toArray := by
  apply Array.ext'
  apply List.ext_getElem
  · simp [madeCells]
  · intro j h1 h2; simp [madeCells, Nat.mod_one]
theorem copied_own {w' : World} {b B : Nat} {zs : List Int} (hB : B ≤ b) (hl : zs.length ≤ 1000) (h : w'.heap[b]? = some (.cells (splice (List.replicate zs.length (Value.int .i64 0)) 0 (zs.map (Value.int .i64))).toArray 3 (0, 0))) : Owns w' B (.slice (some ⟨b, 0, none⟩) zs.length zs.length) zs := by
  have e : splice (List.replicate zs.length (Value.int .i64 0)) 0 (zs.map (Value.int .i64)) = zs.map (Value.int .i64) := by unfold splice; simp
  rw [e] at h
  refine ⟨by simp, .inr ⟨b, zs.length, _, rfl, hB, h, Nat.le_refl _, by unfold maxLen; omega, by simp, by rw [Nat.mul_one]; exact List.take_of_length_le (by simp)⟩⟩
set_option maxRecDepth 100000 in
set_option maxHeartbeats 4000000 in
theorem kept_any (fa : Option Addr) (fc : Nat) (F : List (List Int)) (w : World) (hF : LstAt w fa F) (hFl : F.length ≤ 1000) (hFk : ∀ k, k < F.length → (lth F k).length ≤ 1000) :
    Calls Try.prog 113 #[.slice fa F.length fc] w fun e w' => ∃ g vs, e = .returned (.slice (some ⟨g, 0, none⟩) F.length F.length) ∧ w.heap.size ≤ g ∧ FreeSt w' g F.length vs F.length (fun i => lth F i) ∧ Fut w w' := by
  have HFA := Lib.hid hF
  have HFK := Lib.hid hFk
  have hfx : (F.length : Int) ≤ 1000 := by omega
  have hmk2 := fun W => mk_rows F.length hFl W
  clear hF hFk
  go_enter Try.func113, Try.ntmps113
  go_wp2_with fail
  have hG0 : FreeSt (w.alloc (.cells (madeCells #[Value.slice none 0 0] F.length) 22)) w.heap.size F.length (fun _ => .slice none 0 0) 0 (fun i => lth F i) :=
    ⟨World.rowIs_made w (.slice none 0 0) F.length 22, fun i hi => absurd hi (Nat.not_lt_zero i), fun _ _ _ => rfl⟩
  have F1 : Fut w (w.alloc (.cells (madeCells #[Value.slice none 0 0] F.length) 22)) := Fut.alloc _ _
  generalize w.alloc (.cells (madeCells #[Value.slice none 0 0] F.length) 22) = W1 at *
  have HB0 := Lib.hid F1
  have HG0 := Lib.hid hG0
  have HGS : Hid (∃ g, g = w.heap.size) := Lib.hid ⟨_, rfl⟩
  clear hG0 F1 hmk2
  go_loopw [11] (fun iv wr => ∃ (k : Nat) (vs : Nat → Value), k ≤ F.length ∧ iv = .int .i64 k ∧ Hid (FreeSt wr w.heap.size F.length vs k (fun i => lth F i)) ∧ Hid (Fut w wr)) (fun iv _ => F.length - (intOf iv).toNat)
  case atStart => exact ⟨0, _, Nat.zero_le _, rfl, HG0, HB0⟩
  case round =>
    obtain ⟨k, vs, hk, rfl, HG, HFX⟩ := hrel
    obtain ⟨wo, hwo⟩ : ∃ wo, wo = wr := ⟨_, rfl⟩
    subst hwo
    by_cases hkl : k < F.length
    · have hkx : (k : Int) < F.length := by omega
      obtain ⟨fb, fo, l, lc, rfl, hfb, d0, hI⟩ := HFA.out k hkl
      have d1 := (RowKit.Below.cell HFX.out (p := ⟨fb, fo + k, none⟩) hfb).trans d0
      have hwl := HFK.out k hkl
      have hgw : w.heap.size < wo.heap.size := HG.out.outer.lt
      generalize hway : lth F k = way at *
      have hwx : (way.length : Int) ≤ 1000 := by omega
      have HWAY := Lib.hid hway
      have hmk1 := fun W => mk_row way.length hwl W
      have e1 := HG.out.outer.cell hkl
      have e2 := HG.out.outer.frozen k
      have HI := Lib.hid hI
      clear hI hway d0 hfb
      go_upto_region 6 with fail
      have hsz1 : (wo.setCell ⟨w.heap.size, k, none⟩ (.slice (some ⟨wo.heap.size, 0, none⟩) way.length way.length)).heap.size = wo.heap.size := by simp [World.setCell]
      have hh : ((wo.setCell ⟨w.heap.size, k, none⟩ (.slice (some ⟨wo.heap.size, 0, none⟩) way.length way.length)).alloc (.cells (madeCells #[Value.int .i64 0] way.length) 3)).heap[wo.heap.size]? = some (.cells (List.replicate way.length (Value.int .i64 0)).toArray 3 (0, 0)) := by
        have h := World.alloc_heap_new (wo.setCell ⟨w.heap.size, k, none⟩ (.slice (some ⟨wo.heap.size, 0, none⟩) way.length way.length)) (.cells (madeCells #[Value.int .i64 0] way.length) 3)
        rw [hsz1] at h
        rw [h, made_list]
      have hR : ((wo.setCell ⟨w.heap.size, k, none⟩ (.slice (some ⟨wo.heap.size, 0, none⟩) way.length way.length)).alloc (.cells (madeCells #[Value.int .i64 0] way.length) 3)).rowIs w.heap.size 22 F.length (fun i => if i = k then .slice (some ⟨wo.heap.size, 0, none⟩) way.length way.length else vs i) := (HG.out.outer.set k _).alloc _
      have hBu : But (fun q => q = w.heap.size) wo ((wo.setCell ⟨w.heap.size, k, none⟩ (.slice (some ⟨wo.heap.size, 0, none⟩) way.length way.length)).alloc (.cells (madeCells #[Value.int .i64 0] way.length) 3)) := (But.setCell (Z := fun q => q = w.heap.size) (But.refl _ _) (p := ⟨w.heap.size, k, none⟩) (.inl rfl) _).thenBut (Z' := fun _ => False) (But.of_below (Fut.alloc _ _)) (fun _ h => h.elim)
      have hFX5 : Fut w ((wo.setCell ⟨w.heap.size, k, none⟩ (.slice (some ⟨wo.heap.size, 0, none⟩) way.length way.length)).alloc (.cells (madeCells #[Value.int .i64 0] way.length) 3)) := (RowKit.Below.setCell HFX.out (p := ⟨w.heap.size, k, none⟩) (Nat.le_refl _) _).alloc (by rw [hsz1]; omega) _
      have hI5 : IntsAt ((wo.setCell ⟨w.heap.size, k, none⟩ (.slice (some ⟨wo.heap.size, 0, none⟩) way.length way.length)).alloc (.cells (madeCells #[Value.int .i64 0] way.length) 3)) l way := HI.out.fut hFX5
      have e3 := hR.cell hkl
      simp only [if_pos] at e3
      clear e1 e2 d1 hmk1
      generalize (wo.setCell ⟨w.heap.size, k, none⟩ (.slice (some ⟨wo.heap.size, 0, none⟩) way.length way.length)).alloc (.cells (madeCells #[Value.int .i64 0] way.length) 3) = W5 at *
      have HR := Lib.hid hR
      have HBU := Lib.hid hBu
      have HFX5 := Lib.hid hFX5
      have HH := Lib.hid hh
      clear hR hBu hFX5 hsz1 hh
      go_wp2_with (refine wpList_copy_splice (o := ⟨some 27, _, _, _, _, _⟩) rfl _ _ 22 22 rfl 3 Try.underlying22 (by kernel_rfl) (some ⟨wo.heap.size, 0, none⟩) l way.length way.length way.length lc rfl rfl wo.heap.size 0 (List.replicate way.length (Value.int .i64 0)) 3 HH.out (way.map (Value.int .i64)) (by simp) (fun hp => ⟨rfl, by
        obtain ⟨b0, o0, e0, _⟩ := hI5 0 (by simpa using hp)
        refine ⟨_, e0, fun j v hj => ?_⟩
        have hlt : j < way.length := by simpa using (List.getElem?_eq_some_iff.1 hj).1
        obtain ⟨b9, o9, e9, _, c9⟩ := hI5 j hlt
        rw [e9] at e0
        simp only [Option.some.injEq] at e0
        rw [← e0, Addr.add_lit, c9, ← hj, nth_eq]
        simp [List.getElem?_eq_getElem hlt]⟩) (by simp) (by intro u hu; obtain ⟨z, _, rfl⟩ := List.mem_map.1 hu; rfl) wo.heap.size W5 (RowKit.Below.refl _ _) (Nat.le_refl _) ?_)
      intro w7 hh7 hB7
      have hsw : wo.heap.size ≤ W5.heap.size := HBU.out.size
      have hBU7 : But (fun q => q = w.heap.size) wo w7 := ⟨hB7.os.trans HBU.out.os, hB7.tape.trans HBU.out.tape, hB7.output.trans HBU.out.output, Nat.le_trans hsw hB7.size, fun q hq hz => (hB7.block q hq).trans (HBU.out.block q hq hz)⟩
      have HOW := Lib.hid (copied_own (B := w.heap.size + 1) (zs := way) (by omega) hwl hh7)
      have HR7 := Lib.hid (HR.out.of_block (hB7.block w.heap.size hgw))
      have HG7 : Hid (FreeSt w7 w.heap.size F.length (fun i => if i = k then .slice (some ⟨wo.heap.size, 0, none⟩) way.length way.length else vs i) (k + 1) (fun i => lth F i)) := Lib.hid ⟨HR7.out, fun i hi => by
        by_cases e : i = k
        · subst e
          show Owns w7 _ (if i = i then _ else vs i) (lth F i)
          rw [if_pos rfl, HWAY.out]
          exact HOW.out
        · show Owns w7 _ (if i = k then _ else vs i) (lth F i)
          rw [if_neg e]
          exact (HG.out.done i (by omega)).but hBU7 (fun q hq => by omega), fun i hi hin => by
        show (if i = k then _ else vs i) = _
        rw [if_neg (by omega)]
        exact HG.out.rest i (by omega) hin⟩
      have HF7 : Hid (Fut w w7) := Lib.hid (HFX5.out.trans' (RowKit.Below.mono hB7 (by omega)) (Nat.le_refl _))
      clear hh7 hB7 hBU7 e3
      go_wp2
      go_roundw
      case rel =>
        first
        | exact ⟨k + 1, _, by omega, by go_num, HG7, HF7⟩
        | ((repeat apply Exists.intro); exact ⟨⟨k + 1, _, by omega, by go_num, HG7, HF7⟩, rfl⟩)
      case measure => simp [intOf]; omega
    · obtain rfl : F.length = k := by omega
      go_wp2_with fail
      go_ret
      exact ⟨_, vs, rfl, Nat.le_refl _, HG.out, HFX.out⟩
end
section
theorem fm3_in {F : List (List Int)} {i : Nat} {x : Int} {p : Nat × Nat × Int} : ∀ (f j : Nat), fm3 F i x f j = some p → ∃ j', p = (i, j', x) ∧ j' ≠ i ∧ (lth F j').contains x = true
  | 0, _, h => by rw [fm3] at h; cases h
  | f + 1, j, h => by
    rw [fm3] at h
    by_cases hc : j ≠ i ∧ (lth F j).contains x = true
    · rw [if_pos hc] at h
      cases h
      exact ⟨j, rfl, hc⟩
    · rw [if_neg hc] at h
      exact fm3_in f (j + 1) h
theorem fm2_in {F : List (List Int)} {i : Nat} {p : Nat × Nat × Int} : ∀ (l : List Int), fm2 F i l = some p → ∃ j x, p = (i, j, x) ∧ j ≠ i ∧ (lth F j).contains x = true ∧ x ∈ l
  | [], h => by rw [fm2] at h; cases h
  | y :: t, h => by
    rw [fm2] at h
    cases h3 : fm3 F i y F.length 0 with
    | some r =>
      rw [h3] at h
      cases h
      obtain ⟨j, e, h1, h2⟩ := fm3_in _ _ h3
      exact ⟨j, y, e, h1, h2, by simp⟩
    | none =>
      rw [h3] at h
      obtain ⟨j, x, e, h1, h2, h4⟩ := fm2_in t h
      exact ⟨j, x, e, h1, h2, by simp [h4]⟩
theorem fm1_in {F : List (List Int)} {p : Nat × Nat × Int} : ∀ (f i : Nat), fm1 F f i = some p → ∃ i' j x, p = (i', j, x) ∧ j ≠ i' ∧ x ∈ lth F i' ∧ x ∈ lth F j
  | 0, _, h => by rw [fm1] at h; cases h
  | f + 1, i, h => by
    rw [fm1] at h
    cases h2 : fm2 F i (lth F i) with
    | some r =>
      rw [h2] at h
      cases h
      obtain ⟨j, x, e, h1, h3, h4⟩ := fm2_in _ h2
      exact ⟨i, j, x, e, h1, h4, by simpa using h3⟩
    | none =>
      rw [h2] at h
      exact fm1_in f (i + 1) h
theorem lth_nil {F : List (List Int)} {x : Int} {i : Nat} (h : x ∈ lth F i) : i < F.length := by
  rcases Nat.lt_or_ge i F.length with q | q
  · exact q
  · rw [lth_eq, List.getElem?_eq_none q] at h; simp at h
theorem idx_mem {x : Int} : ∀ {l : List Int} {k : Nat}, x ∈ l → ∃ p : Nat, idxF x l k = (k + p : Nat) ∧ p < l.length
  | y :: t, k, h => by
    unfold idxF
    by_cases e : y = x
    · rw [if_pos e]; exact ⟨0, rfl, by simp⟩
    · rw [if_neg e]
      obtain ⟨p, h1, h2⟩ := idx_mem (l := t) (k := k + 1) ((List.mem_cons.1 h).resolve_left fun q => e q.symm)
      exact ⟨p + 1, by rw [h1]; congr 1; omega, by simp; omega⟩
theorem FreeSt.fut {w w' : World} {g n : Nat} {vs : Nat → Value} {L : Nat → List Int} (h : FreeSt w g n vs n L) (F : Fut w w') : FreeSt w' g n vs n L :=
  ⟨h.outer.of_block (RowKit.Below.block F _ h.outer.lt), fun i hi => (h.done i hi).fut F, h.rest⟩
theorem FreeSt.put {w : World} {g n i : Nat} {vs : Nat → Value} {L : Nat → List Int} {v : Value} {z : List Int} (h : FreeSt w g n vs n L) (hv : Owns w (g + 1) v z) : FreeSt (w.setCell ⟨g, i, none⟩ v) g n (fun k => if k = i then v else vs k) n (fun k => if k = i then z else L k) := by
  have hb : But (fun q => q = g) w (w.setCell ⟨g, i, none⟩ v) := But.setCell (Z := fun q => q = g) (But.refl _ _) (p := ⟨g, i, none⟩) (.inl rfl) _
  refine ⟨h.outer.set i v, fun k hk => ?_, fun k h1 h2 => by omega⟩
  by_cases e : k = i
  · show Owns _ _ (if k = i then v else vs k) (if k = i then z else L k)
    rw [if_pos e, if_pos e]; exact hv.but hb (fun q hq => by omega)
  · show Owns _ _ (if k = i then v else vs k) (if k = i then z else L k)
    rw [if_neg e, if_neg e]; exact (h.done k hk).but hb (fun q hq => by omega)
theorem concat_two (l1 l2 : Option Addr) (n1 n2 c1 c2 : Nat) (xs ys : List Int) (W : World) (h1 : IntsAt W l1 xs) (h2 : IntsAt W l2 ys) (e1 : xs.length = n1) (e2 : ys.length = n2) (hx : n1 ≤ 1000) (hy : n2 ≤ 1000) :
    Calls Try.prog 46 #[.slice (some ⟨W.heap.size, 0, none⟩) 2 2] (W.alloc (.cells #[.slice l1 n1 c1, .slice l2 n2 c2] 22)) fun e w' => ∃ v, e = .returned v ∧ Owns w' W.heap.size v (xs ++ ys) ∧ Fut W w' := by
  have hb : W.heap.size < (W.alloc (.cells #[.slice l1 n1 c1, .slice l2 n2 c2] 22)).heap.size := by simp
  have hn := World.alloc_heap_new W (.cells #[.slice l1 n1 c1, .slice l2 n2 c2] 22)
  have hLs : LstAt (W.alloc (.cells #[.slice l1 n1 c1, .slice l2 n2 c2] 22)) (some ⟨W.heap.size, 0, none⟩) [xs, ys] := fun j hj => by
    have hj2 : j < 2 := hj
    rcases (by omega : j = 0 ∨ j = 1) with rfl | rfl
    · refine ⟨W.heap.size, 0, l1, c1, rfl, hb, ?_, h1.fut (Fut.alloc _ _)⟩
      show _ = some (Value.slice _ xs.length c1)
      rw [e1]; unfold World.cell?; rw [hn]; rfl
    · refine ⟨W.heap.size, 0, l2, c2, rfl, hb, ?_, h2.fut (Fut.alloc _ _)⟩
      show _ = some (Value.slice _ ys.length c2)
      rw [e2]; unfold World.cell?; rw [hn]; rfl
  have h := concat_any (some ⟨W.heap.size, 0, none⟩) 2 [xs, ys] _ hLs (by simp) (fun j hj => by
    have hj2 : j < 2 := hj
    rcases (by omega : j = 0 ∨ j = 1) with rfl | rfl
    · show xs.length ≤ 1000; omega
    · show ys.length ≤ 1000; omega)
  refine h.mono ?_
  rintro _ w5 ⟨v5, rfl, hO, F5⟩
  refine ⟨v5, rfl, ?_, (Fut.alloc _ _).trans F5⟩
  have := hO.base (B' := W.heap.size) (by simp)
  simpa using this
/-- a family in which what comes behind a corner is exchanged. -/
def swpL (F : List (List Int)) (i j p q : Nat) : List (List Int) := (F.set i ((lth F i).take p ++ (lth F j).drop q)).set j ((lth F j).take q ++ (lth F i).drop p)
set_option maxRecDepth 100000 in
set_option maxHeartbeats 8000000 in
theorem swapped_any (fa : Option Addr) (fc : Nat) (F : List (List Int)) (i j p q : Nat) (x : Int) (w : World) (hF : LstC w fa F) (hFl : F.length ≤ 1000) (hFk : ∀ k, k < F.length → (lth F k).length ≤ 1000) (hi : i < F.length) (hj : j < F.length) (hij : j ≠ i) (hp : idxE (lth F i) x = (p : Int)) (hq : idxE (lth F j) x = (q : Int)) (hpl : p < (lth F i).length) (hql : q < (lth F j).length) :
    Calls Try.prog 91 #[.agg #[.int .i64 (i : Int), .int .i64 (j : Int), .int .i64 x], .slice fa F.length fc] w fun e w' => ∃ l lc, e = .returned (.slice l F.length lc) ∧ F.length ≤ lc ∧ lc ≤ 9223372036854775807 ∧ LstC w' l (swpL F i j p q) ∧ Fut w w' := by
  have HKP := Lib.hid (fun W (G : Fut w W) => kept_any fa fc F W (hF.lst.fut G) hFl hFk)
  obtain ⟨fb, fo, ra, rac, rfl, hfb, d1, ha1, ha2, hIa⟩ := hF i hi
  obtain ⟨fb2, fo2, rb, rbc, ee, _, d2, hb1, hb2, hIb⟩ := hF j hj
  simp only [Option.some.injEq, Addr.mk.injEq, and_true] at ee
  obtain ⟨rfl, rfl⟩ := ee
  have hla := hFk i hi
  have hlb := hFk j hj
  have hB0 : (w.alloc (.cells #[.int .i64 (i : Int), .int .i64 (j : Int), .int .i64 x] 112)).heap[w.heap.size]? = some (.cells #[.int .i64 (i : Int), .int .i64 (j : Int), .int .i64 x] 112) := World.alloc_heap_new _ _
  have HBX : Hid (∀ W, Fut (w.alloc (.cells #[.int .i64 (i : Int), .int .i64 (j : Int), .int .i64 x] 112)) W → W.cell? ⟨w.heap.size, 0, none⟩ = some (.int .i64 (i : Int)) ∧ W.cell? ⟨w.heap.size, 1, none⟩ = some (.int .i64 (j : Int)) ∧ W.cell? ⟨w.heap.size, 2, none⟩ = some (.int .i64 x)) := Lib.hid (fun W G => by
    have hb : w.heap.size < (w.alloc (.cells #[.int .i64 (i : Int), .int .i64 (j : Int), .int .i64 x] 112)).heap.size := by simp
    exact ⟨(RowKit.Below.cell G (p := ⟨w.heap.size, 0, none⟩) hb).trans (by unfold World.cell?; rw [hB0]; rfl), (RowKit.Below.cell G (p := ⟨w.heap.size, 1, none⟩) hb).trans (by unfold World.cell?; rw [hB0]; rfl), (RowKit.Below.cell G (p := ⟨w.heap.size, 2, none⟩) hb).trans (by unfold World.cell?; rw [hB0]; rfl)⟩)
  have HFW : Hid (Fut w (w.alloc (.cells #[.int .i64 (i : Int), .int .i64 (j : Int), .int .i64 x] 112))) := Lib.hid (Fut.alloc _ _)
  have hix : (i : Int) < F.length := by omega
  have hjx : (j : Int) < F.length := by omega
  have HRW : Hid (∀ W, Fut w W → W.cell? ⟨fb, fo + i, none⟩ = some (.slice ra (lth F i).length rac) ∧ W.cell? ⟨fb, fo + j, none⟩ = some (.slice rb (lth F j).length rbc)) := Lib.hid (fun W G => ⟨(RowKit.Below.cell G (p := ⟨fb, fo + i, none⟩) hfb).trans d1, (RowKit.Below.cell G (p := ⟨fb, fo + j, none⟩) hfb).trans d2⟩)
  have HIA := Lib.hid hIa
  have HIB := Lib.hid hIb
  have HEI : Hid (swpL F i j p q = (F.set i ((lth F i).take p ++ (lth F j).drop q)).set j ((lth F j).take q ++ (lth F i).drop p)) := Lib.hid rfl
  generalize swpL F i j p q = R at *
  have HIX := Lib.hid (fun W (G : Fut w W) => by have h := index_any ra rac (lth F i) x W (hIa.fut G) hla; rwa [hp] at h)
  have HJX := Lib.hid (fun W (G : Fut w W) => by have h := index_any rb rbc (lth F j) x W (hIb.fut G) hlb; rwa [hq] at h)
  clear hB0 hF hFk d1 d2 hIa hIb hp hq hfb
  generalize hA : lth F i = A at *
  generalize hB : lth F j = B at *
  have HAB := Lib.hid (And.intro hA hB)
  clear hA hB
  go_enter Try.func91, Try.ntmps91
  go_wp2_with fail
  generalize w.alloc (.cells #[.int .i64 (i : Int), .int .i64 (j : Int), .int .i64 x] 112) = w1 at *
  refine (HKP.out _ HFW.out).mono ?_
  rintro _ w2 ⟨g, vs, rfl, hg, hG, F2⟩
  have HG2 := Lib.hid hG
  have HF2 := Lib.hid F2
  clear hG F2 HKP
  obtain ⟨b0, b1, b2⟩ := HBX.out w2 HF2.out
  obtain ⟨r1, r2⟩ := HRW.out w2 (HFW.out.trans HF2.out)
  go_upto_region 2 with fail
  go_quiet (fail)
  have hq3 : Fut w2 (w2.drewN nq) := Fut.drewN _ _
  have HF3 := Lib.hid (HF2.out.trans hq3)
  have HG3 : Hid (FreeSt (w2.drewN nq) g F.length vs F.length fun i => lth F i) := Lib.hid ⟨HG2.out.outer.of_block rfl, fun a ha => (HG2.out.done a ha).fut hq3, HG2.out.rest⟩
  clear b0 b1 b2 r1 r2 hq3 HF2 HG2
  generalize w2.drewN nq = w3 at *
  obtain ⟨b0, b1, b2⟩ := HBX.out w3 HF3.out
  have hpx : (p : Int) ≤ A.length := by omega
  have hqx : (q : Int) ≤ B.length := by omega
  have HIQ := Lib.hid (fun n => HIX.out (w3.drewN n) ((HFW.out.trans HF3.out).trans (Fut.drewN _ n)))
  have HJQ := Lib.hid (fun n => HJX.out (w3.drewN n) ((HFW.out.trans HF3.out).trans (Fut.drewN _ n)))
  go_upto_region 3 with fail
  go_quiet (first | (with_reducible (go_at_call 86; exact Calls.quiet_of_same ((HIQ.out _).mono fun _ _ ⟨h, h'⟩ => ⟨h, h'.symm⟩))) | (go_at_call 86; exact Calls.quiet_of_same ((HJQ.out _).mono fun _ _ ⟨h, h'⟩ => ⟨h, h'.symm⟩)))
  have hq4 : Fut w3 (w3.drewN nq) := Fut.drewN _ _
  have HF4 := Lib.hid (HF3.out.trans hq4)
  have HG4 := Lib.hid (HG3.out.fut hq4)
  clear b0 b1 b2 hq4 HF3 HG3 HIQ HJQ
  generalize w3.drewN nq = w4 at *
  obtain ⟨ab, ao, rfl, _, _⟩ := HIA.out 0 (by omega)
  obtain ⟨bb, bo, rfl, _, _⟩ := HIB.out 0 (by omega)
  have hs1 := fun W => slice_toI ab ao A.length rac p (by omega) W
  have hs2 := fun W => slice_fromI bb bo B.length rbc q (by omega) hb1 W
  have hs3 := fun W => slice_toI bb bo B.length rbc q (by omega) W
  have hs4 := fun W => slice_fromI ab ao A.length rac p (by omega) ha1 W
  have HC1 := Lib.hid (fun W (G : Fut w W) => concat_two (some ⟨ab, ao, none⟩) (some ⟨bb, offK bo q rbc, none⟩) p (B.length - q) rac (rbc - q) (A.take p) (B.drop q) W ((HIA.out.fut G).take p) ((HIB.out.fut G).drop hb1) (by rw [List.length_take]; omega) List.length_drop (by omega) (by omega))
  have HC2 := Lib.hid (fun W (G : Fut w W) => concat_two (some ⟨bb, bo, none⟩) (some ⟨ab, offK ao p rac, none⟩) q (A.length - p) rbc (rac - p) (B.take q) (A.drop p) W ((HIB.out.fut G).take q) ((HIA.out.fut G).drop ha1) (by rw [List.length_take]; omega) List.length_drop (by omega) (by omega))
  generalize A.take p ++ B.drop q = L1 at *
  generalize B.take q ++ A.drop p = L2 at *
  have hw1s : w.heap.size < w1.heap.size := World.block_lt_of_cell? _ _ (HBX.out w1 Fut.rfl).1
  have hgs : ¬ g = w.heap.size := by omega
  have hgs2 : ¬ w.heap.size = g := by omega
  have HFW4 := Lib.hid (HFW.out.trans HF4.out)
  obtain ⟨b0, b1, b2⟩ := HBX.out w4 HF4.out
  have hbl := World.block_lt_of_cell? _ _ b0
  go_upto_region 4 with fail
  go_region_held3 (fun w' => w'.cell? ⟨w.heap.size, 0, none⟩ = some (.int .i64 (i : Int))) (first | exact y1 | exact b0 | go_keep)
    (first
      | (go_at_call 46; refine (HC1.out w4.drew (HFW4.out.trans (Fut.drewN w4 1))).mono ?_; rintro _ w5 ⟨v5, rfl, hO5, F5⟩; obtain ⟨l5, c5, rfl, _⟩ := hO5.ints; have FA5 : Fut w4 w5 := Fut.trans (Fut.drewN w4 1) F5; have y1 : w5.cell? ⟨w.heap.size, 0, none⟩ = some (.int .i64 (i : Int)) := (RowKit.Below.cell FA5 (p := ⟨w.heap.size, 0, none⟩) hbl).trans b0; have hR5 := (HG4.out.fut FA5).outer; have y2 := hR5.cell hi; have y3 := hR5.frozen i))
  have hG6 := (HG4.out.fut FA5).put (i := i) ((hO5.base (show g + 1 ≤ w4.drew.heap.size from HG4.out.outer.lt)))
  have hF6 : Fut w1 (w5.setCell ⟨g, i, none⟩ (.slice l5 L1.length c5)) := RowKit.Below.setCell (HF4.out.trans FA5) (p := ⟨g, i, none⟩) hg _
  clear y1 y2 y3 hR5 FA5 F5 hO5 b0 b1 b2 hbl
  generalize w5.setCell ⟨g, i, none⟩ (.slice l5 L1.length c5) = w6 at *
  have HG6 := Lib.hid hG6
  have HF6 := Lib.hid hF6
  have HFW6 := Lib.hid (HFW.out.trans hF6)
  clear hG6 hF6 HG4 HF4 HFW4
  obtain ⟨b0, b1, b2⟩ := HBX.out w6 HF6.out
  have hbl := World.block_lt_of_cell? _ _ b1
  go_upto_region 5 with fail
  go_region_held3 (fun w' => w'.cell? ⟨w.heap.size, 1, none⟩ = some (.int .i64 (j : Int))) (first | exact y1 | exact b1 | go_keep)
    (first
      | (go_at_call 46; refine (HC2.out w6.drew (HFW6.out.trans (Fut.drewN w6 1))).mono ?_; rintro _ w7 ⟨v7, rfl, hO7, F7⟩; obtain ⟨l7, c7, rfl, _⟩ := hO7.ints; have FA7 : Fut w6 w7 := Fut.trans (Fut.drewN w6 1) F7; have y1 : w7.cell? ⟨w.heap.size, 1, none⟩ = some (.int .i64 (j : Int)) := (RowKit.Below.cell FA7 (p := ⟨w.heap.size, 1, none⟩) hbl).trans b1; have hR7 := (HG6.out.fut FA7).outer; have y2 := hR7.cell hj; have y3 := hR7.frozen j))
  have hG8 := (HG6.out.fut FA7).put (i := j) ((hO7.base (show g + 1 ≤ w6.drew.heap.size from HG6.out.outer.lt)))
  have hF8 : Fut w1 (w7.setCell ⟨g, j, none⟩ (.slice l7 L2.length c7)) := RowKit.Below.setCell (HF6.out.trans FA7) (p := ⟨g, j, none⟩) hg _
  clear y1 y2 y3 hR7 FA7 F7 hO7 b0 b1 b2 hbl
  generalize w7.setCell ⟨g, j, none⟩ (.slice l7 L2.length c7) = w8 at *
  have HG8 := Lib.hid hG8
  have HF8 := Lib.hid hF8
  clear hG8 hF8
  go_wp2_with fail
  go_ret
  refine ⟨some ⟨g, 0, none⟩, F.length, rfl, Nat.le_refl _, by omega, ?_, HFW.out.trans HF8.out⟩
  have hL := HG8.out.lists
  have e : (List.range F.length).map (fun k => if k = j then L2 else if k = i then L1 else lth F k) = R := by
    rw [HEI.out]
    refine lth_ext (by simp) fun k hk => ?_
    have hk2 : k < F.length := by simpa using hk
    rw [lth_eq, List.getElem?_map, List.getElem?_range hk2]
    show (if k = j then L2 else if k = i then L1 else lth F k) = _
    by_cases ej : k = j
    · rw [if_pos ej, ej, lth_set_same _ _ _ (by simpa using hj)]
    · rw [if_neg ej, lth_set_ne _ _ _ _ (fun q => ej q.symm)]
      by_cases ei : k = i
      · rw [if_pos ei, ei, lth_set_same _ _ _ hi]
      · rw [if_neg ei, lth_set_ne _ _ _ _ (fun q => ei q.symm)]
  rw [e] at hL
  exact hL
end
section
/-- what Swap answers. -/
def swE (r c : Int) (S Y T : List Int) (F : List (List Int)) : Int := if (ordP r c S Y T F).1 = 0 then (if (fmE F).isSome = true then 0 else 13) else (ordP r c S Y T F).1
def swL (r c : Int) (S Y T : List Int) (F : List (List Int)) : List (List Int) :=
  if (ordP r c S Y T F).1 = 0 then (match fmE F with
    | some (i, j, x) => swpL F i j (idxE (lth F i) x).toNat (idxE (lth F j) x).toNat
    | none => []) else []
set_option maxRecDepth 100000 in
set_option maxHeartbeats 4000000 in
theorem swap_any (r c : Int) (a : Option Addr) (cap : Nat) (S : List Int) (ya : Option Addr) (yc : Nat) (Y : List Int) (ta : Option Addr) (tc : Nat) (T : List Int) (fa : Option Addr) (fc : Nat) (F : List (List Int)) (w : World) (h : InPQ w a S ya yc Y ta tc T) (hF : LstC w fa F) (hFl : F.length ≤ 1000) (hFk : ∀ k, k < F.length → (lth F k).length ≤ 1000) :
    Calls Try.prog 32 #[parV r c a S.length cap, plaV ya Y.length yc ta T.length tc, .slice fa F.length fc] w (TupLC (swE r c S Y T F) (swL r c S Y T F) w) := by
  have hA : Fut w ((w.alloc (.cells #[.int .i64 r, .int .i64 c, .slice a S.length cap] 24)).alloc (.cells #[.slice ya Y.length yc, .slice ta T.length tc] 26)) := (Fut.alloc _ _).trans (Fut.alloc _ _)
  have hBP := (BoxP.new w r c a S.length cap).fut (Fut.alloc _ (.cells #[.slice ya Y.length yc, .slice ta T.length tc] 26))
  have hBQ := BoxQ.new (w.alloc (.cells #[.int .i64 r, .int .i64 c, .slice a S.length cap] 24)) ya Y.length yc ta T.length tc
  rw [World.size_alloc] at hBQ
  have HOR := Lib.hid (fun W (G : Fut w W) => order_any r c a cap S ya yc Y ta tc T fa fc F W (h.fut G) (hF.lst.fut G) hFl hFk)
  have HFM := Lib.hid (fun W (G : Fut w W) => firstMeeting_any fa fc F W (hF.lst.fut G) hFl hFk)
  have HA := Lib.hid hA
  obtain ⟨_, p0, p1, p2⟩ := hBP
  obtain ⟨_, q0, q1⟩ := hBQ
  unfold swE swL
  clear hA h
  generalize (ordP r c S Y T F).2 = ol at *
  by_cases hc : (ordP r c S Y T F).1 = 0
  · rw [if_pos hc, if_pos hc]
    rw [hc] at HOR
    clear hc
    cases hm : fmE F with
    | none =>
      rw [hm] at HFM
      clear hm hF hFk hFl
      show Calls Try.prog 32 _ w (TupLC 13 [] w)
      go_enter Try.func32, Try.ntmps32
      go_wp2_with fail
      refine (HOR.out _ HA.out).mono ?_
      rintro _ w2 ⟨l, lc, rfl, _, G⟩
      have HF2 := Lib.hid (HA.out.trans G)
      clear p0 p1 p2 q0 q1 G
      go_wp2_with fail
      refine (HFM.out _ HF2.out).mono ?_
      rintro _ w3 ⟨rfl, G⟩
      have HF3 := Lib.hid (HF2.out.trans G)
      clear G
      rw [fmV]
      go_wp2_with fail
      go_ret2
      exact TupLC.nil 13 (HF3.out.trans (Fut.alloc _ _))
    | some p =>
      obtain ⟨i', j, x, e, hij, hxi, hxj⟩ := fm1_in _ _ hm
      subst e
      rw [hm] at HFM
      have hi := lth_nil hxi
      have hj := lth_nil hxj
      obtain ⟨pi, e1, hp1⟩ := idx_mem (k := 0) hxi
      obtain ⟨pj, e2, hp2⟩ := idx_mem (k := 0) hxj
      rw [Nat.zero_add] at e1 e2
      have f1 : idxE (lth F i') x = (pi : Int) := e1
      have f2 : idxE (lth F j) x = (pj : Int) := e2
      have HSW := Lib.hid (fun W (G : Fut w W) => swapped_any fa fc F i' j pi pj x W (hF.fut G) hFl hFk hi hj hij f1 f2 hp1 hp2)
      show Calls Try.prog 32 _ w (TupLC 0 (swpL F i' j (idxE (lth F i') x).toNat (idxE (lth F j) x).toNat) w)
      rw [f1, f2, Int.toNat_natCast, Int.toNat_natCast]
      have hsl : (swpL F i' j pi pj).length = F.length := by unfold swpL; simp
      have HSL := Lib.hid hsl
      generalize swpL F i' j pi pj = R at *
      clear hm hF hFk hFl hi hj hij hxi hxj e1 e2 f1 f2 hp1 hp2 hsl
      go_enter Try.func32, Try.ntmps32
      go_wp2_with fail
      refine (HOR.out _ HA.out).mono ?_
      rintro _ w2 ⟨l, lc, rfl, _, G⟩
      have HF2 := Lib.hid (HA.out.trans G)
      clear p0 p1 p2 q0 q1 G
      go_wp2_with fail
      refine (HFM.out _ HF2.out).mono ?_
      rintro _ w3 ⟨rfl, G⟩
      have HF3 := Lib.hid (HF2.out.trans G)
      clear G
      rw [fmV]
      go_wp2_with fail
      refine (HSW.out _ (HF3.out.trans (Fut.alloc _ _))).mono ?_
      rintro _ w4 ⟨l4, lc4, rfl, h1, h2, hL, G⟩
      have HF4 := Lib.hid ((HF3.out.trans (Fut.alloc _ _)).trans G)
      have HL := Lib.hid hL
      have HH := Lib.hid (And.intro h1 h2)
      clear G h1 h2 hL
      go_wp2_with fail
      go_ret2
      exact ⟨l4, lc4, by rw [HSL.out]; rfl, by rw [HSL.out]; exact HH.out.1, HH.out.2, HL.out, HF4.out⟩
  · rw [if_neg hc, if_neg hc]
    generalize (ordP r c S Y T F).1 = ce at *
    clear hF hFk hFl
    go_enter Try.func32, Try.ntmps32
    go_wp2_with fail
    refine (HOR.out _ HA.out).mono ?_
    rintro _ w2 ⟨l, lc, rfl, _, G⟩
    have HF2 := Lib.hid (HA.out.trans G)
    clear p0 p1 p2 q0 q1 G
    go_wp2_with fail
    go_ret2
    exact TupLC.nil ce HF2.out
end
end Go.Proofs.Ytflllkamdihfaaa
