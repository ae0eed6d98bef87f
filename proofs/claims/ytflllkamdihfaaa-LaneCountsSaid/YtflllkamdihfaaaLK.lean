/- the determinant: det_any -/
import Derived.Test.YtflllkamdihfaaaLJ
namespace Go.Proofs.Ytflllkamdihfaaa
open Go.RowKit Go.Sort
def sgI (i : Nat) : Int := if i % 2 = 0 then 1 else -1
theorem sg_succ (i : Nat) : sgI (i + 1) = - sgI i := by
  unfold sgI
  rcases Nat.mod_two_eq_zero_or_one i with h | h
  · rw [if_neg (by omega), if_pos h]
  · rw [if_pos (by omega), if_neg (by omega)]; rfl
theorem sg_le (i : Nat) : (sgI i).natAbs ≤ 1 := by unfold sgI; split <;> decide
/-- the determinant of so many rows. -/
def detF : Nat → List (List Int) → Int
  | 0, _ => 1
  | m + 1, t => ((List.range (m + 1)).map fun i => sgI i * nth (lth t 0) i * detF m (woL i (t.drop 1))).sum
def detS (m : Nat) (t : List (List Int)) (i : Nat) : Int := ((List.range i).map fun i => sgI i * nth (lth t 0) i * detF m (woL i (t.drop 1))).sum
theorem detS_succ (m : Nat) (t : List (List Int)) (i : Nat) : detS m t (i + 1) = detS m t i + sgI i * nth (lth t 0) i * detF m (woL i (t.drop 1)) := by
  unfold detS
  rw [List.range_succ, List.map_append, List.sum_append]
  simp
def detK : Nat → Nat
  | 0 => 1
  | m + 1 => (m + 1) * (65536 * detK m)
def BndT (t : List (List Int)) : Prop := ∀ l ∈ t, ∀ x ∈ l, x.natAbs ≤ 65536
theorem BndT.at {t : List (List Int)} (h : BndT t) (k i : Nat) : (nth (lth t k) i).natAbs ≤ 65536 := by
  by_cases hi : i < (lth t k).length
  · have hk : k < t.length := by
      rcases Nat.lt_or_ge k t.length with q | q
      · exact q
      · rw [lth_eq, List.getElem?_eq_none q] at hi; simp at hi
    refine h _ ?_ _ (nth_mem hi)
    rw [lth_eq, List.getElem?_eq_getElem hk]; exact List.getElem_mem hk
  · rw [nth_eq, List.getElem?_eq_none (by omega)]; decide
theorem BndT.wo {t : List (List Int)} (h : BndT t) (i : Nat) : BndT (woL i (t.drop 1)) := fun l hl x hx => by
  obtain ⟨r, hr, rfl⟩ := List.mem_map.1 hl
  have hr2 := List.mem_of_mem_drop hr
  rcases List.mem_append.1 hx with q | q
  · exact h r hr2 x (List.mem_of_mem_take q)
  · exact h r hr2 x (List.mem_of_mem_drop q)
theorem mul3_le {a b c : Int} {A B C : Nat} (ha : a.natAbs ≤ A) (hb : b.natAbs ≤ B) (hc : c.natAbs ≤ C) : (a * b * c).natAbs ≤ A * B * C := by
  rw [Int.natAbs_mul, Int.natAbs_mul]
  exact Nat.mul_le_mul (Nat.mul_le_mul ha hb) hc
theorem det_le : ∀ (m : Nat) (t : List (List Int)), BndT t → (detF m t).natAbs ≤ detK m ∧ ∀ i, (detS m t i).natAbs ≤ i * (65536 * detK m)
  | m, t, h => by
    have hs : (∀ t, BndT t → (detF m t).natAbs ≤ detK m) → ∀ i, (detS m t i).natAbs ≤ i * (65536 * detK m) := fun hm i => by
      induction i with
      | zero => unfold detS; simp
      | succ i ih =>
        rw [detS_succ, Nat.succ_mul]
        have h1 := mul3_le (sg_le i) (h.at 0 i) (hm _ (h.wo i))
        have h2 := Int.natAbs_add_le (detS m t i) (sgI i * nth (lth t 0) i * detF m (woL i (t.drop 1)))
        omega
    have hd : ∀ m t, BndT t → (detF m t).natAbs ≤ detK m := fun m => by
      induction m with
      | zero => intro t _; unfold detF detK; decide
      | succ m ih =>
        intro t ht
        have : ∀ i, (detS m t i).natAbs ≤ i * (65536 * detK m) := fun i => by
          induction i with
          | zero => unfold detS; simp
          | succ i ihi =>
            rw [detS_succ, Nat.succ_mul]
            have h1 := mul3_le (sg_le i) (ht.at 0 i) (ih _ (ht.wo i))
            have h2 := Int.natAbs_add_le (detS m t i) (sgI i * nth (lth t 0) i * detF m (woL i (t.drop 1)))
            omega
        exact this (m + 1)
    exact ⟨hd m t h, hs (hd m)⟩
theorem det_facts (m : Nat) (hm : m ≤ 2) (t : List (List Int)) (h : BndT t) (i : Nat) (hi : i ≤ 3) : ∃ sg x p d q s : Int, sgI i = sg ∧ nth (lth t 0) i = x ∧ detF m (woL i (t.drop 1)) = d ∧ detS m t i = s ∧ detS m t (i + 1) = s + q ∧ sgI (i + 1) = -sg ∧
    (IntKind.i64.wrap (sg * x) = p ∧ wrap64 (sg * x) = p ∧ IntKind.i64.wrap (p * d) = q ∧ wrap64 (p * d) = q) ∧ -1 ≤ sg ∧ sg ≤ 1 ∧ -562949953421312 ≤ q ∧ q ≤ 562949953421312 ∧ -1688849860263936 ≤ s ∧ s ≤ 1688849860263936 := by
  have hk : detK m ≤ 8589934592 := by
    rcases (by omega : m = 0 ∨ m = 1 ∨ m = 2) with rfl | rfl | rfl <;> decide
  have h1 := sg_le i
  have h2 := h.at 0 i
  have h3 := (det_le m _ (h.wo i)).1
  have h4 := (det_le m t h).2 i
  have h5 : (sgI i * nth (lth t 0) i).natAbs ≤ 65536 := by
    rw [Int.natAbs_mul]
    have := Nat.mul_le_mul h1 h2
    omega
  have h6 : (sgI i * nth (lth t 0) i * detF m (woL i (t.drop 1))).natAbs ≤ 562949953421312 := by
    rw [Int.natAbs_mul]
    have := Nat.mul_le_mul h5 (Nat.le_trans h3 hk)
    omega
  have h7 : (detS m t i).natAbs ≤ 1688849860263936 := by
    have := Nat.mul_le_mul hi (Nat.mul_le_mul_left 65536 hk)
    omega
  have w1 : ∀ z : Int, z.natAbs ≤ 562949953421312 → IntKind.i64.wrap z = z ∧ wrap64 z = z := fun z hz => ⟨IntWalk.i64_in _ ⟨by omega, by omega⟩, by unfold wrap64; omega⟩
  refine ⟨_, _, sgI i * nth (lth t 0) i, _, sgI i * nth (lth t 0) i * detF m (woL i (t.drop 1)), _, rfl, rfl, rfl, rfl, detS_succ m t i, sg_succ i, ⟨(w1 _ (by omega)).1, (w1 _ (by omega)).2, (w1 _ h6).1, (w1 _ h6).2⟩, by omega, by omega, by omega, by omega, by omega, by omega⟩
set_option maxRecDepth 100000 in
set_option maxHeartbeats 4000000 in
theorem det_any : ∀ (m : Nat), m ≤ 3 → ∀ (a : Option Addr) (cap : Nat) (t : List (List Int)) (w : World), LstC w a t → t.length = m → m ≤ cap → (∀ k, k < m → (lth t k).length = m) → BndT t →
    Calls Try.prog 79 #[.slice a m cap] w fun e w' => e = .returned (.int .i64 (detF m t)) ∧ Fut w w' := by
  intro m
  induction m with
  | zero =>
    intro _ a cap t w _ _ _ _ _
    unfold detF
    go_enter Try.func79, Try.ntmps79
    go_wp2_with fail
    go_ret
    exact ⟨rfl, Fut.rfl⟩
  | succ m ih =>
    intro hm a cap t w hL ht hcap hlen hb
    obtain ⟨bb, off, rl, rc, rfl, _, c1, _, _, hI0⟩ := hL 0 (by omega)
    have hl0 := hlen 0 (by omega)
    rw [hl0, Nat.add_zero] at c1
    have hdl : (t.drop 1).length = m := by rw [List.length_drop]; omega
    have hsl : ∀ W, (Instr.sliceAt 35 (.slice (some ⟨bb, off, none⟩) (m + 1) cap) (some (.int .i64 1)) none none).run Try.prog W = .ok (.slice (some ⟨bb, offK off 1 cap, none⟩) (m + 1 - 1) (cap - 1)) W := fun W => slice_fromL bb off (m + 1) cap 1 (by omega) hcap W
    rw [Nat.add_sub_cancel] at hsl
    have hwlen : ∀ i, i < m + 1 → ∀ k, k < m → (lth (woL i (t.drop 1)) k).length = m := fun i hi k hk => by
      have e : lth (woL i (t.drop 1)) k = (lth t (k + 1)).take i ++ (lth t (k + 1)).drop (i + 1) := by
        unfold woL
        rw [lth_eq, List.getElem?_map, List.getElem?_drop, lth_eq, Nat.add_comm 1 k, List.getElem?_eq_getElem (show k + 1 < t.length by omega)]
        rfl
      rw [e, List.length_append, List.length_take, List.length_drop, hlen (k + 1) (by omega)]
      omega
    have HWO : Hid (∀ i, i < m + 1 → ∀ W, Fut w W → Calls Try.prog 109 #[.int .i64 (i : Int), .slice (some ⟨bb, offK off 1 cap, none⟩) m (cap - 1)] W fun e w' => ∃ l c, e = .returned (.slice l m c) ∧ m ≤ c ∧ LstC w' l (woL i (t.drop 1)) ∧ Fut W w') := Lib.hid (fun i hi W F => by
      have h := without_any i (some ⟨bb, offK off 1 cap, none⟩) (cap - 1) (t.drop 1) W ((hL.fut F).drop (k := 1) (by omega)) (by omega) (fun k hk => by
        rw [hdl] at hk
        have e : lth (t.drop 1) k = lth t (k + 1) := by rw [lth_eq, List.getElem?_drop, lth_eq, Nat.add_comm 1 k]
        rw [e, hlen (k + 1) (by omega)]
        omega)
      rw [hdl] at h
      refine h.mono ?_
      rintro _ w' ⟨v, rfl, hO, F'⟩
      obtain ⟨l, c, rfl, h1, _, h3⟩ := hO.listsC
      have hwl : (woL i (t.drop 1)).length = m := by unfold woL; rw [List.length_map]; exact hdl
      rw [hwl] at h1
      exact ⟨l, c, by rw [hwl], h1, h3, F'⟩)
    have HIH : Hid (∀ i, i < m + 1 → ∀ (l : Option Addr) (c : Nat) (W : World), LstC W l (woL i (t.drop 1)) → m ≤ c → Calls Try.prog 79 #[.slice l m c] W fun e w' => e = .returned (.int .i64 (detF m (woL i (t.drop 1)))) ∧ Fut W w') := Lib.hid (fun i hi l c W h1 h2 => ih (by omega) l c _ W h1 (by unfold woL; rw [List.length_map]; exact hdl) h2 (hwlen i hi) (hb.wo i))
    have HFA := Lib.hid (fun i (hi : i < m + 1) => det_facts m (by omega) t hb i (by omega))
    have HD0 : Hid (detS m t 0 = 0) := Lib.hid rfl
    have HDA : Hid (detF (m + 1) t = detS m t (m + 1)) := Lib.hid rfl
    have HI0 := Lib.hid hI0
    have HL0 := Lib.hid hl0
    have hmx : (m : Int) + 1 ≤ 3 := by omega
    rw [HDA.out]
    clear ih hL ht hlen hb hI0 hl0 hdl hwlen HDA
    go_enter Try.func79, Try.ntmps79
    go_wp2_with fail
    clear c1
    go_loopw [3, 4, 14] (fun sv gv iv wr => ∃ i : Nat, i ≤ m + 1 ∧ sv = .int .i64 (detS m t i) ∧ gv = .int .i64 (sgI i) ∧ iv = .int .i64 i ∧ Hid (Fut w wr)) (fun _ _ iv _ => m + 1 - (intOf iv).toNat)
    case atStart => exact ⟨0, Nat.zero_le _, by rw [HD0.out], rfl, rfl, Lib.hid Fut.rfl⟩
    case round =>
      obtain ⟨i, hi, rfl, rfl, rfl, HF⟩ := hrel
      obtain ⟨wo, hwo⟩ : ∃ wo, wo = wr := ⟨_, rfl⟩
      subst hwo
      by_cases hil : i < m + 1
      · have hix : (i : Int) < (m : Int) + 1 := by omega
        obtain ⟨rb, ro, rfl, _, c2⟩ := (HI0.out.fut HF.out) i (by rw [HL0.out]; exact hil)
        obtain ⟨sg, x, p, d, q, s, e1, e2, e3, e4, e5, e6, hW, b1, b2, b3, b4, b5, b6⟩ := HFA.out i hil
        have HW1 := Lib.hid (HWO.out i hil wo HF.out)
        have HI1 := Lib.hid (HIH.out i hil)
        have HE := Lib.hid (And.intro e5 e6)
        rw [e3] at HI1
        rw [e2] at c2
        rw [e1, e4]
        clear e1 e2 e3 e4 e5 e6
        generalize woL i (t.drop 1) = wt at *
        have HB := Lib.hid (And.intro b1 (And.intro b2 (And.intro b3 (And.intro b4 (And.intro b5 b6)))))
        clear b1 b2 b3 b4 b5 b6
        obtain ⟨hw1, hw2, hw3, hw4⟩ := hW
        go_wp2_with fail
        refine HW1.out.mono ?_
        rintro _ w2 ⟨l2, c3, rfl, hc3, hL2, F⟩
        have HF2 := Lib.hid (HF.out.trans F)
        have HI2 := Lib.hid (HI1.out l2 c3 w2 hL2 hc3)
        clear F hL2 hc3 c2
        go_wp2_with fail
        refine HI2.out.mono ?_
        rintro _ w3 ⟨rfl, F⟩
        have HF3 := Lib.hid (HF2.out.trans F)
        clear F
        have hB := HB.out
        have hws : IntKind.i64.wrap (s + q) = s + q := IntWalk.i64_in _ ⟨by omega, by omega⟩
        obtain ⟨b1, b2, b3, b4, b5, b6⟩ := hB
        go_wp2_with fail
        clear hw1 hw2 hw3 hw4
        go_roundw
        case rel => first | exact ⟨i + 1, by omega, by rw [HE.out.1], by rw [HE.out.2], by go_num, HF3⟩ | ((repeat apply Exists.intro); exact ⟨⟨i + 1, by omega, by rw [HE.out.1], by rw [HE.out.2], by go_num, HF3⟩, rfl⟩)
        case measure => simp [intOf]; omega
      · obtain rfl : m + 1 = i := by omega
        go_wp2_with fail
        go_ret
        exact ⟨rfl, HF.out⟩
end Go.Proofs.Ytflllkamdihfaaa
