/- Layer 2: the most cuts of a set of streets. -/
import Derived.Test.YtimddkofcejijaaRV
import Derived.Maps.OwnSet
import Derived.Maps.OwnOps
import Derived.Maps.AppendAt
namespace Go.Proofs.Ytimddkofcejijaa
open Go.RowKit Go.Sort
theorem mostF_le (C : List Nat) : ∀ n f, mostF C n f ≤ n
  | 0, _ => Nat.le_refl _
  | n + 1, f => by
    unfold mostF
    have : ∀ (l : List Nat) (m : Nat), m ≤ n + 1 → l.foldl (fun m c => if c &&& f = c then max m (1 + mostF C n (dif f c)) else m) m ≤ n + 1 := by
      intro l
      induction l with
      | nil => intro m h; exact h
      | cons c l ih =>
        intro m h
        rw [List.foldl_cons]
        refine ih _ ?_
        split
        · have := mostF_le C n (dif f c); omega
        · exact h
    exact this C 0 (Nat.zero_le _)
def cnt (f : Nat) : Nat := (listN f).length
theorem cnt_le (f : Nat) : cnt f ≤ 16 := Nat.le_trans (List.length_filter_le _ _) (by rw [List.length_range]; exact Nat.le_refl _)
theorem exists_bit {c : Nat} (h0 : c ≠ 0) (h : c < 65536) : ∃ i, i < 16 ∧ c.testBit i = true := by
  obtain ⟨i, hi⟩ := Nat.exists_testBit_of_ne_zero h0
  refine ⟨i, ?_, hi⟩
  rcases Nat.lt_or_ge i 16 with h1 | h1
  · exact h1
  · have h16 : 65536 ≤ 2 ^ i := by
      have := Nat.pow_le_pow_right (n := 2) (by decide) h1
      simpa using this
    rw [Nat.testBit_lt_two_pow (by omega)] at hi; cases hi
theorem sub_bit {c f : Nat} (h : c &&& f = c) {i : Nat} (hi : c.testBit i = true) : f.testBit i = true := by
  rw [← h, Nat.testBit_and] at hi; simp at hi; exact hi.2
theorem cnt_dif {c f : Nat} (h : c &&& f = c) (h0 : c ≠ 0) (hc : c < 65536) : cnt (dif f c) < cnt f := by
  obtain ⟨i, hi, hb⟩ := exists_bit h0 hc
  have e : listN (dif f c) = (listN f).filter fun j => !c.testBit j := by
    unfold listN
    rw [List.filter_filter]
    refine List.filter_congr fun j _ => ?_
    rw [dif_bit, Bool.and_comm]
  unfold cnt
  rw [e, List.length_filter_lt_length_iff_exists]
  exact ⟨i, (listN_mem f i).2 ⟨hi, sub_bit h hb⟩, by simp [hb]⟩
theorem mostF_fuel (C : List Nat) (hC : ∀ c ∈ C, c ≠ 0 ∧ c < 65536) : ∀ n m f, cnt f < n → cnt f < m → mostF C n f = mostF C m f
  | 0, _, _, h, _ => by omega
  | _ + 1, 0, _, _, h => by omega
  | n + 1, m + 1, f, h, h' => by
    unfold mostF
    have : ∀ (l : List Nat) (x : Nat), (∀ c ∈ l, c ≠ 0 ∧ c < 65536) → l.foldl (fun m c => if c &&& f = c then max m (1 + mostF C n (dif f c)) else m) x = l.foldl (fun k c => if c &&& f = c then max k (1 + mostF C m (dif f c)) else k) x := by
      intro l
      induction l with
      | nil => intro x _; rfl
      | cons c l ih =>
        intro x hl
        rw [List.foldl_cons, List.foldl_cons]
        have hc := hl c (List.mem_cons_self ..)
        have e : (if c &&& f = c then max x (1 + mostF C n (dif f c)) else x) = (if c &&& f = c then max x (1 + mostF C m (dif f c)) else x) := by
          by_cases hq : c &&& f = c
          · rw [if_pos hq, if_pos hq]
            have hd := cnt_dif hq hc.1 hc.2
            rw [mostF_fuel C hC n m (dif f c) (by omega) (by omega)]
          · rw [if_neg hq, if_neg hq]
        rw [e]
        exact ih _ (fun c h => hl c (List.mem_cons_of_mem _ h))
    exact this C 0 hC
/-- the most cuts of a list, no two with a street in common, that lie in a set. -/
def mostM (C : List Nat) (f : Nat) : Nat := mostF C 17 f
def mostStep (C : List Nat) (f : Nat) (m c : Nat) : Nat := if c &&& f = c then max m (1 + mostM C (dif f c)) else m
theorem mostM_eq (C : List Nat) (hC : ∀ c ∈ C, c ≠ 0 ∧ c < 65536) (f : Nat) : mostM C f = C.foldl (mostStep C f) 0 := by
  have h1 := cnt_le f
  unfold mostM
  rw [mostF_fuel C hC 17 (17 + 1) f (by omega) (by omega)]
  rfl
theorem mostM_le (C : List Nat) (f : Nat) : mostM C f ≤ 17 := mostF_le C 17 f
theorem mostStep_le (C : List Nat) (f m c : Nat) (h : m ≤ 18) : mostStep C f m c ≤ 18 := by
  unfold mostStep
  have := mostM_le C (dif f c)
  split <;> omega
open Go.Maps
theorem zero3 (w : World) : (zeroValue 3).run Try.prog w = .ok (.int .i64 0) w := by kernel_rfl
theorem keyedS : Keyed Try.prog 79 := int_keyed Try.underlying79
abbrev keyS (s : Nat) : Lit := .int .u64 (s : Int)
theorem keyS_wf {s : Nat} (h : s < 65536) : (Lit.int .u64 (s : Int)).wf = true := WalkArith.wf_u64 (by omega)
theorem keyS_of {s : Nat} (h : s < 65536) : keyOf Try.prog 79 (sv s) = some (keyS s) := keyOf_int_mk Try.underlying79 (keyS_wf h)
theorem keyS_ne {s t : Nat} (h : s ≠ t) : keyS s ≠ keyS t := fun e => by
  have : (s : Int) = t := by injection e
  omega
theorem numI_wf {m : Nat} (h : m ≤ 1000) : (Lit.int .i64 (m : Int)).wf = true := WalkArith.wf_i64 (by omega)
abbrev capV (bk bc bf : Nat) : Array Value := #[.pointer (some ⟨bk, 0, none⟩), .pointer (some ⟨bc, 0, none⟩), .pointer (some ⟨bf, 0, none⟩)]
/-- the captured variables of 'most'. -/
structure Memo (C : List Nat) (bk bc bf bm : Nat) (l : Option Addr) (lc : Nat) (w : World) : Prop where
  k : w.cell? ⟨bk, 0, none⟩ = some (.map (some bm))
  c : w.cell? ⟨bc, 0, none⟩ = some (.slice l C.length lc)
  f : w.cell? ⟨bf, 0, none⟩ = some (.func (.func 104) #[] (capV bk bc bf))
  z : ∀ j, j < C.length → ∃ b off, l = some ⟨b, off, none⟩ ∧ b ≠ bm ∧ b < w.heap.size ∧ w.cell? ⟨b, off + j, none⟩ = some (sv (C[j]?.getD 0))
  d : bk ≠ bm ∧ bc ≠ bm ∧ bf ≠ bm
theorem Memo.grown {C : List Nat} {bk bc bf bm : Nat} {l : Option Addr} {lc : Nat} {w w' : World} (h : Memo C bk bc bf bm l lc w) (g : w.grownBy w' (some bm)) : Memo C bk bc bf bm l lc w' := by
  obtain ⟨d1, d2, d3⟩ := h.d
  refine ⟨g.cell h.k (by simpa using d1), g.cell h.c (by simpa using d2), g.cell h.f (by simpa using d3), fun j hj => ?_, h.d⟩
  obtain ⟨b, off, e, h1, h2, h3⟩ := h.z j hj
  exact ⟨b, off, e, h1, Nat.lt_of_lt_of_le h2 g.size, g.cell h3 (by simpa using h1)⟩
/-- what has been found out: no more than so many entries, and all of them right. -/
def MemoD (C : List Nat) (w : World) (bm n : Nat) : Prop :=
  ∃ D : DataW Unit, w.ownsMap Try.prog 79 (plainElem Try.prog 3) bm n D ∧ ∀ s, s < 65536 → Maps.has D (keyS s) = true → D.atKey (keyS s) (.lit (.int .i64 0)) = .lit (.int .i64 ((mostM C s : Nat) : Int))
theorem pow_step (d n k : Nat) (hk : k ≤ 32) : n + k * 34 ^ d + 1 ≤ n + 34 ^ (d + 1) := by
  have h1 : 34 ^ (d + 1) = 34 * 34 ^ d := by rw [Nat.pow_succ, Nat.mul_comm]
  have h2 : 1 ≤ 34 ^ d := Nat.one_le_pow _ _ (by decide)
  have h3 : k * 34 ^ d ≤ 32 * 34 ^ d := Nat.mul_le_mul_right _ hk
  omega
theorem memo_put {C : List Nat} {bm n f : Nat} {D : DataW Unit} {w' : World} (ht : Tidy D) (hf : f < 65536) (hown : w'.ownsMap Try.prog 79 (plainElem Try.prog 3) bm n (D.put (keyS f) (.lit (.int .i64 ((mostM C f : Nat) : Int)))))
    (h : ∀ s, s < 65536 → Maps.has D (keyS s) = true → D.atKey (keyS s) (.lit (.int .i64 0)) = .lit (.int .i64 ((mostM C s : Nat) : Int))) : MemoD C w' bm n := by
  refine ⟨_, hown, fun s hs hh => ?_⟩
  by_cases hsf : s = f
  · subst hsf
    exact atKey_put_same ht.isMap (by trivial) _ _
  · rw [atKey_put_other (keyS_ne hsf)]
    rw [has_put_other (keyS_ne hsf)] at hh
    exact h s hs hh
theorem set_drop (C : List Nat) (k : Nat) (hk : k < C.length) : C.drop k = C[k]?.getD 0 :: C.drop (k + 1) := by
  rw [List.getElem?_eq_getElem hk]
  exact List.drop_eq_getElem_cons hk
theorem set_mem (C : List Nat) (k : Nat) (hk : k < C.length) : C[k]?.getD 0 ∈ C := by
  rw [List.getElem?_eq_getElem hk]
  exact List.getElem_mem hk
abbrev mostPost (C : List Nat) (bm n S f : Nat) (w : World) (e : Ending) (w' : World) : Prop := e = .returned (.int .i64 ((mostM C f : Nat) : Int)) ∧ w.grownBy w' (some bm) ∧ ∃ n', n' ≤ n + S ∧ MemoD C w' bm n'
set_option maxRecDepth 100000 in
set_option maxHeartbeats 4000000 in
theorem most_any (C : List Nat) (hC : ∀ c ∈ C, c ≠ 0 ∧ c < 65536) (hl : C.length ≤ 32) (bk bc bf bm : Nat) (l : Option Addr) (lc : Nat) : ∀ (d f n : Nat) (w : World), cnt f ≤ d → f < 65536 → Memo C bk bc bf bm l lc w → MemoD C w bm n → n + 34 ^ (d + 1) ≤ 4611686018427387904 →
    Calls Try.prog 104 #[sv f, .pointer (some ⟨bk, 0, none⟩), .pointer (some ⟨bc, 0, none⟩), .pointer (some ⟨bf, 0, none⟩)] w (mostPost C bm n (34 ^ (d + 1)) f w) := by
  intro d
  induction d using Nat.strongRecOn with
  | _ d ih =>
    intro f n w hd hf hM hD hn
    have HM := Lib.hid hM
    obtain ⟨D, hown, hat⟩ := hD
    have HOWN := Lib.hid hown
    have HAT := Lib.hid hat
    have HEQ := Lib.hid (mostM_eq C hC f)
    have hml := mostM_le C f
    have k0 := hM.k
    have c0 := hM.c
    have HIH : Hid (∀ g m W, 0 < d → cnt g ≤ d - 1 → g < 65536 → Memo C bk bc bf bm l lc W → MemoD C W bm m → m + 34 ^ d ≤ 4611686018427387904 →
      Calls Try.prog 104 #[sv g, .pointer (some ⟨bk, 0, none⟩), .pointer (some ⟨bc, 0, none⟩), .pointer (some ⟨bf, 0, none⟩)] W (mostPost C bm m (34 ^ d) g W)) := Lib.hid (fun g m W h0 h1 h2 h3 h4 h5 => by
        have := ih (d - 1) (by omega) g m W h1 h2 h3 h4 (by rw [Nat.sub_add_cancel h0]; exact h5)
        rwa [Nat.sub_add_cancel h0] at this)
    have HN := Lib.hid hn
    have HPS := Lib.hid (pow_step d n)
    have hlx : (C.length : Int) ≤ 32 := by omega
    have HCC := Lib.hid hC
    clear ih hM hown hat hn hC
    go_enter Try.func104, Try.ntmps104
    go_upto_region 1 with fail
    cases hh : Maps.has D (keyS f)
    · go_wp2_with (at_lookup; refine wpList_lookup_own_ok_int _ rfl _ _ 130 rfl 79 3 .i64 keyedS Try.underlying130 Try.underlying3 (zero3 _) bm n _ rfl HOWN.out _ _ rfl (keyS_of hf) ?_; rw [hh]; intro cv _ _)
      clear hh k0 c0
      go_loopw [8, 21] (fun nv iv wr => ∃ (k m nn : Nat), k ≤ C.length ∧ iv = .int .i64 k ∧ nv = .int .i64 m ∧ m ≤ 18 ∧ Hid ((C.drop k).foldl (mostStep C f) m = mostM C f) ∧ Hid (w.grownBy wr (some bm)) ∧ Hid (MemoD C wr bm nn) ∧ Hid (nn ≤ n + k * 34 ^ d)) (fun _ iv _ => C.length - (intOf iv).toNat)
      case atStart => exact ⟨0, 0, n, Nat.zero_le _, rfl, rfl, by omega, Lib.hid HEQ.out.symm, Lib.hid (World.grownBy.refl _ _), Lib.hid ⟨D, HOWN.out, HAT.out⟩, Lib.hid (by rw [Nat.zero_mul]; exact Nat.le_refl _)⟩
      case round =>
        obtain ⟨k, m, nn, hk, rfl, rfl, hm, HO, HG, HD, HNN⟩ := hrel
        by_cases hlt : k < C.length
        · have hkx : (k : Int) < C.length := by omega
          obtain ⟨b, off, ea, hbm, hb, d1⟩ := (HM.out.grown HG.out).z k hlt
          have HMA := Lib.hid (fun W (h : w.grownBy W (some bm)) => HM.out.grown h)
          subst ea
          rw [set_drop C k hlt, List.foldl_cons] at HO
          obtain ⟨hc0, hc1⟩ := HCC.out _ (set_mem C k hlt)
          have hst := mostStep_le C f m (C[k]?.getD 0) hm
          have hse : mostStep C f m (C[k]?.getD 0) = if C[k]?.getD 0 &&& f = C[k]?.getD 0 then max m (1 + mostM C (dif f (C[k]?.getD 0))) else m := rfl
          generalize C[k]?.getD 0 = c at *
          have HW := Lib.hid (fun W => within_any c f W hc1 hf)
          by_cases hq : c &&& f = c
          · rw [if_pos hq] at hse
            rw [decide_eq_true hq] at HW
            have hcd := cnt_dif hq hc0 hc1
            have hdl := Nat.lt_of_le_of_lt (dif_le f c) hf
            have e : bits BinOp.andNot IntKind.u64 (f : Int) (c : Int) = ((dif f c : Nat) : Int) := by
              rw [← dif_eq64 f c hf hc1]; exact u64_andNot_nat _ _ (by omega) (by omega)
            have hkl : nn + 34 ^ d ≤ n + (k + 1) * 34 ^ d := by have := HNN.out; rw [Nat.succ_mul]; omega
            have hkb : nn + 34 ^ d ≤ 4611686018427387904 := by have := HPS.out (k + 1) (by omega); have := HN.out; omega
            have HR := Lib.hid (HIH.out (dif f c) nn wr (by omega) (by omega) hdl (HM.out.grown HG.out) HD.out hkb)
            have f0 := (HM.out.grown HG.out).f
            have hql := mostM_le C (dif f c)
            have HKL := Lib.hid hkl
            rw [hse] at HO hst
            generalize dif f c = g at *
            generalize hQ : mostM C g = q at *
            have HQ := Lib.hid hQ
            clear hse hq hQ hkl hkb
            have e5 : max (m : Int) (1 + (q : Int)) = ((max m (1 + q) : Nat) : Int) := by omega
            go_wp2_with (first
              | (go_at_call 80; refine (HW.out _).mono ?_; rintro _ _ ⟨rfl, rfl⟩)
              | (go_at_call 104; refine HR.out.mono ?_; rintro _ w3 ⟨hev, hg3, n3, hn3, hd3⟩; rw [HQ.out] at hev; subst hev; have HG3 := Lib.hid (HG.out.trans hg3); have HD3 := Lib.hid hd3; have HN3 := Lib.hid hn3; clear hg3 hd3 hn3))
            go_roundw
            case rel => exact ⟨k + 1, max m (1 + q), n3, by omega, by go_num, by first | rfl | (rw [e5]) | (simp [e5]), hst, HO, HG3, HD3, Lib.hid (Nat.le_trans HN3.out HKL.out)⟩
            case measure => simp [intOf]; omega
          · rw [if_neg hq] at hse
            rw [decide_eq_false hq] at HW
            rw [hse] at HO
            clear hse hq hst
            go_wp2_with (go_at_call 80; refine (HW.out _).mono ?_; rintro _ _ ⟨rfl, rfl⟩)
            go_roundw
            case rel => exact ⟨k + 1, m, nn, by omega, by go_num, rfl, hm, HO, HG, HD, Lib.hid (Nat.le_trans HNN.out (Nat.add_le_add_left (Nat.mul_le_mul_right _ (Nat.le_succ k)) n))⟩
            case measure => simp [intOf]; omega
        · obtain rfl : k = C.length := by omega
          rw [List.drop_of_length_le (Nat.le_refl _)] at HO
          have hmm : m = mostM C f := HO.out
          subst hmm
          have k1 := (HM.out.grown HG.out).k
          obtain ⟨D2, hown2, hat2⟩ := HD.out
          have HOW2 := Lib.hid hown2
          have HAT2 := Lib.hid hat2
          have HP1 := Lib.hid (HPS.out C.length hl)
          clear hown2 hat2
          go_wp2_with (at_mapUpdate; refine wpList_mapUpdate_own _ rfl _ _ _ 130 rfl 79 3 keyedS Try.underlying130 _ bm nn _ rfl HOW2.out (by have := HNN.out; have := HP1.out; have := HN.out; unfold maxLen; omega) _ _ _ rfl rfl (keyS_of hf) _ [] (plainElem_int Try.underlying3 (numI_wf (by omega))) ?_; intro w4 hown4 hgrow4; have HG4 := Lib.hid (HG.out.trans hgrow4); have HO4 := Lib.hid hown4; clear hown4 hgrow4)
          go_ret
          exact ⟨rfl, HG4.out, nn + 1, by have := HNN.out; have := HP1.out; omega, memo_put (HOW2.out.tidy keyedS) hf HO4.out HAT2.out⟩
    · have HCV := Lib.hid (HAT.out f hf hh)
      go_wp2_with (at_lookup; refine wpList_lookup_own_ok_int _ rfl _ _ 130 rfl 79 3 .i64 keyedS Try.underlying130 Try.underlying3 (zero3 _) bm n _ rfl HOWN.out _ _ rfl (keyS_of hf) ?_; rw [hh]; intro cv hcv _)
      have hcv2 : cv = ((mostM C f : Nat) : Int) := by
        have := hcv.symm.trans HCV.out
        injection this with h1
        injection h1
      subst hcv2
      go_ret
      exact ⟨rfl, World.grownBy.refl _ _, n, Nat.le_add_right _ _, D, HOWN.out, HAT.out⟩
end Go.Proofs.Ytimddkofcejijaa
