/- pure: no row is a dead end (fill_full); a corner's rows one by one (flR, fill_flR) -/
import Derived.Test.YtpgifeaejjjjnaaFA
namespace Go.Proofs.Ytpgifeaejjjjnaa
open Go.RowKit Go.Sort
theorem nth_same {l m : List Int} (hl : l.length = m.length) (h : ∀ j, j < l.length → nth l j = nth m j) : l = m := by
  apply List.ext_getElem hl
  intro j h1 h2
  have := h j h1
  rwa [nth_eq, nth_eq, List.getElem?_eq_getElem h1, List.getElem?_eq_getElem h2] at this
theorem lth_mem {zss : List (List Int)} {l : List Int} (h : l ∈ zss) : ∃ i, i < zss.length ∧ lth zss i = l := by
  obtain ⟨i, hi, e⟩ := List.mem_iff_getElem.1 h
  exact ⟨i, hi, by rw [lth_eq, List.getElem?_eq_getElem hi]; exact e⟩
theorem Plan.wide {n : Nat} {z : List (List Int)} (h : Plan n z) (i : Nat) (hi : i < z.length) : (lth z i).length = n := ord_len (h.row i hi)
theorem ext_fitL {n : Nat} {z : List (List Int)} (h : Plan n z) : extT n (metB z) n [] = fitL n z := by
  rw [ext_congr (S := tkn z) (fun d s hd => metB_tkn fun l hl => by
    obtain ⟨i, hi, rfl⟩ := lth_mem hl
    rw [h.wide i hi]; exact hd) n [] (by simp), ext_fit, fit_law]
theorem fit_first {n : Nat} {z : List (List Int)} (h : Plan n z) (hl : z.length < n) : lth (fitL n z) 0 ∈ fitL n z := by
  have := fit_row (k := 0) h hl
  rwa [Nat.zero_mod] at this
theorem grd_plan {n : Nat} : ∀ (m : Nat) (z : List (List Int)), Plan n z → z.length + m = n → Plan n (grdF n m z) ∧ (grdF n m z).length = n
  | 0, z, h, hm => ⟨h, by rw [grdF]; omega⟩
  | m + 1, z, h, hm => by
    rw [grdF]
    exact grd_plan m _ (plan_add h (fit_first h (by omega)) (by omega)) (by rw [List.length_append, List.length_singleton]; omega)
/-- no row is a dead end: what is filled is the first row that fits, again and again. -/
theorem fill_full {n : Nat} : ∀ (m : Nat) (z : List (List Int)), Plan n z → z.length + m = n → fillF n (n * m) (z.length * n) (knF z) = some (knF (grdF n m z))
  | 0, z, _, _ => by rw [Nat.mul_zero]; rfl
  | m + 1, z, h, hm => by
    rw [Nat.mul_add, Nat.mul_one, Nat.add_comm, new_row _ z (by omega) (fun i hi => by rw [h.wide i hi]; exact Nat.le_refl _), ext_fitL h, grdF]
    have hp := fit_pos h (by omega)
    have hf := fit_first h (by omega)
    cases hq : fitL n z with
    | nil => rw [hq] at hp; simp at hp
    | cons r t =>
      have e : lth (r :: t) 0 = r := rfl
      rw [hq, e] at hf
      have ih := fill_full m (z ++ [r]) (plan_add h (hq ▸ hf) (by omega)) (by rw [List.length_append, List.length_singleton]; omega)
      rw [List.length_append, List.length_singleton] at ih
      rw [List.findSome?_cons, ih, e]
theorem full_knF {n : Nat} {z : List (List Int)} (h : Plan n z) : fullF n z = knF (grdF n (n - z.length) z) := by
  have hl := h.len
  have e : n * n = z.length * n + n * (n - z.length) := by rw [Nat.mul_comm z.length n, ← Nat.mul_add]; congr 1; omega
  unfold fullF
  rw [e, skip_known, Nat.zero_add, fill_full _ z h (by omega)]
  · rfl
  · intro q _ hq
    rw [Nat.zero_add] at hq
    have hn : 0 < n := by
      rcases Nat.eq_zero_or_pos n with h0 | h0
      · subst h0; simp at hq
      · exact h0
    have h1 : q / n < z.length := (Nat.div_lt_iff_lt_mul hn).2 hq
    have h2 : q % n < n := Nat.mod_lt _ hn
    have h3 := h.wide _ h1
    unfold knF
    rw [if_pos ⟨h1, by omega⟩]
    have := ((mem_ord.1 (h.row _ h1)).2.1 _ (nth_mem (l := lth z (q / n)) (k := q % n) (by omega))).1
    omega
theorem grid_kn {n : Nat} {z : List (List Int)} (h : Plan n z) (hl : z.length = n) : gridL n n (knF z) = z := by
  refine lth_ext (by rw [gridL_len, hl]) fun i hi => ?_
  rw [gridL_len] at hi
  have hw := h.wide i (by omega)
  rw [gridL_lth _ _ _ _ hi]
  refine nth_same (by simp [hw]) fun j hj => ?_
  rw [List.length_map, List.length_range] at hj
  rw [nth_eq, List.getElem?_map, List.getElem?_range hj]
  show knF z i j = _
  unfold knF
  rw [if_pos ⟨by omega, by omega⟩]
/-- lists that are as good as a plan, as far as they go. -/
structure Part (n : Nat) (zss : List (List Int)) : Prop where
  len : zss.length ≤ n
  wid : ∀ i, i < zss.length → (lth zss i).length ≤ n
  rng : ∀ i, i < zss.length → ∀ x ∈ lth zss i, 0 ≤ x ∧ x < n
  nod : ∀ i, i < zss.length → (lth zss i).Nodup
  col : ∀ i j, i ≠ j → i < zss.length → j < zss.length → ∀ d, d < (lth zss i).length → d < (lth zss j).length → nth (lth zss i) d ≠ nth (lth zss j) d
theorem Part.plan {n : Nat} {z : List (List Int)} (h : Part n z) (hw : ∀ i, i < z.length → (lth z i).length = n) : Plan n z where
  len := h.len
  row i hi := mem_ord.2 ⟨hw i hi, h.rng i hi, h.nod i hi⟩
  col i j hij hj d hd := h.col i j (by omega) (by omega) hj d (by rw [hw i (by omega)]; exact hd) (by rw [hw j hj]; exact hd)
/-- does a row fit rows that are whole, and lists that are not? -/
def frB (n : Nat) (b t : List (List Int)) (r : List Int) : Bool := (List.range n).all fun d => !metB b d (nth r d) && !metB t d (nth r d)
/-- the first whole rows that go on with lists, one by one. -/
def flR (n : Nat) : List (List Int) → List (List Int) → Option (List (List Int))
  | [], b => some b
  | c :: t, b => ((ordT n (n - c.length) c).filter fun r => frB n b t r).findSome? fun r => flR n t (b ++ [r])
theorem fs_map {α β γ : Type} (g : β → γ) (f : α → Option β) : ∀ l : List α, (l.findSome? f).map g = l.findSome? fun x => (f x).map g
  | [] => rfl
  | a :: l => by
    rw [List.findSome?_cons, List.findSome?_cons]
    cases hfa : f a
    · exact fs_map g f l
    · rfl
theorem set_mid (b t : List (List Int)) (c r : List Int) : (b ++ c :: t).set b.length r = (b ++ [r]) ++ t := by
  rw [List.set_append_right _ _ (Nat.le_refl _), Nat.sub_self, List.append_assoc]; rfl
theorem oth_mid (b t : List (List Int)) (c : List Int) : oth (b ++ c :: t) b.length = b ++ t := by
  unfold oth
  rw [List.take_left', List.drop_append, List.drop_of_length_le (Nat.le_succ _)] <;> simp
theorem lth_mid (b t : List (List Int)) (c : List Int) : lth (b ++ c :: t) b.length = c := by
  rw [lth_eq, List.getElem?_append_right (Nat.le_refl _), Nat.sub_self]; rfl
/-- a list in the middle becomes a row. -/
theorem part_row {n : Nat} {b t : List (List Int)} {c r : List Int} (h : Part n (b ++ c :: t)) (hr : r ∈ ordT n (n - c.length) c) (hf : frB n b t r = true) : Part n ((b ++ [r]) ++ t) := by
  have hk : b.length < (b ++ c :: t).length := by simp
  have hc := h.wid _ hk
  have hcr := h.rng _ hk
  have hcn := h.nod _ hk
  rw [lth_mid] at hc hcr hcn
  obtain ⟨u, rfl, hu, hb, hn, hd⟩ := (mem_ordT n _ _ _).1 hr
  rw [← set_mid b t c]
  have hs := lth_set_same (b ++ c :: t) b.length (c ++ u) hk
  have hfree : ∀ j, j ≠ b.length → j < (b ++ c :: t).length → ∀ d, d < n → d < (lth (b ++ c :: t) j).length → nth (lth (b ++ c :: t) j) d ≠ nth (c ++ u) d := by
    intro j hj hjl d hd hdl e
    have h1 := List.all_eq_true.1 hf d (List.mem_range.2 hd)
    rw [← Bool.not_or, ← met_app, ← oth_mid b t c, Bool.not_eq_true', ← Bool.not_eq_true] at h1
    exact h1 (met_iff.2 ⟨_, oth_mem.2 ⟨j, hjl, hj, rfl⟩, hdl, e⟩)
  refine ⟨by rw [List.length_set]; exact h.len, fun i hi => ?_, fun i hi => ?_, fun i hi => ?_, fun i j hij hi hj d hdi hdj => ?_⟩
  · rw [List.length_set] at hi
    by_cases e : b.length = i
    · subst e; rw [hs, List.length_append, hu]; omega
    · rw [lth_set_ne _ _ _ _ e]; exact h.wid i hi
  · rw [List.length_set] at hi
    by_cases e : b.length = i
    · subst e; rw [hs]
      intro x hx
      rcases List.mem_append.1 hx with hx | hx
      · exact hcr x hx
      · exact hb x hx
    · rw [lth_set_ne _ _ _ _ e]; exact h.rng i hi
  · rw [List.length_set] at hi
    by_cases e : b.length = i
    · subst e; rw [hs]
      exact List.nodup_append.2 ⟨hcn, hn, fun a ha x hx q => hd x hx (q ▸ ha)⟩
    · rw [lth_set_ne _ _ _ _ e]; exact h.nod i hi
  · rw [List.length_set] at hi hj
    by_cases e : b.length = i
    · subst e
      rw [lth_set_ne _ _ _ _ hij] at hdj ⊢
      rw [hs] at hdi ⊢
      rw [List.length_append, hu] at hdi
      exact fun q => hfree j (fun q => hij q.symm) hj d (by omega) hdj q.symm
    · rw [lth_set_ne _ _ _ _ e] at hdi ⊢
      by_cases e2 : b.length = j
      · subst e2
        rw [hs] at hdj ⊢
        rw [List.length_append, hu] at hdj
        exact hfree i hij hi d (by omega) hdi
      · rw [lth_set_ne _ _ _ _ e2] at hdj ⊢
        exact h.col i j hij hi hj d hdi hdj
theorem fill_flR {n : Nat} : ∀ (t b : List (List Int)), Part n (b ++ t) → (∀ i, i < b.length → (lth b i).length = n) →
    fillF n (n * (n - b.length)) (b.length * n) (knF (b ++ t)) = (flR n t b).map fun z => knF (grdF n (n - z.length) z)
  | [], b, h, hb => by
    rw [List.append_nil] at h ⊢
    rw [fill_full _ b (h.plan hb) (by have := h.len; omega)]
    rfl
  | c :: t, b, h, hb => by
    have hk : b.length < (b ++ c :: t).length := by simp
    have hlen := h.len
    have hc := h.wid _ hk
    have hcr := h.rng _ hk
    rw [lth_mid] at hc hcr
    have em : n * (n - b.length) = n + n * (n - (b.length + 1)) := by
      rw [show n - b.length = (n - (b.length + 1)) + 1 by omega, Nat.mul_add, Nat.mul_one, Nat.add_comm]
    rw [em, row_step _ _ _ h.len hk h.wid (by rw [lth_mid]; exact fun x hx => (hcr x hx).1), lth_mid, oth_mid, ext_eq _ _ _ _ (by omega), flR, fs_map]
    have ef : ((ordT n (n - c.length) c).filter fun r => frT2 (metB (b ++ t)) c.length n r) = (ordT n (n - c.length) c).filter fun r => frB n b t r := by
      refine List.filter_congr fun r hr => ?_
      obtain ⟨u, rfl, hu, _⟩ := (mem_ordT n _ _ _).1 hr
      unfold frT2 frB
      rw [Bool.eq_iff_iff, List.all_eq_true, List.all_eq_true]
      constructor
      · intro hh d hd
        rw [← Bool.not_or, ← met_app]
        have h1 := hh d hd
        rw [Bool.or_eq_true, decide_eq_true_iff] at h1
        rcases h1 with h1 | h1
        · rw [Bool.not_eq_true', ← Bool.not_eq_true, ← oth_mid b t c, met_iff]
          rintro ⟨l, hl, h2, h3⟩
          obtain ⟨j, hj, hjk, rfl⟩ := oth_mem.1 hl
          have := h.col j b.length hjk hj hk d h2 (by rw [lth_mid]; exact h1)
          rw [lth_mid, h3] at this
          exact this (by rw [nth_eq, nth_eq, List.getElem?_append_left h1])
        · exact h1
      · intro hh d hd
        have h1 := hh d hd
        rw [← Bool.not_or, ← met_app] at h1
        rw [h1, Bool.or_true]
    rw [ef]
    refine fs_congr fun r hr => ?_
    obtain ⟨h1, h2⟩ := List.mem_filter.1 hr
    have hp := part_row h h1 h2
    have ih := fill_flR t (b ++ [r]) hp (fun i hi => by
      rw [List.length_append, List.length_singleton] at hi
      rcases Nat.lt_or_ge i b.length with hl | hl
      · rw [lth_app1 _ _ _ hl]; exact hb i hl
      · obtain rfl : i = b.length := by omega
        rw [lth_app2]
        obtain ⟨u, rfl, hu, _⟩ := (mem_ordT n _ _ _).1 h1
        rw [List.length_append, hu]; omega)
    rw [List.length_append, List.length_singleton] at ih
    rw [set_mid, ih]
end Go.Proofs.Ytpgifeaejjjjnaa
