/- pure: the search of a full plan, place by place, is one row by row (cells_row, row_step, new_row) -/
import Derived.Test.YtpgifeaejjjjnaaEL
namespace Go.Proofs.Ytpgifeaejjjjnaa
open Go.RowKit Go.Sort
theorem fs_flat {α β γ : Type} (g : β → Option γ) (F : α → List β) : ∀ l : List α, (l.flatMap F).findSome? g = l.findSome? fun x => (F x).findSome? g
  | [] => rfl
  | a :: l => by
    rw [List.flatMap_cons, List.findSome?_append, List.findSome?_cons, fs_flat g F l]
    cases (F a).findSome? g <;> rfl
theorem fs_congr {α γ : Type} {f g : α → Option γ} : ∀ {l : List α}, (∀ x ∈ l, f x = g x) → l.findSome? f = l.findSome? g
  | [], _ => rfl
  | a :: l, h => by rw [List.findSome?_cons, List.findSome?_cons, h a (by simp), fs_congr fun x hx => h x (by simp [hx])]
/-- all lists but one. -/
def oth (zss : List (List Int)) (k : Nat) : List (List Int) := zss.take k ++ zss.drop (k + 1)
theorem oth_set (zss : List (List Int)) (k : Nat) (l : List Int) : oth (zss.set k l) k = oth zss k := by
  unfold oth
  rw [List.take_set_of_le (Nat.le_refl k), List.drop_set, if_pos (Nat.lt_succ_self k)]
theorem met_iff {zss : List (List Int)} {d : Nat} {s : Int} : metB zss d s = true ↔ ∃ l ∈ zss, d < l.length ∧ nth l d = s := by
  unfold metB
  rw [List.any_eq_true]
  constructor
  · rintro ⟨l, h1, h2⟩
    rw [Bool.and_eq_true, decide_eq_true_iff, decide_eq_true_iff] at h2
    exact ⟨l, h1, h2⟩
  · rintro ⟨l, h1, h2⟩
    exact ⟨l, h1, by rw [Bool.and_eq_true, decide_eq_true_iff, decide_eq_true_iff]; exact h2⟩
theorem met_app (a b : List (List Int)) (d : Nat) (s : Int) : metB (a ++ b) d s = (metB a d s || metB b d s) := by
  unfold metB; rw [List.any_append]
theorem oth_mem {zss : List (List Int)} {k : Nat} {l : List Int} : l ∈ oth zss k ↔ ∃ i, i < zss.length ∧ i ≠ k ∧ lth zss i = l := by
  unfold oth
  rw [List.mem_append, List.mem_take_iff_getElem, List.mem_drop_iff_getElem]
  constructor
  · rintro (⟨i, hi, rfl⟩ | ⟨i, hi, rfl⟩)
    · exact ⟨i, by omega, by omega, by rw [lth_eq, List.getElem?_eq_getElem (by omega)]; rfl⟩
    · exact ⟨k + 1 + i, by omega, by omega, by rw [lth_eq, List.getElem?_eq_getElem (by omega)]; rfl⟩
  · rintro ⟨i, hi, hk, rfl⟩
    rcases Nat.lt_or_gt_of_ne hk with h | h
    · exact .inl ⟨i, by omega, by rw [lth_eq, List.getElem?_eq_getElem (by omega)]; rfl⟩
    · refine .inr ⟨i - (k + 1), by omega, ?_⟩
      rw [lth_eq, List.getElem?_eq_getElem (by omega)]
      simp only [Option.getD_some]
      congr 1
      omega
theorem nth_app1 (l : List Int) (s : Int) (d : Nat) (h : d < l.length) : nth (l ++ [s]) d = nth l d := by rw [nth_eq, nth_eq, List.getElem?_append_left h]
theorem nth_app2 (l : List Int) (s : Int) : nth (l ++ [s]) l.length = s := by rw [nth_eq, List.getElem?_append_right (Nat.le_refl _)]; simp
theorem lth_set_same (zss : List (List Int)) (k : Nat) (l : List Int) (h : k < zss.length) : lth (zss.set k l) k = l := by
  rw [lth_eq, List.getElem?_set_self h]; rfl
theorem lth_set_ne (zss : List (List Int)) (k i : Nat) (l : List Int) (h : k ≠ i) : lth (zss.set k l) i = lth zss i := by
  rw [lth_eq, List.getElem?_set_ne h, lth_eq]
/-- a street more in a list: a place of the board. -/
theorem knF_upd (zss : List (List Int)) (k : Nat) (hk : k < zss.length) (s : Int) : upd (knF zss) k (lth zss k).length s = knF (zss.set k (lth zss k ++ [s])) := by
  funext i j
  unfold upd knF
  rw [List.length_set]
  by_cases hi : i = k
  · subst hi
    rw [lth_set_same _ _ _ hk, List.length_append, List.length_singleton]
    by_cases hj : j = (lth zss i).length
    · subst hj
      rw [if_pos ⟨rfl, rfl⟩, if_pos ⟨hk, Nat.lt_succ_self _⟩, nth_app2]
    · rw [if_neg (fun q => hj q.2)]
      by_cases hj2 : j < (lth zss i).length
      · rw [if_pos ⟨hk, hj2⟩, if_pos ⟨hk, by omega⟩, nth_app1 _ _ _ hj2]
      · rw [if_neg (fun q => hj2 q.2), if_neg (fun q => by omega)]
  · rw [if_neg (fun q => hi q.1), lth_set_ne _ _ _ _ (fun q => hi q.symm)]
theorem knF_nil (zss : List (List Int)) : knF (zss ++ [[]]) = knF zss := by
  funext i j
  unfold knF
  by_cases h : i < zss.length
  · have e : lth (zss ++ [[]]) i = lth zss i := by rw [lth_eq, lth_eq, List.getElem?_append_left h]
    rw [e, List.length_append]
    by_cases h2 : j < (lth zss i).length
    · rw [if_pos ⟨by simp; omega, h2⟩, if_pos ⟨h, h2⟩]
    · rw [if_neg (fun q => h2 q.2), if_neg (fun q => h2 q.2)]
  · rw [if_neg, if_neg (fun q => h q.1)]
    rintro ⟨q1, q2⟩
    rw [List.length_append, List.length_singleton] at q1
    have : i = zss.length := by omega
    subst this
    have e : lth (zss ++ [[]]) zss.length = [] := by rw [lth_eq, List.getElem?_append_right (Nat.le_refl _)]; simp
    rw [e] at q2
    exact absurd q2 (by simp)
theorem fit_board {n : Nat} {zss : List (List Int)} {k : Nat} (hn : zss.length ≤ n) (hk : k < zss.length) (s : Nat) (hd : (lth zss k).length < n) :
    fitB n (knF zss) k (lth zss k).length s = (!((lth zss k).contains (s : Int)) && !(metB (oth zss k) (lth zss k).length s)) := by
  rw [Bool.eq_iff_iff]
  unfold fitB
  rw [decide_eq_true_iff, Bool.and_eq_true, Bool.not_eq_true', Bool.not_eq_true']
  constructor
  · intro h
    constructor
    · rw [← Bool.not_eq_true, List.contains_iff_mem]
      intro hm
      obtain ⟨i, hi, e⟩ := List.mem_iff_getElem.1 hm
      have := (h i (by omega)).1
      apply this
      unfold knF
      rw [if_pos ⟨hk, hi⟩, nth_eq, List.getElem?_eq_getElem hi]
      exact e
    · rw [← Bool.not_eq_true, met_iff]
      rintro ⟨l, hl, h1, h2⟩
      obtain ⟨i, hi, hik, rfl⟩ := oth_mem.1 hl
      have := (h i (by omega)).2
      apply this
      unfold knF
      rw [if_pos ⟨hi, h1⟩, h2]
  · rintro ⟨h1, h2⟩ i hi
    rw [← Bool.not_eq_true, List.contains_iff_mem] at h1
    rw [← Bool.not_eq_true, met_iff] at h2
    constructor
    · unfold knF
      split
      · rename_i q
        intro e
        exact h1 (e ▸ nth_mem q.2)
      · omega
    · unfold knF
      split
      · rename_i q
        intro e
        by_cases hik : i = k
        · subst hik; exact absurd q.2 (by omega)
        · exact h2 ⟨lth zss i, oth_mem.2 ⟨i, q.1, hik, rfl⟩, q.2, e⟩
      · omega
/-- the rows that go on with a list, where T says what is taken. -/
def extT (n : Nat) (T : Nat → Int → Bool) : Nat → List Int → List (List Int)
  | 0, h => [h]
  | m + 1, h => (List.range n).flatMap fun (s : Nat) => if (h.contains (s : Int) || T h.length s) = true then [] else extT n T m (h ++ [(s : Int)])
theorem ext_fit (n : Nat) (zss : List (List Int)) : ∀ (m : Nat) (h : List Int), extT n (tkn zss) m h = fitT n zss m h
  | 0, _ => rfl
  | m + 1, h => by
    rw [extT, fitT]
    refine flat_congr fun s _ => ?_
    rw [ext_fit n zss m]
theorem ext_congr {n : Nat} {T S : Nat → Int → Bool} (hTS : ∀ d s, d < n → T d s = S d s) : ∀ (m : Nat) (h : List Int), h.length + m = n → extT n T m h = extT n S m h
  | 0, _, _ => rfl
  | m + 1, h, hl => by
    rw [extT, extT]
    refine flat_congr fun s _ => ?_
    rw [hTS _ _ (by omega), ext_congr hTS m (h ++ [(s : Int)]) (by simp; omega)]
def frT2 (T : Nat → Int → Bool) (k n : Nat) (r : List Int) : Bool := (List.range n).all fun d => decide (d < k) || !T d (nth r d)
theorem ext_eq (n : Nat) (T : Nat → Int → Bool) : ∀ (m : Nat) (h : List Int), h.length + m = n → extT n T m h = (ordT n m h).filter fun r => frT2 T h.length n r
  | 0, h, hl => by
    have : frT2 T h.length n h = true := by
      unfold frT2
      rw [List.all_eq_true]
      intro d hd
      have := List.mem_range.1 hd
      simp; left; omega
    simp [extT, ordT, this]
  | m + 1, h, hl => by
    rw [extT, ordT, List.filter_flatMap]
    refine flat_congr fun s hs => ?_
    have hsn := List.mem_range.1 hs
    by_cases hc : h.contains (s : Int) = true
    · rw [if_pos (by rw [hc]; rfl), if_pos hc]; rfl
    · rw [if_neg hc]
      have hc' : h.contains (s : Int) = false := by simpa using hc
      have hget : ∀ r ∈ ordT n m (h ++ [(s : Int)]), nth r h.length = s := fun r hr => by
        obtain ⟨t, rfl, _⟩ := (mem_ordT n m _ _).1 hr
        rw [nth_eq]
        simp
      have hst : ∀ r, frT2 T h.length n r = ((!T h.length (nth r h.length)) && frT2 T (h.length + 1) n r) := fun r => by
        unfold frT2
        rw [Bool.eq_iff_iff, Bool.and_eq_true, List.all_eq_true, List.all_eq_true]
        constructor
        · intro hh
          refine ⟨?_, fun d hd => ?_⟩
          · have := hh h.length (List.mem_range.2 (by omega))
            simpa using this
          · have := hh d hd
            by_cases hd2 : d < h.length + 1
            · simp [hd2]
            · have h3 : ¬ d < h.length := by omega
              simpa [hd2, h3] using this
        · rintro ⟨h1, h2⟩ d hd
          by_cases hd2 : d = h.length
          · subst hd2
            simpa using h1
          · have := h2 d hd
            by_cases hd3 : d < h.length
            · simp [hd3]
            · have h4 : ¬ d < h.length + 1 := by omega
              simpa [hd3, h4] using this
      have ih := ext_eq n T m (h ++ [(s : Int)]) (by simp; omega)
      cases ht : T h.length (s : Int)
      · rw [hc']
        simp only [Bool.or_self, Bool.false_eq_true, if_false]
        rw [ih]
        refine List.filter_congr fun r hr => ?_
        rw [hst r, hget r hr, ht, List.length_append]
        simp
      · rw [hc']
        simp only [Bool.or_true, if_true]
        symm
        rw [List.filter_eq_nil_iff]
        intro r hr
        rw [hst r, hget r hr, ht]
        simp
theorem skip_known {n : Nat} (f : Nat → Nat → Int) (M : Nat) : ∀ (a p : Nat), (∀ q, p ≤ q → q < p + a → f (q / n) (q % n) ≠ -1) → fillF n (a + M) p f = fillF n M (p + a) f
  | 0, p, _ => by rw [Nat.zero_add]; rfl
  | a + 1, p, h => by
    rw [show a + 1 + M = a + M + 1 by omega, fillF, if_neg (h p (Nat.le_refl _) (by omega)), skip_known f M a (p + 1) (fun q h1 h2 => h q (by omega) (by omega)), show p + 1 + a = p + (a + 1) by omega]
theorem pdiv {n k d : Nat} (hd : d < n) : (k * n + d) / n = k ∧ (k * n + d) % n = d := by
  constructor
  · rw [Nat.add_comm, Nat.add_mul_div_right _ _ (by omega), Nat.div_eq_of_lt hd, Nat.zero_add]
  · rw [Nat.add_comm, Nat.add_mul_mod_self_right, Nat.mod_eq_of_lt hd]
/-- the places of a row from its list's end on. -/
theorem cells_row {n : Nat} (M k : Nat) : ∀ (m : Nat) (zss : List (List Int)), zss.length ≤ n → k < zss.length → (∀ i, i < zss.length → (lth zss i).length ≤ n) → (lth zss k).length + m = n →
    fillF n (m + M) (k * n + (lth zss k).length) (knF zss) = (extT n (metB (oth zss k)) m (lth zss k)).findSome? fun row => fillF n M ((k + 1) * n) (knF (zss.set k row))
  | 0, zss, hn, hk, hw, hl => by
    have e : zss.set k (lth zss k) = zss := by
      apply List.ext_getElem?
      intro i
      by_cases hi : k = i
      · subst hi
        rw [List.getElem?_set_self hk, lth_eq, List.getElem?_eq_getElem hk]; rfl
      · rw [List.getElem?_set_ne hi]
    rw [extT, List.findSome?_cons, e, Nat.zero_add, show k * n + (lth zss k).length = (k + 1) * n by rw [Nat.add_mul, Nat.one_mul]; omega]
    cases fillF n M ((k + 1) * n) (knF zss) <;> rfl
  | m + 1, zss, hn, hk, hw, hl => by
    obtain ⟨e1, e2⟩ := pdiv (n := n) (k := k) (d := (lth zss k).length) (by omega)
    rw [show m + 1 + M = m + M + 1 by omega, fillF, e1, e2, if_pos (by unfold knF; rw [if_neg]; rintro ⟨_, q⟩; omega), extT, fs_flat]
    refine fs_congr fun s hs => ?_
    rw [fit_board hn hk s (by omega), knF_upd zss k hk]
    cases hc : (lth zss k).contains (s : Int)
    · cases ht : metB (oth zss k) (lth zss k).length (s : Int)
      · simp only [Bool.not_false, Bool.and_self, if_true, Bool.or_self, Bool.false_eq_true, if_false]
        have hset := lth_set_same zss k (lth zss k ++ [(s : Int)]) hk
        have ih := cells_row M k m (zss.set k (lth zss k ++ [(s : Int)])) (by rw [List.length_set]; exact hn) (by rw [List.length_set]; exact hk) (fun i hi => by
          rw [List.length_set] at hi
          by_cases hik : k = i
          · subst hik; rw [hset, List.length_append, List.length_singleton]; omega
          · rw [lth_set_ne _ _ _ _ hik]; exact hw i hi) (by rw [hset, List.length_append, List.length_singleton]; omega)
        rw [hset, oth_set, List.length_append, List.length_singleton] at ih
        rw [Nat.add_assoc, ih]
        refine fs_congr fun row _ => ?_
        rw [List.set_set]
      · simp
    · simp
/-- a whole row: what is known is passed by. -/
theorem row_step {n : Nat} (M k : Nat) (zss : List (List Int)) (hn : zss.length ≤ n) (hk : k < zss.length) (hw : ∀ i, i < zss.length → (lth zss i).length ≤ n) (h0 : ∀ x ∈ lth zss k, 0 ≤ x) :
    fillF n (n + M) (k * n) (knF zss) = (extT n (metB (oth zss k)) (n - (lth zss k).length) (lth zss k)).findSome? fun row => fillF n M ((k + 1) * n) (knF (zss.set k row)) := by
  have hwk := hw k hk
  rw [show n + M = (lth zss k).length + (n - (lth zss k).length + M) by omega, skip_known]
  · exact cells_row M k _ zss hn hk hw (by omega)
  · intro q h1 h2
    obtain ⟨e1, e2⟩ := pdiv (n := n) (k := k) (d := q - k * n) (by omega)
    rw [show k * n + (q - k * n) = q by omega] at e1 e2
    rw [e1, e2]
    unfold knF
    rw [if_pos ⟨hk, by omega⟩]
    have := h0 _ (nth_mem (l := lth zss k) (k := q - k * n) (by omega))
    omega
/-- a row behind all lists. -/
theorem new_row {n : Nat} (M : Nat) (zss : List (List Int)) (hn : zss.length < n) (hw : ∀ i, i < zss.length → (lth zss i).length ≤ n) :
    fillF n (n + M) (zss.length * n) (knF zss) = (extT n (metB zss) n []).findSome? fun row => fillF n M ((zss.length + 1) * n) (knF (zss ++ [row])) := by
  have e : lth (zss ++ [[]]) zss.length = [] := by rw [lth_eq, List.getElem?_append_right (Nat.le_refl _)]; simp
  have h := row_step (n := n) M zss.length (zss ++ [[]]) (by simp; omega) (by simp) (fun i hi => by
    rcases Nat.lt_or_ge i zss.length with h | h
    · rw [lth_eq, List.getElem?_append_left h, ← lth_eq]; exact hw i h
    · rw [List.length_append, List.length_singleton] at hi
      obtain rfl : i = zss.length := by omega
      rw [e]; exact Nat.zero_le _) (by rw [e]; simp)
  rw [knF_nil, e] at h
  rw [h, show oth (zss ++ [[]]) zss.length = zss by unfold oth; simp, List.length_nil, Nat.sub_zero]
  refine fs_congr fun row _ => ?_
  rw [List.set_append_right _ _ (Nat.le_refl _), Nat.sub_self]
  rfl
end Go.Proofs.Ytpgifeaejjjjnaa
