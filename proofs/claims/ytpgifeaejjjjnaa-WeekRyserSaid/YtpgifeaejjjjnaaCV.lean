/- the law's rows that fit. -/
import Derived.Test.YtpgifeaejjjjnaaCU
import Derived.Deep.RegionLawGrows
import Derived.Deep.RegionHeld3
namespace Go.Proofs.Ytpgifeaejjjjnaa
open Go.RowKit Go.Sort
/-- the rows that fit and begin as h does. -/
def fitT (n : Nat) (zss : List (List Int)) : Nat → List Int → List (List Int)
  | 0, h => [h]
  | m + 1, h => (List.range n).flatMap fun (s : Nat) => if (h.contains (s : Int) || tkn zss h.length s) = true then [] else fitT n zss m (h ++ [(s : Int)])
def fsegT (n : Nat) (zss : List (List Int)) (m : Nat) (h : List Int) (k : Nat) : List (List Int) := (List.range k).flatMap fun (s : Nat) => if (h.contains (s : Int) || tkn zss h.length s) = true then [] else fitT n zss m (h ++ [(s : Int)])
theorem fsegT_zero (n : Nat) (zss : List (List Int)) (m : Nat) (h : List Int) : fsegT n zss m h 0 = [] := rfl
theorem fsegT_succ (n : Nat) (zss : List (List Int)) (m : Nat) (h : List Int) (k : Nat) : fsegT n zss m h (k + 1) = fsegT n zss m h k ++ (if (h.contains (k : Int) || tkn zss h.length k) = true then [] else fitT n zss m (h ++ [(k : Int)])) := by
  unfold fsegT
  rw [List.range_succ, List.flatMap_append]
  simp
theorem fsegT_all (n : Nat) (zss : List (List Int)) (m : Nat) (h : List Int) : fsegT n zss m h n = fitT n zss (m + 1) h := rfl
def fitFrom (zss : List (List Int)) (k n : Nat) (r : List Int) : Bool := (List.range n).all fun d => decide (d < k) || !tkn zss d (nth r d)
theorem flat_congr {α β : Type} {F G : α → List β} : ∀ {l : List α}, (∀ s ∈ l, F s = G s) → l.flatMap F = l.flatMap G
  | [], _ => rfl
  | a :: l, h => by rw [List.flatMap_cons, List.flatMap_cons, h a (by simp), flat_congr fun s hs => h s (by simp [hs])]
theorem fitT_eq (n : Nat) (zss : List (List Int)) : ∀ (m : Nat) (h : List Int), h.length + m = n → fitT n zss m h = (ordT n m h).filter fun r => fitFrom zss h.length n r
  | 0, h, hl => by
    have : fitFrom zss h.length n h = true := by
      unfold fitFrom
      rw [List.all_eq_true]
      intro d hd
      have := List.mem_range.1 hd
      simp; left; omega
    simp [fitT, ordT, this]
  | m + 1, h, hl => by
    rw [fitT, ordT, List.filter_flatMap]
    refine flat_congr fun s hs => ?_
    have hsn := List.mem_range.1 hs
    by_cases hc : h.contains (s : Int) = true
    · rw [if_pos (by rw [hc]; rfl), if_pos hc]; rfl
    · rw [if_neg hc]
      have hc' : h.contains (s : Int) = false := by simpa using hc
      have hget : ∀ r ∈ ordT n m (h ++ [(s : Int)]), nth r h.length = s := fun r hr => by
        obtain ⟨t, rfl, _⟩ := (mem_ordT n m _ _).1 hr
        rw [nth_eq]
        simp
      have hst : ∀ r, fitFrom zss h.length n r = ((!tkn zss h.length (nth r h.length)) && fitFrom zss (h.length + 1) n r) := fun r => by
        unfold fitFrom
        rw [Bool.eq_iff_iff, Bool.and_eq_true, List.all_eq_true, List.all_eq_true]
        constructor
        · intro hh
          refine ⟨?_, fun d hd => ?_⟩
          · have := hh h.length (List.mem_range.2 (by omega))
            simpa using this
          · have := hh d hd
            by_cases hd2 : d < h.length + 1
            · simp [hd2]
            · have h3 : ¬ d < h.length := by omega
              simpa [hd2, h3] using this
        · rintro ⟨h1, h2⟩ d hd
          by_cases hd2 : d = h.length
          · subst hd2
            simpa using h1
          · have := h2 d hd
            by_cases hd3 : d < h.length
            · simp [hd3]
            · have h4 : ¬ d < h.length + 1 := by omega
              simpa [hd3, h4] using this
      have ih := fitT_eq n zss m (h ++ [(s : Int)]) (by simp; omega)
      cases ht : tkn zss h.length (s : Int)
      · rw [hc']
        simp only [Bool.or_self, Bool.false_eq_true, if_false]
        rw [ih]
        refine List.filter_congr fun r hr => ?_
        rw [hst r, hget r hr, ht, List.length_append]
        simp
      · rw [hc']
        simp only [Bool.or_true, if_true]
        symm
        rw [List.filter_eq_nil_iff]
        intro r hr
        rw [hst r, hget r hr, ht]
        simp
/-- the law's rows that fit. -/
theorem fit_law (n : Nat) (zss : List (List Int)) : fitT n zss n [] = fitL n zss := by
  rw [fitT_eq n zss n [] (by simp)]
  unfold fitL
  refine List.filter_congr fun r hr => ?_
  have e : fitFrom zss ([] : List Int).length n r = true ↔ amE n zss r = 0 := by
    rw [am_iff (ord_len hr)]
    unfold fitFrom
    rw [List.all_eq_true]
    constructor
    · intro hh
      refine ⟨hr, fun d hd => ?_⟩
      have := hh d (List.mem_range.2 hd)
      simpa using this
    · rintro ⟨_, hh⟩ d hd
      rw [hh d (List.mem_range.1 hd)]
      simp
  cases hb : fitFrom zss ([] : List Int).length n r
  · have : ¬ amE n zss r = 0 := fun h => by rw [e.2 h] at hb; cases hb
    simp [this]
  · simp [e.1 hb]
theorem fitT_le (n : Nat) (zss : List (List Int)) (m : Nat) (h : List Int) (hl : h.length + m = n) : (fitT n zss m h).length ≤ n ^ m := by
  rw [fitT_eq n zss m h hl]
  exact Nat.le_trans (sub_len _) (ordT_le n m h)
end Go.Proofs.Ytpgifeaejjjjnaa
