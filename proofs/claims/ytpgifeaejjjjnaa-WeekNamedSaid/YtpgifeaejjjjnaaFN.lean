/- pure: the law's crossings, found by what streets were met (crsT, crs_law) -/
import Derived.Test.YtpgifeaejjjjnaaCV
namespace Go.Proofs.Ytpgifeaejjjjnaa
open Go.RowKit Go.Sort
/-- the crossings that begin with some days, found by what streets were met. -/
def crsT (n : Nat) (zss : List (List Int)) : Nat → List Int → List Int → List (List Int)
  | 0, h, _ => [h]
  | m + 1, h, t => (List.range n).flatMap fun (s : Nat) => if (h.contains (s : Int) || t.contains (nth (lth zss h.length) s)) = true then [] else crsT n zss m (h ++ [(s : Int)]) (t ++ [nth (lth zss h.length) s])
def csgT (n : Nat) (zss : List (List Int)) (m : Nat) (h t : List Int) (k : Nat) : List (List Int) := (List.range k).flatMap fun (s : Nat) => if (h.contains (s : Int) || t.contains (nth (lth zss h.length) s)) = true then [] else crsT n zss m (h ++ [(s : Int)]) (t ++ [nth (lth zss h.length) s])
theorem csgT_zero (n : Nat) (zss : List (List Int)) (m : Nat) (h t : List Int) : csgT n zss m h t 0 = [] := rfl
theorem csgT_succ (n : Nat) (zss : List (List Int)) (m : Nat) (h t : List Int) (k : Nat) : csgT n zss m h t (k + 1) = csgT n zss m h t k ++ (if (h.contains (k : Int) || t.contains (nth (lth zss h.length) k)) = true then [] else crsT n zss m (h ++ [(k : Int)]) (t ++ [nth (lth zss h.length) k])) := by
  unfold csgT
  rw [List.range_succ, List.flatMap_append]
  simp
theorem csgT_all (n : Nat) (zss : List (List Int)) (m : Nat) (h t : List Int) : csgT n zss m h t n = crsT n zss (m + 1) h t := rfl
theorem crsT_le (n : Nat) (zss : List (List Int)) : ∀ (m : Nat) (h t : List Int), (crsT n zss m h t).length ≤ n ^ m
  | 0, _, _ => by simp [crsT]
  | m + 1, h, t => by
    rw [← csgT_all]
    have key : ∀ k, (csgT n zss m h t k).length ≤ k * n ^ m := by
      intro k
      induction k with
      | zero => simp [csgT_zero]
      | succ k ih =>
        rw [csgT_succ, List.length_append, Nat.succ_mul]
        have h1 : (if (h.contains (k : Int) || t.contains (nth (lth zss h.length) k)) = true then ([] : List (List Int)) else crsT n zss m (h ++ [(k : Int)]) (t ++ [nth (lth zss h.length) k])).length ≤ n ^ m := by
          split
          · simp
          · exact crsT_le n zss m _ _
        omega
    have := key n
    rwa [Nat.pow_succ, Nat.mul_comm (n ^ m) n]
theorem csgT_le {n : Nat} {zss : List (List Int)} {m k : Nat} {h t : List Int} (hk : k < n) : (csgT n zss m h t k).length + n ^ m ≤ n ^ (m + 1) := by
  have key : ∀ k, (csgT n zss m h t k).length ≤ k * n ^ m := by
    intro k
    induction k with
    | zero => simp [csgT_zero]
    | succ k ih =>
      rw [csgT_succ, List.length_append, Nat.succ_mul]
      have h1 : (if (h.contains (k : Int) || t.contains (nth (lth zss h.length) k)) = true then ([] : List (List Int)) else crsT n zss m (h ++ [(k : Int)]) (t ++ [nth (lth zss h.length) k])).length ≤ n ^ m := by
        split
        · simp
        · exact crsT_le n zss m _ _
      omega
  have h1 := key k
  have h2 : (k + 1) * n ^ m ≤ n * n ^ m := Nat.mul_le_mul_right _ hk
  rw [Nat.pow_succ, Nat.mul_comm (n ^ m) n]
  rw [Nat.succ_mul] at h2
  omega
/-- the streets that some days meet. -/
def metOf (zss : List (List Int)) (h : List Int) : List Int := (List.range h.length).map (stF zss h)
theorem metOf_len (zss : List (List Int)) (h : List Int) : (metOf zss h).length = h.length := by unfold metOf; simp
theorem stF_app {zss : List (List Int)} {h u : List Int} {j : Nat} (hj : j < h.length) : stF zss (h ++ u) j = stF zss h j := by
  unfold stF; rw [nth_eq (h ++ u), List.getElem?_append_left hj, ← nth_eq]
theorem stF_at {zss : List (List Int)} {h : List Int} {s : Nat} : stF zss (h ++ [(s : Int)]) h.length = nth (lth zss h.length) s := by
  unfold stF; rw [nth_eq (h ++ [(s : Int)]), List.getElem?_append_right (Nat.le_refl _)]; simp
theorem metOf_app (zss : List (List Int)) (h : List Int) (s : Nat) : metOf zss (h ++ [(s : Int)]) = metOf zss h ++ [nth (lth zss h.length) s] := by
  unfold metOf
  rw [List.length_append, List.length_singleton, List.range_succ, List.map_append]
  congr 1
  · refine List.map_congr_left fun j hj => stF_app (List.mem_range.1 hj)
  · simp [stF_at]
theorem metOf_mem {zss : List (List Int)} {h : List Int} {x : Int} : x ∈ metOf zss h ↔ ∃ j, j < h.length ∧ stF zss h j = x := by
  unfold metOf
  rw [List.mem_map]
  constructor
  · rintro ⟨j, hj, e⟩; exact ⟨j, List.mem_range.1 hj, e⟩
  · rintro ⟨j, hj, e⟩; exact ⟨j, List.mem_range.2 hj, e⟩
/-- from some place on, no street again. -/
def cfr (zss : List (List Int)) (k n : Nat) (r : List Int) : Bool := decide (∀ i, i < n → k ≤ i → ∀ j, j < i → stF zss r j ≠ stF zss r i)
theorem crsT_eq (n : Nat) (zss : List (List Int)) : ∀ (m : Nat) (h : List Int), h.length + m = n → crsT n zss m h (metOf zss h) = (ordT n m h).filter fun r => cfr zss h.length n r
  | 0, h, hl => by
    have : cfr zss h.length n h = true := by
      unfold cfr
      rw [decide_eq_true_iff]
      intro i hi hk
      omega
    simp [crsT, ordT, this]
  | m + 1, h, hl => by
    rw [crsT, ordT, List.filter_flatMap]
    refine flat_congr fun s hs => ?_
    have hsn := List.mem_range.1 hs
    by_cases hc : h.contains (s : Int) = true
    · rw [if_pos (by rw [hc]; rfl), if_pos hc]; rfl
    · rw [if_neg hc]
      have hc' : h.contains (s : Int) = false := by simpa using hc
      have hget : ∀ r ∈ ordT n m (h ++ [(s : Int)]), cfr zss h.length n r = (!(metOf zss h).contains (nth (lth zss h.length) s) && cfr zss (h.length + 1) n r) := fun r hr => by
        obtain ⟨t, rfl, _⟩ := (mem_ordT n m _ _).1 hr
        have e1 : stF zss (h ++ [(s : Int)] ++ t) h.length = nth (lth zss h.length) s := by
          rw [stF_app (by simp), stF_at]
        have e2 : ∀ j, j < h.length → stF zss (h ++ [(s : Int)] ++ t) j = stF zss h j := fun j hj => by
          rw [stF_app (by simp; omega), stF_app hj]
        rw [Bool.eq_iff_iff, Bool.and_eq_true, Bool.not_eq_true', ← Bool.not_eq_true, List.contains_iff_mem, metOf_mem]
        unfold cfr
        rw [decide_eq_true_iff, decide_eq_true_iff]
        constructor
        · intro hh
          refine ⟨?_, fun i hi hk => hh i hi (by omega)⟩
          rintro ⟨j, hj, e⟩
          have := hh h.length (by omega) (Nat.le_refl _) j hj
          rw [e1, e2 j hj] at this
          exact this e
        · rintro ⟨g1, g2⟩ i hi hk j hj
          by_cases e : i = h.length
          · subst e
            rw [e1, e2 j hj]
            exact fun q => g1 ⟨j, hj, q⟩
          · exact g2 i hi (by omega) j hj
      have ih := crsT_eq n zss m (h ++ [(s : Int)]) (by simp; omega)
      rw [metOf_app, List.length_append, List.length_singleton] at ih
      cases ht : (metOf zss h).contains (nth (lth zss h.length) s)
      · rw [hc']
        simp only [Bool.or_self, Bool.false_eq_true, if_false]
        rw [ih]
        refine List.filter_congr fun r hr => ?_
        rw [hget r hr, ht]
        simp
      · rw [hc']
        simp only [Bool.or_true, if_true]
        symm
        rw [List.filter_eq_nil_iff]
        intro r hr
        rw [hget r hr, ht]
        simp
theorem crs_law (n : Nat) (zss : List (List Int)) : crsT n zss n [] [] = crsL n zss := by
  have h := crsT_eq n zss n [] (by simp)
  rw [show metOf zss [] = [] from rfl] at h
  rw [h]
  unfold crsL
  refine List.filter_congr fun r hr => ?_
  unfold cfr crsB
  rw [decide_eq_decide, ord_len hr]
  exact ⟨fun g i hi j hj => g i hi (Nat.zero_le _) j hj, fun g i hi _ j hj => g i hi j hj⟩
end Go.Proofs.Ytpgifeaejjjjnaa
