/- Layer 1: what spread gives out is a division. -/
import Derived.Test.YtdnbdaegahcoeaaDualC
namespace Go.Proofs.Ytdnbdaegahcoeaa
open Go.RowKit Go.Sort
/-- what spread takes: left parts are left, r the others can take, c is the claim in parts, y the number. -/
def pick (left r c y : Int) : Int := max 0 (left - r) + y % (min left c - max 0 (left - r) + 1)
theorem pick_bd (left r c y : Int) (h0 : 0 ≤ left) (h1 : left ≤ r + c) (hr : 0 ≤ r) (hc : 0 ≤ c) : max 0 (left - r) ≤ pick left r c y ∧ pick left r c y ≤ min left c ∧ 0 < min left c - max 0 (left - r) + 1 := by
  unfold pick
  have hp : 0 < min left c - max 0 (left - r) + 1 := by omega
  have h2 := Int.emod_nonneg y (show min left c - max 0 (left - r) + 1 ≠ 0 by omega)
  have h3 := Int.emod_lt_of_pos y hp
  omega
/-- what the others behind the first j can take. -/
def restF (zs : List Int) (j : Nat) : Int := 120 * zs.sum - 120 * (zs.take j).sum
def leftF (zs ys : List Int) (x : Int) : Nat → Int
  | 0 => 120 * x
  | j + 1 => leftF zs ys x j - pick (leftF zs ys x j) (restF zs (j + 1)) (120 * nth zs j) (nth ys j)
def pickF (zs ys : List Int) (x : Int) (j : Nat) : Int := pick (leftF zs ys x j) (restF zs (j + 1)) (120 * nth zs j) (nth ys j)
def outF (zs ys : List Int) (x : Int) (j : Nat) : List Int := (List.range j).map (pickF zs ys x)
theorem outF_succ (zs ys : List Int) (x : Int) (j : Nat) : outF zs ys x (j + 1) = outF zs ys x j ++ [pickF zs ys x j] := by
  unfold outF; rw [List.range_succ, List.map_append]; rfl
theorem outF_len (zs ys : List Int) (x : Int) (j : Nat) : (outF zs ys x j).length = j := by simp [outF]
theorem outF_nth (zs ys : List Int) (x : Int) (n j : Nat) (h : j < n) : nth (outF zs ys x n) j = pickF zs ys x j := by
  rw [nth_eq]; simp [outF, h]
theorem restF_succ (zs : List Int) (j : Nat) (h : j < zs.length) : restF zs (j + 1) = restF zs j - 120 * nth zs j := by
  unfold restF; rw [take_succ' zs j h, sum_snoc]; omega
theorem restF_pos (zs : List Int) (hz : ∀ k, 0 ≤ nth zs k) : ∀ j, j ≤ zs.length → ∀ i, i ≤ j → restF zs j ≤ restF zs i := by
  intro j
  induction j with
  | zero => intro _ i hi; rw [show i = 0 by omega]; exact Int.le_refl _
  | succ j ih =>
    intro hj i hi
    by_cases e : i = j + 1
    · rw [e]; exact Int.le_refl _
    · have := ih (by omega) i (by omega)
      have h0 := hz j
      rw [restF_succ zs j (by omega)]; omega
theorem restF_end (zs : List Int) : restF zs zs.length = 0 := by unfold restF; rw [List.take_length]; omega
theorem left_bd (zs ys : List Int) (x : Int) (hz : ∀ k, 0 ≤ nth zs k) (hx0 : 0 ≤ x) (hx1 : x ≤ zs.sum) : ∀ j, j ≤ zs.length → 0 ≤ leftF zs ys x j ∧ leftF zs ys x j ≤ restF zs j
  | 0, _ => by simp [leftF, restF]; omega
  | j + 1, h => by
    have ih := left_bd zs ys x hz hx0 hx1 j (by omega)
    have h1 := restF_succ zs j (by omega)
    have h2 := restF_pos zs hz zs.length (Nat.le_refl _) (j + 1) (by omega)
    rw [restF_end] at h2
    have h3 := pick_bd (leftF zs ys x j) (restF zs (j + 1)) (120 * nth zs j) (nth ys j) ih.1 (by omega) h2 (by have := hz j; omega)
    show 0 ≤ leftF zs ys x j - pick _ _ _ _ ∧ leftF zs ys x j - pick _ _ _ _ ≤ _
    omega
theorem pickF_bd (zs ys : List Int) (x : Int) (hz : ∀ k, 0 ≤ nth zs k) (hx0 : 0 ≤ x) (hx1 : x ≤ zs.sum) (j : Nat) (h : j < zs.length) :
    0 ≤ pickF zs ys x j ∧ pickF zs ys x j ≤ 120 * nth zs j ∧ 0 < min (leftF zs ys x j) (120 * nth zs j) - max 0 (leftF zs ys x j - restF zs (j + 1)) + 1 := by
  have ih := left_bd zs ys x hz hx0 hx1 j (by omega)
  have h1 := restF_succ zs j (by omega)
  have h2 := restF_pos zs hz zs.length (Nat.le_refl _) (j + 1) (by omega)
  rw [restF_end] at h2
  have h3 := pick_bd (leftF zs ys x j) (restF zs (j + 1)) (120 * nth zs j) (nth ys j) ih.1 (by omega) h2 (by have := hz j; omega)
  unfold pickF
  omega
theorem out_sum (zs ys : List Int) (x : Int) : ∀ j, (outF zs ys x j).sum = 120 * x - leftF zs ys x j
  | 0 => by simp [outF, leftF]
  | j + 1 => by
    rw [outF_succ, sum_snoc, out_sum zs ys x j]
    show _ = 120 * x - (leftF zs ys x j - pick _ _ _ _)
    unfold pickF; omega
theorem out_isDiv (zs ys : List Int) (x : Int) (h : Full5 x zs) : IsDiv zs x (outF zs ys x zs.length) := by
  have hz : ∀ k, 0 ≤ nth zs k := fun k => (full_nth h k).1
  refine ⟨outF_len _ _ _ _, fun j hj => ?_, ?_⟩
  · rw [outF_len] at hj
    rw [outF_nth _ _ _ _ _ hj]
    have := pickF_bd zs ys x hz h.2.2.2.1 h.2.2.2.2 j hj
    exact ⟨this.1, this.2.1⟩
  · have := left_bd zs ys x hz h.2.2.2.1 h.2.2.2.2 zs.length (Nat.le_refl _)
    rw [restF_end] at this
    rw [out_sum]; omega
end Go.Proofs.Ytdnbdaegahcoeaa
