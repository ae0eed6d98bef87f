/- Layer 1: there is a level, and what it gives out. -/
import Derived.Test.YtdnbdaegahcoeaaMadeA
namespace Go.Proofs.Ytdnbdaegahcoeaa
open Go.RowKit Go.Sort
theorem sum_min_up (m : Fin 5 → Int) (L : Int) : ∀ o : List (Fin 5), (o.map fun i => min (m i) L).sum ≤ L * (o.length : Int)
  | [] => by simp
  | j :: o => by
    have ih := sum_min_up m L o
    simp only [List.map_cons, List.sum_cons, List.length_cons]
    have : ((o.length + 1 : Nat) : Int) = (o.length : Int) + 1 := by omega
    rw [this, Int.mul_add, Int.mul_one]
    omega
/-- a level that gives out p, where p and each most are sixtieths whole. -/
theorem level_exists (m : Fin 5 → Int) : ∀ o : List (Fin 5), o.length ≤ 5 → o.Pairwise (fun i j => m i ≤ m j) → (∀ i ∈ o, 0 ≤ m i ∧ 60 ∣ m i) → ∀ p : Int, 0 ≤ p → 60 ∣ p → p ≤ (o.map m).sum →
    ∃ L, 0 ≤ L ∧ p = (o.map fun i => min (m i) L).sum
  | [], _, _, _, p, hp, _, hs => ⟨0, by omega, by simp at hs ⊢; omega⟩
  | i :: o, hl, hpw, hm, p, hp, hd, hs => by
    rw [List.pairwise_cons] at hpw
    simp only [List.length_cons] at hl
    have hmi := hm i (List.mem_cons_self ..)
    by_cases hc : p ≤ m i * ((o.length : Int) + 1)
    · have hdv : ((o.length : Int) + 1) ∣ p := by
        refine Int.dvd_trans ?_ hd
        match o.length, hl with
        | 0, _ => decide
        | 1, _ => decide
        | 2, _ => decide
        | 3, _ => decide
        | 4, _ => decide
        | k + 5, h => exact absurd h (by omega)
      obtain ⟨L, hL⟩ := hdv
      have hL0 : 0 ≤ L := by
        rcases Int.lt_or_le L 0 with h | h
        · exfalso
          have := Int.mul_neg_of_pos_of_neg (show 0 < (o.length : Int) + 1 by omega) h
          omega
        · exact h
      have hLm : L ≤ m i := by
        rw [hL, Int.mul_comm] at hc
        exact Int.le_of_mul_le_mul_right hc (by omega)
      refine ⟨L, hL0, ?_⟩
      have h1 := sum_min_eq m L (i :: o) (fun j hj => by
        rcases List.mem_cons.1 hj with rfl | hj
        · exact hLm
        · have := hpw.1 j hj; omega)
      rw [h1, hL, Int.mul_comm]
      simp
    · simp only [List.map_cons, List.sum_cons] at hs
      have hmo : 0 ≤ m i * (o.length : Int) := Int.mul_nonneg hmi.1 (by omega)
      rw [Int.mul_add, Int.mul_one] at hc
      obtain ⟨L, hL0, hL⟩ := level_exists m o (by omega) hpw.2 (fun j hj => hm j (List.mem_cons_of_mem _ hj)) (p - m i) (by omega) (by obtain ⟨a, ha⟩ := hd; obtain ⟨b, hb⟩ := hmi.2; exact ⟨a - b, by omega⟩) (by omega)
      refine ⟨L, hL0, ?_⟩
      simp only [List.map_cons, List.sum_cons]
      rw [← hL]
      have hLi : m i ≤ L := by
        rcases Int.lt_or_le L (m i) with h | h
        · exfalso
          have h1 := sum_min_up m L o
          have h2 : L * (o.length : Int) ≤ m i * (o.length : Int) := Int.mul_le_mul_of_nonneg_right (by omega) (by omega)
          omega
        · exact h
      omega
theorem lev_level (m : Fin 5 → Int) (n : Nat) (hn : n ≤ 5) (hm : ∀ i, 0 ≤ m i ∧ 60 ∣ m i) (p : Int) (hp : 0 ≤ p) (hd : 60 ∣ p) (hs : p ≤ ((idxL n).map m).sum) :
    ∃ L, 0 ≤ L ∧ p = ((idxL n).map fun i => min (m i) L).sum ∧ ∀ j, lev m n p j = if j ∈ idxL n then min (m j) L else 0 := by
  have hperm := sorted5_perm m n
  obtain ⟨L, h0, h1⟩ := level_exists m (sorted5 m (idx5 n)).toList (by rw [hperm.length_eq, idxL_length _ hn]; exact hn) (sorted5_pair m n) (fun i _ => hm i) p hp hd (by rw [perm_sum (hperm.map m)]; exact hs)
  rw [perm_sum (hperm.map _)] at h1
  exact ⟨L, h0, h1, lev_eq m n hn p L h0 h1⟩
/-- what lev gives out is p. -/
theorem lev_sum (m : Fin 5 → Int) (n : Nat) (hn : n ≤ 5) (hm : ∀ i, 0 ≤ m i ∧ 60 ∣ m i) (p : Int) (hp : 0 ≤ p) (hd : 60 ∣ p) (hs : p ≤ ((idxL n).map m).sum) : ((idxL n).map (lev m n p)).sum = p := by
  obtain ⟨L, _, h1, h2⟩ := lev_level m n hn hm p hp hd hs
  rw [h1]
  congr 1
  refine List.map_congr_left fun j hj => ?_
  rw [← h1, h2, if_pos hj]
end Go.Proofs.Ytdnbdaegahcoeaa
