/- Layer 1: the rule's parts for x and for the rest. -/
import Derived.Test.YtdnbdaegahcoeaaAverage
namespace Go.Proofs.Ytdnbdaegahcoeaa
open Go.RowKit Go.Sort
theorem take_idx (f : Fin 5 → Int) (n : Nat) : (list5 f).take n = (idxL n).map f := by simp [list5, idxL, List.map_take]
theorem K_idx_sum (zs : List Int) (h : zs.length ≤ 5) : ((idxL zs.length).map (K zs)).sum = zs.sum * 120 := by
  match zs, h with
  | [], _ => rfl
  | [a], _ => have e0 : K [a] 0 = a * 120 := rfl
              simp [idxL, e0]
  | [a, b], _ => have e0 : K [a, b] 0 = a * 120 := rfl
                 have e1 : K [a, b] 1 = b * 120 := rfl
                 simp [idxL, e0, e1]; omega
  | [a, b, c], _ => have e0 : K [a, b, c] 0 = a * 120 := rfl
                    have e1 : K [a, b, c] 1 = b * 120 := rfl
                    have e2 : K [a, b, c] 2 = c * 120 := rfl
                    simp [idxL, e0, e1, e2]; omega
  | [a, b, c, d], _ => have e0 : K [a, b, c, d] 0 = a * 120 := rfl
                       have e1 : K [a, b, c, d] 1 = b * 120 := rfl
                       have e2 : K [a, b, c, d] 2 = c * 120 := rfl
                       have e3 : K [a, b, c, d] 3 = d * 120 := rfl
                       simp [idxL, e0, e1, e2, e3]; omega
  | [a, b, c, d, e], _ => have e0 : K [a, b, c, d, e] 0 = a * 120 := rfl
                          have e1 : K [a, b, c, d, e] 1 = b * 120 := rfl
                          have e2 : K [a, b, c, d, e] 2 = c * 120 := rfl
                          have e3 : K [a, b, c, d, e] 3 = d * 120 := rfl
                          have e4 : K [a, b, c, d, e] 4 = e * 120 := rfl
                          simp [idxL, e0, e1, e2, e3, e4]; omega
  | a :: b :: c :: d :: e :: f :: zs, h => exact absurd h (by simp)
/-- half of each claim. -/
def Q (zs : List Int) : Fin 5 → Int := fun i => K zs i / 2
theorem Q_two (zs : List Int) (i : Fin 5) : Q zs i + Q zs i = K zs i := by unfold Q K; omega
theorem Q_idx_sum (zs : List Int) (h : zs.length ≤ 5) : ((idxL zs.length).map (Q zs)).sum + ((idxL zs.length).map (Q zs)).sum = zs.sum * 120 := by
  rw [← K_idx_sum zs h, ← sum_addf]
  congr 1
  exact List.map_congr_left fun i _ => Q_two zs i
/-- the parts that the rule gives. -/
def dvF (x : Int) (zs : List Int) : Fin 5 → Int := if 2 * x ≤ zs.sum then lev (Q zs) zs.length (x * 120) else fun i => K zs i - lev (Q zs) zs.length (zs.sum * 120 - x * 120) i
theorem lev_bd (m : Fin 5 → Int) (n : Nat) (hn : n ≤ 5) (hm : ∀ i, 0 ≤ m i ∧ 60 ∣ m i) (p : Int) (hp : 0 ≤ p) (hd : 60 ∣ p) (hs : p ≤ ((idxL n).map m).sum) (j : Fin 5) : 0 ≤ lev m n p j ∧ lev m n p j ≤ m j := by
  obtain ⟨L, h0, _, h2⟩ := lev_level m n hn hm p hp hd hs
  have := hm j
  rw [h2]; split <;> omega
theorem lev_all (m : Fin 5 → Int) (n : Nat) (hn : n ≤ 5) (hm : ∀ i, 0 ≤ m i ∧ m i ≤ 1000000) (j : Fin 5) (hj : j ∈ idxL n) : lev m n ((idxL n).map m).sum j = m j := by
  have e : ((idxL n).map m).sum = ((idxL n).map fun i => min (m i) 1000000).sum := by
    congr 1
    exact List.map_congr_left fun i _ => by have := hm i; omega
  rw [lev_eq m n hn _ 1000000 (by decide) e, if_pos hj]
  have := hm j; omega
theorem dv_dual (x : Int) (zs : List Int) (h5 : zs.length ≤ 5) (hz : ∀ k, 0 ≤ nth zs k ∧ nth zs k ≤ 1000) (j : Fin 5) (hj : j ∈ idxL zs.length) : dvF x zs j + dvF (zs.sum - x) zs j = K zs j := by
  unfold dvF
  by_cases h1 : 2 * x ≤ zs.sum
  · rw [if_pos h1]
    by_cases h2 : 2 * (zs.sum - x) ≤ zs.sum
    · rw [if_pos h2]
      have hq := Q_idx_sum zs h5
      have e1 : x * 120 = ((idxL zs.length).map (Q zs)).sum := by omega
      have e2 : (zs.sum - x) * 120 = ((idxL zs.length).map (Q zs)).sum := by omega
      rw [e1, e2, lev_all (Q zs) zs.length h5 (fun i => by have := hz i.val; unfold Q K; omega) j hj]
      exact Q_two zs j
    · rw [if_neg h2]
      rw [show zs.sum * 120 - (zs.sum - x) * 120 = x * 120 by omega]
      omega
  · rw [if_neg h1, if_pos (by omega)]
    rw [show zs.sum * 120 - x * 120 = (zs.sum - x) * 120 by omega]
    omega
end Go.Proofs.Ytdnbdaegahcoeaa
