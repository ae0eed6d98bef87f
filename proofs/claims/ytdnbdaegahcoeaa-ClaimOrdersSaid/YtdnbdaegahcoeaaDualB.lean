/- Layer 1: what the rule, gains and losses give are divisions. -/
import Derived.Test.YtdnbdaegahcoeaaDualA
import Derived.Test.YtdnbdaegahcoeaaSplitA
namespace Go.Proofs.Ytdnbdaegahcoeaa
open Go.RowKit Go.Sort
/-- gs divides x among zs. -/
def IsDiv (zs : List Int) (x : Int) (gs : List Int) : Prop := gs.length = zs.length ∧ (∀ j, j < gs.length → 0 ≤ nth gs j ∧ nth gs j ≤ 120 * nth zs j) ∧ gs.sum = 120 * x
theorem isDiv_of (zs : List Int) (x : Int) (f : Fin 5 → Int) (h5 : zs.length ≤ 5) (hb : ∀ j ∈ idxL zs.length, 0 ≤ f j ∧ f j ≤ K zs j) (hs : ((idxL zs.length).map f).sum = x * 120) : IsDiv zs x ((list5 f).take zs.length) := by
  have hl := list5_len f _ h5
  refine ⟨hl, fun j hj => ?_, by rw [take_idx, hs]; omega⟩
  rw [hl] at hj
  rw [list5_nth f _ h5 j hj]
  have := hb ⟨j, by omega⟩ (idx_mem ⟨zs.length, by omega⟩ ⟨j, by omega⟩ hj)
  have e : K zs ⟨j, by omega⟩ = nth zs j * 120 := rfl
  omega
theorem Q_bd (zs : List Int) (hz : ∀ k, 0 ≤ nth zs k ∧ nth zs k ≤ 1000) (i : Fin 5) : (0 ≤ Q zs i ∧ 60 ∣ Q zs i) ∧ Q zs i ≤ K zs i := by
  have := hz i.val
  unfold Q K
  exact ⟨⟨by omega, ⟨nth zs i.val, by omega⟩⟩, by omega⟩
theorem K_bd (zs : List Int) (hz : ∀ k, 0 ≤ nth zs k ∧ nth zs k ≤ 1000) (i : Fin 5) : 0 ≤ K zs i ∧ 60 ∣ K zs i := by
  have := hz i.val
  unfold K
  exact ⟨by omega, ⟨2 * nth zs i.val, by omega⟩⟩
theorem sum_subf (f g : Fin 5 → Int) : ∀ l : List (Fin 5), (l.map fun j => f j - g j).sum = (l.map f).sum - (l.map g).sum
  | [] => by simp
  | a :: l => by have := sum_subf f g l; simp only [List.map_cons, List.sum_cons] at *; omega
theorem dv_isDiv (x : Int) (zs : List Int) (h5 : zs.length ≤ 5) (hz : ∀ k, 0 ≤ nth zs k ∧ nth zs k ≤ 1000) (h0 : 0 ≤ x) (h1 : x ≤ zs.sum) : IsDiv zs x ((list5 (dvF x zs)).take zs.length) := by
  have hq := Q_idx_sum zs h5
  have hk := K_idx_sum zs h5
  by_cases hc : 2 * x ≤ zs.sum
  · refine isDiv_of zs x _ h5 (fun j _ => ?_) ?_
    · unfold dvF; rw [if_pos hc]
      have := lev_bd (Q zs) zs.length h5 (fun i => (Q_bd zs hz i).1) (x * 120) (by omega) ⟨x * 2, by omega⟩ (by omega) j
      have := (Q_bd zs hz j).2
      omega
    · unfold dvF; rw [if_pos hc]
      exact lev_sum (Q zs) zs.length h5 (fun i => (Q_bd zs hz i).1) (x * 120) (by omega) ⟨x * 2, by omega⟩ (by omega)
  · refine isDiv_of zs x _ h5 (fun j _ => ?_) ?_
    · unfold dvF; rw [if_neg hc]
      have := lev_bd (Q zs) zs.length h5 (fun i => (Q_bd zs hz i).1) (zs.sum * 120 - x * 120) (by omega) ⟨zs.sum * 2 - x * 2, by omega⟩ (by omega) j
      have := (Q_bd zs hz j).2
      omega
    · unfold dvF; rw [if_neg hc]
      rw [sum_subf, lev_sum (Q zs) zs.length h5 (fun i => (Q_bd zs hz i).1) (zs.sum * 120 - x * 120) (by omega) ⟨zs.sum * 2 - x * 2, by omega⟩ (by omega), hk]
      omega
theorem gain_isDiv (x : Int) (zs : List Int) (h5 : zs.length ≤ 5) (hz : ∀ k, 0 ≤ nth zs k ∧ nth zs k ≤ 1000) (h0 : 0 ≤ x) (h1 : x ≤ zs.sum) : IsDiv zs x ((list5 (lev (K zs) zs.length (x * 120))).take zs.length) := by
  have hk := K_idx_sum zs h5
  exact isDiv_of zs x _ h5 (fun j _ => lev_bd (K zs) zs.length h5 (K_bd zs hz) (x * 120) (by omega) ⟨x * 2, by omega⟩ (by omega) j) (lev_sum (K zs) zs.length h5 (K_bd zs hz) (x * 120) (by omega) ⟨x * 2, by omega⟩ (by omega))
theorem loss_isDiv (x : Int) (zs : List Int) (h5 : zs.length ≤ 5) (hz : ∀ k, 0 ≤ nth zs k ∧ nth zs k ≤ 1000) (h0 : 0 ≤ x) (h1 : x ≤ zs.sum) : IsDiv zs x ((list5 (fun i => K zs i - lev (K zs) zs.length (zs.sum * 120 - x * 120) i)).take zs.length) := by
  have hk := K_idx_sum zs h5
  refine isDiv_of zs x _ h5 (fun j _ => ?_) ?_
  · have := lev_bd (K zs) zs.length h5 (K_bd zs hz) (zs.sum * 120 - x * 120) (by omega) ⟨zs.sum * 2 - x * 2, by omega⟩ (by omega) j
    omega
  · rw [sum_subf, lev_sum (K zs) zs.length h5 (K_bd zs hz) (zs.sum * 120 - x * 120) (by omega) ⟨zs.sum * 2 - x * 2, by omega⟩ (by omega), hk]
    omega
end Go.Proofs.Ytdnbdaegahcoeaa
