/- Layer 1: what equal parts, but of none more than its most, are. -/
import Derived.Test.YtdnbdaegahcoeaaS
namespace Go.Proofs.Ytdnbdaegahcoeaa
open Go.RowKit Go.Sort
/-! ### what equal parts, but of none more than its most, are -/
theorem sum_min_le (m : Fin 5 → Int) (L c : Int) : ∀ o : List (Fin 5), (∀ j ∈ o, c ≤ m j) → c ≤ L → c * (o.length : Int) ≤ (o.map fun i => min (m i) L).sum
  | [], _, _ => by simp
  | j :: o, h, hL => by
    have ih := sum_min_le m L c o (fun i hi => h i (List.mem_cons_of_mem _ hi)) hL
    have hj := h j (List.mem_cons_self ..)
    simp only [List.map_cons, List.sum_cons, List.length_cons]
    have : ((o.length + 1 : Nat) : Int) = (o.length : Int) + 1 := by omega
    rw [this, Int.mul_add, Int.mul_one]
    omega
theorem sum_min_eq (m : Fin 5 → Int) (L : Int) : ∀ o : List (Fin 5), (∀ j ∈ o, L ≤ m j) → (o.map fun i => min (m i) L).sum = L * (o.length : Int)
  | [], _ => by simp
  | j :: o, h => by
    have ih := sum_min_eq m L o (fun i hi => h i (List.mem_cons_of_mem _ hi))
    have hj := h j (List.mem_cons_self ..)
    simp only [List.map_cons, List.sum_cons, List.length_cons]
    have : ((o.length + 1 : Nat) : Int) = (o.length : Int) + 1 := by omega
    rw [this, Int.mul_add, Int.mul_one, ih]
    omega
theorem levRun_eq (m : Fin 5 → Int) (n : Nat) (L : Int) (hL : 0 ≤ L) : ∀ (o : List (Fin 5)) (k : Nat) (p : Int) (g : Fin 5 → Int), k + o.length = n → o.Nodup → o.Pairwise (fun i j => m i ≤ m j) → p = (o.map fun i => min (m i) L).sum →
    ∀ j, levRun m n k o p g j = if j ∈ o then min (m j) L else g j
  | [], _, _, _, _, _, _, _, j => by simp [levRun]
  | i :: o, k, p, g, hk, hnd, hpw, hp, j => by
    rw [List.nodup_cons] at hnd
    rw [List.pairwise_cons] at hpw
    have hlen : ((n : Int) - k) = ((o.length : Int) + 1) := by simp only [List.length_cons] at hk; omega
    have hv : min (m i) (p / ((n : Int) - k)) = min (m i) L := by
      rw [hlen]
      simp only [List.map_cons, List.sum_cons] at hp
      by_cases hm : m i ≤ L
      · have h1 := sum_min_le m L (m i) o (fun j hj => hpw.1 j hj) hm
        have h2 : m i * ((o.length : Int) + 1) ≤ p := by rw [Int.mul_add, Int.mul_one, hp]; omega
        have h3 : m i ≤ p / ((o.length : Int) + 1) := (Int.le_ediv_iff_mul_le (by omega)).2 h2
        omega
      · have h1 := sum_min_eq m L o (fun j hj => by have := hpw.1 j hj; omega)
        have h2 : p = L * ((o.length : Int) + 1) := by rw [Int.mul_add, Int.mul_one, hp, h1]; omega
        have h3 : p / ((o.length : Int) + 1) = L := by rw [h2]; exact Int.mul_ediv_cancel _ (by omega)
        rw [h3]
    show levRun m n (k + 1) o (p - min (m i) (p / ((n : Int) - k))) (upd g i (min (m i) (p / ((n : Int) - k)))) j = _
    rw [hv, levRun_eq m n L hL o (k + 1) _ _ (by simp only [List.length_cons] at hk; omega) hnd.2 hpw.2 (by rw [hp]; simp only [List.map_cons, List.sum_cons]; omega) j]
    by_cases hj : j = i
    · subst hj
      rw [if_neg hnd.1, if_pos (List.mem_cons_self ..)]
      simp [upd]
    · by_cases ho : j ∈ o
      · rw [if_pos ho, if_pos (List.mem_cons_of_mem _ ho)]
      · rw [if_neg ho, if_neg (by simp [hj, ho])]
        simp [upd, hj]
theorem perm_sum {l l' : List Int} (h : l.Perm l') : l.sum = l'.sum := by
  induction h with
  | nil => rfl
  | cons x _ ih => simp only [List.sum_cons, ih]
  | swap x y l => simp only [List.sum_cons]; omega
  | trans _ _ ih1 ih2 => exact ih1.trans ih2
theorem sorted5_perm (f : Fin 5 → Int) (n : Nat) : (sorted5 f (idx5 n)).toList.Perm (idxL n) := by
  have h := sorted5_spec f (idx5 n)
  obtain ⟨⟨hs, _, hp⟩, _⟩ := h
  have e1 : ((sorted5 f (idx5 n)).extract 0 (idx5 n).size) = sorted5 f (idx5 n) := by
    rw [← hs]; simp
  have e2 : ((idx5 n).extract 0 (idx5 n).size) = idx5 n := by simp
  rw [e1, e2] at hp
  simpa [idx5, idxL] using hp
theorem sorted5_pair (f : Fin 5 → Int) (n : Nat) : (sorted5 f (idx5 n)).toList.Pairwise (fun i j => f i ≤ f j) := by
  have h := sorted5_spec f (idx5 n)
  obtain ⟨⟨hs, _, _⟩, hsort⟩ := h
  rw [List.pairwise_iff_getElem]
  intro p q hp hq hpq
  have hq' : q < (idx5 n).size := by rw [← hs]; simpa using hq
  have hp' : p < (sorted5 f (idx5 n)).size := by simpa using hp
  have hq2 : q < (sorted5 f (idx5 n)).size := by simpa using hq
  have := hsort p q (Nat.zero_le _) hpq hq'
  rw [lt5_eq, decide_eq_false_iff_not, getElem!_pos (sorted5 f (idx5 n)) p hp', getElem!_pos (sorted5 f (idx5 n)) q hq2] at this
  simp only [Array.getElem_toList]
  omega
theorem idxL_nodup (n : Nat) : (idxL n).Nodup := (by decide : ([0, 1, 2, 3, 4] : List (Fin 5)).Nodup).sublist (List.take_sublist _ _)
theorem lev_eq (m : Fin 5 → Int) (n : Nat) (hn : n ≤ 5) (p L : Int) (hL : 0 ≤ L) (hp : p = ((idxL n).map fun i => min (m i) L).sum) (j : Fin 5) : lev m n p j = if j ∈ idxL n then min (m j) L else 0 := by
  have hperm := sorted5_perm m n
  have h := levRun_eq m n L hL (sorted5 m (idx5 n)).toList 0 p (fun _ => 0) (by rw [hperm.length_eq, idxL_length _ hn]; omega) (hperm.nodup_iff.2 (idxL_nodup n)) (sorted5_pair m n) (by rw [hp]; exact (perm_sum (hperm.map _)).symm) j
  unfold lev
  rw [h]
  by_cases hj : j ∈ idxL n
  · rw [if_pos hj, if_pos (hperm.mem_iff.2 hj)]
  · rw [if_neg hj, if_neg (fun h => hj (hperm.mem_iff.1 h))]
end Go.Proofs.Ytdnbdaegahcoeaa
