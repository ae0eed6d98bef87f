/- Layer 2, of layer 1: claims that sum to twice what is divided: each gets its half. -/
import Derived.Test.YtimddkofcejijaaVF
namespace Go.Proofs.Ytimddkofcejijaa.Cl
open Go.RowKit Go.Sort
def idxL (n : Nat) : List (Fin 5) := [0, 1, 2, 3, 4].take n
theorem idxL_length (n : Nat) (h : n ≤ 5) : (idxL n).length = n := by simp [idxL]; omega
/-! ### what equal parts, but of none more than its most, are -/
theorem sum_min_le (m : Fin 5 → Int) (L c : Int) : ∀ o : List (Fin 5), (∀ j ∈ o, c ≤ m j) → c ≤ L → c * (o.length : Int) ≤ (o.map fun i => min (m i) L).sum
  | [], _, _ => by simp
  | j :: o, h, hL => by
    have ih := sum_min_le m L c o (fun i hi => h i (List.mem_cons_of_mem _ hi)) hL
    have hj := h j (List.mem_cons_self ..)
    simp only [List.map_cons, List.sum_cons, List.length_cons]
    have : ((o.length + 1 : Nat) : Int) = (o.length : Int) + 1 := by omega
    rw [this, Int.mul_add, Int.mul_one]
    omega
theorem sum_min_eq (m : Fin 5 → Int) (L : Int) : ∀ o : List (Fin 5), (∀ j ∈ o, L ≤ m j) → (o.map fun i => min (m i) L).sum = L * (o.length : Int)
  | [], _ => by simp
  | j :: o, h => by
    have ih := sum_min_eq m L o (fun i hi => h i (List.mem_cons_of_mem _ hi))
    have hj := h j (List.mem_cons_self ..)
    simp only [List.map_cons, List.sum_cons, List.length_cons]
    have : ((o.length + 1 : Nat) : Int) = (o.length : Int) + 1 := by omega
    rw [this, Int.mul_add, Int.mul_one, ih]
    omega
theorem levRun_eq (m : Fin 5 → Int) (n : Nat) (L : Int) (hL : 0 ≤ L) : ∀ (o : List (Fin 5)) (k : Nat) (p : Int) (g : Fin 5 → Int), k + o.length = n → o.Nodup → o.Pairwise (fun i j => m i ≤ m j) → p = (o.map fun i => min (m i) L).sum →
    ∀ j, levRun m n k o p g j = if j ∈ o then min (m j) L else g j
  | [], _, _, _, _, _, _, _, j => by simp [levRun]
  | i :: o, k, p, g, hk, hnd, hpw, hp, j => by
    rw [List.nodup_cons] at hnd
    rw [List.pairwise_cons] at hpw
    have hlen : ((n : Int) - k) = ((o.length : Int) + 1) := by simp only [List.length_cons] at hk; omega
    have hv : min (m i) (p / ((n : Int) - k)) = min (m i) L := by
      rw [hlen]
      simp only [List.map_cons, List.sum_cons] at hp
      by_cases hm : m i ≤ L
      · have h1 := sum_min_le m L (m i) o (fun j hj => hpw.1 j hj) hm
        have h2 : m i * ((o.length : Int) + 1) ≤ p := by rw [Int.mul_add, Int.mul_one, hp]; omega
        have h3 : m i ≤ p / ((o.length : Int) + 1) := (Int.le_ediv_iff_mul_le (by omega)).2 h2
        omega
      · have h1 := sum_min_eq m L o (fun j hj => by have := hpw.1 j hj; omega)
        have h2 : p = L * ((o.length : Int) + 1) := by rw [Int.mul_add, Int.mul_one, hp, h1]; omega
        have h3 : p / ((o.length : Int) + 1) = L := by rw [h2]; exact Int.mul_ediv_cancel _ (by omega)
        rw [h3]
    show levRun m n (k + 1) o (p - min (m i) (p / ((n : Int) - k))) (upd g i (min (m i) (p / ((n : Int) - k)))) j = _
    rw [hv, levRun_eq m n L hL o (k + 1) _ _ (by simp only [List.length_cons] at hk; omega) hnd.2 hpw.2 (by rw [hp]; simp only [List.map_cons, List.sum_cons]; omega) j]
    by_cases hj : j = i
    · subst hj
      rw [if_neg hnd.1, if_pos (List.mem_cons_self ..)]
      simp [upd]
    · by_cases ho : j ∈ o
      · rw [if_pos ho, if_pos (List.mem_cons_of_mem _ ho)]
      · rw [if_neg ho, if_neg (by simp [hj, ho])]
        simp [upd, hj]
theorem perm_sum {l l' : List Int} (h : l.Perm l') : l.sum = l'.sum := by
  induction h with
  | nil => rfl
  | cons x _ ih => simp only [List.sum_cons, ih]
  | swap x y l => simp only [List.sum_cons]; omega
  | trans _ _ ih1 ih2 => exact ih1.trans ih2
theorem sorted5_perm (f : Fin 5 → Int) (n : Nat) : (sorted5 f (idx5 n)).toList.Perm (idxL n) := by
  have h := sorted5_spec f (idx5 n)
  obtain ⟨⟨hs, _, hp⟩, _⟩ := h
  have e1 : ((sorted5 f (idx5 n)).extract 0 (idx5 n).size) = sorted5 f (idx5 n) := by
    rw [← hs]; simp
  have e2 : ((idx5 n).extract 0 (idx5 n).size) = idx5 n := by simp
  rw [e1, e2] at hp
  simpa [idx5, idxL] using hp
theorem sorted5_pair (f : Fin 5 → Int) (n : Nat) : (sorted5 f (idx5 n)).toList.Pairwise (fun i j => f i ≤ f j) := by
  have h := sorted5_spec f (idx5 n)
  obtain ⟨⟨hs, _, _⟩, hsort⟩ := h
  rw [List.pairwise_iff_getElem]
  intro p q hp hq hpq
  have hq' : q < (idx5 n).size := by rw [← hs]; simpa using hq
  have hp' : p < (sorted5 f (idx5 n)).size := by simpa using hp
  have hq2 : q < (sorted5 f (idx5 n)).size := by simpa using hq
  have := hsort p q (Nat.zero_le _) hpq hq'
  rw [lt5_eq, decide_eq_false_iff_not, getElem!_pos (sorted5 f (idx5 n)) p hp', getElem!_pos (sorted5 f (idx5 n)) q hq2] at this
  simp only [Array.getElem_toList]
  omega
theorem idxL_nodup (n : Nat) : (idxL n).Nodup := (by decide : ([0, 1, 2, 3, 4] : List (Fin 5)).Nodup).sublist (List.take_sublist _ _)
theorem lev_eq (m : Fin 5 → Int) (n : Nat) (hn : n ≤ 5) (p L : Int) (hL : 0 ≤ L) (hp : p = ((idxL n).map fun i => min (m i) L).sum) (j : Fin 5) : lev m n p j = if j ∈ idxL n then min (m j) L else 0 := by
  have hperm := sorted5_perm m n
  have h := levRun_eq m n L hL (sorted5 m (idx5 n)).toList 0 p (fun _ => 0) (by rw [hperm.length_eq, idxL_length _ hn]; omega) (hperm.nodup_iff.2 (idxL_nodup n)) (sorted5_pair m n) (by rw [hp]; exact (perm_sum (hperm.map _)).symm) j
  unfold lev
  rw [h]
  by_cases hj : j ∈ idxL n
  · rw [if_pos hj, if_pos (hperm.mem_iff.2 hj)]
  · rw [if_neg hj, if_neg (fun h => hj (hperm.mem_iff.1 h))]
theorem take_idx (f : Fin 5 → Int) (n : Nat) : (list5 f).take n = (idxL n).map f := by simp [list5, idxL, List.map_take]
theorem lev_all (m : Fin 5 → Int) (n : Nat) (hn : n ≤ 5) (hm : ∀ i, 0 ≤ m i ∧ m i ≤ 1000000) (j : Fin 5) (hj : j ∈ idxL n) : lev m n ((idxL n).map m).sum j = m j := by
  have e : ((idxL n).map m).sum = ((idxL n).map fun i => min (m i) 1000000).sum := by
    congr 1
    exact List.map_congr_left fun i _ => by have := hm i; omega
  rw [lev_eq m n hn _ 1000000 (by decide) e, if_pos hj]
  have := hm j; omega
theorem half_idx : ∀ (zs : List Int), zs.length ≤ 5 → (idxL zs.length).map (fun i => K zs i / 2) = zs.map fun z => 60 * z
  | [], _ => rfl
  | [a], _ => by
    have e0 : K [a] 0 = a * 120 := rfl
    simp [idxL, e0]; omega
  | [a, b], _ => by
    have e0 : K [a, b] 0 = a * 120 := rfl
    have e1 : K [a, b] 1 = b * 120 := rfl
    simp [idxL, e0, e1]; omega
  | [a, b, c], _ => by
    have e0 : K [a, b, c] 0 = a * 120 := rfl
    have e1 : K [a, b, c] 1 = b * 120 := rfl
    have e2 : K [a, b, c] 2 = c * 120 := rfl
    simp [idxL, e0, e1, e2]; omega
  | [a, b, c, d], _ => by
    have e0 : K [a, b, c, d] 0 = a * 120 := rfl
    have e1 : K [a, b, c, d] 1 = b * 120 := rfl
    have e2 : K [a, b, c, d] 2 = c * 120 := rfl
    have e3 : K [a, b, c, d] 3 = d * 120 := rfl
    simp [idxL, e0, e1, e2, e3]; omega
  | [a, b, c, d, e], _ => by
    have e0 : K [a, b, c, d, e] 0 = a * 120 := rfl
    have e1 : K [a, b, c, d, e] 1 = b * 120 := rfl
    have e2 : K [a, b, c, d, e] 2 = c * 120 := rfl
    have e3 : K [a, b, c, d, e] 3 = d * 120 := rfl
    have e4 : K [a, b, c, d, e] 4 = e * 120 := rfl
    simp [idxL, e0, e1, e2, e3, e4]; omega
  | a :: b :: c :: d :: e :: f :: zs, h => absurd h (by simp)
theorem sum_sixty : ∀ zs : List Int, (zs.map fun z => 60 * z).sum = 60 * zs.sum
  | [] => rfl
  | z :: zs => by simp only [List.map_cons, List.sum_cons, sum_sixty zs]; omega
theorem half_five (zs : List Int) (h : zs.length ≤ 5) : K zs 0 / 2 + K zs 1 / 2 + K zs 2 / 2 + K zs 3 / 2 + K zs 4 / 2 = 60 * zs.sum := by
  have e : ∀ i, K zs i / 2 = 60 * nth zs i.val := fun i => by unfold K; omega
  rw [e, e, e, e, e, sum5 h]
  show 60 * nth zs 0 + 60 * nth zs 1 + 60 * nth zs 2 + 60 * nth zs 3 + 60 * nth zs 4 = _
  omega
theorem divide_half (x : Int) (a : Option Addr) (cap : Nat) (zs : List Int) (w : World) (hA : IntsAt w a zs) (hc : chk x zs = 0) (hs : zs.sum = 2 * x) :
    Calls Try.prog 50 #[.int .i64 x, .slice a zs.length cap] w fun e w' => ∃ v, e = .returned (.tuple #[v, .int .i64 0]) ∧ Owns w' w.heap.size v (zs.map fun z => 60 * z) ∧ RowKit.Below w.heap.size w w' := by
  obtain ⟨h1, h5, h3, _, _⟩ := chk_ok hc
  have hf := K_pt h3
  have hfive := half_five zs h5
  refine (divide_lo x a cap zs (fun i => K zs i / 2) w rfl hA hc (by omega)).mono ?_
  rintro e w' ⟨v, h, hO, hB⟩
  refine ⟨v, h, ?_, hB⟩
  have hp : x * 120 = ((idxL zs.length).map (fun i => K zs i / 2)).sum := by rw [half_idx zs h5, sum_sixty]; omega
  have hl : (list5 (lev (fun i => K zs i / 2) zs.length (x * 120))).take zs.length = zs.map fun z => 60 * z := by
    rw [take_idx, ← half_idx zs h5]
    refine List.map_congr_left fun j hj => ?_
    rw [hp, lev_all (fun i => K zs i / 2) zs.length h5 (fun i => by have := hf i; constructor <;> (show _) <;> omega) j hj]
  rw [← hl]; exact hO
end Go.Proofs.Ytimddkofcejijaa.Cl
