/- Layer 1: the average: exact, gives out x, and its duality. -/
import Derived.Test.YtdnbdaegahcoeaaAllDual
namespace Go.Proofs.Ytdnbdaegahcoeaa
open Go.RowKit Go.Sort
theorem inF_dvd (m : Fin 5 → Int) (D : Int) (hm : ∀ i, D ∣ m i) : ∀ (o : List (Fin 5)) (x : Int) (g : Fin 5 → Int) (j : Fin 5), D ∣ x → (∀ i, D ∣ g i) → D ∣ inF m o x g j
  | [], _, _, j, _, hg => hg j
  | i :: o, x, g, j, hx, hg => by
    have hmin : D ∣ min (m i) x := by
      rcases Int.le_total (m i) x with h | h
      · rw [Int.min_eq_left h]; exact hm i
      · rw [Int.min_eq_right h]; exact hx
    refine inF_dvd m D hm o _ _ j (Int.dvd_sub hx hmin) (fun a => ?_)
    unfold upd
    split
    · exact hmin
    · exact hg a
theorem inF_sum (m : Fin 5 → Int) (hm : ∀ i, 0 ≤ m i) : ∀ (o : List (Fin 5)) (x : Int) (g : Fin 5 → Int), o.Nodup → 0 ≤ x → (o.map (inF m o x g)).sum = min x (o.map m).sum
  | [], x, _, _, h => by simp; omega
  | i :: o, x, g, hnd, h => by
    rw [List.nodup_cons] at hnd
    have h0 := hm i
    have ih := inF_sum m hm o (x - min (m i) x) (upd g i (min (m i) x)) hnd.2 (by omega)
    have hi : inF m (i :: o) x g i = min (m i) x := by
      show inF m o _ (upd g i _) i = _
      rw [inF_not m o _ _ i hnd.1]; simp [upd]
    have ho : o.map (inF m (i :: o) x g) = o.map (inF m o (x - min (m i) x) (upd g i (min (m i) x))) := rfl
    have hs : 0 ≤ (o.map m).sum := by
      clear ih ho hi hnd
      induction o with
      | nil => simp
      | cons a l ih => have := hm a; simp only [List.map_cons, List.sum_cons]; omega
    simp only [List.map_cons, List.sum_cons, hi, ho, ih]
    omega
theorem sum_zero (l : List (Fin 5)) : (l.map fun _ => (0 : Int)).sum = 0 := by induction l <;> simp_all
theorem sum_addf (f g : Fin 5 → Int) : ∀ l : List (Fin 5), (l.map fun j => f j + g j).sum = (l.map f).sum + (l.map g).sum
  | [] => by simp
  | a :: l => by have := sum_addf f g l; simp only [List.map_cons, List.sum_cons] at *; omega
theorem sum_swap (F : List (Fin 5) → Fin 5 → Int) (is : List (Fin 5)) : ∀ l : List (List (Fin 5)), (is.map fun j => (l.map fun o => F o j).sum).sum = (l.map fun o => (is.map (F o)).sum).sum
  | [] => by simp [sum_zero]
  | o :: l => by
    have ih := sum_swap F is l
    simp only [List.map_cons, List.sum_cons]
    rw [sum_addf, ih]
theorem sum_same (c : Int) : ∀ (l : List (List (Fin 5))) (f : List (Fin 5) → Int), (∀ o ∈ l, f o = c) → (l.map f).sum = c * (l.length : Int)
  | [], _, _ => by simp
  | o :: l, f, h => by
    have ih := sum_same c l f (fun o ho => h o (List.mem_cons_of_mem _ ho))
    have := h o (List.mem_cons_self ..)
    simp only [List.map_cons, List.sum_cons, List.length_cons]
    rw [show ((l.length + 1 : Nat) : Int) = (l.length : Int) + 1 by omega, Int.mul_add, Int.mul_one]
    omega
/-- the average's part, of a point. -/
def avgP (m : Fin 5 → Int) (n : Nat) (x : Int) (j : Fin 5) : Int := addAll m x (vis n (idxL n) 0) (fun _ => 0) j / (fct n : Int)
theorem fct_dvd : ∀ n : Fin 6, ((fct n.val : Nat) : Int) ∣ 120 ∧ 0 < fct n.val := by decide
theorem avgP_mul (m : Fin 5 → Int) (n : Nat) (hn : n ≤ 5) (x : Int) (hm : ∀ i, 120 ∣ m i) (hx : 120 ∣ x) (j : Fin 5) : addAll m x (vis n (idxL n) 0) (fun _ => 0) j = avgP m n x j * (fct n : Int) := by
  have hf := fct_dvd ⟨n, by omega⟩
  simp only at hf
  have hd : (fct n : Int) ∣ addAll m x (vis n (idxL n) 0) (fun _ => 0) j := by
    rw [addAll_eq, Int.zero_add]
    refine Int.dvd_trans hf.1 ?_
    generalize vis n (idxL n) 0 = l
    induction l with
    | nil => simp
    | cons o l ih =>
      simp only [List.map_cons, List.sum_cons]
      exact Int.dvd_add (inF_dvd m 120 hm o x _ j hx (fun _ => Int.dvd_zero _)) ih
  unfold avgP
  rw [Int.ediv_mul_cancel hd]
theorem avg_dual (m : Fin 5 → Int) (hm : ∀ i, 0 ≤ m i ∧ 120 ∣ m i) (n : Nat) (hn : n ≤ 5) (x : Int) (h0 : 0 ≤ x) (hx : 120 ∣ x) (hS : 120 ∣ ((idxL n).map m).sum) (h1 : x ≤ ((idxL n).map m).sum) (j : Fin 5) (hj : j ∈ idxL n) :
    avgP m n x j + avgP m n (((idxL n).map m).sum - x) j = m j := by
  have h := all_dual m (fun i => (hm i).1) n hn x h0 h1 j hj
  rw [avgP_mul m n hn x (fun i => (hm i).2) hx, avgP_mul m n hn _ (fun i => (hm i).2) (Int.dvd_sub hS hx), ← Int.add_mul] at h
  have hf := fct_dvd ⟨n, by omega⟩
  simp only at hf
  exact Int.eq_of_mul_eq_mul_right (show (fct n : Int) ≠ 0 by omega) h
theorem avg_sum (m : Fin 5 → Int) (hm : ∀ i, 0 ≤ m i ∧ 120 ∣ m i) (n : Nat) (hn : n ≤ 5) (x : Int) (h0 : 0 ≤ x) (hx : 120 ∣ x) (h1 : x ≤ ((idxL n).map m).sum) : ((idxL n).map (avgP m n x)).sum = x := by
  have hp := vis_perm ⟨n, by omega⟩
  have hf := fct_dvd ⟨n, by omega⟩
  simp only at hp hf
  have h := sum_swap (fun o => inF m o x (fun _ => 0)) (idxL n) (vis n (idxL n) 0)
  rw [sum_same x _ _ (fun o ho => by
    have hpo := hp o ho
    rw [perm_sum ((hpo.symm).map (inF m o x fun _ => 0)), inF_sum m (fun i => (hm i).1) o x _ (hpo.nodup_iff.2 (idxL_nodup n)) h0, perm_sum (hpo.map m)]
    omega), vis_length] at h
  have e : ((idxL n).map fun j => ((vis n (idxL n) 0).map fun o => inF m o x (fun _ => 0) j).sum) = (idxL n).map fun j => avgP m n x j * (fct n : Int) := by
    refine List.map_congr_left fun j _ => ?_
    have := avgP_mul m n hn x (fun i => (hm i).2) hx j
    rw [addAll_eq, Int.zero_add] at this
    exact this
  rw [e] at h
  have hmul : ∀ l : List (Fin 5), (l.map fun j => avgP m n x j * (fct n : Int)).sum = (l.map (avgP m n x)).sum * (fct n : Int) := by
    intro l
    induction l with
    | nil => simp
    | cons a l ih => simp only [List.map_cons, List.sum_cons, ih, Int.add_mul]
  rw [hmul] at h
  exact Int.eq_of_mul_eq_mul_right (show (fct n : Int) ≠ 0 by omega) h
end Go.Proofs.Ytdnbdaegahcoeaa
