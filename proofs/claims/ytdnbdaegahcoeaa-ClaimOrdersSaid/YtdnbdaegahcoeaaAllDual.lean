/- Layer 1: all orders for x and for the rest. -/
import Derived.Test.YtdnbdaegahcoeaaDual
namespace Go.Proofs.Ytdnbdaegahcoeaa
open Go.RowKit Go.Sort
theorem vis_perm : ∀ n : Fin 6, ∀ o ∈ vis n.val (idxL n.val) 0, o.Perm (idxL n.val) := by decide +kernel
theorem vis_rev : ∀ n : Fin 6, ((vis n.val (idxL n.val) 0).map List.reverse).Perm (vis n.val (idxL n.val) 0) := by decide +kernel
theorem addAll_eq (m : Fin 5 → Int) (x : Int) (j : Fin 5) : ∀ (l : List (List (Fin 5))) (g : Fin 5 → Int), addAll m x l g j = g j + (l.map fun o => inF m o x (fun _ => 0) j).sum
  | [], g => by simp [addAll]
  | o :: l, g => by
    show addAll m x l (fun i => g i + inF m o x (fun _ => 0) i) j = _
    rw [addAll_eq m x j l]
    simp only [List.map_cons, List.sum_cons]
    omega
theorem sum_add_const (f g : List (Fin 5) → Int) (c : Int) : ∀ l : List (List (Fin 5)), (∀ o ∈ l, f o + g o = c) → (l.map f).sum + (l.map g).sum = c * (l.length : Int)
  | [], _ => by simp
  | o :: l, h => by
    have ih := sum_add_const f g c l (fun o ho => h o (List.mem_cons_of_mem _ ho))
    have := h o (List.mem_cons_self ..)
    simp only [List.map_cons, List.sum_cons, List.length_cons]
    rw [show ((l.length + 1 : Nat) : Int) = (l.length : Int) + 1 by omega, Int.mul_add, Int.mul_one]
    omega
/-- all orders for x, and all for the rest: together fct n times each claim. -/
theorem all_dual (m : Fin 5 → Int) (hm : ∀ i, 0 ≤ m i) (n : Nat) (hn : n ≤ 5) (x : Int) (h0 : 0 ≤ x) (h1 : x ≤ ((idxL n).map m).sum) (j : Fin 5) (hj : j ∈ idxL n) :
    addAll m x (vis n (idxL n) 0) (fun _ => 0) j + addAll m (((idxL n).map m).sum - x) (vis n (idxL n) 0) (fun _ => 0) j = m j * (fct n : Int) := by
  have hr := vis_rev ⟨n, by omega⟩
  have hp := vis_perm ⟨n, by omega⟩
  simp only at hr hp
  rw [addAll_eq, addAll_eq, ← vis_length n (idxL n) 0]
  have hs := perm_sum (hr.map fun o => inF m o (((idxL n).map m).sum - x) (fun _ => 0) j)
  rw [← hs, List.map_map]
  have := sum_add_const (fun o => inF m o x (fun _ => 0) j) (fun o => inF m o.reverse (((idxL n).map m).sum - x) (fun _ => 0) j) (m j) (vis n (idxL n) 0) (fun o ho => by
    have hpo := hp o ho
    have e : ((idxL n).map m).sum = (o.map m).sum := (perm_sum (hpo.map m)).symm
    simp only [e]
    exact inF_dual m hm o (hpo.nodup_iff.2 (idxL_nodup n)) x h0 (by rw [← e]; exact h1) _ j (hpo.mem_iff.2 hj))
  simp only [Function.comp_def]
  omega
end Go.Proofs.Ytdnbdaegahcoeaa
