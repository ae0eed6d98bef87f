/- Layer 1: one order and its reverse. -/
import Derived.Test.YtdnbdaegahcoeaaLevel
namespace Go.Proofs.Ytdnbdaegahcoeaa
open Go.RowKit Go.Sort
theorem inF_not (m : Fin 5 → Int) : ∀ (o : List (Fin 5)) (x : Int) (g : Fin 5 → Int) (j : Fin 5), j ∉ o → inF m o x g j = g j
  | [], _, _, _, _ => rfl
  | i :: o, x, g, j, h => by
    have hij : j ≠ i := fun e => h (by simp [e])
    show inF m o _ (upd g i _) j = _
    rw [inF_not m o _ _ j (fun e => h (List.mem_cons_of_mem _ e))]
    simp [upd, hij]
theorem inF_get (m : Fin 5 → Int) (hm : ∀ i, 0 ≤ m i) (j : Fin 5) (l2 : List (Fin 5)) (hj : j ∉ l2) : ∀ (l1 : List (Fin 5)) (x : Int) (g : Fin 5 → Int), 0 ≤ x → inF m (l1 ++ j :: l2) x g j = min (m j) (max 0 (x - (l1.map m).sum))
  | [], x, g, hx => by
    show inF m l2 _ (upd g j _) j = _
    rw [inF_not m l2 _ _ j hj]
    simp [upd]
    omega
  | i :: l1, x, g, hx => by
    show inF m (l1 ++ j :: l2) (x - min (m i) x) (upd g i _) j = _
    have h0 := hm i
    rw [inF_get m hm j l2 hj l1 _ _ (by omega)]
    simp only [List.map_cons, List.sum_cons]
    have hs : 0 ≤ (l1.map m).sum := by
      induction l1 with
      | nil => simp
      | cons a l ih => have := hm a; simp only [List.map_cons, List.sum_cons]; omega
    omega
theorem sum_rev (m : Fin 5 → Int) (l : List (Fin 5)) : (l.reverse.map m).sum = (l.map m).sum := perm_sum ((List.reverse_perm l).map m)
/-- one order, and the order read from its end for the rest: together each claim. -/
theorem inF_dual (m : Fin 5 → Int) (hm : ∀ i, 0 ≤ m i) (o : List (Fin 5)) (hnd : o.Nodup) (x : Int) (h0 : 0 ≤ x) (h1 : x ≤ (o.map m).sum) (g : Fin 5 → Int) (j : Fin 5) (hj : j ∈ o) :
    inF m o x g j + inF m o.reverse ((o.map m).sum - x) g j = m j := by
  obtain ⟨l1, l2, rfl⟩ := List.append_of_mem hj
  have hj2 : j ∉ l2 := by
    intro h
    have := (List.nodup_append.1 hnd).2.1
    exact (List.nodup_cons.1 this).1 h
  have hj1 : j ∉ l1.reverse := by
    intro h
    exact (List.nodup_append.1 hnd).2.2 j (List.mem_reverse.1 h) j (List.mem_cons_self ..) rfl
  rw [inF_get m hm j l2 hj2 l1 x g h0]
  have hr : (l1 ++ j :: l2).reverse = l2.reverse ++ j :: l1.reverse := by simp
  rw [hr, inF_get m hm j l1.reverse hj1 l2.reverse _ g (by omega), sum_rev]
  have hs : ((l1 ++ j :: l2).map m).sum = (l1.map m).sum + (m j + (l2.map m).sum) := by simp
  have := hm j
  rw [hs]; omega
/-- what is given out in one order. -/
theorem inF_pos (m : Fin 5 → Int) (hm : ∀ i, 0 ≤ m i) (o : List (Fin 5)) (hnd : o.Nodup) (x : Int) (h0 : 0 ≤ x) (g : Fin 5 → Int) (j : Fin 5) (hj : j ∈ o) : 0 ≤ inF m o x g j ∧ inF m o x g j ≤ m j := by
  obtain ⟨l1, l2, rfl⟩ := List.append_of_mem hj
  have hj2 : j ∉ l2 := by
    intro h
    exact (List.nodup_cons.1 (List.nodup_append.1 hnd).2.1).1 h
  rw [inF_get m hm j l2 hj2 l1 x g h0]
  have := hm j; omega
end Go.Proofs.Ytdnbdaegahcoeaa
