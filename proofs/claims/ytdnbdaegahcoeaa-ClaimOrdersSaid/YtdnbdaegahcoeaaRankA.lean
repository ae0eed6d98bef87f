/- Layer 1: houses that change places. -/
import Derived.Test.YtdnbdaegahcoeaaDualC
namespace Go.Proofs.Ytdnbdaegahcoeaa
open Go.RowKit Go.Sort
/-- the exchange of two houses. -/
def tauF (i k : Fin 5) (j : Fin 5) : Fin 5 := if j = i then k else if j = k then i else j
theorem tau_tau (i k j : Fin 5) : tauF i k (tauF i k j) = j := by
  unfold tauF; split <;> (try split) <;> (try split) <;> simp_all
theorem tau_inj (i k a b : Fin 5) (h : tauF i k a = tauF i k b) : a = b := by
  have := congrArg (tauF i k) h; rwa [tau_tau, tau_tau] at this
theorem tau_idx : ∀ (n : Fin 6) (i k : Fin 5), i.val < n.val → k.val < n.val → ((idxL n.val).map (tauF i k)).Perm (idxL n.val) := by decide +kernel
theorem tau_vis : ∀ (n : Fin 6) (i k : Fin 5), i.val < k.val → k.val < n.val → ((vis n.val (idxL n.val) 0).map (List.map (tauF i k))).Perm (vis n.val (idxL n.val) 0) := by decide +kernel
theorem tau_comm (i k : Fin 5) : tauF i k = tauF k i := by
  funext j; unfold tauF; split <;> (try split) <;> (try split) <;> simp_all
theorem tau_self (i : Fin 5) : tauF i i = id := by
  funext j; unfold tauF; split <;> simp_all
theorem tau_vis' (n : Nat) (hn : n ≤ 5) (i k : Fin 5) (hi : i.val < n) (hk : k.val < n) : ((vis n (idxL n) 0).map (List.map (tauF i k))).Perm (vis n (idxL n) 0) := by
  rcases Nat.lt_trichotomy i.val k.val with h | h | h
  · exact tau_vis ⟨n, by omega⟩ i k h hk
  · have e : i = k := Fin.ext h
    subst e
    rw [tau_self]
    simp
  · rw [tau_comm]
    exact tau_vis ⟨n, by omega⟩ k i h hi
theorem inF_tau (m : Fin 5 → Int) (i k : Fin 5) : ∀ (o : List (Fin 5)) (x : Int) (g g' : Fin 5 → Int), (∀ j, g j = g' (tauF i k j)) → ∀ j, inF (fun a => m (tauF i k a)) o x g j = inF m (o.map (tauF i k)) x g' (tauF i k j)
  | [], _, _, _, h, j => h j
  | a :: o, x, g, g', h, j => by
    show inF (fun a => m (tauF i k a)) o _ (upd g a _) j = inF m (o.map (tauF i k)) _ (upd g' (tauF i k a) _) (tauF i k j)
    refine inF_tau m i k o _ _ _ (fun b => ?_) j
    unfold upd
    by_cases e : b = a
    · subst e; simp
    · rw [if_neg e, if_neg (fun e' => e (tau_inj i k _ _ e'))]
      exact h b
theorem addAll_tau (m : Fin 5 → Int) (n : Nat) (hn : n ≤ 5) (i k : Fin 5) (hi : i.val < n) (hk : k.val < n) (x : Int) (j : Fin 5) :
    addAll (fun a => m (tauF i k a)) x (vis n (idxL n) 0) (fun _ => 0) j = addAll m x (vis n (idxL n) 0) (fun _ => 0) (tauF i k j) := by
  rw [addAll_eq, addAll_eq]
  have h := perm_sum ((tau_vis' n hn i k hi hk).map fun o => inF m o x (fun _ => 0) (tauF i k j))
  rw [← h, List.map_map]
  congr 1
  congr 1
  refine List.map_congr_left fun o _ => ?_
  exact inF_tau m i k o x (fun _ => 0) (fun _ => 0) (fun _ => rfl) j
theorem lev_tau (m : Fin 5 → Int) (n : Nat) (hn : n ≤ 5) (hm : ∀ i, 0 ≤ m i ∧ 60 ∣ m i) (i k : Fin 5) (hi : i.val < n) (hk : k.val < n) (p : Int) (hp : 0 ≤ p) (hd : 60 ∣ p) (hs : p ≤ ((idxL n).map m).sum) (j : Fin 5) (hj : j.val < n) :
    lev (fun a => m (tauF i k a)) n p j = lev m n p (tauF i k j) := by
  obtain ⟨L, h0, h1, h2⟩ := lev_level m n hn hm p hp hd hs
  have hpm := tau_idx ⟨n, by omega⟩ i k hi hk
  simp only at hpm
  have e : p = ((idxL n).map fun a => min (m (tauF i k a)) L).sum := by
    rw [h1]
    have := perm_sum (hpm.map fun a => min (m a) L)
    rw [← this, List.map_map]; rfl
  have hjm : j ∈ idxL n := idx_mem ⟨n, by omega⟩ j hj
  rw [h2, lev_eq _ n hn p L h0 e, if_pos hjm, if_pos (hpm.mem_iff.1 (List.mem_map_of_mem hjm))]
theorem sum_tau (m : Fin 5 → Int) (i j : Fin 5) (hm : m j ≤ m i) : ∀ l : List (Fin 5), i ∉ l → l.Nodup →
    (l.map m).sum ≤ ((l.map (tauF i j)).map m).sum ∧ ((l.map (tauF i j)).map m).sum ≤ (l.map m).sum + (m i - m j) ∧ (j ∉ l → ((l.map (tauF i j)).map m).sum = (l.map m).sum)
  | [], _, _ => by simp; omega
  | a :: l, hi, hnd => by
    rw [List.nodup_cons] at hnd
    have hai : a ≠ i := fun e => hi (by simp [e])
    have ih := sum_tau m i j hm l (fun h => hi (List.mem_cons_of_mem _ h)) hnd.2
    simp only [List.map_cons, List.sum_cons]
    by_cases e : a = j
    · subst e
      have h3 := ih.2.2 hnd.1
      have ht : tauF i a a = i := by unfold tauF; rw [if_neg hai, if_pos rfl]
      rw [ht]
      exact ⟨by omega, by omega, fun h => absurd (List.mem_cons_self ..) h⟩
    · have ht : tauF i j a = a := by unfold tauF; rw [if_neg hai, if_neg e]
      rw [ht]
      exact ⟨by omega, by omega, fun h => by have := ih.2.2 (fun h' => h (List.mem_cons_of_mem _ h')); omega⟩
/-- in an order i gets and loses no less than j does in the order in which they change places. -/
theorem inF_rank (m : Fin 5 → Int) (hm0 : ∀ i, 0 ≤ m i) (i j : Fin 5) (hm : m j ≤ m i) (o : List (Fin 5)) (hnd : o.Nodup) (x : Int) (hx : 0 ≤ x) (hi : i ∈ o) :
    inF m (o.map (tauF i j)) x (fun _ => 0) j ≤ inF m o x (fun _ => 0) i ∧ m j - inF m (o.map (tauF i j)) x (fun _ => 0) j ≤ m i - inF m o x (fun _ => 0) i := by
  obtain ⟨l1, l2, rfl⟩ := List.append_of_mem hi
  have hn := List.nodup_append.1 hnd
  have hi2 : i ∉ l2 := (List.nodup_cons.1 hn.2.1).1
  have hi1 : i ∉ l1 := fun h => hn.2.2 i h i (List.mem_cons_self ..) rfl
  have ht : tauF i j i = j := by unfold tauF; rw [if_pos rfl]
  have hj2 : j ∉ l2.map (tauF i j) := by
    intro h
    obtain ⟨a, ha, e⟩ := List.mem_map.1 h
    have : a = i := tau_inj i j a i (by rw [e, ht])
    exact hi2 (this ▸ ha)
  rw [List.map_append, List.map_cons, ht, inF_get m hm0 j _ hj2 _ x _ hx, inF_get m hm0 i l2 hi2 l1 x _ hx]
  have hs := sum_tau m i j hm l1 hi1 hn.1
  have hmj := hm0 j
  omega
theorem addAll_rank (m : Fin 5 → Int) (hm0 : ∀ i, 0 ≤ m i) (n : Nat) (hn : n ≤ 5) (i j : Fin 5) (hi : i.val < n) (hj : j.val < n) (hm : m j ≤ m i) (x : Int) (hx : 0 ≤ x) :
    addAll m x (vis n (idxL n) 0) (fun _ => 0) j ≤ addAll m x (vis n (idxL n) 0) (fun _ => 0) i ∧ m j * (fct n : Int) - addAll m x (vis n (idxL n) 0) (fun _ => 0) j ≤ m i * (fct n : Int) - addAll m x (vis n (idxL n) 0) (fun _ => 0) i := by
  rw [addAll_eq, addAll_eq]
  have h := perm_sum ((tau_vis' n hn i j hi hj).map fun o => inF m o x (fun _ => 0) j)
  rw [← h, List.map_map, ← vis_length n (idxL n) 0]
  have hp := vis_perm ⟨n, by omega⟩
  simp only at hp
  have key : ∀ l : List (List (Fin 5)), (∀ o ∈ l, o.Perm (idxL n)) → (l.map ((fun o => inF m o x (fun _ => 0) j) ∘ List.map (tauF i j))).sum ≤ (l.map fun o => inF m o x (fun _ => 0) i).sum ∧
      m j * (l.length : Int) - (l.map ((fun o => inF m o x (fun _ => 0) j) ∘ List.map (tauF i j))).sum ≤ m i * (l.length : Int) - (l.map fun o => inF m o x (fun _ => 0) i).sum := by
    intro l hl
    induction l with
    | nil => simp
    | cons o l ih =>
      have hpo := hl o (List.mem_cons_self ..)
      have h1 := inF_rank m hm0 i j hm o (hpo.nodup_iff.2 (idxL_nodup n)) x hx (hpo.mem_iff.2 (idx_mem ⟨n, by omega⟩ i hi))
      have h2 := ih (fun o ho => hl o (List.mem_cons_of_mem _ ho))
      simp only [List.map_cons, List.sum_cons, List.length_cons, Function.comp_def] at *
      rw [show ((l.length + 1 : Nat) : Int) = (l.length : Int) + 1 by omega, Int.mul_add, Int.mul_add, Int.mul_one, Int.mul_one]
      omega
  have := key _ hp
  simp only [Function.comp_def] at *
  omega
end Go.Proofs.Ytdnbdaegahcoeaa
