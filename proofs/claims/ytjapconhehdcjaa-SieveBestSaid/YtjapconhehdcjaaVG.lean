/- pure: loads turned round, and multiplied -/
import Derived.Test.YtjapconhehdcjaaVD
import Derived.Test.YtjapconhehdcjaaMSC
namespace Go.Proofs.Ytjapconhehdcjaa
open Go.RowKit Go.Sort
namespace Sv
theorem trs_nodup (n : Nat) : (trs n).Nodup := by
  induction n using Nat.strongRecOn with
  | ind n ih =>
    cases n with
    | zero => rw [trs_zero]; simp
    | succ n =>
      rw [trs_succ]
      refine List.pairwise_flatMap.2 ⟨fun i hi => ?_, ?_⟩
      · rw [List.mem_range] at hi
        refine List.pairwise_flatMap.2 ⟨fun l hl => ?_, ?_⟩
        · rw [List.pairwise_map]
          exact (ih (n - i) (by omega)).imp fun h e => h (by injection e)
        · refine (ih i (by omega)).imp fun h x hx y hy e => ?_
          obtain ⟨r, _, rfl⟩ := List.mem_map.1 hx
          obtain ⟨r', _, rfl⟩ := List.mem_map.1 hy
          injection e with e1 _
          exact h e1
      · refine List.Pairwise.imp_of_mem ?_ List.pairwise_lt_range
        intro i j hi hj h x hx y hy e
        obtain ⟨l, hl, hx⟩ := List.mem_flatMap.1 hx
        obtain ⟨r, _, rfl⟩ := List.mem_map.1 hx
        obtain ⟨l', hl', hy⟩ := List.mem_flatMap.1 hy
        obtain ⟨r', _, rfl⟩ := List.mem_map.1 hy
        injection e with e1 _
        have k1 := (mem_trs _ _).1 hl
        have k2 := (mem_trs _ _).1 hl'
        rw [e1] at k1
        omega
theorem perm_of_mem {α : Type} [BEq α] [LawfulBEq α] {a b : List α} (ha : a.Nodup) (hb : b.Nodup) (h : ∀ x, x ∈ a ↔ x ∈ b) : a.Perm b := by
  rw [List.perm_iff_count]
  intro x
  by_cases hx : x ∈ a
  · rw [ha.count, hb.count, if_pos hx, if_pos ((h x).1 hx)]
  · rw [List.count_eq_zero.2 hx, List.count_eq_zero.2 fun q => hx ((h x).2 q)]
theorem mir_perm (n : Nat) : ((trs n).map mir).Perm (trs n) := by
  refine perm_of_mem ?_ (trs_nodup n) fun t => ?_
  · show List.Pairwise _ _
    rw [List.pairwise_map]
    exact (trs_nodup n).imp fun {a b} h e => h (by rw [← mir_mir a, e, mir_mir b])
  · rw [List.mem_map]
    constructor
    · rintro ⟨u, hu, rfl⟩
      rw [mem_trs] at hu ⊢
      rw [mir_size, hu]
    · intro ht
      exact ⟨mir t, by rw [mem_trs] at ht ⊢; rw [mir_size, ht], mir_mir t⟩
/-- the least questions are what no tree is below and some tree has. -/
theorem least_uniq {zs : List Int} (hz : ∀ z ∈ zs, 0 ≤ z) (h1 : 1 ≤ zs.length) {v : Int} (hle : ∀ t : Tr, t.size = zs.length → v ≤ qst zs t) (hex : ∃ t : Tr, t.size = zs.length ∧ qst zs t = v) : f0 zs 0 (zs.length - 1) = v := by
  obtain ⟨t, ht, e⟩ := hex
  have a := bst_le hz h1 ht
  obtain ⟨u, us, hu⟩ := List.exists_cons_of_ne_nil (bst_ne zs)
  have b := bst_mem hz h1 (t := u) (by rw [hu]; simp)
  have c := hle u b.1
  omega
theorem least_ex {zs : List Int} (hz : ∀ z ∈ zs, 0 ≤ z) (h1 : 1 ≤ zs.length) : ∃ t : Tr, t.size = zs.length ∧ qst zs t = f0 zs 0 (zs.length - 1) := by
  obtain ⟨u, us, hu⟩ := List.exists_cons_of_ne_nil (bst_ne zs)
  exact ⟨u, bst_mem hz h1 (t := u) (by rw [hu]; simp)⟩
theorem rev_nn {zs : List Int} (hz : ∀ z ∈ zs, 0 ≤ z) : ∀ z ∈ zs.reverse, 0 ≤ z := fun z h => hz z (List.mem_reverse.1 h)
theorem least_rev {zs : List Int} (hz : ∀ z ∈ zs, 0 ≤ z) (h1 : 1 ≤ zs.length) : f0 zs.reverse 0 (zs.reverse.length - 1) = f0 zs 0 (zs.length - 1) := by
  refine least_uniq (rev_nn hz) (by rw [List.length_reverse]; exact h1) (fun t ht => ?_) ?_
  · rw [List.length_reverse] at ht
    have e := qst_mir zs (mir t) (by rw [mir_size, ht])
    rw [mir_mir] at e
    rw [e]
    exact bst_le hz h1 (by rw [mir_size, ht])
  · obtain ⟨t, ht, e⟩ := least_ex hz h1
    exact ⟨mir t, by rw [mir_size, List.length_reverse, ht], by rw [qst_mir zs t ht, e]⟩
theorem count_rev {zs : List Int} (hz : ∀ z ∈ zs, 0 ≤ z) (h1 : 1 ≤ zs.length) : (bstT zs.reverse).length = (bstT zs).length := by
  rw [bst_all hz h1, bst_all (rev_nn hz) (by rw [List.length_reverse]; exact h1), least_rev hz h1, List.length_reverse]
  have hp := (mir_perm (zs.length - 1)).filter fun t => qst zs.reverse t == f0 zs 0 (zs.length - 1)
  rw [← hp.length_eq, List.filter_map, List.length_map]
  congr 1
  refine List.filter_congr fun t ht => ?_
  have hs := (mem_trs _ _).1 ht
  show (qst zs.reverse (mir t) == _) = _
  rw [qst_mir zs t (by omega)]
theorem dotI_mul (c : Int) : ∀ (zs : List Int) (ds : List Nat), dotI (zs.map (c * ·)) ds = c * dotI zs ds
  | [], ds => by cases ds <;> simp [dotI]
  | z :: zs, [] => by simp [dotI]
  | z :: zs, d :: ds => by rw [List.map_cons, dotI, dotI, dotI_mul c zs ds, Int.mul_add, Int.mul_assoc]
theorem mul_nn {zs : List Int} (hz : ∀ z ∈ zs, 0 ≤ z) {c : Int} (hc : 0 < c) : ∀ z ∈ zs.map (c * ·), 0 ≤ z := fun z h => by
  obtain ⟨x, hx, rfl⟩ := List.mem_map.1 h
  exact Int.mul_nonneg (by omega) (hz x hx)
theorem least_mul {zs : List Int} (hz : ∀ z ∈ zs, 0 ≤ z) (h1 : 1 ≤ zs.length) {c : Int} (hc : 0 < c) : f0 (zs.map (c * ·)) 0 ((zs.map (c * ·)).length - 1) = c * f0 zs 0 (zs.length - 1) := by
  refine least_uniq (mul_nn hz hc) (by rw [List.length_map]; exact h1) (fun t ht => ?_) ?_
  · rw [List.length_map] at ht
    unfold qst
    rw [dotI_mul]
    exact Int.mul_le_mul_of_nonneg_left (bst_le hz h1 ht) (by omega)
  · obtain ⟨t, ht, e⟩ := least_ex hz h1
    exact ⟨t, by rw [List.length_map, ht], by unfold qst at *; rw [dotI_mul, e]⟩
theorem best_mul {zs : List Int} (hz : ∀ z ∈ zs, 0 ≤ z) (h1 : 1 ≤ zs.length) {c : Int} (hc : 0 < c) : bstT (zs.map (c * ·)) = bstT zs := by
  rw [bst_all hz h1, bst_all (mul_nn hz hc) (by rw [List.length_map]; exact h1), least_mul hz h1 hc, List.length_map]
  refine List.filter_congr fun t _ => ?_
  unfold qst
  rw [dotI_mul, Bool.eq_iff_iff, beq_iff_eq, beq_iff_eq]
  constructor
  · intro h; exact Int.eq_of_mul_eq_mul_left (by omega) h
  · intro h; rw [h]
end Sv
/-- what the program answers for loads that are good. -/
theorem good_vals {zs : List Int} (hc : chkL zs = 0) : leastE zs = f0 zs 0 (zs.length - 1) ∧ countE zs = ((Sv.bstT zs).length : Nat) ∧ anyE zs = Sv.huf zs.length zs ∧ ∃ t, (Sv.bstT zs).head? = some t ∧ t.size = zs.length ∧ Sv.qst zs t = f0 zs 0 (zs.length - 1) ∧ bestE zs = t.lst 0 := by
  have hz := chk_nn hc
  obtain ⟨h1, h8, _⟩ := chkL_zero hc
  refine ⟨by unfold leastE; rw [if_pos hc], by unfold countE; rw [if_pos hc, Sv.bst_count hz], by unfold anyE; rw [if_pos hc], ?_⟩
  obtain ⟨t, e1, e2⟩ := Sv.bst_first hz h1 h8
  have := Sv.bst_mem hz h1 (List.mem_of_mem_head? e1)
  exact ⟨t, e1, this.1, this.2, by unfold bestE; rw [if_pos hc, e2]⟩
/-- loads in the opposite order, and multiplied. -/
theorem turned_vals {zs : List Int} (hc : chkL zs = 0) {c : Int} (hc0 : 0 < c) (hm : chkL (zs.map (c * ·)) = 0) : chkL zs.reverse = 0 ∧ leastE zs.reverse = leastE zs ∧ leastE (zs.map (c * ·)) = c * leastE zs ∧ countE zs.reverse = countE zs ∧ countE (zs.map (c * ·)) = countE zs ∧ bestE (zs.map (c * ·)) = bestE zs ∧ anyE zs.reverse = anyE zs := by
  have hz := chk_nn hc
  obtain ⟨h1, h8, hb⟩ := chkL_zero hc
  have hr : chkL zs.reverse = 0 := chk_of (m := 100) (by rw [List.length_reverse]; exact h1) (by rw [List.length_reverse]; exact h8) (by omega) fun z h => hb z (List.mem_reverse.1 h)
  obtain ⟨a1, a2, a3, t, a4, a5, a6, a7⟩ := good_vals hc
  obtain ⟨b1, b2, b3, _⟩ := good_vals hr
  obtain ⟨c1, c2, _, u, c4, c5, c6, c7⟩ := good_vals hm
  refine ⟨hr, ?_, ?_, ?_, ?_, ?_, ?_⟩
  · rw [b1, a1, Sv.least_rev hz h1]
  · rw [c1, a1, Sv.least_mul hz h1 hc0]
  · rw [b2, a2, Sv.count_rev hz h1]
  · rw [c2, a2, Sv.best_mul hz h1 hc0]
  · rw [Sv.best_mul hz h1 hc0] at c4
    rw [a4] at c4
    injection c4 with c4
    rw [c7, a7, c4]
  · rw [b3, a3, List.length_reverse]
    exact Sv.huf_perm _ (List.reverse_perm zs)
end Go.Proofs.Ytjapconhehdcjaa
