/- what SieveBest compares -/
import Derived.Test.YtjapconhehdcjaaWF
import Derived.Test.YtjapconhehdcjaaVH
import Derived.Test.YtjapconhehdcjaaVD
import Derived.Test.YtjapconhehdcjaaVO
import Derived.Deep.DeepCutAuto
namespace Go.Proofs.Ytjapconhehdcjaa
open Go.RowKit Go.Sort
theorem quest_tree {zs : List Int} (hc : chkL zs = 0) {t : Sv.Tr} (ht : t.size = zs.length) : questC zs (t.lst 0) = 0 ∧ questE zs (t.lst 0) = Sv.qst zs t := by
  obtain ⟨h1, h8, _⟩ := chkL_zero hc
  have hC : questC zs (t.lst 0) = 0 := by
    unfold questC
    rw [if_pos hc, ← ht]
    exact valid_tree t (by omega)
  refine ⟨hC, ?_⟩
  unfold questE
  rw [if_pos hC]
  have hd := Sv.depE_tree t zs.length ht
  have hdl : t.dep.length = zs.length := by rw [Sv.dep_len, ht]
  have key : ∀ i, i ≤ zs.length → qsS zs (t.lst 0) i = Sv.dotI zs (t.dep.take i) := fun i => by
    induction i with
    | zero => intro _; rw [List.take_zero, Sv.dotI_nil]; rfl
    | succ i ih =>
      intro hi
      rw [qsS, ih (by omega), Sv.dotI_take zs t.dep i (by omega) (by omega)]
      have e : dep1 zs.length (t.lst 0) i = nth (castL t.dep) i := by
        have h2 : nth (depE zs.length (t.lst 0)) i = nth (castL t.dep) i := by rw [hd]; rfl
        rw [← h2, nth_eq]
        unfold depE
        rw [List.getElem?_map, List.getElem?_range (by omega)]; rfl
      rw [e]
  rw [key _ (Nat.le_refl _), ← hdl, List.take_length]; rfl
theorem tops_first {zs : List Int} (hc : chkL zs = 0) {n : Nat} (hn : zs.length = n + 2) {t u : Sv.Tr} (ht : (Sv.bstT zs).head? = some t) (hu : (Sv.bstT zs).getLast? = some u) : topsC zs = 0 ∧ topsE zs = (nth (t.lst 0) 0, nth (u.lst 0) 0) := by
  have hz := chk_nn hc
  have hC : topsC zs = 0 := by unfold topsC; rw [if_pos hc, if_neg (by omega)]
  refine ⟨hC, ?_⟩
  unfold topsE
  rw [if_pos hC]
  have hF := Sv.F0_link hz n 0
  rw [Nat.zero_add] at hF
  have e1 : zs.length - 1 = n + 1 := by omega
  unfold Sv.bstT at ht hu
  rw [e1] at ht hu ⊢
  obtain ⟨b1, b2⟩ := Sv.best_tops (Sv.smN zs) n ht hu
  rw [Sv.lst_top, Sv.lst_top, hF]
  generalize Sv.topB (Sv.smN zs) 0 n = L at *
  rw [List.head?_eq_getElem?] at b1
  rw [List.getLast?_eq_getElem?] at b2
  simp only [Nat.zero_add]
  rw [nth_eq, nth_eq, List.getElem?_map, List.getElem?_map, List.length_map, b1, b2]; rfl
theorem tops_one {zs : List Int} (hc : chkL zs = 0) (hn : zs.length = 1) : topsC zs = 2 ∧ topsE zs = (0, 0) := by
  have hC : topsC zs = 2 := by unfold topsC; rw [if_pos hc, if_pos hn]
  refine ⟨hC, ?_⟩
  unfold topsE
  rw [hC]; rfl
/-- all that SieveBest compares. -/
theorem best_vals {zs : List Int} (hc : chkL zs = 0) {v : Int} {m : Nat} {hd lt : Option Sv.Tr} (h : Sv.BestSt zs (Sv.trs (zs.length - 1)) v m hd lt) : leastE zs = v ∧ countE zs = (m : Nat) ∧ ∃ t u, hd = some t ∧ lt = some u ∧ t.size = zs.length ∧ u.size = zs.length ∧ bestE zs = t.lst 0 ∧ questC zs (t.lst 0) = 0 ∧ questE zs (t.lst 0) = v ∧ (Sv.bstT zs).head? = some t ∧ (Sv.bstT zs).getLast? = some u := by
  have hz := chk_nn hc
  obtain ⟨h1, h8, _⟩ := chkL_zero hc
  obtain ⟨e1, e2, e3, e4⟩ := Sv.st_end hz h1 h
  obtain ⟨a1, a2, _, t, a4, a5, a6, a7⟩ := good_vals hc
  obtain ⟨q1, q2⟩ := quest_tree hc a5
  obtain ⟨u, hu⟩ : ∃ u, (Sv.bstT zs).getLast? = some u := ⟨_, List.getLast?_eq_some_getLast (Sv.bst_ne zs)⟩
  refine ⟨by rw [a1, e1], by rw [a2, e2], t, u, by rw [e3, a4], by rw [e4, hu], a5, (Sv.bst_mem hz h1 (List.mem_of_getLast? hu)).1, a7, q1, by rw [q2, a6, e1], a4, hu⟩
end Go.Proofs.Ytjapconhehdcjaa
