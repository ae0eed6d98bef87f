/- rows of lists of one's own. -/
import Derived.Test.YtpgifeaejjjjnaaCM
import Derived.Laws.AppendOwnNone
namespace Go.Proofs.Ytpgifeaejjjjnaa
open Go.RowKit Go.Sort
/-- lists of numbers in a row of one's own, from B on. -/
def OwnX (w : World) (B : Nat) (v : Value) (zss : List (List Int)) : Prop := ∃ vals, w.ownsRow B 28 1 v zss.length vals ∧ Elems w 0 vals zss
theorem OwnX.fut {w w' : World} {B : Nat} {v : Value} {zss : List (List Int)} (h : OwnX w B v zss) (F : Fut w w') : OwnX w' B v zss := by
  obtain ⟨vals, h1, h2⟩ := h
  exact ⟨vals, row_fut h1 F, h2.fut F⟩
theorem OwnX.nil (w : World) (B : Nat) : OwnX w B (.slice none 0 0) [] := ⟨[], World.ownsRow_nil _ _ _ _, rfl, fun j hj => absurd hj (by simp)⟩
theorem OwnX.one {w : World} {v : Value} {zs : List Int} (h : Owns w 0 v zs) : OwnX (w.alloc (.cells #[v] 28)) w.heap.size (.slice (some ⟨w.heap.size, 0, none⟩) 1 1) [zs] :=
  ⟨[v], World.ownsRow_lit (base := w.heap.size) (e := 28) (size := 1) w #[v] 1 (Nat.le_refl _) (by unfold maxLen; omega) rfl, rfl, fun j hj => by
    obtain rfl : j = 0 := by simp at hj; exact hj
    exact ⟨v, rfl, h.fut (Fut.alloc _ _)⟩⟩
theorem Elems.cat {w w' : World} {vals vals' : List Value} {zss zss' : List (List Int)} {B : Nat} {u : Value} {n : Nat} {xs : List Value} (h : Elems w 0 vals zss) (h' : Elems w 0 vals' zss') (hu : w.ownsRow B 28 1 u n xs) (g : w.grownBy w' u.ownBlock) : Elems w' 0 (vals ++ vals') (zss ++ zss') := by
  refine ⟨by rw [List.length_append, List.length_append, h.1, h'.1], fun j hj => ?_⟩
  rw [List.length_append] at hj
  by_cases hlt : j < zss.length
  · obtain ⟨v, e, hv⟩ := h.2 j hlt
    refine ⟨v, by rw [List.getElem?_append_left (by have := h.1; omega)]; exact e, ?_⟩
    have : lth (zss ++ zss') j = lth zss j := by rw [lth_eq, lth_eq, List.getElem?_append_left hlt]
    rw [this]
    exact World.ownsRow.kept hv g (own_apart hv hu)
  · obtain ⟨v, e, hv⟩ := h'.2 (j - zss.length) (by omega)
    refine ⟨v, by rw [List.getElem?_append_right (by have := h.1; omega), h.1]; exact e, ?_⟩
    have : lth (zss ++ zss') j = lth zss' (j - zss.length) := by rw [lth_eq, lth_eq, List.getElem?_append_right (by omega)]
    rw [this]
    exact World.ownsRow.kept hv g (own_apart hv hu)
theorem Elems.cells {w : World} {B : Nat} {vals : List Value} {zss : List (List Int)} (h : Elems w B vals zss) : ∀ u ∈ vals, u.oneCell' = true := fun u hu => by
  obtain ⟨j, hj, rfl⟩ := List.getElem_of_mem hu
  obtain ⟨v, e, hv⟩ := h.2 j (by have := h.1; omega)
  rw [List.getElem?_eq_getElem hj] at e
  simp at e
  obtain ⟨a, cap, e2, _⟩ := hv.ints
  rw [e, e2]; rfl
theorem OwnX.take {w : World} {B : Nat} {v : Value} {zss : List (List Int)} (h : OwnX w B v zss) (hp : 0 < zss.length) :
    ∃ g c vals, v = .slice (some ⟨g, 0, none⟩) zss.length c ∧ vals.length = zss.length ∧ (∀ j u, vals[j]? = some u → w.cell? ((⟨g, 0, none⟩ : Addr).add j) = some u) ∧ Elems w 0 vals zss := by
  obtain ⟨vals, h1, h2⟩ := h
  have h1' := h1
  rcases h1.2 with ⟨rfl, h0⟩ | ⟨g, cap, cur, rfl, _⟩
  · omega
  · exact ⟨g, cap, vals, rfl, h2.1, World.ownsRow.cells h1' (g := g) rfl, h2⟩
/-- what reads as lists. -/
theorem OwnX.listsC {w : World} {B : Nat} {v : Value} {zss : List (List Int)} (h : OwnX w B v zss) : ∃ l lc, v = .slice l zss.length lc ∧ zss.length ≤ lc ∧ lc ≤ 9223372036854775807 ∧ LstC w l zss := by
  obtain ⟨vals, h1, h2⟩ := h
  have h1' := h1
  rcases h1.2 with ⟨rfl, h0⟩ | ⟨g, cap, cur, rfl, hb, hg, hnc, hcm, _⟩
  · exact ⟨none, 0, by rw [h0], by omega, by omega, fun j hj => by omega⟩
  · refine ⟨_, cap, rfl, hnc, by unfold maxLen at hcm; omega, fun j hj => ?_⟩
    obtain ⟨v, e, hv⟩ := h2.2 j hj
    obtain ⟨a, c, rfl, q1, q2, hI⟩ := hv.form
    have hc := World.ownsRow.cells h1' (g := g) rfl j _ e
    rw [Addr.add_lit] at hc
    exact ⟨g, 0, a, c, rfl, (Array.getElem?_eq_some_iff.1 hg).1, hc, q1, by unfold maxLen at q2; omega, hI⟩
theorem nodup_le {l m : List Int} (h : l.Nodup) (hs : l ⊆ m) : l.length ≤ m.length := by
  induction l generalizing m with
  | nil => simp
  | cons a l ih =>
    obtain ⟨h1, h2⟩ := List.nodup_cons.1 h
    have ha : a ∈ m := hs (by simp)
    have := ih h2 (m := m.erase a) (fun x hx => (List.mem_erase_of_ne (by rintro rfl; exact h1 hx)).2 (hs (by simp [hx])))
    rw [List.length_erase_of_mem ha] at this
    have hp : 0 < m.length := List.length_pos_of_mem ha
    simp; omega
theorem filter_two {α : Type} (l : List α) (p : α → Bool) : l.length = (l.filter p).length + (l.filter fun x => !p x).length := by
  induction l with
  | nil => rfl
  | cons a l ih =>
    cases hp : p a
    · rw [List.filter_cons_of_neg (by simp [hp]), List.filter_cons_of_pos (by simp [hp]), List.length_cons, List.length_cons]; omega
    · rw [List.filter_cons_of_pos (by simp [hp]), List.filter_cons_of_neg (by simp [hp]), List.length_cons, List.length_cons]; omega
theorem range_nodup (n : Nat) : ((List.range n).map fun (i : Nat) => (i : Int)).Nodup := by
  refine List.Pairwise.map _ (fun a b hab => ?_) List.nodup_range
  intro e
  exact hab (by omega)
/-- there is an order that begins so. -/
theorem ordT_ne (n m : Nat) (h : List Int) (hl : h.length + m = n) : ordT n m h ≠ [] := by
  have hcl : m ≤ (((List.range n).map fun (i : Nat) => (i : Int)).filter fun x => !h.contains x).length := by
    have hp := filter_two ((List.range n).map fun (i : Nat) => (i : Int)) (fun x => h.contains x)
    have h1 : (((List.range n).map fun (i : Nat) => (i : Int)).filter fun x => h.contains x).length ≤ h.length := by
      refine nodup_le (List.Pairwise.sublist List.filter_sublist (range_nodup n)) (fun x hx => ?_)
      have := (List.mem_filter.1 hx).2
      simpa using this
    simp only [List.length_map, List.length_range] at hp
    omega
  have hm : h ++ ((((List.range n).map fun (i : Nat) => (i : Int)).filter fun x => !h.contains x).take m) ∈ ordT n m h := by
    refine (mem_ordT n m h _).2 ⟨_, rfl, by rw [List.length_take]; omega, ?_, ?_, ?_⟩
    · intro x hx
      obtain ⟨i, hi, rfl⟩ := List.mem_map.1 (List.mem_filter.1 (List.mem_of_mem_take hx)).1
      have := List.mem_range.1 hi
      omega
    · exact List.Pairwise.sublist (List.take_sublist _ _) (List.Pairwise.sublist List.filter_sublist (range_nodup n))
    · intro x hx hxh
      have := (List.mem_filter.1 (List.mem_of_mem_take hx)).2
      simp [hxh] at this
  intro e
  rw [e] at hm
  cases hm
theorem pow_le {n m : Nat} (hn : n ≤ 5) (hm : m ≤ 4) : n ^ m ≤ 625 := Nat.le_trans (Nat.pow_le_pow_left hn m) (Nat.le_trans (Nat.pow_le_pow_right (by decide) hm) (by decide))
end Go.Proofs.Ytpgifeaejjjjnaa
