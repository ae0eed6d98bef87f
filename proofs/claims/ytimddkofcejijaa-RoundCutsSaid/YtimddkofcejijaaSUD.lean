/- Layer 2: rows of lists of one's own. -/
import Derived.Test.YtimddkofcejijaaST
import Derived.Test.YtimddkofcejijaaRX
namespace Go.Proofs.Ytimddkofcejijaa
open Go.RowKit Go.Sort
/-- lists of numbers in a row of one's own, from B on. -/
def OwnX (w : World) (B : Nat) (v : Value) (zss : List (List Int)) : Prop := ∃ vals, w.ownsRow B 25 1 v zss.length vals ∧ Elems w 0 vals zss
theorem Elems.fut {w w' : World} {B : Nat} {vals : List Value} {zss : List (List Int)} (h : Elems w B vals zss) (F : Fut w w') : Elems w' B vals zss :=
  ⟨h.1, fun j hj => by obtain ⟨u, e, hu⟩ := h.2 j hj; exact ⟨u, e, hu.fut F⟩⟩
theorem OwnX.fut {w w' : World} {B : Nat} {v : Value} {zss : List (List Int)} (h : OwnX w B v zss) (F : Fut w w') : OwnX w' B v zss := by
  obtain ⟨vals, h1, h2⟩ := h
  refine ⟨vals, World.ownsRow.kept h1 (row := none) ⟨F.os, F.tape, F.output, F.size, fun k hk _ => F.block k hk⟩ ?_, h2.fut F⟩
  rcases hv : v.ownBlock with _ | k
  · exact .inl rfl
  · exact .inr (by simp)
theorem row_fut {w w' : World} {B size : Nat} {e : TypeId} {v : Value} {n : Nat} {xs : List Value} (h : w.ownsRow B e size v n xs) (F : Fut w w') : w'.ownsRow B e size v n xs := by
  refine World.ownsRow.kept h (row := none) ⟨F.os, F.tape, F.output, F.size, fun k hk _ => F.block k hk⟩ ?_
  rcases hv : v.ownBlock with _ | k
  · exact .inl rfl
  · exact .inr (by simp)
theorem cell_one {w : World} {b : Nat} {x : Value} (h : w.cell? ⟨b, 0, none⟩ = some x) : ∀ j u, [x][j]? = some u → w.cell? ((⟨b, 0, none⟩ : Addr).add j) = some u := fun j u hj => by
  match j, hj with
  | 0, hj =>
    simp at hj
    subst hj
    rw [Addr.add_lit]; exact h
theorem OwnX.one {w : World} {v : Value} {zs : List Int} (h : Owns w 0 v zs) : OwnX (w.alloc (.cells #[v] 25)) w.heap.size (.slice (some ⟨w.heap.size, 0, none⟩) 1 1) [zs] :=
  ⟨[v], World.ownsRow_lit (base := w.heap.size) (e := 25) (size := 1) w #[v] 1 (Nat.le_refl _) (by unfold maxLen; omega) rfl, rfl, fun j hj => by
    obtain rfl : j = 0 := by simp at hj; exact hj
    exact ⟨v, rfl, h.fut (Fut.alloc _ _)⟩⟩
theorem Elems.cat {w w' : World} {vals vals' : List Value} {zss zss' : List (List Int)} {B : Nat} {u : Value} {n : Nat} {xs : List Value} (h : Elems w 0 vals zss) (h' : Elems w 0 vals' zss') (hu : w.ownsRow B 25 1 u n xs) (g : w.grownBy w' u.ownBlock) : Elems w' 0 (vals ++ vals') (zss ++ zss') := by
  refine ⟨by rw [List.length_append, List.length_append, h.1, h'.1], fun j hj => ?_⟩
  rw [List.length_append] at hj
  by_cases hlt : j < zss.length
  · obtain ⟨v, e, hv⟩ := h.2 j hlt
    refine ⟨v, by rw [List.getElem?_append_left (by have := h.1; omega)]; exact e, ?_⟩
    have : lth (zss ++ zss') j = lth zss j := by rw [lth_eq, lth_eq, List.getElem?_append_left hlt]
    rw [this]
    exact World.ownsRow.kept hv g (own_apart hv hu)
  · obtain ⟨v, e, hv⟩ := h'.2 (j - zss.length) (by omega)
    refine ⟨v, by rw [List.getElem?_append_right (by have := h.1; omega), h.1]; exact e, ?_⟩
    have : lth (zss ++ zss') j = lth zss' (j - zss.length) := by rw [lth_eq, lth_eq, List.getElem?_append_right (by omega)]
    rw [this]
    exact World.ownsRow.kept hv g (own_apart hv hu)
theorem Elems.cells {w : World} {B : Nat} {vals : List Value} {zss : List (List Int)} (h : Elems w B vals zss) : ∀ u ∈ vals, u.oneCell' = true := fun u hu => by
  obtain ⟨j, hj, rfl⟩ := List.getElem_of_mem hu
  obtain ⟨v, e, hv⟩ := h.2 j (by have := h.1; omega)
  rw [List.getElem?_eq_getElem hj] at e
  simp at e
  obtain ⟨a, cap, e2, _⟩ := hv.ints
  rw [e, e2]; rfl
theorem OwnX.take {w : World} {B : Nat} {v : Value} {zss : List (List Int)} (h : OwnX w B v zss) (hp : 0 < zss.length) :
    ∃ g c vals, v = .slice (some ⟨g, 0, none⟩) zss.length c ∧ vals.length = zss.length ∧ (∀ j u, vals[j]? = some u → w.cell? ((⟨g, 0, none⟩ : Addr).add j) = some u) ∧ Elems w 0 vals zss := by
  obtain ⟨vals, h1, h2⟩ := h
  have h1' := h1
  rcases h1.2 with ⟨rfl, h0⟩ | ⟨g, cap, cur, rfl, _⟩
  · omega
  · exact ⟨g, cap, vals, rfl, h2.1, World.ownsRow.cells h1' (g := g) rfl, h2⟩
end Go.Proofs.Ytimddkofcejijaa
