/- tables, bst -/
import Derived.Test.YtjapconhehdcjaaSE
import Derived.Deep.DeepCutAuto
import Derived.Deep.AppendLies
namespace Go.Proofs.Ytjapconhehdcjaa
open Go.RowKit Go.Sort
theorem slice_mid (g o n cap i j : Nat) (h : i ≤ j) (h2 : j ≤ cap) (h3 : i < cap) (W : World) : (Instr.sliceAt 22 (.slice (some ⟨g, o, none⟩) n cap) (some (.int .i64 i)) (some (.int .i64 j)) none).run Try.prog W = .ok (.slice (some ⟨g, o + i, none⟩) (j - i) (cap - i)) W := by
  have hu : Try.prog.underlying 22 = some (.slice (Try.prog.elem 22)) := by kernel_rfl
  have hs : (sizeOf (Try.prog.elem 22)).run Try.prog W = .ok 1 W := by kernel_rfl
  rw [run_sliceAt_slice _ _ _ _ _ _ hu, run_slice_lh _ _ _ _ _ hu _ _ _ _ (by omega) (by omega) (by omega), hs]
  have hne : cap ≠ i := by omega
  simp [sliced, Result.andThen, Addr.add]
  rw [if_neg hne]
  split
  · subst i; rfl
  · rfl
theorem ints_mid {w : World} {g o : Nat} {zs : List Int} (h : IntsAt w (some ⟨g, o, none⟩) zs) (i j : Nat) (hj : j ≤ zs.length) : IntsAt w (some ⟨g, o + i, none⟩) ((zs.take j).drop i) := fun k hk => by
  rw [List.length_drop, List.length_take] at hk
  obtain ⟨b', o', e, h1, h2⟩ := h (i + k) (by omega)
  simp only [Option.some.injEq, Addr.mk.injEq, and_true] at e
  obtain ⟨rfl, rfl⟩ := e
  have e2 : nth ((zs.take j).drop i) k = nth zs (i + k) := by rw [nth_eq, List.getElem?_drop, List.getElem?_take, if_pos (by omega), nth_eq]
  rw [e2]
  refine ⟨g, o + i, rfl, h1, ?_⟩
  rw [Nat.add_assoc]
  exact h2
/-- a table of 8 by 8 numbers. -/
def Tab (w : World) (g o : Nat) (f : Nat → Nat → Int) : Prop := ∀ a b, a < 8 → b < 8 → w.cell? ⟨g, o + a * 8 + b, none⟩ = some (.int .i64 (f a b)) ∧ w.frozen? ⟨g, o + a * 8 + b, none⟩ = false
theorem Tab.fut {w w' : World} {g o : Nat} {f : Nat → Nat → Int} (h : Tab w g o f) (F : Fut w w') : Tab w' g o f := fun a b ha hb => by
  obtain ⟨h1, h2⟩ := h a b ha hb
  have hl : g < w.heap.size := World.block_lt_of_cell? _ _ h1
  exact ⟨(RowKit.Below.cell F (p := ⟨g, o + a * 8 + b, none⟩) hl).trans h1, (RowKit.Below.frozen F (p := ⟨g, o + a * 8 + b, none⟩) hl).trans h2⟩
/-- the questions and the tops of a span, after some of its sieves. -/
def bst (G : Nat → Int) (a : Nat) : Nat → Int × List Int
  | 0 => (0, [])
  | i + 1 => if (bst G a i).2 = [] ∨ G (a + i) < (bst G a i).1 then (G (a + i), [((a + i : Nat) : Int)]) else if G (a + i) = (bst G a i).1 then ((bst G a i).1, (bst G a i).2 ++ [((a + i : Nat) : Int)]) else bst G a i
theorem bst_len (G : Nat → Int) (a : Nat) : ∀ i, (bst G a i).2.length ≤ i
  | 0 => Nat.le_refl _
  | i + 1 => by
    have := bst_len G a i
    rw [bst]
    split
    · simp
    · split
      · simp; omega
      · omega
theorem bst_new {G : Nat → Int} {a i : Nat} (h : (bst G a i).2 = [] ∨ G (a + i) < (bst G a i).1) : bst G a (i + 1) = (G (a + i), [((a + i : Nat) : Int)]) := by rw [bst, if_pos h]
theorem bst_eq {G : Nat → Int} {a i : Nat} (h : ¬ ((bst G a i).2 = [] ∨ G (a + i) < (bst G a i).1)) (h2 : G (a + i) = (bst G a i).1) : bst G a (i + 1) = ((bst G a i).1, (bst G a i).2 ++ [((a + i : Nat) : Int)]) := by rw [bst, if_neg h, if_pos h2]
theorem bst_gt {G : Nat → Int} {a i : Nat} (h : ¬ ((bst G a i).2 = [] ∨ G (a + i) < (bst G a i).1)) (h2 : G (a + i) ≠ (bst G a i).1) : bst G a (i + 1) = bst G a i := by rw [bst, if_neg h, if_neg h2]
theorem svP_nth (a n i : Nat) (h : i < n) : nth (svP a n) i = ((a + i : Nat) : Int) := by
  unfold svP
  rw [nth_eq, List.getElem?_map, List.getElem?_range h]
  rfl
theorem sum_le {zs : List Int} (h : ∀ z ∈ zs, 0 ≤ z ∧ z ≤ 1000000) (hl : zs.length ≤ 1000) : 0 ≤ zs.sum ∧ zs.sum ≤ 1000000000 := by
  have := sum_bnd h zs.length
  rw [List.take_length] at this
  omega
end Go.Proofs.Ytjapconhehdcjaa
