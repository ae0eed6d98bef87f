/- tables of rows -/
import Derived.Test.YtjapconhehdcjaaSG
import Derived.Deep.DeepCutAuto
import Derived.Deep.AppendLies
namespace Go.Proofs.Ytjapconhehdcjaa
open Go.RowKit Go.Sort
theorem frz_set (w : World) (p q : Addr) (v : Value) : (w.setCell p v).frozen? q = w.frozen? q := by simp [go_sem]
theorem cell_put {w : World} {p : Addr} {u v : Value} (h : w.cell? p = some u) : (w.setCell p v).cell? p = some v := by simp [go_sem, h]
def upd {α : Type} (f : Nat → Nat → α) (a b : Nat) (x : α) (i j : Nat) : α := if i = a ∧ j = b then x else f i j
theorem upd_same {α : Type} (f : Nat → Nat → α) (a b : Nat) (x : α) : upd f a b x a b = x := by unfold upd; rw [if_pos ⟨rfl, rfl⟩]
theorem upd_ne {α : Type} (f : Nat → Nat → α) (a b : Nat) (x : α) (i j : Nat) (h : ¬ (i = a ∧ j = b)) : upd f a b x i j = f i j := by unfold upd; rw [if_neg h]
theorem Tab.set {w : World} {g o : Nat} {f : Nat → Nat → Int} (h : Tab w g o f) (a b : Nat) (ha : a < 8) (hb : b < 8) (x : Int) : Tab (w.setCell ⟨g, o + a * 8 + b, none⟩ (.int .i64 x)) g o (upd f a b x) := fun i j hi hj => by
  obtain ⟨h1, h2⟩ := h i j hi hj
  refine ⟨?_, by rw [frz_set]; exact h2⟩
  by_cases e : i = a ∧ j = b
  · obtain ⟨rfl, rfl⟩ := e
    rw [upd_same]
    exact cell_put h1
  · rw [upd_ne _ _ _ _ _ _ e, World.cell?_setCell_other _ _ _ _ (fun q => e (by have := congrArg Addr.off q; simp at this; omega))]
    exact h1
theorem Tab.far {w : World} {g o g2 p : Nat} {f : Nat → Nat → Int} (h : Tab w g o f) (v : Value) (hp : g2 ≠ g ∨ p < o ∨ o + 64 ≤ p) : Tab (w.setCell ⟨g2, p, none⟩ v) g o f := fun i j hi hj => by
  obtain ⟨h1, h2⟩ := h i j hi hj
  refine ⟨?_, by rw [frz_set]; exact h2⟩
  rw [World.cell?_setCell_other _ _ _ _ (fun q => by have := congrArg Addr.off q; have := congrArg Addr.block q; simp at *; omega)]
  exact h1
/-- a table of 8 by 8 rows of one's own. -/
def TabL (w : World) (g o B : Nat) (F : Nat → Nat → List Int) : Prop := ∀ a b, a < 8 → b < 8 → ∃ la lc, w.cell? ⟨g, o + a * 8 + b, none⟩ = some (.slice la (F a b).length lc) ∧ w.frozen? ⟨g, o + a * 8 + b, none⟩ = false ∧ Owns w B (.slice la (F a b).length lc) (F a b)
theorem TabL.fut {w w' : World} {g o B : Nat} {F : Nat → Nat → List Int} (h : TabL w g o B F) (k : Fut w w') : TabL w' g o B F := fun a b ha hb => by
  obtain ⟨la, lc, h1, h2, h3⟩ := h a b ha hb
  have hl : g < w.heap.size := World.block_lt_of_cell? _ _ h1
  exact ⟨la, lc, (RowKit.Below.cell k (p := ⟨g, o + a * 8 + b, none⟩) hl).trans h1, (RowKit.Below.frozen k (p := ⟨g, o + a * 8 + b, none⟩) hl).trans h2, h3.fut k⟩
theorem TabL.set {w : World} {g o B : Nat} {F : Nat → Nat → List Int} (h : TabL w g o B F) (hB : g < B) (a b : Nat) (ha : a < 8) (hb : b < 8) {la : Option Addr} {lc : Nat} {L : List Int} (hL : Owns w B (.slice la L.length lc) L) : TabL (w.setCell ⟨g, o + a * 8 + b, none⟩ (.slice la L.length lc)) g o B (upd F a b L) := fun i j hi hj => by
  obtain ⟨l1, c1, h1, h2, h3⟩ := h i j hi hj
  by_cases e : i = a ∧ j = b
  · obtain ⟨rfl, rfl⟩ := e
    rw [upd_same]
    exact ⟨la, lc, cell_put h1, by rw [frz_set]; exact h2, hL.kept (set_grown _ _ _ _) (own_ge hL hB)⟩
  · rw [upd_ne _ _ _ _ _ _ e]
    refine ⟨l1, c1, ?_, by rw [frz_set]; exact h2, h3.kept (set_grown _ _ _ _) (own_ge h3 hB)⟩
    rw [World.cell?_setCell_other _ _ _ _ (fun q => e (by have := congrArg Addr.off q; simp at this; omega))]
    exact h1
theorem TabL.far {w : World} {g o g2 p B : Nat} {F : Nat → Nat → List Int} (h : TabL w g o B F) (hB : g2 < B) (v : Value) (hp : g2 ≠ g ∨ p < o ∨ o + 64 ≤ p) : TabL (w.setCell ⟨g2, p, none⟩ v) g o B F := fun i j hi hj => by
  obtain ⟨l1, c1, h1, h2, h3⟩ := h i j hi hj
  refine ⟨l1, c1, ?_, by rw [frz_set]; exact h2, h3.kept (set_grown _ _ _ _) (own_ge h3 hB)⟩
  rw [World.cell?_setCell_other _ _ _ _ (fun q => by have := congrArg Addr.off q; have := congrArg Addr.block q; simp at *; omega)]
  exact h1
/-- the trees of a span through a top. -/
def mulE (mn : Nat → Nat → Int) (a b : Nat) (k : Int) : Int := mn a k.toNat * mn (k.toNat + 1) b
def manyE (mn : Nat → Nat → Int) (a b : Nat) (L : List Int) : Int := (if a = b then 1 else 0) + (L.map (mulE mn a b)).sum
theorem mul_bnd {x y : Int} (hx : 0 ≤ x ∧ x ≤ 1000000) (hy : 0 ≤ y ∧ y ≤ 1000000) : 0 ≤ x * y ∧ x * y ≤ 1000000000000 := by
  refine ⟨Int.mul_nonneg hx.1 hy.1, ?_⟩
  have h1 := Int.mul_le_mul hx.2 hy.2 hy.1 (by omega)
  omega
theorem mulE_bnd {mn : Nat → Nat → Int} (h : ∀ i j, 0 ≤ mn i j ∧ mn i j ≤ 1000000) (a b : Nat) (k : Int) : 0 ≤ mulE mn a b k ∧ mulE mn a b k ≤ 1000000000000 := mul_bnd (h _ _) (h _ _)
def partS (mn : Nat → Nat → Int) (a b : Nat) (L : List Int) (i : Nat) : Int := ((L.take i).map (mulE mn a b)).sum
theorem partS_succ (mn : Nat → Nat → Int) (a b : Nat) (L : List Int) (i : Nat) (h : i < L.length) : partS mn a b L (i + 1) = partS mn a b L i + mulE mn a b (nth L i) := by
  unfold partS
  rw [List.take_succ_eq_append_getElem h, List.map_append, List.sum_append, nth_eq, List.getElem?_eq_getElem h]
  simp
theorem partS_bnd {mn : Nat → Nat → Int} (h : ∀ i j, 0 ≤ mn i j ∧ mn i j ≤ 1000000) (a b : Nat) (L : List Int) : ∀ i, i ≤ L.length → 0 ≤ partS mn a b L i ∧ partS mn a b L i ≤ 1000000000000 * i
  | 0, _ => by simp [partS]
  | i + 1, hi => by
    have h1 := partS_bnd h a b L i (by omega)
    have h2 := mulE_bnd h a b (nth L i)
    rw [partS_succ _ _ _ _ _ (by omega)]
    omega
end Go.Proofs.Ytjapconhehdcjaa
