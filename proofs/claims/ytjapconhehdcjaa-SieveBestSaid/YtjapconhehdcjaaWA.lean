/- trees by their top, one by one; what a callback with trees does (Cb) -/
import Derived.Test.YtjapconhehdcjaaVJ
import Derived.Test.YtjapconhehdcjaaVG
import Derived.Test.YtjapconhehdcjaaVH
import Derived.Test.YtjapconhehdcjaaVF
import Derived.Lib.Slices
namespace Go.Proofs.Ytjapconhehdcjaa
open Go.RowKit Go.Sort
namespace Sv
/-- the trees of m + 2 kinds whose top is before i; and those with the top i whose left is one of D. -/
def preT (m i : Nat) : List Tr := (List.range i).flatMap fun i => (trs i).flatMap fun l => (trs (m - i)).map fun r => .node l r
def midT (m i : Nat) (D : List Tr) : List Tr := D.flatMap fun l => (trs (m - i)).map fun r => .node l r
theorem pre_zero (m : Nat) : preT m 0 = [] := rfl
theorem pre_succ (m i : Nat) : preT m (i + 1) = preT m i ++ midT m i (trs i) := by
  unfold preT midT
  rw [List.range_succ, List.flatMap_append]
  simp
theorem pre_end (m : Nat) : preT m (m + 1) = trs (m + 1) := by rw [trs_succ]; rfl
theorem mid_nil (m i : Nat) : midT m i [] = [] := rfl
theorem mid_succ (m i : Nat) (D : List Tr) (l : Tr) : midT m i (D ++ [l]) = midT m i D ++ (trs (m - i)).map fun r => .node l r := by
  unfold midT; rw [List.flatMap_append]; simp
theorem pre_le {m : Nat} : ∀ {i j : Nat}, i ≤ j → preT m i <+: preT m j := fun {i j} h => by
  induction j with
  | zero => obtain rfl : i = 0 := by omega
            exact List.prefix_refl _
  | succ j ih =>
    rcases Nat.eq_or_lt_of_le h with rfl | h
    · exact List.prefix_refl _
    · exact (ih (by omega)).trans (by rw [pre_succ]; exact List.prefix_append _ _)
theorem pre_fix {m i : Nat} (hi : i ≤ m) {D1 D2 : List Tr} {l r : Tr} (h1 : D1 ++ [l] <+: trs i) (h2 : D2 ++ [r] <+: trs (m - i)) : (preT m i ++ midT m i D1 ++ D2.map fun r => Tr.node l r) ++ [.node l r] <+: trs (m + 1) := by
  obtain ⟨s1, h1⟩ := h1
  obtain ⟨s2, h2⟩ := h2
  rw [← pre_end]
  refine List.IsPrefix.trans ?_ (pre_le (show i + 1 ≤ m + 1 by omega))
  rw [pre_succ, ← h1]
  have e : midT m i (D1 ++ [l] ++ s1) = midT m i D1 ++ ((D2.map fun r => Tr.node l r) ++ [.node l r] ++ ((s2.map fun r => Tr.node l r) ++ midT m i s1)) := by
    have : midT m i (D1 ++ [l] ++ s1) = midT m i (D1 ++ [l]) ++ midT m i s1 := by unfold midT; rw [List.flatMap_append]
    rw [this, mid_succ, ← h2]
    simp
  rw [e]
  refine ⟨(s2.map fun r => Tr.node l r) ++ midT m i s1, ?_⟩
  simp
theorem mem_pre {D L : List Tr} {t : Tr} (h : D ++ [t] <+: L) : t ∈ L := h.mem (by simp)
end Sv
/-- a list that stays whatever is done to blocks of Z. -/
def IntsZ (Z : Nat → Prop) (W : World) (l : Option Addr) (L : List Int) : Prop := ∀ W', But Z W W' → IntsAt W' l L
theorem IntsZ.but {Z : Nat → Prop} {w W : World} {l : Option Addr} {L : List Int} (h : IntsZ Z w l L) (b : But Z w W) : IntsZ Z W l L := fun W' b' => h W' (b.trans b')
theorem IntsZ.fut {Z : Nat → Prop} {w W : World} {l : Option Addr} {L : List Int} (h : IntsZ Z w l L) (b : Fut w W) : IntsZ Z W l L := h.but (But.of_below b)
theorem IntsZ.here {Z : Nat → Prop} {w : World} {l : Option Addr} {L : List Int} (h : IntsZ Z w l L) : IntsAt w l L := h w (But.refl _ _)
theorem IntsZ.far {Z : Nat → Prop} {w : World} {g : Nat} {L : List Int} (h : IntsAt w (some ⟨g, 0, none⟩) L) (hz : ¬ Z g) : IntsZ Z w (some ⟨g, 0, none⟩) L := fun W' b j hj => by
  obtain ⟨b', o', e, h1, h2⟩ := h j hj
  cases e
  exact ⟨g, 0, rfl, Nat.lt_of_lt_of_le h1 b.size, (b.cell (p := ⟨g, 0 + j, none⟩) h1 hz).trans h2⟩
theorem IntsZ.nil (Z : Nat → Prop) (w : World) (l : Option Addr) : IntsZ Z w l [] := fun _ _ j hj => by simp at hj
theorem IntsZ.own {Z : Nat → Prop} {w : World} {B n c : Nat} {l : Option Addr} {L : List Int} (h : Owns w B (.slice l n c) L) (hn : L.length = n) (hz : ∀ q, Z q → q < B) : IntsZ Z w l L := by
  cases L with
  | nil => exact IntsZ.nil Z w l
  | cons x L =>
    obtain ⟨g, rfl, h1, h2, h3, h4⟩ := h.row hn (by rw [← hn]; simp)
    exact IntsZ.far (h3.ints h2) (fun q => by have := hz g q; omega)
/-- a cell that stays whatever is done to blocks of Z. -/
def CellZ (Z : Nat → Prop) (W : World) (b : Nat) (v : Value) : Prop := b < W.heap.size ∧ ¬ Z b ∧ W.cell? ⟨b, 0, none⟩ = some v
theorem CellZ.but {Z : Nat → Prop} {w W : World} {b : Nat} {v : Value} (h : CellZ Z w b v) (k : But Z w W) : CellZ Z W b v := ⟨Nat.lt_of_lt_of_le h.1 k.size, h.2.1, (k.cell (p := ⟨b, 0, none⟩) h.1 h.2.1).trans h.2.2⟩
theorem CellZ.fut {Z : Nat → Prop} {w W : World} {b : Nat} {v : Value} (h : CellZ Z w b v) (k : Fut w W) : CellZ Z W b v := h.but (But.of_below k)
/-- what a callback with trees does: it goes on from the trees D to D and one more, and changes blocks of Z only. -/
structure Cb (Z : Nat → Prop) (g : Nat) (cb : Array Value) (a : Nat) (L : List Sv.Tr) (P : List Sv.Tr → World → Prop) : Prop where
  eg : ∀ args w, (callFunc g args).run Try.prog w = .ok (.enter g args) w
  stay : ∀ D W W', P D W → Fut W W' → P D W'
  step : ∀ D t W l n cl dd m cd, P D W → (∀ q, Z q → q < W.heap.size) → D ++ [t] <+: L → IntsZ Z W l (t.lst a) → IntsZ Z W dd (castL t.dep) → (t.lst a).length = n → t.dep.length = m → n ≤ cl → m ≤ cd → Calls Try.prog g (#[.slice l n cl, .slice dd m cd] ++ cb) W fun e w' => e = .returned (.tuple #[]) ∧ But Z W w' ∧ P (D ++ [t]) w'
end Go.Proofs.Ytjapconhehdcjaa
