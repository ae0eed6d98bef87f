/- Layer 3: grids: rows of numbers of one's own; what Check's OK says. -/
import Derived.Test.YtpgifeaejjjjnaaBC
import Derived.Deep.OwnRows
namespace Go.Proofs.Ytpgifeaejjjjnaa
open Go.RowKit Go.Sort
/-- m rows of n numbers of one's own, the first k of them laid. -/
structure Grid (w : World) (B g m n : Nat) (bl : Nat → Nat) (k : Nat) (f : Nat → Nat → Int) : Prop where
  base : B ≤ g
  outer : w.rowIs g 28 m (fun i => if i < k then .slice (some ⟨bl i, 0, none⟩) n n else .slice none 0 0)
  above : ∀ i, i < k → g < bl i
  inner : ∀ i, i < k → w.rowIs (bl i) 3 n (fun j => .int .i64 (f i j))
  apart : ∀ i j, i < j → j < k → bl i < bl j
theorem Grid.made (w : World) (m n : Nat) : Grid (w.alloc (.cells (madeCells #[Value.slice none 0 0] m) 28)) w.heap.size w.heap.size m n (fun _ => 0) 0 (fun _ _ => 0) where
  base := Nat.le_refl _
  outer := (World.rowIs_made w (.slice none 0 0) m 28).congr fun i _ => by rw [if_neg (Nat.not_lt_zero i)]
  above := fun i hi => absurd hi (Nat.not_lt_zero i)
  inner := fun i hi => absurd hi (Nat.not_lt_zero i)
  apart := fun i j _ hj => absurd hj (Nat.not_lt_zero j)
theorem Grid.congr {w : World} {B g m n : Nat} {bl : Nat → Nat} {k : Nat} {f f' : Nat → Nat → Int} (h : Grid w B g m n bl k f) (e : ∀ i j, i < k → j < n → f i j = f' i j) : Grid w B g m n bl k f' where
  base := h.base
  outer := h.outer
  above := h.above
  inner := fun i hi => (h.inner i hi).congr fun j hj => by rw [e i j hi hj]
  apart := h.apart
theorem Grid.row {w : World} {B g m n : Nat} {bl : Nat → Nat} {k : Nat} {f : Nat → Nat → Int} (h : Grid w B g m n bl k f) :
    Grid ((w.alloc (.cells (madeCells #[Value.int .i64 0] n) 3)).setCell ⟨g, k, none⟩ (.slice (some ⟨w.heap.size, 0, none⟩) n n)) B g m n (fun i => if i = k then w.heap.size else bl i) (k + 1) (fun i j => if i = k then 0 else f i j) where
  base := h.base
  outer := ((h.outer.alloc _).set k _).congr fun i _ => by
    by_cases e : i = k
    · subst e; simp
    · rw [if_neg e]
      by_cases h1 : i < k
      · rw [if_pos h1, if_pos (by omega : i < k + 1), if_neg e]
      · rw [if_neg h1, if_neg (by omega : ¬ i < k + 1)]
  above := fun i hi => by
    by_cases e : i = k
    · rw [if_pos e]; exact h.outer.lt
    · rw [if_neg e]; exact h.above i (by omega)
  inner := fun i hi => by
    by_cases e : i = k
    · rw [if_pos e]
      refine (World.rowIs.setOther ((World.rowIs_made w (.int .i64 0) n 3)) (a := ⟨g, k, none⟩) ?_ _).congr fun j _ => by rw [if_pos e]
      have := h.outer.lt
      show w.heap.size ≠ g
      omega
    · rw [if_neg e]
      refine (World.rowIs.setOther ((h.inner i (by omega)).alloc _) (a := ⟨g, k, none⟩) ?_ _).congr fun j _ => by rw [if_neg e]
      have := h.above i (by omega)
      show bl i ≠ g
      omega
  apart := fun i j hij hj => by
    by_cases e : j = k
    · rw [if_pos e, if_neg (by omega)]; exact (h.inner i (by omega)).lt
    · rw [if_neg e, if_neg (by omega)]; exact h.apart i j hij (by omega)
theorem Grid.ne {w : World} {B g m n : Nat} {bl : Nat → Nat} {k : Nat} {f : Nat → Nat → Int} (h : Grid w B g m n bl k f) {i j : Nat} (hi : i < k) (hj : j < k) (hne : i ≠ j) : bl i ≠ bl j := by
  rcases Nat.lt_or_ge i j with h1 | h1
  · have := h.apart i j h1 hj; omega
  · have := h.apart j i (by omega) hi; omega
theorem Grid.put {w : World} {B g m n : Nat} {bl : Nat → Nat} {k : Nat} {f : Nat → Nat → Int} (h : Grid w B g m n bl k f) {i : Nat} (hi : i < k) (j : Nat) (x : Int) :
    Grid (w.setCell ⟨bl i, j, none⟩ (.int .i64 x)) B g m n bl k (fun a b => if a = i ∧ b = j then x else f a b) where
  base := h.base
  outer := h.outer.setOther (by have := h.above i hi; show g ≠ bl i; omega) _
  above := h.above
  inner := fun a ha => by
    by_cases e : a = i
    · subst e
      refine ((h.inner a ha).set j _).congr fun b _ => ?_
      by_cases e2 : b = j
      · rw [if_pos e2, if_pos ⟨rfl, e2⟩]
      · rw [if_neg e2, if_neg (fun q => e2 q.2)]
    · refine ((h.inner a ha).setOther (a := ⟨bl i, j, none⟩) (h.ne ha hi e) _).congr fun b _ => ?_
      rw [if_neg (fun q => e q.1)]
  apart := h.apart
theorem Grid.fut {w w' : World} {B g m n : Nat} {bl : Nat → Nat} {k : Nat} {f : Nat → Nat → Int} (h : Grid w B g m n bl k f) (F : Fut w w') : Grid w' B g m n bl k f where
  base := h.base
  outer := h.outer.of_block (RowKit.Below.block F _ h.outer.lt)
  above := h.above
  inner := fun i hi => (h.inner i hi).of_block (RowKit.Below.block F _ (h.inner i hi).lt)
  apart := h.apart
theorem Grid.cell {w : World} {B g m n : Nat} {bl : Nat → Nat} {k : Nat} {f : Nat → Nat → Int} (h : Grid w B g m n bl k f) {i : Nat} (hi : i < k) (hm : i < m) : w.cell? ⟨g, i, none⟩ = some (.slice (some ⟨bl i, 0, none⟩) n n) := by
  rw [h.outer.cell hm, if_pos hi]
theorem Grid.at {w : World} {B g m n : Nat} {bl : Nat → Nat} {k : Nat} {f : Nat → Nat → Int} (h : Grid w B g m n bl k f) {i j : Nat} (hi : i < k) (hj : j < n) : w.cell? ⟨bl i, j, none⟩ = some (.int .i64 (f i j)) := (h.inner i hi).cell hj
def gridL (m n : Nat) (f : Nat → Nat → Int) : List (List Int) := (List.range m).map fun i => (List.range n).map fun j => f i j
theorem gridL_len (m n : Nat) (f : Nat → Nat → Int) : (gridL m n f).length = m := by unfold gridL; simp
theorem gridL_lth (m n : Nat) (f : Nat → Nat → Int) (i : Nat) (h : i < m) : lth (gridL m n f) i = (List.range n).map fun j => f i j := by
  rw [lth_eq]; unfold gridL
  rw [List.getElem?_map, List.getElem?_range h]; rfl
theorem Grid.lists {w : World} {B g m n : Nat} {bl : Nat → Nat} {f : Nat → Nat → Int} (h : Grid w B g m n bl m f) (hn : n ≤ 9223372036854775807) : LstC w (some ⟨g, 0, none⟩) (gridL m n f) := fun i hi => by
  rw [gridL_len] at hi
  have e := gridL_lth m n f i hi
  have el : (lth (gridL m n f) i).length = n := by rw [e]; simp
  refine ⟨g, 0, some ⟨bl i, 0, none⟩, n, rfl, h.outer.lt, ?_, by omega, hn, fun j hj => ⟨bl i, 0, rfl, (h.inner i hi).lt, ?_⟩⟩
  · rw [Nat.zero_add, h.cell hi hi, el]
  · rw [el] at hj
    rw [Nat.zero_add, h.at hi hj, e, nth_eq, List.getElem?_map, List.getElem?_range hj]; rfl
/-- what came of a call: lists that can be read, each with room for itself, and a number. -/
abbrev TupLC (r : Int) (zss : List (List Int)) (w : World) (e : Ending) (w' : World) : Prop := ∃ l lc, e = .returned (.tuple #[.slice l zss.length lc, .int .i64 r]) ∧ zss.length ≤ lc ∧ lc ≤ 9223372036854775807 ∧ LstC w' l zss ∧ Fut w w'
theorem TupLC.nil (r : Int) {w w' : World} (F : Fut w w') : TupLC r [] w (.returned (.tuple #[.slice none 0 0, .int .i64 r])) w' := ⟨none, 0, rfl, Nat.le_refl _, by omega, fun j hj => absurd hj (by simp), F⟩
/-- the days by streets, after so many days. -/
def tset (l : List Int) : Nat → Nat → Int
  | 0, _ => 0
  | d + 1, s => if (s : Int) = nth l d then (d : Int) else tset l d s
def turnE (c : Int) (zss : List (List Int)) : List (List Int) := if chkE c zss = 0 then gridL zss.length c.toNat (fun i s => tset (lth zss i) c.toNat s) else []
theorem chk_rows {c : Int} {zss : List (List Int)} (h : chkE c zss = 0) : 1 ≤ c ∧ c ≤ 5 ∧ (zss.length : Int) ≤ c ∧ ∀ i, i < zss.length → ((lth zss i).length : Int) = c ∧ amE c (zss.take i) (lth zss i) = 0 := by
  unfold chkE at h
  by_cases hs : sizeE c zss.length = 0
  · rw [if_pos hs] at h
    obtain ⟨c1, c5, hn⟩ := size_good hs
    refine ⟨c1, c5, hn, ?_⟩
    have key : ∀ (t : List (List Int)) (k : Nat), chG c zss t k = 0 → ∀ i, i < t.length → ((lth t i).length : Int) = c ∧ amE c (zss.take (k + i)) (lth t i) = 0 := by
      intro t
      induction t with
      | nil => intro k _ i hi; exact absurd hi (by simp)
      | cons l t ih =>
        intro k h i hi
        unfold chG at h
        by_cases h1 : (l.length : Int) = c
        · rw [if_pos h1] at h
          by_cases h2 : amE c (zss.take k) l = 0
          · rw [if_pos h2] at h
            cases i with
            | zero => exact ⟨h1, h2⟩
            | succ i =>
              have := ih (k + 1) h i (by simp at hi; omega)
              rw [show k + 1 + i = k + (i + 1) by omega] at this
              exact this
          · rw [if_neg h2] at h; exact absurd h h2
        · rw [if_neg h1] at h; exact absurd h (by decide)
    intro i hi
    have := key zss 0 h i hi
    rwa [Nat.zero_add] at this
  · rw [if_neg hs] at h; exact absurd h hs
theorem am_in {c : Int} {zss : List (List Int)} {l : List Int} (h : amE c zss l = 0) : ∀ k, k < l.length → 0 ≤ nth l k ∧ nth l k < c ∧ (l.take k).contains (nth l k) = false ∧ tkn zss k (nth l k) = false := by
  have key : ∀ (t : List Int) (k : Nat), amG c zss l t k = 0 → ∀ i, i < t.length → inB c (nth t i) = true ∧ (l.take (k + i)).contains (nth t i) = false ∧ tkn zss (k + i) (nth t i) = false := by
    intro t
    induction t with
    | nil => intro k _ i hi; exact absurd hi (by simp)
    | cons s t ih =>
      intro k h i hi
      unfold amG at h
      by_cases h1 : inB c s = false
      · rw [if_pos h1] at h; exact absurd h (by decide)
      · rw [if_neg h1] at h
        by_cases h2 : (l.take k).contains s = true
        · rw [if_pos h2] at h; exact absurd h (by decide)
        · rw [if_neg h2] at h
          by_cases h3 : tkn zss k s = true
          · rw [if_pos h3] at h; exact absurd h (by decide)
          · rw [if_neg h3] at h
            cases i with
            | zero => exact ⟨by cases e : inB c s; exact absurd e h1; exact e, by cases e : (l.take k).contains s; exact e; exact absurd e h2, by cases e : tkn zss k s; exact e; exact absurd e h3⟩
            | succ i =>
              have := ih (k + 1) h i (by simp at hi; omega)
              rw [show k + 1 + i = k + (i + 1) by omega] at this
              exact this
  intro k hk
  obtain ⟨h1, h2, h3⟩ := key l 0 h k hk
  rw [Nat.zero_add] at h2 h3
  unfold inB at h1
  rw [Bool.and_eq_true, decide_eq_true_eq, decide_eq_true_eq] at h1
  exact ⟨h1.1, h1.2, h2, h3⟩
end Go.Proofs.Ytpgifeaejjjjnaa
