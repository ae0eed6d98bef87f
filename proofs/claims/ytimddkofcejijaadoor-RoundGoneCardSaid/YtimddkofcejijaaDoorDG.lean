/- Layer 2: slices.Clone and slices.Reverse at numbers. -/
import Derived.Test.YtimddkofcejijaaDoorDF
import Derived.Shelf.Slices.Clone
import Derived.Shelf.Slices.Reverse
import Derived.Sort.OwnSortedInts
namespace Go.Proofs.YtimddkofcejijaaDoor
open Go.RowKit Go.Sort
def cRen : Go.Shelf.Ren := ⟨fun | 15 => 28 | n => n, fun | 22 => 34 | n => n, fun n => n⟩
theorem cLay : Lays2.n15 Tryd.prog cRen :=
  { mixed := (by kernel_rfl)
    f15 := Tryd.func28.trans (congrArg some (by kernel_rfl))
    t3 := Tryd.underlying3
    a3 := Tryd.isAgg3
    z3 := Tryd.sizeOf3
    v3 := Tryd.zeroValue3
    t4 := Tryd.underlying4
    a4 := Tryd.isAgg4
    z4 := Tryd.sizeOf4
    v4 := Tryd.zeroValue4
    t22 := Tryd.underlying34
    a22 := Tryd.isAgg34
    z22 := Tryd.sizeOf34
    v22 := Tryd.zeroValue34
    i3 := by kernel_rfl }
def rRen : Go.Shelf.Ren := ⟨fun | 112 => 29 | n => n, fun | 28 => 34 | n => n, fun n => n⟩
theorem rLay : Lays.n112 Tryd.prog rRen :=
  { mixed := (by kernel_rfl)
    f112 := Tryd.func29.trans (congrArg some (by kernel_rfl))
    t0 := Tryd.underlying0
    a0 := Tryd.isAgg0
    z0 := Tryd.sizeOf0
    v0 := Tryd.zeroValue0
    t3 := Tryd.underlying3
    a3 := Tryd.isAgg3
    z3 := Tryd.sizeOf3
    v3 := Tryd.zeroValue3
    t4 := Tryd.underlying4
    a4 := Tryd.isAgg4
    z4 := Tryd.sizeOf4
    v4 := Tryd.zeroValue4
    t28 := Tryd.underlying34
    a28 := Tryd.isAgg34
    z28 := Tryd.sizeOf34
    v28 := Tryd.zeroValue34 }
/-- slices.Clone at numbers. -/
theorem clone_any (l : Option Addr) (lc : Nat) (zs : List Int) (w : World) (hI : IntsAt w l zs) (hl : zs.length ≤ 1000) :
    Calls Tryd.prog 28 #[.slice l zs.length lc] w fun e w' => ∃ v, e = .returned v ∧ Owns w' w.heap.size v zs ∧ Fut w w' := by
  cases zs with
  | nil =>
    cases l with
    | none =>
      refine (Any.slices_Clone_int_nil cLay 0 lc w).mono ?_
      rintro e w' ⟨h1, rfl⟩
      exact ⟨_, h1, World.ownsRow_nil _ _ _ _, Fut.rfl⟩
    | some a =>
      refine (Any.slices_Clone_int_zero cLay a lc w).mono ?_
      rintro e w' ⟨v, h1, h2, _, h4⟩
      exact ⟨v, h1, h2, h4⟩
  | cons z t =>
    obtain ⟨b, off, rfl, _, _⟩ := hI 0 (by simp)
    refine (Any.slices_Clone_int cLay b off (z :: t).length lc (z :: t) w (Nat.le_refl _) (by omega) (fun j hj => ?_)).mono ?_
    · obtain ⟨b', off', e, _, h⟩ := hI j hj
      simp at e
      obtain ⟨rfl, rfl⟩ := e
      rw [h, nth_eq]; rfl
    · rintro e w' ⟨v, h1, h2, _, h4⟩
      rw [List.take_length] at h2
      exact ⟨v, h1, h2, h4⟩
/-- slices.Reverse at numbers of one's own. -/
theorem rev_any (g cap B : Nat) (zs : List Int) (w : World) (hO : Owns w B (.slice (some ⟨g, 0, none⟩) zs.length cap) zs) (hl : zs.length ≤ 1000) :
    Calls Tryd.prog 29 #[.slice (some ⟨g, 0, none⟩) zs.length cap] w fun e w' => e = .returned (.tuple #[]) ∧ IntsAt w' (some ⟨g, 0, none⟩) zs.reverse ∧ w.grownBy w' (some g) := by
  have hgl := (hO.lt g rfl).2
  have hH : Holds (Value.int .i64) w g 0 zs.toArray := fun j hj => by
    have hj' : j < zs.length := by simpa using hj
    have h1 := hO.cellAt j (by omega)
    refine ⟨?_, ?_⟩
    · rw [Nat.zero_add, h1, getElem!_pos (zs.toArray) j hj]
      simp [List.getElem?_eq_getElem hj']
    · have := hO.frozenAt j
      rw [Nat.zero_add]; exact this
  refine (Any.slices_Reverse_int rLay g 0 cap zs w hH (by omega)).mono ?_
  rintro e w' ⟨h1, n, rfl⟩
  have hg : w.grownBy (putRow (Value.int .i64) (Sort.ahead w n) g 0 zs.reverse.toArray) (some g) := by
    have := grownBy_sortedI (w := w) (g := g) (n := n) (os := #[]) zs.reverse.toArray
    rwa [grow_empty] at this
  refine ⟨h1, fun j hj => ⟨g, 0, rfl, ?_, ?_⟩, hg⟩
  · simpa using hgl
  · have hj' : j < zs.reverse.toArray.size := by simpa using hj
    have := cell?_putRow (Value.int .i64) (Sort.ahead w n) g 0 zs.toArray zs.reverse.toArray (fun k hk => hH k hk) (by simp) j hj'
    rw [this, getElem!_pos (zs.reverse.toArray) j hj', nth_eq, List.getElem?_eq_getElem hj]
    simp
end Go.Proofs.YtimddkofcejijaaDoor
