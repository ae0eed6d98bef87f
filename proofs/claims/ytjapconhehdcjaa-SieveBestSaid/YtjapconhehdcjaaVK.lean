/- slices.Max, Min, Index -/
import Derived.Test.YtjapconhehdcjaaLE
import Derived.Test.YtjapconhehdcjaaVF
import Derived.Shelf.Slices.Turned
import Derived.Lib.Slices
namespace Go.Proofs.Ytjapconhehdcjaa
open Go.RowKit Go.Sort
def r108 : Go.Shelf.Ren := ⟨fun | 108 => 57 | n => n, fun | 28 => 22 | n => n, fun n => n⟩
open Go.Shelf in
theorem lay108 : Lays.n108 Try.prog r108 :=
  { mixed := (by kernel_rfl)
    f108 := Try.func57.trans (congrArg some (by kernel_rfl))
    t0 := Try.underlying0
    a0 := Try.isAgg0
    z0 := Try.sizeOf0
    v0 := Try.zeroValue0
    t3 := Try.underlying3
    a3 := Try.isAgg3
    z3 := Try.sizeOf3
    v3 := Try.zeroValue3
    t4 := Try.underlying4
    a4 := Try.isAgg4
    z4 := Try.sizeOf4
    v4 := Try.zeroValue4
    t28 := Try.underlying22
    a28 := Try.isAgg22
    z28 := Try.sizeOf22
    v28 := Try.zeroValue22 }
def r113 : Go.Shelf.Ren := ⟨fun | 113 => 56 | n => n, fun | 28 => 22 | n => n, fun n => n⟩
open Go.Shelf in
theorem lay113 : Lays.n113 Try.prog r113 :=
  { mixed := (by kernel_rfl)
    f113 := Try.func56.trans (congrArg some (by kernel_rfl))
    t0 := Try.underlying0
    a0 := Try.isAgg0
    z0 := Try.sizeOf0
    v0 := Try.zeroValue0
    t3 := Try.underlying3
    a3 := Try.isAgg3
    z3 := Try.sizeOf3
    v3 := Try.zeroValue3
    t4 := Try.underlying4
    a4 := Try.isAgg4
    z4 := Try.sizeOf4
    v4 := Try.zeroValue4
    t9 := Try.underlying9
    a9 := Try.isAgg9
    z9 := Try.sizeOf9
    v9 := Try.zeroValue9
    t20 := Try.underlying20
    a20 := Try.isAgg20
    z20 := Try.sizeOf20
    v20 := Try.zeroValue20
    t28 := Try.underlying22
    a28 := Try.isAgg22
    z28 := Try.sizeOf22
    v28 := Try.zeroValue22 }
def r114 : Go.Shelf.Ren := ⟨fun | 114 => 61 | n => n, fun | 28 => 22 | n => n, fun n => n⟩
open Go.Shelf in
theorem lay114 : Lays.n114 Try.prog r114 :=
  { mixed := (by kernel_rfl)
    f114 := Try.func61.trans (congrArg some (by kernel_rfl))
    t0 := Try.underlying0
    a0 := Try.isAgg0
    z0 := Try.sizeOf0
    v0 := Try.zeroValue0
    t3 := Try.underlying3
    a3 := Try.isAgg3
    z3 := Try.sizeOf3
    v3 := Try.zeroValue3
    t4 := Try.underlying4
    a4 := Try.isAgg4
    z4 := Try.sizeOf4
    v4 := Try.zeroValue4
    t9 := Try.underlying9
    a9 := Try.isAgg9
    z9 := Try.sizeOf9
    v9 := Try.zeroValue9
    t20 := Try.underlying20
    a20 := Try.isAgg20
    z20 := Try.sizeOf20
    v20 := Try.zeroValue20
    t28 := Try.underlying22
    a28 := Try.isAgg22
    z28 := Try.sizeOf22
    v28 := Try.zeroValue22 }
theorem getD_nth (zs : List Int) (j : Nat) : zs.getD j 0 = nth zs j := by rw [nth_eq, List.getD_eq_getElem?_getD]
open Go.Shelf in
/-- slices.Max, slices.Min, slices.Index of a row. -/
theorem max_call (b o n c : Nat) (zs : List Int) (hn : zs.length = n) (h0 : 0 < n) (h8 : n ≤ 1000) (w : World) (h : IntsAt w (some ⟨b, o, none⟩) zs) : Calls Try.prog 56 #[.slice (some ⟨b, o, none⟩) n c] w fun e w' => e = .returned (.int .i64 (Lib.maxOf zs)) ∧ w = w' := by
  have := Any.slices_Max_int lay113 b o n c zs w h0 (by omega) (by omega) (fun j hj => by
    obtain ⟨b', o', e, _, h2⟩ := h j hj
    cases e
    rw [h2, getD_nth])
  rw [List.take_of_length_le (by omega)] at this
  exact this.mono fun _ _ ⟨a, b⟩ => ⟨a, b.symm⟩
open Go.Shelf in
theorem min_call (b o n c : Nat) (zs : List Int) (hn : zs.length = n) (h0 : 0 < n) (h8 : n ≤ 1000) (w : World) (h : IntsAt w (some ⟨b, o, none⟩) zs) : Calls Try.prog 61 #[.slice (some ⟨b, o, none⟩) n c] w fun e w' => e = .returned (.int .i64 (Lib.minOf zs)) ∧ w = w' := by
  have := Any.slices_Min_int lay114 b o n c zs w h0 (by omega) (by omega) (fun j hj => by
    obtain ⟨b', o', e, _, h2⟩ := h j hj
    cases e
    rw [h2, getD_nth])
  rw [List.take_of_length_le (by omega)] at this
  exact this.mono fun _ _ ⟨a, b⟩ => ⟨a, b.symm⟩
open Go.Shelf in
theorem index_call (b o n c : Nat) (zs : List Int) (hn : zs.length = n) (h8 : n ≤ 1000) (x : Int) (k : Nat) (hk : k < n) (hx : nth zs k = x) (hf : ∀ j, j < k → nth zs j ≠ x) (w : World) (h : IntsAt w (some ⟨b, o, none⟩) zs) : Calls Try.prog 57 #[.slice (some ⟨b, o, none⟩) n c, .int .i64 x] w fun e w' => e = .returned (.int .i64 (k : Nat)) ∧ w = w' := by
  have := Any.slices_Index_int lay108 b o n c zs x w (by omega) (by omega) (fun j hj => by
    obtain ⟨b', o', e, _, h2⟩ := h j hj
    cases e
    rw [h2, getD_nth])
  rw [List.take_of_length_le (by omega)] at this
  have e : Lib.idxOf zs x = (k : Int) := by
    unfold Lib.idxOf
    rw [Lib.idxFrom_hit x zs k 0 (by omega) (by rw [getD_nth]; exact hx) (fun j hj => by rw [getD_nth]; exact hf j hj), Nat.zero_add]
  rw [e] at this
  exact this.mono fun _ _ ⟨a, b⟩ => ⟨a, b.symm⟩
theorem first_at : ∀ (zs : List Int) (x : Int), x ∈ zs → ∃ k, k < zs.length ∧ nth zs k = x ∧ ∀ j, j < k → nth zs j ≠ x
  | [], x, h => by cases h
  | z :: zs, x, h => by
    by_cases e : z = x
    · exact ⟨0, by simp, by rw [← e]; rfl, fun j hj => absurd hj (by omega)⟩
    · obtain ⟨k, h1, h2, h3⟩ := first_at zs x (by rcases List.mem_cons.1 h with q | q; exact absurd q.symm e; exact q)
      refine ⟨k + 1, by simp; omega, h2, fun j hj => ?_⟩
      cases j with
      | zero => exact e
      | succ j => exact h3 j (by omega)
theorem clone_call2 (a : Option Addr) (n c : Nat) (zs : List Int) (hn : zs.length = n) (h0 : 0 < n) (hl : n ≤ 1000) (w : World) (h : IntsAt w a zs) : Calls Try.prog 55 #[.slice a n c] w fun e w' => ∃ g c', e = .returned (.slice (some ⟨g, 0, none⟩) n c') ∧ w.heap.size ≤ g ∧ g < w'.heap.size ∧ RowN w' g zs ∧ n ≤ c' ∧ c' ≤ 9223372036854775807 ∧ Fut w w' := by
  subst hn
  refine (clone_any a c zs w h hl).mono ?_
  rintro e w' ⟨v, rfl, hO, F⟩
  obtain ⟨g, cap, rfl, h1, h2, h3, h4, h5⟩ := row_ints hO rfl h0
  exact ⟨g, cap, rfl, h1, h2, h3, h4, h5, F⟩
end Go.Proofs.Ytjapconhehdcjaa
