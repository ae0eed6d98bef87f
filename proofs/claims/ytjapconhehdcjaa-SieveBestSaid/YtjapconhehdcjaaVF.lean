/- rows of one's own: Reverse, Sort, Clone -/
import Derived.Test.YtjapconhehdcjaaLE
import Derived.Shelf.Slices.Reverse
namespace Go.Proofs.Ytjapconhehdcjaa
open Go.RowKit Go.Sort
def rvRen : Go.Shelf.Ren := ⟨fun | 112 => 49 | n => n, fun | 28 => 22 | n => n, fun n => n⟩
open Go.Shelf in
theorem rvLay : Lays.n112 Try.prog rvRen :=
  { mixed := (by kernel_rfl)
    f112 := Try.func49.trans (congrArg some (by kernel_rfl))
    t0 := Try.underlying0
    a0 := Try.isAgg0
    z0 := Try.sizeOf0
    v0 := Try.zeroValue0
    t3 := Try.underlying3
    a3 := Try.isAgg3
    z3 := Try.sizeOf3
    v3 := Try.zeroValue3
    t4 := Try.underlying4
    a4 := Try.isAgg4
    z4 := Try.sizeOf4
    v4 := Try.zeroValue4
    t28 := Try.underlying22
    a28 := Try.isAgg22
    z28 := Try.sizeOf22
    v28 := Try.zeroValue22 }
open Go.Shelf in
/-- slices.Reverse: a row of one's own is turned round. -/
theorem rev_any (g cap : Nat) (zs : List Int) (w : World) (hR : RowN w g zs) (hl : zs.length ≤ 100000) :
    Calls Try.prog 49 #[.slice (some ⟨g, 0, none⟩) zs.length cap] w fun e w' => e = .returned (.tuple #[]) ∧ RowN w' g zs.reverse ∧ (∀ B, B ≤ g → RowKit.Below B w w') ∧ w.heap.size ≤ w'.heap.size ∧ ∀ k, k < w.heap.size → k ≠ g → w'.heap[k]? = w.heap[k]? := by
  have h := Any.slices_Reverse_int rvLay g 0 cap zs w hR.holds (by omega)
  refine Calls.mono h ?_
  rintro e w' ⟨rfl, n, rfl⟩
  have hR1 : RowN (Sort.ahead w n) g zs := hR
  refine ⟨rfl, hR1.put (by simp), fun B hb => below_put (w := Sort.ahead w n) (below_drewN (RowKit.Below.refl _ _) n) hb _, by simp [Sort.ahead], fun k hk hne => ?_⟩
  show ((Sort.ahead w n).heap.modify g _)[k]? = _
  rw [Array.getElem?_modify, if_neg (fun e => hne e.symm)]
  rfl
/-- all blocks but one are as before. -/
def Only (g : Nat) (w w' : World) : Prop := w.heap.size ≤ w'.heap.size ∧ (∀ B, B ≤ g → RowKit.Below B w w') ∧ ∀ k, k < w.heap.size → k ≠ g → w'.heap[k]? = w.heap[k]?
theorem RowN.other {w w' : World} {g r : Nat} {zs : List Int} (h : RowN w r zs) (o : Only g w w') (hr : r < w.heap.size) (hne : r ≠ g) : RowN w' r zs := by
  have e := o.2.2 r hr hne
  refine ⟨fun j hj => ?_, fun j => ?_⟩
  · rw [← h.1 j hj]; unfold World.cell?; rw [e]
  · rw [← h.2 j]; unfold World.frozen?; rw [e]
theorem RowN.fut {w w' : World} {g : Nat} {zs : List Int} (h : RowN w g zs) (F : Fut w w') (hg : g < w.heap.size) : RowN w' g zs := h.below F hg
theorem RowN.ints {w : World} {g : Nat} {zs : List Int} (h : RowN w g zs) (hg : g < w.heap.size) : IntsAt w (some ⟨g, 0, none⟩) zs := fun j hj => ⟨g, 0, rfl, hg, by rw [Nat.zero_add]; exact h.1 j hj⟩
theorem Only.fut {w0 w w' : World} {g : Nat} (F : Fut w0 w) (o : Only g w w') (hg : w0.heap.size ≤ g) : Fut w0 w' := F.trans' (o.2.1 w0.heap.size hg) (Nat.le_refl _)
theorem only_set (w : World) (g k : Nat) (v : Value) : Only g w (w.setCell ⟨g, k, none⟩ v) :=
  ⟨by simp, fun _ hB => (RowKit.Below.refl _ w).setCell (p := ⟨g, k, none⟩) hB v, fun q hq hne => (set_grown w g k v).block q hq (fun e => hne (by injection e))⟩
theorem nth_set (zs : List Int) (k j : Nat) (x : Int) (hk : k < zs.length) : nth (zs.set k x) j = if j = k then x else nth zs j := by
  rw [nth_eq, nth_eq, List.getElem?_set]
  by_cases e : k = j
  · subst e; rw [if_pos rfl, if_pos hk, if_pos rfl]; rfl
  · rw [if_neg e, if_neg (fun q => e q.symm)]
theorem RowN.set {w : World} {g : Nat} {zs : List Int} (h : RowN w g zs) (k : Nat) (x : Int) (hk : k < zs.length) : RowN (w.setCell ⟨g, k, none⟩ (.int .i64 x)) g (zs.set k x) := by
  refine ⟨fun j hj => ?_, fun j => by rw [World.frozen?_setCell]; exact h.2 j⟩
  rw [List.length_set] at hj
  rw [nth_set zs k j x hk]
  by_cases e : j = k
  · subst e; rw [if_pos rfl]; exact World.cell?_setCell_same _ _ _ (h.1 j hj)
  · rw [if_neg e, World.cell?_setCell_other _ _ _ _ (by intro q; injection q with _ q _; exact e q.symm)]; exact h.1 j hj
/-- a row of one's own, where it lies. -/
theorem Owns.row {w : World} {B n c : Nat} {a : Option Addr} {zs : List Int} (h : Owns w B (.slice a n c) zs) (hn : zs.length = n) (h0 : 0 < n) : ∃ g, a = some ⟨g, 0, none⟩ ∧ B ≤ g ∧ g < w.heap.size ∧ RowN w g zs ∧ n ≤ c := by
  obtain ⟨g, cap, e, h1, h2, h3, h4, _⟩ := row_ints (n := n) (by have h := h; unfold Owns at h; rw [hn] at h; exact h) hn h0
  cases e
  exact ⟨g, rfl, h1, h2, h3, h4⟩
theorem rev_call (g n c : Nat) (zs : List Int) (hn : zs.length = n) (hl : n ≤ 1000) (w : World) (h : RowN w g zs) : Calls Try.prog 49 #[.slice (some ⟨g, 0, none⟩) n c] w fun e w' => e = .returned (.tuple #[]) ∧ RowN w' g zs.reverse ∧ Only g w w' := by
  subst hn
  refine (rev_any g c zs w h (by omega)).mono ?_
  rintro e w' ⟨rfl, h1, h2, h3, h4⟩
  exact ⟨rfl, h1, h3, h2, h4⟩
theorem sort_call (g n c : Nat) (zs : List Int) (hn : zs.length = n) (hl : n ≤ 1000) (w : World) (h : RowN w g zs) (hg : g < w.heap.size) : Calls Try.prog 48 #[.slice (some ⟨g, 0, none⟩) n c] w fun e w' => e = .returned (.tuple #[]) ∧ RowN w' g (srtI zs) ∧ Only g w w' := by
  subst hn
  refine (sort_any g c zs w h hg (by omega)).mono ?_
  rintro e w' ⟨rfl, h1, h2, h3, h4⟩
  exact ⟨rfl, h1, h3, h2, h4⟩
theorem clone_call (a : Option Addr) (n c : Nat) (zs : List Int) (hn : zs.length = n) (h0 : 0 < n) (hl : n ≤ 1000) (w : World) (h : IntsAt w a zs) : Calls Try.prog 55 #[.slice a n c] w fun e w' => ∃ g c', e = .returned (.slice (some ⟨g, 0, none⟩) n c') ∧ w.heap.size ≤ g ∧ g < w'.heap.size ∧ RowN w' g zs ∧ n ≤ c' ∧ Fut w w' := by
  subst hn
  refine (clone_any a c zs w h hl).mono ?_
  rintro e w' ⟨v, rfl, hO, F⟩
  obtain ⟨a', c', rfl, _⟩ := hO.ints
  obtain ⟨g, rfl, h1, h2, h3, h4⟩ := hO.row rfl h0
  exact ⟨g, c', rfl, h1, h2, h3, h4, F⟩
end Go.Proofs.Ytjapconhehdcjaa
