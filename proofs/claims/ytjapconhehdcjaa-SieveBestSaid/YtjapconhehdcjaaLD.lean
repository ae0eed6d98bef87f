/- Delete 114 (del_any), RowN: a row made by the call -/
import Derived.Test.YtjapconhehdcjaaLC
import Derived.Shelf.Slices.Delete
namespace Go.Proofs.Ytjapconhehdcjaa
open Go.RowKit Go.Sort
/-- a row that the call has made, and reads as these numbers. -/
def RowN (w : World) (g : Nat) (zs : List Int) : Prop := (∀ j, j < zs.length → w.cell? ⟨g, j, none⟩ = some (.int .i64 (nth zs j))) ∧ ∀ j, w.frozen? ⟨g, j, none⟩ = false
theorem RowN.below {w w' : World} {B g : Nat} {zs : List Int} (h : RowN w g zs) (hb : RowKit.Below B w w') (hg : g < B) : RowN w' g zs :=
  ⟨fun j hj => (hb.cell (p := ⟨g, j, none⟩) hg).trans (h.1 j hj), fun j => (hb.frozen (p := ⟨g, j, none⟩) hg).trans (h.2 j)⟩
theorem RowN.holds {w : World} {g : Nat} {zs : List Int} (h : RowN w g zs) : Holds (Value.int .i64) w g 0 zs.toArray := fun j hj => by
  have hj' : j < zs.length := by simpa using hj
  refine ⟨?_, by rw [Nat.zero_add]; exact h.2 j⟩
  rw [Nat.zero_add, h.1 j hj', nth_eq, List.getElem?_eq_getElem hj']
  simp [hj']
theorem RowN.put {w : World} {g : Nat} {zs ys : List Int} (h : RowN w g zs) (hl : ys.length = zs.length) : RowN (putRow (Value.int .i64) w g 0 ys.toArray) g ys := by
  refine ⟨fun j hj => ?_, fun j => by rw [frozen?_putRow]; exact h.2 j⟩
  have := cell?_putRow (Value.int .i64) w g 0 zs.toArray ys.toArray h.holds (by simpa using hl) j (by simpa using hj)
  rw [Nat.zero_add] at this
  rw [this, nth_eq, List.getElem?_eq_getElem hj]
  simp [hj]
theorem RowN.part {w : World} {g : Nat} {zs ys : List Int} (h : RowN w g (zs ++ ys)) : RowN w g zs := by
  refine ⟨fun j hj => ?_, h.2⟩
  have := h.1 j (by rw [List.length_append]; omega)
  rw [this, nth_eq, nth_eq, List.getElem?_append_left hj]
theorem below_put {w w0 : World} {B blk : Nat} (h : RowKit.Below B w0 w) (hb : B ≤ blk) (d : Array Int) : RowKit.Below B w0 (putRow (Value.int .i64) w blk 0 d) :=
  h.trans ⟨rfl, rfl, rfl, by simp, fun k hk => by
    show (w.heap.modify blk _)[k]? = _
    rw [Array.getElem?_modify, if_neg (by omega)]⟩
theorem own_put {w : World} {B blk : Nat} {v : Value} {n : Nat} {xs : List Value} (h : w.ownsRow B 3 1 v n xs) (hb : blk < B) (d : Array Int) : (putRow (Value.int .i64) w blk 0 d).ownsRow B 3 1 v n xs := by
  refine h.kept (row := some blk) ⟨rfl, rfl, rfl, by simp, fun k hk hne => ?_⟩ ?_
  · show (w.heap.modify blk _)[k]? = _
    rw [Array.getElem?_modify, if_neg (fun e => hne (by rw [e]))]
  · cases e : v.ownBlock with
    | none => exact .inl rfl
    | some k => exact .inr (fun e' => by injection e' with e'; have := (h.lt k e).1; omega)
theorem row_ints {w : World} {B : Nat} {v : Value} {n : Nat} {zs : List Int} (h : w.ownsRow B 3 1 v n (zs.map (.int .i64))) (hl : zs.length = n) (h0 : 0 < n) :
    ∃ g cap, v = .slice (some ⟨g, 0, none⟩) n cap ∧ B ≤ g ∧ g < w.heap.size ∧ RowN w g zs ∧ n ≤ cap ∧ cap ≤ 9223372036854775807 := by
  obtain ⟨_, h | ⟨g, cap, cur, rfl, hb, hg, hnc, hm, hcs, htake⟩⟩ := h
  · exfalso
    obtain ⟨_, h1⟩ := h
    omega
  · have hlt := (Array.getElem?_eq_some_iff.1 hg).1
    unfold maxLen at hm
    refine ⟨g, cap, rfl, hb, hlt, ⟨fun j hj => ?_, fun j => frozen_of_row w g j _ _ hg⟩, hnc, by omega⟩
    have e : (zs.map (Value.int .i64))[j]? = some (.int .i64 (nth zs j)) := by rw [nth_eq]; simp [hj]
    rw [← htake, List.getElem?_take, if_pos (by omega)] at e
    rw [cell_of_row w g j _ _ _ hg]
    simpa using e
def dRen : Go.Shelf.Ren := ⟨fun | 23 => 58 | n => n, fun n => n, fun n => n⟩
open Go.Shelf in
theorem dLay : Lays2.n23 Try.prog dRen :=
  { mixed := (by kernel_rfl)
    f23 := Try.func58.trans (congrArg some (by kernel_rfl))
    t0 := Try.underlying0
    a0 := Try.isAgg0
    z0 := Try.sizeOf0
    v0 := Try.zeroValue0
    t3 := Try.underlying3
    a3 := Try.isAgg3
    z3 := Try.sizeOf3
    v3 := Try.zeroValue3
    t4 := Try.underlying4
    a4 := Try.isAgg4
    z4 := Try.sizeOf4
    v4 := Try.zeroValue4
    t22 := Try.underlying22
    a22 := Try.isAgg22
    z22 := Try.sizeOf22
    v22 := Try.zeroValue22
    i3 := by kernel_rfl }
open Go.Shelf in
/-- one element is taken out of a row. -/
theorem del_any (g cap k : Nat) (zs : List Int) (w : World) (hR : RowN w g zs) (hc : zs.length ≤ cap) (hm : cap ≤ 9223372036854775807) (hk : k < zs.length) :
    Calls Try.prog 58 #[.slice (some ⟨g, 0, none⟩) zs.length cap, .int .i64 k, .int .i64 ((k : Int) + 1)] w fun e w' =>
      e = .returned (.slice (some ⟨g, 0, none⟩) (zs.length - 1) cap) ∧ RowN w' g (zs.take k ++ zs.drop (k + 1)) ∧ (∀ B, B ≤ g → RowKit.Below B w w') ∧ w.heap.size ≤ w'.heap.size ∧ ∀ (B : Nat) v n xs, w.ownsRow B 3 1 v n xs → g < B → w'.ownsRow B 3 1 v n xs := by
  have h := Any.slices_Delete_int dLay g 0 cap k (k + 1) zs w hR.holds hc hm (by omega) (by omega)
  rw [show ((k + 1 : Nat) : Int) = (k : Int) + 1 by omega] at h
  refine h.mono ?_
  rintro e w' ⟨rfl, q, rfl⟩
  have ha : Sort.ahead w q = w.drewN q := rfl
  rw [ha]
  have hd : RowN (w.drewN q) g zs := hR
  have hb0 : RowKit.Below g w (putRow (Value.int .i64) (w.drewN q) g 0 (zs.take k ++ zs.drop (k + 1) ++ List.replicate (k + 1 - k) 0).toArray) := below_put (below_drewN (RowKit.Below.refl _ _) q) (Nat.le_refl _) _
  refine ⟨by rw [show k + 1 - k = 1 by omega], ?_, fun B hB => below_put (below_drewN (RowKit.Below.refl _ _) q) hB _, ?_, fun B v n xs ho hB => own_put (w := w.drewN q) ho hB _⟩
  · have := hd.put (ys := zs.take k ++ zs.drop (k + 1) ++ List.replicate (k + 1 - k) 0) (by simp; omega)
    exact this.part
  · exact hb0.size
end Go.Proofs.Ytjapconhehdcjaa
