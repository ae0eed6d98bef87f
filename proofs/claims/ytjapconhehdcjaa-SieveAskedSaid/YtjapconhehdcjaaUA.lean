/- slices.Sort from a place on -/
import Derived.Test.YtjapconhehdcjaaLE
namespace Go.Proofs.Ytjapconhehdcjaa
open Go.RowKit Go.Sort
/-- a row that the call has made, from a place on. -/
def RowO (w : World) (g o : Nat) (zs : List Int) : Prop := (∀ j, j < zs.length → w.cell? ⟨g, o + j, none⟩ = some (.int .i64 (nth zs j))) ∧ ∀ j, w.frozen? ⟨g, j, none⟩ = false
theorem RowO.below {w w' : World} {B g o : Nat} {zs : List Int} (h : RowO w g o zs) (hb : RowKit.Below B w w') (hg : g < B) : RowO w' g o zs :=
  ⟨fun j hj => (hb.cell (p := ⟨g, o + j, none⟩) hg).trans (h.1 j hj), fun j => (hb.frozen (p := ⟨g, j, none⟩) hg).trans (h.2 j)⟩
theorem RowO.holds {w : World} {g o : Nat} {zs : List Int} (h : RowO w g o zs) : Holds (Value.int .i64) w g o zs.toArray := fun j hj => by
  have hj' : j < zs.length := by simpa using hj
  refine ⟨?_, h.2 _⟩
  rw [h.1 j hj', nth_eq, List.getElem?_eq_getElem hj']
  simp [hj']
theorem RowO.put {w : World} {g o : Nat} {zs ys : List Int} (h : RowO w g o zs) (hl : ys.length = zs.length) : RowO (putRow (Value.int .i64) w g o ys.toArray) g o ys := by
  refine ⟨fun j hj => ?_, fun j => by rw [frozen?_putRow]; exact h.2 j⟩
  have := cell?_putRow (Value.int .i64) w g o zs.toArray ys.toArray h.holds (by simpa using hl) j (by simpa using hj)
  rw [this, nth_eq, List.getElem?_eq_getElem hj]
  simp [hj]
theorem belowO_put {w w0 : World} {B blk : Nat} (h : RowKit.Below B w0 w) (hb : B ≤ blk) (o : Nat) (d : Array Int) : RowKit.Below B w0 (putRow (Value.int .i64) w blk o d) :=
  h.trans ⟨rfl, rfl, rfl, by simp, fun k hk => by
    show (w.heap.modify blk _)[k]? = _
    rw [Array.getElem?_modify, if_neg (by omega)]⟩
open Go.Shelf in
/-- slices.Sort: a row of one's own is put in order, from a place on. -/
theorem sort_off (g o cap : Nat) (zs : List Int) (w : World) (hR : RowO w g o zs) (hg : g < w.heap.size) (hl : zs.length ≤ 100000) :
    Calls Try.prog 48 #[.slice (some ⟨g, o, none⟩) zs.length cap] w fun e w' => e = .returned (.tuple #[]) ∧ RowO w' g o (srtI zs) ∧ (∀ B, B ≤ g → RowKit.Below B w w') ∧ w.heap.size ≤ w'.heap.size := by
  have h := AnyM.slices_Sort_int srtL g o cap zs w hR.holds hg (by omega)
  refine Calls.mono h ?_
  rintro e w' ⟨rfl, n, os, rfl⟩
  have hR1 : RowO (Sort.ahead w n) g o zs := hR
  have hR2 : RowO (putRow (Value.int .i64) (Sort.ahead w n) g o (srtI zs).toArray) g o (srtI zs) := hR1.put (srt_len zs)
  have hsz : g < (putRow (Value.int .i64) (Sort.ahead w n) g o (srtI zs).toArray).heap.size := by simpa using hg
  have hF : Fut (putRow (Value.int .i64) (Sort.ahead w n) g o (srtI zs).toArray) (grow (putRow (Value.int .i64) (Sort.ahead w n) g o (srtI zs).toArray) os) :=
    ⟨rfl, rfl, rfl, by simp, fun k hk => by
      show ((putRow (Value.int .i64) (Sort.ahead w n) g o (srtI zs).toArray).heap ++ os)[k]? = _
      rw [Array.getElem?_append_left hk]⟩
  have hB : ∀ B, B ≤ g → RowKit.Below B w (putRow (Value.int .i64) (Sort.ahead w n) g o (srtI zs).toArray) := fun B hb => belowO_put (w := Sort.ahead w n) (below_drewN (RowKit.Below.refl _ _) n) hb _ _
  have hs2 : w.heap.size ≤ (putRow (Value.int .i64) (Sort.ahead w n) g o (srtI zs).toArray).heap.size := by simp [Sort.ahead]
  refine ⟨rfl, hR2.below hF hsz, fun B hb => ?_, Nat.le_trans hs2 (RowKit.Below.size hF)⟩
  exact RowKit.Below.trans (hB B hb) (RowKit.Below.mono hF (by have := hB B hb; omega))
end Go.Proofs.Ytjapconhehdcjaa
