/- two bytes that came in, opened; their box -/
import Derived.Test.YtpgifeaejjjjnaaOF
namespace Go.Proofs.Ytpgifeaejjjjnaa
open Go.RowKit Go.Sort
open Go.Joins Go.ChangeShapes Go.WideShapes Go.ChangeAt
theorem array2 {α : Type} {cs : Array α} (h : cs.size = 2) : ∃ c0 c1, cs = #[c0, c1] := by
  obtain ⟨l⟩ := cs
  match l, h with
  | [c0, c1], _ => exact ⟨c0, c1, rfl⟩
theorem list2 {α : Type} {l : List α} (h : l.length = 2) : ∃ c0 c1, l = [c0, c1] := by
  match l, h with
  | [c0, c1], _ => exact ⟨c0, c1, rfl⟩
/-- two bytes as a value. -/
abbrev twoV (b : Nat → Int) : Value := .agg #[.int .u8 (b 0), .int .u8 (b 1)]
set_option maxRecDepth 100000 in
/-- two bytes that came in. -/
theorem open_two {H : Type} {enc : TypeId × Value → H} {w : World} {base b0 : Nat} {spare : Nat → Bool} {held : Bool} {r : Reach} {v : Value} {d : DataW H} {p : List MemPlace}
    (hv : Value.okWide Try.prog w r b0 48 v) (h : DataW.Trod enc Try.prog w base spare held 48 v d p) :
    ∃ by_ : Nat → Int, (∀ i, i < 2 → 0 ≤ by_ i ∧ by_ i < 256) ∧ v = twoV by_ ∧ p = [] := by
  obtain ⟨fuel, hf⟩ := h
  simp only [Value.okWide, Try.underlying48] at hv
  obtain ⟨cs, rfl, hsz, _⟩ := hv
  obtain ⟨c0, c1, rfl⟩ := array2 (hsz.trans (by kernel_rfl))
  obtain ⟨ys, m', _, hx, _, hyl, hys⟩ := DataW.trod_array Try.underlying48 hf
  obtain ⟨y0, y1, rfl⟩ := list2 hyl
  have k0 := hys 0 (by decide)
  have k1 := hys 1 (by decide)
  simp [Value.cells, cT5] at k0 k1
  obtain ⟨z0, f0, rfl, v0⟩ := DataW.trod_int Try.underlying5 k0
  obtain ⟨z1, f1, rfl, v1⟩ := DataW.trod_int Try.underlying5 k1
  simp at f0 f1
  subst f0 f1
  refine ⟨fun i => nth [z0, z1] i, fun i hi => ?_, rfl, ?_⟩
  · rcases (by omega : i = 0 ∨ i = 1) with rfl | rfl
    · have := u8_bd v0; exact ⟨this.1, by show z0 < 256; omega⟩
    · have := u8_bd v1; exact ⟨this.1, by show z1 < 256; omega⟩
  · have := congrArg Prod.snd hx
    simpa using this
/-- the box of two bytes. -/
structure BoxTw (w : World) (B : Nat) (by_ : Nat → Int) : Prop where
  lt : B < w.heap.size
  b : ∀ i, i < 2 → w.cell? ⟨B, i, none⟩ = some (.int .u8 (by_ i))
theorem BoxTw.fut {w w' : World} {B : Nat} {by_ : Nat → Int} (h : BoxTw w B by_) (F : Fut w w') : BoxTw w' B by_ :=
  ⟨Nat.lt_of_lt_of_le h.lt (RowKit.Below.size F), fun i hi => (RowKit.Below.cell F (p := ⟨B, i, none⟩) h.lt).trans (h.b i hi)⟩
theorem BoxTw.new (w : World) (by_ : Nat → Int) : BoxTw (w.alloc (.cells #[.int .u8 (by_ 0), .int .u8 (by_ 1)] 48)) w.heap.size by_ := by
  have h := World.alloc_heap_new w (.cells #[.int .u8 (by_ 0), .int .u8 (by_ 1)] 48)
  refine ⟨by simp, fun i hi => ?_⟩
  unfold World.cell?; rw [h]
  rcases (by omega : i = 0 ∨ i = 1) with rfl | rfl <;> rfl
end Go.Proofs.Ytpgifeaejjjjnaa
