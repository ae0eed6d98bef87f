/- five bytes that came in, opened; their box -/
import Derived.Test.YtpgifeaejjjjnaaOR
namespace Go.Proofs.Ytpgifeaejjjjnaa
open Go.RowKit Go.Sort
open Go.Joins Go.ChangeShapes Go.WideShapes Go.ChangeAt
theorem array5 {α : Type} {cs : Array α} (h : cs.size = 5) : ∃ c0 c1 c2 c3 c4, cs = #[c0, c1, c2, c3, c4] := by
  obtain ⟨l⟩ := cs
  match l, h with
  | [c0, c1, c2, c3, c4], _ => exact ⟨c0, c1, c2, c3, c4, rfl⟩
/-- five bytes as a value. -/
abbrev fiveV (b : Nat → Int) : Value := .agg #[.int .u8 (b 0), .int .u8 (b 1), .int .u8 (b 2), .int .u8 (b 3), .int .u8 (b 4)]
set_option maxRecDepth 100000 in
/-- five bytes that came in. -/
theorem open_five {H : Type} {enc : TypeId × Value → H} {w : World} {base b0 : Nat} {spare : Nat → Bool} {held : Bool} {r : Reach} {v : Value} {d : DataW H} {p : List MemPlace}
    (hv : Value.okWide Try.prog w r b0 40 v) (h : DataW.Trod enc Try.prog w base spare held 40 v d p) :
    ∃ by_ : Nat → Int, (∀ i, i < 5 → 0 ≤ by_ i ∧ by_ i < 256) ∧ v = fiveV by_ ∧ p = [] := by
  obtain ⟨fuel, hf⟩ := h
  simp only [Value.okWide, Try.underlying40] at hv
  obtain ⟨cs, rfl, hsz, _⟩ := hv
  obtain ⟨c0, c1, c2, c3, c4, rfl⟩ := array5 (hsz.trans cT40)
  obtain ⟨ys, m', _, hx, _, hyl, hys⟩ := DataW.trod_array Try.underlying40 hf
  obtain ⟨y0, y1, y2, y3, y4, rfl⟩ := list5' hyl
  have k0 := hys 0 (by decide)
  have k1 := hys 1 (by decide)
  have k2 := hys 2 (by decide)
  have k3 := hys 3 (by decide)
  have k4 := hys 4 (by decide)
  simp [Value.cells, cT5] at k0 k1 k2 k3 k4
  obtain ⟨z0, f0, rfl, v0⟩ := DataW.trod_int Try.underlying5 k0
  obtain ⟨z1, f1, rfl, v1⟩ := DataW.trod_int Try.underlying5 k1
  obtain ⟨z2, f2, rfl, v2⟩ := DataW.trod_int Try.underlying5 k2
  obtain ⟨z3, f3, rfl, v3⟩ := DataW.trod_int Try.underlying5 k3
  obtain ⟨z4, f4, rfl, v4⟩ := DataW.trod_int Try.underlying5 k4
  simp at f0 f1 f2 f3 f4
  subst f0 f1 f2 f3 f4
  refine ⟨fun i => nth [z0, z1, z2, z3, z4] i, fun i hi => ?_, rfl, ?_⟩
  · rcases (by omega : i = 0 ∨ i = 1 ∨ i = 2 ∨ i = 3 ∨ i = 4) with rfl | rfl | rfl | rfl | rfl
    · have := u8_bd v0; exact ⟨this.1, by show z0 < 256; omega⟩
    · have := u8_bd v1; exact ⟨this.1, by show z1 < 256; omega⟩
    · have := u8_bd v2; exact ⟨this.1, by show z2 < 256; omega⟩
    · have := u8_bd v3; exact ⟨this.1, by show z3 < 256; omega⟩
    · have := u8_bd v4; exact ⟨this.1, by show z4 < 256; omega⟩
  · have := congrArg Prod.snd hx
    simpa using this
/-- the box of five bytes. -/
structure BoxFv (w : World) (B : Nat) (by_ : Nat → Int) : Prop where
  lt : B < w.heap.size
  b : ∀ i, i < 5 → w.cell? ⟨B, i, none⟩ = some (.int .u8 (by_ i))
theorem BoxFv.fut {w w' : World} {B : Nat} {by_ : Nat → Int} (h : BoxFv w B by_) (F : Fut w w') : BoxFv w' B by_ :=
  ⟨Nat.lt_of_lt_of_le h.lt (RowKit.Below.size F), fun i hi => (RowKit.Below.cell F (p := ⟨B, i, none⟩) h.lt).trans (h.b i hi)⟩
theorem BoxFv.new (w : World) (by_ : Nat → Int) : BoxFv (w.alloc (.cells #[.int .u8 (by_ 0), .int .u8 (by_ 1), .int .u8 (by_ 2), .int .u8 (by_ 3), .int .u8 (by_ 4)] 40)) w.heap.size by_ := by
  have h := World.alloc_heap_new w (.cells #[.int .u8 (by_ 0), .int .u8 (by_ 1), .int .u8 (by_ 2), .int .u8 (by_ 3), .int .u8 (by_ 4)] 40)
  refine ⟨by simp, fun i hi => ?_⟩
  unfold World.cell?; rw [h]
  rcases (by omega : i = 0 ∨ i = 1 ∨ i = 2 ∨ i = 3 ∨ i = 4) with rfl | rfl | rfl | rfl | rfl <;> rfl
end Go.Proofs.Ytpgifeaejjjjnaa
