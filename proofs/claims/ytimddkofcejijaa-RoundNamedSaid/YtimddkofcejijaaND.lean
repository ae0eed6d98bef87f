/- Layer 2: six bytes that came in, opened. -/
import Derived.Test.YtimddkofcejijaaSI
namespace Go.Proofs.Ytimddkofcejijaa
open Go.RowKit Go.Sort
open Go.Joins Go.ChangeShapes Go.WideShapes Go.ChangeAt
theorem array6 {α : Type} {cs : Array α} (h : cs.size = 6) : ∃ c0 c1 c2 c3 c4 c5, cs = #[c0, c1, c2, c3, c4, c5] := by
  obtain ⟨l⟩ := cs
  match l, h with
  | [c0, c1, c2, c3, c4, c5], _ => exact ⟨c0, c1, c2, c3, c4, c5, rfl⟩
set_option maxRecDepth 100000 in
/-- six bytes that came in. -/
theorem open_six {H : Type} {enc : TypeId × Value → H} {w : World} {base b0 : Nat} {spare : Nat → Bool} {held : Bool} {r : Reach} {v : Value} {d : DataW H} {p : List MemPlace}
    (hv : Value.okWide Try.prog w r b0 56 v) (h : DataW.Trod enc Try.prog w base spare held 56 v d p) :
    ∃ b : Nat → Int, (∀ j, 0 ≤ b j ∧ b j ≤ 255) ∧ v = .agg #[.int .u8 (b 0), .int .u8 (b 1), .int .u8 (b 2), .int .u8 (b 3), .int .u8 (b 4), .int .u8 (b 5)] ∧ p = [] := by
  obtain ⟨fuel, hf⟩ := h
  simp only [Value.okWide, Try.underlying56] at hv
  obtain ⟨cs, rfl, hsz, _⟩ := hv
  obtain ⟨c0, c1, c2, c3, c4, c5, rfl⟩ := array6 (hsz.trans cT56)
  obtain ⟨ys, m', _, hx, _, hyl, hys⟩ := DataW.trod_array Try.underlying56 hf
  obtain ⟨y0, y1, y2, y3, y4, y5, rfl⟩ := listN6 hyl
  have k0 := hys 0 (by decide)
  have k1 := hys 1 (by decide)
  have k2 := hys 2 (by decide)
  have k3 := hys 3 (by decide)
  have k4 := hys 4 (by decide)
  have k5 := hys 5 (by decide)
  simp [Value.cells, cT5] at k0 k1 k2 k3 k4 k5
  obtain ⟨a0, e0, rfl, w0⟩ := DataW.trod_int Try.underlying5 k0
  obtain ⟨a1, e1, rfl, w1⟩ := DataW.trod_int Try.underlying5 k1
  obtain ⟨a2, e2, rfl, w2⟩ := DataW.trod_int Try.underlying5 k2
  obtain ⟨a3, e3, rfl, w3⟩ := DataW.trod_int Try.underlying5 k3
  obtain ⟨a4, e4, rfl, w4⟩ := DataW.trod_int Try.underlying5 k4
  obtain ⟨a5, e5, rfl, w5⟩ := DataW.trod_int Try.underlying5 k5
  simp at e0 e1 e2 e3 e4 e5
  subst e0 e1 e2 e3 e4 e5
  refine ⟨fun i => nth [a0, a1, a2, a3, a4, a5] i, fun i => ?_, rfl, ?_⟩
  · match i with
    | 0 => exact u8_bd w0
    | 1 => exact u8_bd w1
    | 2 => exact u8_bd w2
    | 3 => exact u8_bd w3
    | 4 => exact u8_bd w4
    | 5 => exact u8_bd w5
    | i + 6 => exact ⟨by simp [nth_eq], by simp [nth_eq]⟩
  · have := congrArg Prod.snd hx
    simpa using this
end Go.Proofs.Ytimddkofcejijaa
