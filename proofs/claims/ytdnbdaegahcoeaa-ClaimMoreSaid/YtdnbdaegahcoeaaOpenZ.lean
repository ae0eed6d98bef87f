/- Layer 1: five small numbers that came in, opened. -/
import Derived.Test.YtdnbdaegahcoeaaOpenY
import Derived.Test.YtdnbdaegahcoeaaRankW
namespace Go.Proofs.Ytdnbdaegahcoeaa
open Go.RowKit Go.Sort
open Go.Joins Go.ChangeShapes Go.WideShapes Go.ChangeAt
theorem cT54 : Try.prog.cellsOf 54 = 5 := by kernel_rfl
/-- five numbers that came in. -/
theorem open_z {H : Type} {enc : TypeId × Value → H} {w : World} {base b0 : Nat} {spare : Nat → Bool} {held : Bool} {r : Reach} {v : Value} {d : DataW H} {p : List MemPlace}
    (hv : Value.okWide Try.prog w r b0 54 v) (h : DataW.Trod enc Try.prog w base spare held 54 v d p) :
    ∃ a b c d' e, v = ag8 a b c d' e ∧ p = [] ∧ ∀ j, 0 ≤ nth [a, b, c, d', e] j ∧ nth [a, b, c, d', e] j ≤ 255 := by
  obtain ⟨fuel, hf⟩ := h
  simp only [Value.okWide, Try.underlying54] at hv
  obtain ⟨cs, rfl, hsz, _⟩ := hv
  obtain ⟨c0, c1, c2, c3, c4, rfl⟩ := array5 (hsz.trans cT54)
  obtain ⟨ys, m', _, hx, _, hyl, hys⟩ := DataW.trod_array Try.underlying54 hf
  obtain ⟨y0, y1, y2, y3, y4, rfl⟩ := list5' hyl
  have k0 := hys 0 (by decide)
  have k1 := hys 1 (by decide)
  have k2 := hys 2 (by decide)
  have k3 := hys 3 (by decide)
  have k4 := hys 4 (by decide)
  simp [Value.cells, cT5] at k0 k1 k2 k3 k4
  obtain ⟨a, e1, rfl, w1⟩ := DataW.trod_int Try.underlying5 k0
  obtain ⟨b, e2, rfl, w2⟩ := DataW.trod_int Try.underlying5 k1
  obtain ⟨c, e3, rfl, w3⟩ := DataW.trod_int Try.underlying5 k2
  obtain ⟨d', e4, rfl, w4⟩ := DataW.trod_int Try.underlying5 k3
  obtain ⟨e, e5, rfl, w5⟩ := DataW.trod_int Try.underlying5 k4
  simp at e1 e2 e3 e4 e5
  subst e1 e2 e3 e4 e5
  refine ⟨a, b, c, d', e, rfl, ?_, nth5_bd (u8_bd w1) (u8_bd w2) (u8_bd w3) (u8_bd w4) (u8_bd w5) (by decide)⟩
  have := congrArg Prod.snd hx
  simpa using this
end Go.Proofs.Ytdnbdaegahcoeaa
