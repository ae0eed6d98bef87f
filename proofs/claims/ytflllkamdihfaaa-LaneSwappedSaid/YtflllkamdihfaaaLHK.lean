/- three bytes that came in -/
import Derived.Test.YtflllkamdihfaaaLEC
import Derived.Test.YtflllkamdihfaaaLHI
namespace Go.Proofs.Ytflllkamdihfaaa
open Go.RowKit Go.Sort
section
open Go.Joins Go.ChangeShapes Go.WideShapes Go.ChangeAt
theorem arrayT3 {α : Type} {cs : Array α} (h : cs.size = 3) : ∃ c0 c1 c2, cs = #[c0, c1, c2] := by
  obtain ⟨l⟩ := cs
  match l, h with
  | [c0, c1, c2], _ => exact ⟨c0, c1, c2, rfl⟩
set_option maxRecDepth 100000 in
/-- three bytes that came in. -/
theorem open_three {H : Type} {enc : TypeId × Value → H} {w : World} {base b0 : Nat} {spare : Nat → Bool} {held : Bool} {r : Reach} {v : Value} {d : DataW H} {p : List MemPlace}
    (hv : Value.okWide Try.prog w r b0 61 v) (h : DataW.Trod enc Try.prog w base spare held 61 v d p) :
    ∃ b : Nat → Nat, (∀ j, b j ≤ 255) ∧ v = thV b ∧ p = [] := by
  obtain ⟨fuel, hf⟩ := h
  simp only [Value.okWide, Try.underlying61] at hv
  obtain ⟨cs, rfl, hsz, _⟩ := hv
  obtain ⟨c0, c1, c2, rfl⟩ := arrayT3 (hsz.trans cT61)
  obtain ⟨ys, m', _, hx, _, hyl, hys⟩ := DataW.trod_array Try.underlying61 hf
  obtain ⟨y0, y1, y2, rfl⟩ := list3' hyl
  have k0 := hys 0 (by decide)
  have k1 := hys 1 (by decide)
  have k2 := hys 2 (by decide)
  simp [Value.cells, cT5] at k0 k1 k2
  obtain ⟨a0, e0, rfl, w0⟩ := DataW.trod_int Try.underlying5 k0
  obtain ⟨a1, e1, rfl, w1⟩ := DataW.trod_int Try.underlying5 k1
  obtain ⟨a2, e2, rfl, w2⟩ := DataW.trod_int Try.underlying5 k2
  simp at e0 e1 e2
  subst e0 e1 e2
  obtain ⟨n0, rfl, b0⟩ := u8_nat w0
  obtain ⟨n1, rfl, b1⟩ := u8_nat w1
  obtain ⟨n2, rfl, b2⟩ := u8_nat w2
  refine ⟨fun j => match j with | 0 => n0 | 1 => n1 | 2 => n2 | _ => 0, fun j => ?_, rfl, ?_⟩
  · match j with
    | 0 => exact b0
    | 1 => exact b1
    | 2 => exact b2
    | j + 3 => exact Nat.zero_le _
  · have := congrArg Prod.snd hx
    simpa using this
end
end Go.Proofs.Ytflllkamdihfaaa
