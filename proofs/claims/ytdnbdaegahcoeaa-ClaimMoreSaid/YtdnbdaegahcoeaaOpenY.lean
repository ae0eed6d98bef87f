/- Layer 1: five numbers that came in, opened. -/
import Derived.Test.YtdnbdaegahcoeaaOpenQ
import Derived.Test.YtdnbdaegahcoeaaSpreadW
namespace Go.Proofs.Ytdnbdaegahcoeaa
open Go.RowKit Go.Sort
open Go.Joins Go.ChangeShapes Go.WideShapes Go.ChangeAt
theorem cT42 : Try.prog.cellsOf 42 = 5 := by kernel_rfl
theorem cT41 : Try.prog.cellsOf 41 = 1 := by kernel_rfl
theorem array5 {α : Type} {cs : Array α} (h : cs.size = 5) : ∃ c0 c1 c2 c3 c4, cs = #[c0, c1, c2, c3, c4] := by
  obtain ⟨l⟩ := cs
  match l, h with
  | [c0, c1, c2, c3, c4], _ => exact ⟨c0, c1, c2, c3, c4, rfl⟩
theorem u32_bd {x : Int} (h : (Lit.int .u32 x).wf = true) : 0 ≤ x ∧ x ≤ 4294967295 := by
  simpa [Lit.wf, IntKind.min, IntKind.max, IntKind.signed, IntKind.bits] using h
theorem nth5_bd {a b c d e M : Int} (ha : 0 ≤ a ∧ a ≤ M) (hb : 0 ≤ b ∧ b ≤ M) (hc : 0 ≤ c ∧ c ≤ M) (hd : 0 ≤ d ∧ d ≤ M) (he : 0 ≤ e ∧ e ≤ M) (hM : 0 ≤ M) : ∀ j, 0 ≤ nth [a, b, c, d, e] j ∧ nth [a, b, c, d, e] j ≤ M := by
  intro j
  match j with
  | 0 => exact ha
  | 1 => exact hb
  | 2 => exact hc
  | 3 => exact hd
  | 4 => exact he
  | j + 5 => simp [nth_eq]; exact hM
/-- five numbers that came in. -/
theorem open_y {H : Type} {enc : TypeId × Value → H} {w : World} {base b0 : Nat} {spare : Nat → Bool} {held : Bool} {r : Reach} {v : Value} {d : DataW H} {p : List MemPlace}
    (hv : Value.okWide Try.prog w r b0 42 v) (h : DataW.Trod enc Try.prog w base spare held 42 v d p) :
    ∃ a b c d' e, v = ag32 a b c d' e ∧ p = [] ∧ ∀ j, 0 ≤ nth [a, b, c, d', e] j ∧ nth [a, b, c, d', e] j ≤ 4294967295 := by
  obtain ⟨fuel, hf⟩ := h
  simp only [Value.okWide, Try.underlying42] at hv
  obtain ⟨cs, rfl, hsz, _⟩ := hv
  obtain ⟨c0, c1, c2, c3, c4, rfl⟩ := array5 (hsz.trans cT42)
  obtain ⟨ys, m', _, hx, _, hyl, hys⟩ := DataW.trod_array Try.underlying42 hf
  obtain ⟨y0, y1, y2, y3, y4, rfl⟩ := list5' hyl
  have k0 := hys 0 (by decide)
  have k1 := hys 1 (by decide)
  have k2 := hys 2 (by decide)
  have k3 := hys 3 (by decide)
  have k4 := hys 4 (by decide)
  simp [Value.cells, cT41] at k0 k1 k2 k3 k4
  obtain ⟨a, e1, rfl, w1⟩ := DataW.trod_int Try.underlying41 k0
  obtain ⟨b, e2, rfl, w2⟩ := DataW.trod_int Try.underlying41 k1
  obtain ⟨c, e3, rfl, w3⟩ := DataW.trod_int Try.underlying41 k2
  obtain ⟨d', e4, rfl, w4⟩ := DataW.trod_int Try.underlying41 k3
  obtain ⟨e, e5, rfl, w5⟩ := DataW.trod_int Try.underlying41 k4
  simp at e1 e2 e3 e4 e5
  subst e1 e2 e3 e4 e5
  refine ⟨a, b, c, d', e, rfl, ?_, nth5_bd (u32_bd w1) (u32_bd w2) (u32_bd w3) (u32_bd w4) (u32_bd w5) (by decide)⟩
  have := congrArg Prod.snd hx
  simpa using this
end Go.Proofs.Ytdnbdaegahcoeaa
