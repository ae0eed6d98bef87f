/- Layer 1: a quarrel that came in, opened. -/
import Derived.Test.YtdnbdaegahcoeaaSplitB
import Derived.Lib.SmallJoins
import Derived.ProofKit
import Derived.OpenShut
namespace Go.Proofs.Ytdnbdaegahcoeaa
open Go.RowKit Go.Sort
open Go.Joins Go.ChangeShapes Go.WideShapes Go.ChangeAt
theorem cT40 : Try.prog.cellsOf 40 = 7 := by kernel_rfl
theorem cT38 : Try.prog.cellsOf 38 = 5 := by kernel_rfl
theorem cT37 : Try.prog.cellsOf 37 = 1 := by kernel_rfl
theorem cT5 : Try.prog.cellsOf 5 = 1 := by kernel_rfl
theorem array7 {α : Type} {cs : Array α} (h : cs.size = 7) : ∃ c0 c1 c2 c3 c4 c5 c6, cs = #[c0, c1, c2, c3, c4, c5, c6] := by
  obtain ⟨l⟩ := cs
  match l, h with
  | [c0, c1, c2, c3, c4, c5, c6], _ => exact ⟨c0, c1, c2, c3, c4, c5, c6, rfl⟩
theorem list3 {α : Type} {xs : List α} (h : xs.length = 3) : ∃ x0 x1 x2, xs = [x0, x1, x2] := by
  match xs, h with
  | [x0, x1, x2], _ => exact ⟨x0, x1, x2, rfl⟩
theorem list5' {α : Type} {xs : List α} (h : xs.length = 5) : ∃ x0 x1 x2 x3 x4, xs = [x0, x1, x2, x3, x4] := by
  match xs, h with
  | [x0, x1, x2, x3, x4], _ => exact ⟨x0, x1, x2, x3, x4, rfl⟩
theorem u16_bd {x : Int} (h : (Lit.int .u16 x).wf = true) : 0 ≤ x ∧ x ≤ 65535 := by
  simpa [Lit.wf, IntKind.min, IntKind.max, IntKind.signed, IntKind.bits] using h
theorem u8_bd {x : Int} (h : (Lit.int .u8 x).wf = true) : 0 ≤ x ∧ x ≤ 255 := by
  simpa [Lit.wf, IntKind.min, IntKind.max, IntKind.signed, IntKind.bits] using h
/-- a quarrel that came in, opened: its numbers and their bounds; it reaches no memory. -/
theorem open_q {H : Type} {enc : TypeId × Value → H} {w : World} {base b0 : Nat} {spare : Nat → Bool} {held : Bool} {r : Reach} {v : Value} {d : DataW H} {p : List MemPlace}
    (hv : Value.okWide Try.prog w r b0 40 v) (h : DataW.Trod enc Try.prog w base spare held 40 v d p) :
    ∃ n a b c d' e x, v = qv n a b c d' e x ∧ p = [] ∧ (0 ≤ n ∧ n ≤ 255) ∧ (0 ≤ a ∧ a ≤ 65535) ∧ (0 ≤ b ∧ b ≤ 65535) ∧ (0 ≤ c ∧ c ≤ 65535) ∧ (0 ≤ d' ∧ d' ≤ 65535) ∧ (0 ≤ e ∧ e ≤ 65535) ∧ (0 ≤ x ∧ x ≤ 65535) := by
  obtain ⟨cs, rfl, hsz⟩ := okWide_struct Try.underlying40 hv
  obtain ⟨c0, c1, c2, c3, c4, c5, c6, rfl⟩ := array7 (hsz.trans cT40)
  obtain ⟨fuel, hf⟩ := h
  obtain ⟨xs, m, _, hx, _, hxl, hfs⟩ := DataW.trod_struct Try.underlying40 hf
  obtain ⟨x0, x1, x2, rfl⟩ := list3 hxl
  have h0 := hfs 0 _ rfl
  have h1 := hfs 1 _ rfl
  have h2 := hfs 2 _ rfl
  simp [Value.cells, cT5, cT38, cT37] at h0 h1 h2
  obtain ⟨n, e0, rfl, w0⟩ := DataW.trod_int Try.underlying5 h0
  obtain ⟨x, e6, rfl, w6⟩ := DataW.trod_int Try.underlying37 h2
  obtain ⟨ys, m', _, rfl, _, hyl, hys⟩ := DataW.trod_array Try.underlying38 h1
  obtain ⟨y0, y1, y2, y3, y4, rfl⟩ := list5' hyl
  have k0 := hys 0 (by decide)
  have k1 := hys 1 (by decide)
  have k2 := hys 2 (by decide)
  have k3 := hys 3 (by decide)
  have k4 := hys 4 (by decide)
  simp [cT37] at k0 k1 k2 k3 k4
  obtain ⟨a, e1, rfl, w1⟩ := DataW.trod_int Try.underlying37 k0
  obtain ⟨b, e2, rfl, w2⟩ := DataW.trod_int Try.underlying37 k1
  obtain ⟨c, e3, rfl, w3⟩ := DataW.trod_int Try.underlying37 k2
  obtain ⟨d', e4, rfl, w4⟩ := DataW.trod_int Try.underlying37 k3
  obtain ⟨e, e5, rfl, w5⟩ := DataW.trod_int Try.underlying37 k4
  simp at e0 e1 e2 e3 e4 e5 e6
  subst e0 e1 e2 e3 e4 e5 e6
  refine ⟨n, a, b, c, d', e, x, rfl, ?_, u8_bd w0, u16_bd w1, u16_bd w2, u16_bd w3, u16_bd w4, u16_bd w5, u16_bd w6⟩
  have := congrArg Prod.snd hx
  simpa using this
end Go.Proofs.Ytdnbdaegahcoeaa
