/- a plan by numbers that came in, opened. -/
import Derived.Test.YtpgifeaejjjjnaaCY
import Derived.Lib.SmallJoins
import Derived.ProofKit
import Derived.OpenShut
namespace Go.Proofs.Ytpgifeaejjjjnaa
open Go.RowKit Go.Sort
open Go.Joins Go.ChangeShapes Go.WideShapes Go.ChangeAt
theorem cT42 : Try.prog.cellsOf 42 = 7 := by kernel_rfl
theorem cT40 : Try.prog.cellsOf 40 = 5 := by kernel_rfl
theorem cT5 : Try.prog.cellsOf 5 = 1 := by kernel_rfl
theorem array7 {α : Type} {cs : Array α} (h : cs.size = 7) : ∃ c0 c1 c2 c3 c4 c5 c6, cs = #[c0, c1, c2, c3, c4, c5, c6] := by
  obtain ⟨l⟩ := cs
  match l, h with
  | [c0, c1, c2, c3, c4, c5, c6], _ => exact ⟨c0, c1, c2, c3, c4, c5, c6, rfl⟩
theorem list3 {α : Type} {xs : List α} (h : xs.length = 3) : ∃ x0 x1 x2, xs = [x0, x1, x2] := by
  match xs, h with
  | [x0, x1, x2], _ => exact ⟨x0, x1, x2, rfl⟩
theorem list5' {α : Type} {xs : List α} (h : xs.length = 5) : ∃ x0 x1 x2 x3 x4, xs = [x0, x1, x2, x3, x4] := by
  match xs, h with
  | [x0, x1, x2, x3, x4], _ => exact ⟨x0, x1, x2, x3, x4, rfl⟩
theorem u8_bd {x : Int} (h : (Lit.int .u8 x).wf = true) : 0 ≤ x ∧ x ≤ 255 := by
  simpa [Lit.wf, IntKind.min, IntKind.max, IntKind.signed, IntKind.bits] using h
set_option maxRecDepth 100000 in
/-- a plan by numbers that came in, opened; it reaches no memory. -/
theorem open_rota {H : Type} {enc : TypeId × Value → H} {w : World} {base b0 : Nat} {spare : Nat → Bool} {held : Bool} {r : Reach} {v : Value} {d : DataW H} {p : List MemPlace}
    (hv : Value.okWide Try.prog w r b0 42 v) (h : DataW.Trod enc Try.prog w base spare held 42 v d p) :
    ∃ (st ca : Nat) (by_ : Nat → Int), (st < 256 ∧ ca < 256 ∧ ∀ i, i < 5 → 0 ≤ by_ i ∧ by_ i < 256) ∧ v = rotaV st ca by_ ∧ p = [] := by
  obtain ⟨cs, rfl, hsz⟩ := okWide_struct Try.underlying42 hv
  obtain ⟨c0, c1, c2, c3, c4, c5, c6, rfl⟩ := array7 (hsz.trans cT42)
  obtain ⟨fuel, hf⟩ := h
  obtain ⟨xs, m, _, hx, _, hxl, hfs⟩ := DataW.trod_struct Try.underlying42 hf
  obtain ⟨x0, x1, x2, rfl⟩ := list3 hxl
  have h0 := hfs 0 _ rfl
  have h1 := hfs 1 _ rfl
  have h2 := hfs 2 _ rfl
  simp [Value.cells, cT5, cT40] at h0 h1 h2
  obtain ⟨a0, e0, rfl, w0⟩ := DataW.trod_int Try.underlying5 h0
  obtain ⟨a1, e1, rfl, w1⟩ := DataW.trod_int Try.underlying5 h1
  obtain ⟨ys, m', _, rfl, _, hyl, hys⟩ := DataW.trod_array Try.underlying40 h2
  obtain ⟨y0, y1, y2, y3, y4, rfl⟩ := list5' hyl
  have k0 := hys 0 (by decide)
  have k1 := hys 1 (by decide)
  have k2 := hys 2 (by decide)
  have k3 := hys 3 (by decide)
  have k4 := hys 4 (by decide)
  simp [cT5] at k0 k1 k2 k3 k4
  obtain ⟨z0, f0, rfl, v0⟩ := DataW.trod_int Try.underlying5 k0
  obtain ⟨z1, f1, rfl, v1⟩ := DataW.trod_int Try.underlying5 k1
  obtain ⟨z2, f2, rfl, v2⟩ := DataW.trod_int Try.underlying5 k2
  obtain ⟨z3, f3, rfl, v3⟩ := DataW.trod_int Try.underlying5 k3
  obtain ⟨z4, f4, rfl, v4⟩ := DataW.trod_int Try.underlying5 k4
  simp at e0 e1 f0 f1 f2 f3 f4
  subst e0 e1 f0 f1 f2 f3 f4
  obtain ⟨s0, s1⟩ := u8_bd w0
  obtain ⟨t0, t1⟩ := u8_bd w1
  obtain ⟨st, rfl⟩ := Int.eq_ofNat_of_zero_le s0
  obtain ⟨ca, rfl⟩ := Int.eq_ofNat_of_zero_le t0
  refine ⟨st, ca, fun i => nth [z0, z1, z2, z3, z4] i, ⟨by omega, by omega, fun i hi => ?_⟩, rfl, ?_⟩
  · rcases (by omega : i = 0 ∨ i = 1 ∨ i = 2 ∨ i = 3 ∨ i = 4) with rfl | rfl | rfl | rfl | rfl
    · have := u8_bd v0; exact ⟨this.1, by show z0 < 256; omega⟩
    · have := u8_bd v1; exact ⟨this.1, by show z1 < 256; omega⟩
    · have := u8_bd v2; exact ⟨this.1, by show z2 < 256; omega⟩
    · have := u8_bd v3; exact ⟨this.1, by show z3 < 256; omega⟩
    · have := u8_bd v4; exact ⟨this.1, by show z4 < 256; omega⟩
  · have := congrArg Prod.snd hx
    simpa using this
end Go.Proofs.Ytpgifeaejjjjnaa
