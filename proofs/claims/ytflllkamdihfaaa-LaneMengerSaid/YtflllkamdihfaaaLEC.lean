/- a plan by numbers that came in (open_plan, type 63) -/
import Derived.Test.YtflllkamdihfaaaLMC
import Derived.Test.YtflllkamdihfaaaSD
import Derived.OpenShut
import Derived.Carry
namespace Go.Proofs.Ytflllkamdihfaaa
open Go.RowKit Go.Sort
section
open Go.Joins Go.ChangeShapes Go.WideShapes Go.ChangeAt
theorem cT63 : Try.prog.cellsOf 63 = 10 := by kernel_rfl
theorem cT61 : Try.prog.cellsOf 61 = 3 := by kernel_rfl
theorem cT60 : Try.prog.cellsOf 60 = 1 := by kernel_rfl
theorem cT5 : Try.prog.cellsOf 5 = 1 := by kernel_rfl
theorem array10 {α : Type} {cs : Array α} (h : cs.size = 10) : ∃ c0 c1 c2 c3 c4 c5 c6 c7 c8 c9, cs = #[c0, c1, c2, c3, c4, c5, c6, c7, c8, c9] := by
  obtain ⟨l⟩ := cs
  match l, h with
  | [c0, c1, c2, c3, c4, c5, c6, c7, c8, c9], _ => exact ⟨c0, c1, c2, c3, c4, c5, c6, c7, c8, c9, rfl⟩
theorem list6 {α : Type} {xs : List α} (h : xs.length = 6) : ∃ x0 x1 x2 x3 x4 x5, xs = [x0, x1, x2, x3, x4, x5] := by
  match xs, h with
  | [x0, x1, x2, x3, x4, x5], _ => exact ⟨x0, x1, x2, x3, x4, x5, rfl⟩
theorem list3' {α : Type} {xs : List α} (h : xs.length = 3) : ∃ x0 x1 x2, xs = [x0, x1, x2] := by
  match xs, h with
  | [x0, x1, x2], _ => exact ⟨x0, x1, x2, rfl⟩
theorem u8_nat {x : Int} (h : (Lit.int .u8 x).wf = true) : ∃ n : Nat, x = (n : Int) ∧ n ≤ 255 := by
  have h1 : 0 ≤ x ∧ x ≤ 255 := by simpa [Lit.wf, IntKind.min, IntKind.max, IntKind.signed, IntKind.bits] using h
  exact ⟨x.toNat, by omega, by omega⟩
theorem u16_nat {x : Int} (h : (Lit.int .u16 x).wf = true) : ∃ n : Nat, x = (n : Int) ∧ n ≤ 65535 := by
  have h1 : 0 ≤ x ∧ x ≤ 65535 := by simpa [Lit.wf, IntKind.min, IntKind.max, IntKind.signed, IntKind.bits] using h
  exact ⟨x.toNat, by omega, by omega⟩
/-- a plan by numbers, as a value. -/
def planV (t : Nat → Nat) : Value := .agg #[.int .u8 (t 0 : Nat), .int .u8 (t 1 : Nat), .int .u8 (t 2 : Nat), .int .u16 (t 3 : Nat), .int .u8 (t 4 : Nat), .int .u8 (t 5 : Nat), .int .u8 (t 6 : Nat), .int .u8 (t 7 : Nat), .int .u8 (t 8 : Nat), .int .u8 (t 9 : Nat)]
set_option maxRecDepth 100000 in
/-- a plan that came in. -/
theorem open_plan {H : Type} {enc : TypeId × Value → H} {w : World} {base b0 : Nat} {spare : Nat → Bool} {held : Bool} {r : Reach} {v : Value} {d : DataW H} {p : List MemPlace}
    (hv : Value.okWide Try.prog w r b0 63 v) (h : DataW.Trod enc Try.prog w base spare held 63 v d p) :
    ∃ t : Nat → Nat, (t 3 ≤ 65535 ∧ ∀ j, j ≠ 3 → t j ≤ 255) ∧ v = planV t ∧ p = [] := by
  obtain ⟨cs, rfl, hsz⟩ := okWide_struct Try.underlying63 hv
  obtain ⟨c0, c1, c2, c3, c4, c5, c6, c7, c8, c9, rfl⟩ := array10 (hsz.trans cT63)
  obtain ⟨fuel, hf⟩ := h
  obtain ⟨xs, m, _, hx, _, hxl, hfs⟩ := DataW.trod_struct Try.underlying63 hf
  obtain ⟨x0, x1, x2, x3, x4, x5, rfl⟩ := list6 hxl
  have h0 := hfs 0 _ rfl
  have h1 := hfs 1 _ rfl
  have h2 := hfs 2 _ rfl
  have h3 := hfs 3 _ rfl
  have h4 := hfs 4 _ rfl
  have h5 := hfs 5 _ rfl
  simp [Value.cells, cT5, cT60, cT61] at h0 h1 h2 h3 h4 h5
  obtain ⟨a0, e0, rfl, w0⟩ := DataW.trod_int Try.underlying5 h0
  obtain ⟨a1, e1, rfl, w1⟩ := DataW.trod_int Try.underlying5 h1
  obtain ⟨a2, e2, rfl, w2⟩ := DataW.trod_int Try.underlying5 h2
  obtain ⟨a3, e3, rfl, w3⟩ := DataW.trod_int Try.underlying60 h3
  obtain ⟨ys, m', _, rfl, _, hyl, hys⟩ := DataW.trod_array Try.underlying61 h4
  obtain ⟨y0, y1, y2, rfl⟩ := list3' hyl
  have k0 := hys 0 (by decide)
  have k1 := hys 1 (by decide)
  have k2 := hys 2 (by decide)
  obtain ⟨us, m'', _, rfl, _, hul, hus⟩ := DataW.trod_array Try.underlying61 h5
  obtain ⟨u0, u1, u2, rfl⟩ := list3' hul
  have l0 := hus 0 (by decide)
  have l1 := hus 1 (by decide)
  have l2 := hus 2 (by decide)
  simp [cT5] at k0 k1 k2 l0 l1 l2
  obtain ⟨z0, f0, rfl, v0⟩ := DataW.trod_int Try.underlying5 k0
  obtain ⟨z1, f1, rfl, v1⟩ := DataW.trod_int Try.underlying5 k1
  obtain ⟨z2, f2, rfl, v2⟩ := DataW.trod_int Try.underlying5 k2
  obtain ⟨s0, g0, rfl, q0⟩ := DataW.trod_int Try.underlying5 l0
  obtain ⟨s1, g1, rfl, q1⟩ := DataW.trod_int Try.underlying5 l1
  obtain ⟨s2, g2, rfl, q2⟩ := DataW.trod_int Try.underlying5 l2
  simp at e0 e1 e2 e3 f0 f1 f2 g0 g1 g2
  subst e0 e1 e2 e3 f0 f1 f2 g0 g1 g2
  obtain ⟨n0, rfl, b0⟩ := u8_nat w0
  obtain ⟨n1, rfl, b1⟩ := u8_nat w1
  obtain ⟨n2, rfl, b2⟩ := u8_nat w2
  obtain ⟨n3, rfl, b3⟩ := u16_nat w3
  obtain ⟨n4, rfl, b4⟩ := u8_nat v0
  obtain ⟨n5, rfl, b5⟩ := u8_nat v1
  obtain ⟨n6, rfl, b6⟩ := u8_nat v2
  obtain ⟨n7, rfl, b7⟩ := u8_nat q0
  obtain ⟨n8, rfl, b8⟩ := u8_nat q1
  obtain ⟨n9, rfl, b9⟩ := u8_nat q2
  refine ⟨fun j => match j with | 0 => n0 | 1 => n1 | 2 => n2 | 3 => n3 | 4 => n4 | 5 => n5 | 6 => n6 | 7 => n7 | 8 => n8 | 9 => n9 | _ => 0, ⟨b3, fun j hj => ?_⟩, rfl, ?_⟩
  · match j, hj with
    | 0, _ => exact b0
    | 1, _ => exact b1
    | 2, _ => exact b2
    | 3, h => exact absurd rfl h
    | 4, _ => exact b4
    | 5, _ => exact b5
    | 6, _ => exact b6
    | 7, _ => exact b7
    | 8, _ => exact b8
    | 9, _ => exact b9
    | j + 10, _ => exact Nat.zero_le _
  · have := congrArg Prod.snd hx
    simpa using this
end
end Go.Proofs.Ytflllkamdihfaaa
