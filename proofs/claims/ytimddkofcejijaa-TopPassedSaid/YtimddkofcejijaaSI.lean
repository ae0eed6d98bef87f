/- Layer 2: a town that came in, opened. -/
import Derived.Test.YtimddkofcejijaaSH
import Derived.Lib.SmallJoins
import Derived.ProofKit
import Derived.OpenShut
namespace Go.Proofs.Ytimddkofcejijaa
open Go.RowKit Go.Sort
open Go.Joins Go.ChangeShapes Go.WideShapes Go.ChangeAt
theorem cT60 : Try.prog.cellsOf 60 = 27 := by kernel_rfl
theorem cT56 : Try.prog.cellsOf 56 = 6 := by kernel_rfl
theorem cT57 : Try.prog.cellsOf 57 = 2 := by kernel_rfl
theorem cT58 : Try.prog.cellsOf 58 = 18 := by kernel_rfl
theorem cT5 : Try.prog.cellsOf 5 = 1 := by kernel_rfl
theorem array27 {α : Type} {cs : Array α} (h : cs.size = 27) : ∃ c0 c1 c2 c3 c4 c5 c6 c7 c8 c9 c10 c11 c12 c13 c14 c15 c16 c17 c18 c19 c20 c21 c22 c23 c24 c25 c26, cs = #[c0, c1, c2, c3, c4, c5, c6, c7, c8, c9, c10, c11, c12, c13, c14, c15, c16, c17, c18, c19, c20, c21, c22, c23, c24, c25, c26] := by
  obtain ⟨l⟩ := cs
  match l, h with
  | [c0, c1, c2, c3, c4, c5, c6, c7, c8, c9, c10, c11, c12, c13, c14, c15, c16, c17, c18, c19, c20, c21, c22, c23, c24, c25, c26], _ => exact ⟨c0, c1, c2, c3, c4, c5, c6, c7, c8, c9, c10, c11, c12, c13, c14, c15, c16, c17, c18, c19, c20, c21, c22, c23, c24, c25, c26, rfl⟩
theorem listN5 {α : Type} {xs : List α} (h : xs.length = 5) : ∃ x0 x1 x2 x3 x4, xs = [x0, x1, x2, x3, x4] := by
  match xs, h with
  | [x0, x1, x2, x3, x4], _ => exact ⟨x0, x1, x2, x3, x4, rfl⟩
theorem listN6 {α : Type} {xs : List α} (h : xs.length = 6) : ∃ x0 x1 x2 x3 x4 x5, xs = [x0, x1, x2, x3, x4, x5] := by
  match xs, h with
  | [x0, x1, x2, x3, x4, x5], _ => exact ⟨x0, x1, x2, x3, x4, x5, rfl⟩
theorem listN9 {α : Type} {xs : List α} (h : xs.length = 9) : ∃ x0 x1 x2 x3 x4 x5 x6 x7 x8, xs = [x0, x1, x2, x3, x4, x5, x6, x7, x8] := by
  match xs, h with
  | [x0, x1, x2, x3, x4, x5, x6, x7, x8], _ => exact ⟨x0, x1, x2, x3, x4, x5, x6, x7, x8, rfl⟩
theorem listN2 {α : Type} {xs : List α} (h : xs.length = 2) : ∃ x0 x1, xs = [x0, x1] := by
  match xs, h with
  | [x0, x1], _ => exact ⟨x0, x1, rfl⟩
theorem u8_bd {x : Int} (h : (Lit.int .u8 x).wf = true) : 0 ≤ x ∧ x ≤ 255 := by
  simpa [Lit.wf, IntKind.min, IntKind.max, IntKind.signed, IntKind.bits] using h
set_option maxRecDepth 100000 in
set_option maxHeartbeats 4000000 in
/-- a town that came in, opened: its numbers are bytes; it reaches no memory. -/
theorem open_town {H : Type} {enc : TypeId × Value → H} {w : World} {base b0 : Nat} {spare : Nat → Bool} {held : Bool} {r : Reach} {v : Value} {d : DataW H} {p : List MemPlace}
    (hv : Value.okWide Try.prog w r b0 60 v) (h : DataW.Trod enc Try.prog w base spare held 60 v d p) :
    ∃ t : Nat → Int, tOk t ∧ v = tV t ∧ p = [] := by
  obtain ⟨cs, rfl, hsz⟩ := okWide_struct Try.underlying60 hv
  obtain ⟨c0, c1, c2, c3, c4, c5, c6, c7, c8, c9, c10, c11, c12, c13, c14, c15, c16, c17, c18, c19, c20, c21, c22, c23, c24, c25, c26, rfl⟩ := array27 (hsz.trans cT60)
  obtain ⟨fuel, hf⟩ := h
  obtain ⟨xs, m, _, hx, _, hxl, hfs⟩ := DataW.trod_struct Try.underlying60 hf
  obtain ⟨x0, x1, x2, x3, x4, rfl⟩ := listN5 hxl
  have h0 := hfs 0 _ rfl
  have h1 := hfs 1 _ rfl
  have h2 := hfs 2 _ rfl
  have h3 := hfs 3 _ rfl
  have h4 := hfs 4 _ rfl
  clear hfs hv hsz hf hxl
  simp [Value.cells, cT5, cT56, cT58] at h0 h1 h2 h3 h4
  obtain ⟨a0, e0, rfl, w0⟩ := DataW.trod_int Try.underlying5 h0
  obtain ⟨a1, e1, rfl, w1⟩ := DataW.trod_int Try.underlying5 h1
  obtain ⟨a2, e2, rfl, w2⟩ := DataW.trod_int Try.underlying5 h2
  obtain ⟨ys, m1, _, rfl, _, hyl, hys⟩ := DataW.trod_array Try.underlying56 h3
  obtain ⟨y0, y1, y2, y3, y4, y5, rfl⟩ := listN6 hyl
  have k0 := hys 0 (by decide)
  have k1 := hys 1 (by decide)
  have k2 := hys 2 (by decide)
  have k3 := hys 3 (by decide)
  have k4 := hys 4 (by decide)
  have k5 := hys 5 (by decide)
  clear hys hyl h3
  simp [cT5] at k0 k1 k2 k3 k4 k5
  obtain ⟨a3, e3, rfl, w3⟩ := DataW.trod_int Try.underlying5 k0
  obtain ⟨a4, e4, rfl, w4⟩ := DataW.trod_int Try.underlying5 k1
  obtain ⟨a5, e5, rfl, w5⟩ := DataW.trod_int Try.underlying5 k2
  obtain ⟨a6, e6, rfl, w6⟩ := DataW.trod_int Try.underlying5 k3
  obtain ⟨a7, e7, rfl, w7⟩ := DataW.trod_int Try.underlying5 k4
  obtain ⟨a8, e8, rfl, w8⟩ := DataW.trod_int Try.underlying5 k5
  obtain ⟨zs, m2, _, rfl, _, hzl, hzs⟩ := DataW.trod_array Try.underlying58 h4
  obtain ⟨z0, z1, z2, z3, z4, z5, z6, z7, z8, rfl⟩ := listN9 hzl
  have l0 := hzs 0 (by decide)
  have l1 := hzs 1 (by decide)
  have l2 := hzs 2 (by decide)
  have l3 := hzs 3 (by decide)
  have l4 := hzs 4 (by decide)
  have l5 := hzs 5 (by decide)
  have l6 := hzs 6 (by decide)
  have l7 := hzs 7 (by decide)
  have l8 := hzs 8 (by decide)
  clear hzs hzl h4
  simp [cT57] at l0 l1 l2 l3 l4 l5 l6 l7 l8
  obtain ⟨us0, n0, _, rfl, _, hul0, hus0⟩ := DataW.trod_array Try.underlying57 l0
  obtain ⟨u0, u1, rfl⟩ := listN2 hul0
  have q0 := hus0 0 (by decide)
  have q1 := hus0 1 (by decide)
  clear hus0 hul0 l0
  simp [cT5] at q0 q1
  obtain ⟨a9, e9, rfl, w9⟩ := DataW.trod_int Try.underlying5 q0
  obtain ⟨a10, e10, rfl, w10⟩ := DataW.trod_int Try.underlying5 q1
  obtain ⟨us1, n1, _, rfl, _, hul1, hus1⟩ := DataW.trod_array Try.underlying57 l1
  obtain ⟨u2, u3, rfl⟩ := listN2 hul1
  have q2 := hus1 0 (by decide)
  have q3 := hus1 1 (by decide)
  clear hus1 hul1 l1
  simp [cT5] at q2 q3
  obtain ⟨a11, e11, rfl, w11⟩ := DataW.trod_int Try.underlying5 q2
  obtain ⟨a12, e12, rfl, w12⟩ := DataW.trod_int Try.underlying5 q3
  obtain ⟨us2, n2, _, rfl, _, hul2, hus2⟩ := DataW.trod_array Try.underlying57 l2
  obtain ⟨u4, u5, rfl⟩ := listN2 hul2
  have q4 := hus2 0 (by decide)
  have q5 := hus2 1 (by decide)
  clear hus2 hul2 l2
  simp [cT5] at q4 q5
  obtain ⟨a13, e13, rfl, w13⟩ := DataW.trod_int Try.underlying5 q4
  obtain ⟨a14, e14, rfl, w14⟩ := DataW.trod_int Try.underlying5 q5
  obtain ⟨us3, n3, _, rfl, _, hul3, hus3⟩ := DataW.trod_array Try.underlying57 l3
  obtain ⟨u6, u7, rfl⟩ := listN2 hul3
  have q6 := hus3 0 (by decide)
  have q7 := hus3 1 (by decide)
  clear hus3 hul3 l3
  simp [cT5] at q6 q7
  obtain ⟨a15, e15, rfl, w15⟩ := DataW.trod_int Try.underlying5 q6
  obtain ⟨a16, e16, rfl, w16⟩ := DataW.trod_int Try.underlying5 q7
  obtain ⟨us4, n4, _, rfl, _, hul4, hus4⟩ := DataW.trod_array Try.underlying57 l4
  obtain ⟨u8, u9, rfl⟩ := listN2 hul4
  have q8 := hus4 0 (by decide)
  have q9 := hus4 1 (by decide)
  clear hus4 hul4 l4
  simp [cT5] at q8 q9
  obtain ⟨a17, e17, rfl, w17⟩ := DataW.trod_int Try.underlying5 q8
  obtain ⟨a18, e18, rfl, w18⟩ := DataW.trod_int Try.underlying5 q9
  obtain ⟨us5, n5, _, rfl, _, hul5, hus5⟩ := DataW.trod_array Try.underlying57 l5
  obtain ⟨u10, u11, rfl⟩ := listN2 hul5
  have q10 := hus5 0 (by decide)
  have q11 := hus5 1 (by decide)
  clear hus5 hul5 l5
  simp [cT5] at q10 q11
  obtain ⟨a19, e19, rfl, w19⟩ := DataW.trod_int Try.underlying5 q10
  obtain ⟨a20, e20, rfl, w20⟩ := DataW.trod_int Try.underlying5 q11
  obtain ⟨us6, n6, _, rfl, _, hul6, hus6⟩ := DataW.trod_array Try.underlying57 l6
  obtain ⟨u12, u13, rfl⟩ := listN2 hul6
  have q12 := hus6 0 (by decide)
  have q13 := hus6 1 (by decide)
  clear hus6 hul6 l6
  simp [cT5] at q12 q13
  obtain ⟨a21, e21, rfl, w21⟩ := DataW.trod_int Try.underlying5 q12
  obtain ⟨a22, e22, rfl, w22⟩ := DataW.trod_int Try.underlying5 q13
  obtain ⟨us7, n7, _, rfl, _, hul7, hus7⟩ := DataW.trod_array Try.underlying57 l7
  obtain ⟨u14, u15, rfl⟩ := listN2 hul7
  have q14 := hus7 0 (by decide)
  have q15 := hus7 1 (by decide)
  clear hus7 hul7 l7
  simp [cT5] at q14 q15
  obtain ⟨a23, e23, rfl, w23⟩ := DataW.trod_int Try.underlying5 q14
  obtain ⟨a24, e24, rfl, w24⟩ := DataW.trod_int Try.underlying5 q15
  obtain ⟨us8, n8, _, rfl, _, hul8, hus8⟩ := DataW.trod_array Try.underlying57 l8
  obtain ⟨u16, u17, rfl⟩ := listN2 hul8
  have q16 := hus8 0 (by decide)
  have q17 := hus8 1 (by decide)
  clear hus8 hul8 l8
  simp [cT5] at q16 q17
  obtain ⟨a25, e25, rfl, w25⟩ := DataW.trod_int Try.underlying5 q16
  obtain ⟨a26, e26, rfl, w26⟩ := DataW.trod_int Try.underlying5 q17
  simp at e0 e1 e2 e3 e4 e5 e6 e7 e8 e9 e10 e11 e12 e13 e14 e15 e16 e17 e18 e19 e20 e21 e22 e23 e24 e25 e26
  subst e0 e1 e2 e3 e4 e5 e6 e7 e8 e9 e10 e11 e12 e13 e14 e15 e16 e17 e18 e19 e20 e21 e22 e23 e24 e25 e26
  refine ⟨fun i => nth [a0, a1, a2, a3, a4, a5, a6, a7, a8, a9, a10, a11, a12, a13, a14, a15, a16, a17, a18, a19, a20, a21, a22, a23, a24, a25, a26] i, fun i => ?_, rfl, ?_⟩
  · match i with
    | 0 => exact u8_bd w0
    | 1 => exact u8_bd w1
    | 2 => exact u8_bd w2
    | 3 => exact u8_bd w3
    | 4 => exact u8_bd w4
    | 5 => exact u8_bd w5
    | 6 => exact u8_bd w6
    | 7 => exact u8_bd w7
    | 8 => exact u8_bd w8
    | 9 => exact u8_bd w9
    | 10 => exact u8_bd w10
    | 11 => exact u8_bd w11
    | 12 => exact u8_bd w12
    | 13 => exact u8_bd w13
    | 14 => exact u8_bd w14
    | 15 => exact u8_bd w15
    | 16 => exact u8_bd w16
    | 17 => exact u8_bd w17
    | 18 => exact u8_bd w18
    | 19 => exact u8_bd w19
    | 20 => exact u8_bd w20
    | 21 => exact u8_bd w21
    | 22 => exact u8_bd w22
    | 23 => exact u8_bd w23
    | 24 => exact u8_bd w24
    | 25 => exact u8_bd w25
    | 26 => exact u8_bd w26
    | i + 27 => exact ⟨by simp [nth_eq], by simp [nth_eq]⟩
  · have := congrArg Prod.snd hx
    simpa using this
end Go.Proofs.Ytimddkofcejijaa
