/- Eight bytes, and eight pairs of bytes, that came in. -/
import Derived.Test.YtimddkofcejijaaSI
namespace Go.Proofs.Ytimddkofcejijaa
open Go.RowKit Go.Sort
open Go.Joins Go.ChangeShapes Go.WideShapes Go.ChangeAt
theorem arrayN8 {α : Type} {cs : Array α} (h : cs.size = 8) : ∃ c0 c1 c2 c3 c4 c5 c6 c7, cs = #[c0, c1, c2, c3, c4, c5, c6, c7] := by
  obtain ⟨l⟩ := cs
  match l, h with
  | [c0, c1, c2, c3, c4, c5, c6, c7], _ => exact ⟨c0, c1, c2, c3, c4, c5, c6, c7, rfl⟩
theorem arrayN16 {α : Type} {cs : Array α} (h : cs.size = 16) : ∃ c0 c1 c2 c3 c4 c5 c6 c7 c8 c9 c10 c11 c12 c13 c14 c15, cs = #[c0, c1, c2, c3, c4, c5, c6, c7, c8, c9, c10, c11, c12, c13, c14, c15] := by
  obtain ⟨l⟩ := cs
  match l, h with
  | [c0, c1, c2, c3, c4, c5, c6, c7, c8, c9, c10, c11, c12, c13, c14, c15], _ => exact ⟨c0, c1, c2, c3, c4, c5, c6, c7, c8, c9, c10, c11, c12, c13, c14, c15, rfl⟩
theorem listM8 {α : Type} {xs : List α} (h : xs.length = 8) : ∃ x0 x1 x2 x3 x4 x5 x6 x7, xs = [x0, x1, x2, x3, x4, x5, x6, x7] := by
  match xs, h with
  | [x0, x1, x2, x3, x4, x5, x6, x7], _ => exact ⟨x0, x1, x2, x3, x4, x5, x6, x7, rfl⟩
theorem listM2 {α : Type} {xs : List α} (h : xs.length = 2) : ∃ x0 x1, xs = [x0, x1] := by
  match xs, h with
  | [x0, x1], _ => exact ⟨x0, x1, rfl⟩
theorem cE74 : Try.prog.cellsOf 74 = 8 := by kernel_rfl
theorem cE75 : Try.prog.cellsOf 75 = 16 := by kernel_rfl
theorem cE57 : Try.prog.cellsOf 57 = 2 := by kernel_rfl
theorem cE5 : Try.prog.cellsOf 5 = 1 := by kernel_rfl
set_option maxRecDepth 100000 in
/-- eight bytes that came in. -/
theorem open_eight {H : Type} {enc : TypeId × Value → H} {w : World} {base b0 : Nat} {spare : Nat → Bool} {held : Bool} {r : Reach} {v : Value} {d : DataW H} {p : List MemPlace}
    (hv : Value.okWide Try.prog w r b0 74 v) (h : DataW.Trod enc Try.prog w base spare held 74 v d p) :
    ∃ b : Nat → Int, (∀ j, 0 ≤ b j ∧ b j ≤ 255) ∧ v = .agg #[.int .u8 (b 0), .int .u8 (b 1), .int .u8 (b 2), .int .u8 (b 3), .int .u8 (b 4), .int .u8 (b 5), .int .u8 (b 6), .int .u8 (b 7)] ∧ p = [] := by
  obtain ⟨fuel, hf⟩ := h
  simp only [Value.okWide, Try.underlying74] at hv
  obtain ⟨cs, rfl, hsz, _⟩ := hv
  obtain ⟨c0, c1, c2, c3, c4, c5, c6, c7, rfl⟩ := arrayN8 (hsz.trans cE74)
  obtain ⟨ys, m', _, hx, _, hyl, hys⟩ := DataW.trod_array Try.underlying74 hf
  obtain ⟨y0, y1, y2, y3, y4, y5, y6, y7, rfl⟩ := listM8 hyl
  have k0 := hys 0 (by decide)
  have k1 := hys 1 (by decide)
  have k2 := hys 2 (by decide)
  have k3 := hys 3 (by decide)
  have k4 := hys 4 (by decide)
  have k5 := hys 5 (by decide)
  have k6 := hys 6 (by decide)
  have k7 := hys 7 (by decide)
  simp [Value.cells, cE5] at k0 k1 k2 k3 k4 k5 k6 k7
  obtain ⟨a0, e0, rfl, w0⟩ := DataW.trod_int Try.underlying5 k0
  obtain ⟨a1, e1, rfl, w1⟩ := DataW.trod_int Try.underlying5 k1
  obtain ⟨a2, e2, rfl, w2⟩ := DataW.trod_int Try.underlying5 k2
  obtain ⟨a3, e3, rfl, w3⟩ := DataW.trod_int Try.underlying5 k3
  obtain ⟨a4, e4, rfl, w4⟩ := DataW.trod_int Try.underlying5 k4
  obtain ⟨a5, e5, rfl, w5⟩ := DataW.trod_int Try.underlying5 k5
  obtain ⟨a6, e6, rfl, w6⟩ := DataW.trod_int Try.underlying5 k6
  obtain ⟨a7, e7, rfl, w7⟩ := DataW.trod_int Try.underlying5 k7
  simp at e0 e1 e2 e3 e4 e5 e6 e7
  subst e0 e1 e2 e3 e4 e5 e6 e7
  refine ⟨fun i => nth [a0, a1, a2, a3, a4, a5, a6, a7] i, fun i => ?_, rfl, ?_⟩
  · match i with
    | 0 => exact u8_bd w0
    | 1 => exact u8_bd w1
    | 2 => exact u8_bd w2
    | 3 => exact u8_bd w3
    | 4 => exact u8_bd w4
    | 5 => exact u8_bd w5
    | 6 => exact u8_bd w6
    | 7 => exact u8_bd w7
    | i + 8 => exact ⟨by simp [nth_eq], by simp [nth_eq]⟩
  · have := congrArg Prod.snd hx
    simpa using this
set_option maxRecDepth 100000 in
set_option maxHeartbeats 4000000 in
/-- eight pairs of bytes that came in. -/
theorem open_pairs {H : Type} {enc : TypeId × Value → H} {w : World} {base b0 : Nat} {spare : Nat → Bool} {held : Bool} {r : Reach} {v : Value} {d : DataW H} {p : List MemPlace}
    (hv : Value.okWide Try.prog w r b0 75 v) (h : DataW.Trod enc Try.prog w base spare held 75 v d p) :
    ∃ b : Nat → Int, (∀ j, 0 ≤ b j ∧ b j ≤ 255) ∧ v = .agg #[.int .u8 (b 0), .int .u8 (b 1), .int .u8 (b 2), .int .u8 (b 3), .int .u8 (b 4), .int .u8 (b 5), .int .u8 (b 6), .int .u8 (b 7), .int .u8 (b 8), .int .u8 (b 9), .int .u8 (b 10), .int .u8 (b 11), .int .u8 (b 12), .int .u8 (b 13), .int .u8 (b 14), .int .u8 (b 15)] ∧ p = [] := by
  obtain ⟨fuel, hf⟩ := h
  simp only [Value.okWide, Try.underlying75] at hv
  obtain ⟨cs, rfl, hsz, _⟩ := hv
  obtain ⟨c0, c1, c2, c3, c4, c5, c6, c7, c8, c9, c10, c11, c12, c13, c14, c15, rfl⟩ := arrayN16 (hsz.trans cE75)
  obtain ⟨ys, m', _, hx, _, hyl, hys⟩ := DataW.trod_array Try.underlying75 hf
  obtain ⟨y0, y1, y2, y3, y4, y5, y6, y7, rfl⟩ := listM8 hyl
  have l0 := hys 0 (by decide)
  have l1 := hys 1 (by decide)
  have l2 := hys 2 (by decide)
  have l3 := hys 3 (by decide)
  have l4 := hys 4 (by decide)
  have l5 := hys 5 (by decide)
  have l6 := hys 6 (by decide)
  have l7 := hys 7 (by decide)
  clear hys hyl
  simp [Value.cells, cE57] at l0 l1 l2 l3 l4 l5 l6 l7
  obtain ⟨us0, n0, _, hq0, _, hul0, hus0⟩ := DataW.trod_array Try.underlying57 l0
  obtain ⟨u0, u1, rfl⟩ := listM2 hul0
  have q0 := hus0 0 (by decide)
  have q1 := hus0 1 (by decide)
  clear hus0 hul0 l0
  simp [cE5] at q0 q1
  obtain ⟨a0, e0, rfl, w0⟩ := DataW.trod_int Try.underlying5 q0
  obtain ⟨a1, e1, rfl, w1⟩ := DataW.trod_int Try.underlying5 q1
  obtain ⟨us1, n1, _, hq1, _, hul1, hus1⟩ := DataW.trod_array Try.underlying57 l1
  obtain ⟨u2, u3, rfl⟩ := listM2 hul1
  have q2 := hus1 0 (by decide)
  have q3 := hus1 1 (by decide)
  clear hus1 hul1 l1
  simp [cE5] at q2 q3
  obtain ⟨a2, e2, rfl, w2⟩ := DataW.trod_int Try.underlying5 q2
  obtain ⟨a3, e3, rfl, w3⟩ := DataW.trod_int Try.underlying5 q3
  obtain ⟨us2, n2, _, hq2, _, hul2, hus2⟩ := DataW.trod_array Try.underlying57 l2
  obtain ⟨u4, u5, rfl⟩ := listM2 hul2
  have q4 := hus2 0 (by decide)
  have q5 := hus2 1 (by decide)
  clear hus2 hul2 l2
  simp [cE5] at q4 q5
  obtain ⟨a4, e4, rfl, w4⟩ := DataW.trod_int Try.underlying5 q4
  obtain ⟨a5, e5, rfl, w5⟩ := DataW.trod_int Try.underlying5 q5
  obtain ⟨us3, n3, _, hq3, _, hul3, hus3⟩ := DataW.trod_array Try.underlying57 l3
  obtain ⟨u6, u7, rfl⟩ := listM2 hul3
  have q6 := hus3 0 (by decide)
  have q7 := hus3 1 (by decide)
  clear hus3 hul3 l3
  simp [cE5] at q6 q7
  obtain ⟨a6, e6, rfl, w6⟩ := DataW.trod_int Try.underlying5 q6
  obtain ⟨a7, e7, rfl, w7⟩ := DataW.trod_int Try.underlying5 q7
  obtain ⟨us4, n4, _, hq4, _, hul4, hus4⟩ := DataW.trod_array Try.underlying57 l4
  obtain ⟨u8, u9, rfl⟩ := listM2 hul4
  have q8 := hus4 0 (by decide)
  have q9 := hus4 1 (by decide)
  clear hus4 hul4 l4
  simp [cE5] at q8 q9
  obtain ⟨a8, e8, rfl, w8⟩ := DataW.trod_int Try.underlying5 q8
  obtain ⟨a9, e9, rfl, w9⟩ := DataW.trod_int Try.underlying5 q9
  obtain ⟨us5, n5, _, hq5, _, hul5, hus5⟩ := DataW.trod_array Try.underlying57 l5
  obtain ⟨u10, u11, rfl⟩ := listM2 hul5
  have q10 := hus5 0 (by decide)
  have q11 := hus5 1 (by decide)
  clear hus5 hul5 l5
  simp [cE5] at q10 q11
  obtain ⟨a10, e10, rfl, w10⟩ := DataW.trod_int Try.underlying5 q10
  obtain ⟨a11, e11, rfl, w11⟩ := DataW.trod_int Try.underlying5 q11
  obtain ⟨us6, n6, _, hq6, _, hul6, hus6⟩ := DataW.trod_array Try.underlying57 l6
  obtain ⟨u12, u13, rfl⟩ := listM2 hul6
  have q12 := hus6 0 (by decide)
  have q13 := hus6 1 (by decide)
  clear hus6 hul6 l6
  simp [cE5] at q12 q13
  obtain ⟨a12, e12, rfl, w12⟩ := DataW.trod_int Try.underlying5 q12
  obtain ⟨a13, e13, rfl, w13⟩ := DataW.trod_int Try.underlying5 q13
  obtain ⟨us7, n7, _, hq7, _, hul7, hus7⟩ := DataW.trod_array Try.underlying57 l7
  obtain ⟨u14, u15, rfl⟩ := listM2 hul7
  have q14 := hus7 0 (by decide)
  have q15 := hus7 1 (by decide)
  clear hus7 hul7 l7
  simp [cE5] at q14 q15
  obtain ⟨a14, e14, rfl, w14⟩ := DataW.trod_int Try.underlying5 q14
  obtain ⟨a15, e15, rfl, w15⟩ := DataW.trod_int Try.underlying5 q15
  simp at e0 e1 e2 e3 e4 e5 e6 e7 e8 e9 e10 e11 e12 e13 e14 e15
  subst e0 e1 e2 e3 e4 e5 e6 e7 e8 e9 e10 e11 e12 e13 e14 e15
  refine ⟨fun i => nth [a0, a1, a2, a3, a4, a5, a6, a7, a8, a9, a10, a11, a12, a13, a14, a15] i, fun i => ?_, rfl, ?_⟩
  · match i with
    | 0 => exact u8_bd w0
    | 1 => exact u8_bd w1
    | 2 => exact u8_bd w2
    | 3 => exact u8_bd w3
    | 4 => exact u8_bd w4
    | 5 => exact u8_bd w5
    | 6 => exact u8_bd w6
    | 7 => exact u8_bd w7
    | 8 => exact u8_bd w8
    | 9 => exact u8_bd w9
    | 10 => exact u8_bd w10
    | 11 => exact u8_bd w11
    | 12 => exact u8_bd w12
    | 13 => exact u8_bd w13
    | 14 => exact u8_bd w14
    | 15 => exact u8_bd w15
    | i + 16 => exact ⟨by simp [nth_eq], by simp [nth_eq]⟩
  · have := congrArg Prod.snd hx
    simp [hq0, hq1, hq2, hq3, hq4, hq5, hq6, hq7] at this
    simpa using this
end Go.Proofs.Ytimddkofcejijaa
