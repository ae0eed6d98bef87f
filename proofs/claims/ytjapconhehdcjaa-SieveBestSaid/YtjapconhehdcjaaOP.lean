/- what came in: lists, eight bytes, dust by numbers -/
import Derived.Test.YtjapconhehdcjaaPF
import Derived.Test.YtjapconhehdcjaaLA
import Derived.OpenShut
import Derived.Carry
namespace Go.Proofs.Ytjapconhehdcjaa
open Go.RowKit Go.Sort
section
open Go.Joins Go.ChangeShapes Go.WideShapes Go.ChangeAt
theorem cT5 : Try.prog.cellsOf 5 = 1 := by kernel_rfl
theorem cT42 : Try.prog.cellsOf 42 = 8 := by kernel_rfl
theorem cT44 : Try.prog.cellsOf 44 = 9 := by kernel_rfl
theorem u8_nat {x : Int} (h : (Lit.int .u8 x).wf = true) : ∃ n : Nat, x = (n : Int) ∧ n ≤ 255 := by
  have h1 : 0 ≤ x ∧ x ≤ 255 := by simpa [Lit.wf, IntKind.min, IntKind.max, IntKind.signed, IntKind.bits] using h
  exact ⟨x.toNat, by omega, by omega⟩
theorem u16_nat {x : Int} (h : (Lit.int .u16 x).wf = true) : ∃ n : Nat, x = (n : Int) ∧ n ≤ 65535 := by
  have h1 : 0 ≤ x ∧ x ≤ 65535 := by simpa [Lit.wf, IntKind.min, IntKind.max, IntKind.signed, IntKind.bits] using h
  exact ⟨x.toNat, by omega, by omega⟩
theorem arrayN8 {α : Type} {cs : Array α} (h : cs.size = 8) : ∃ c0 c1 c2 c3 c4 c5 c6 c7, cs = #[c0, c1, c2, c3, c4, c5, c6, c7] := by
  obtain ⟨l⟩ := cs
  match l, h with
  | [c0, c1, c2, c3, c4, c5, c6, c7], _ => exact ⟨c0, c1, c2, c3, c4, c5, c6, c7, rfl⟩
theorem arrayN9 {α : Type} {cs : Array α} (h : cs.size = 9) : ∃ c0 c1 c2 c3 c4 c5 c6 c7 c8, cs = #[c0, c1, c2, c3, c4, c5, c6, c7, c8] := by
  obtain ⟨l⟩ := cs
  match l, h with
  | [c0, c1, c2, c3, c4, c5, c6, c7, c8], _ => exact ⟨c0, c1, c2, c3, c4, c5, c6, c7, c8, rfl⟩
theorem listM8 {α : Type} {xs : List α} (h : xs.length = 8) : ∃ x0 x1 x2 x3 x4 x5 x6 x7, xs = [x0, x1, x2, x3, x4, x5, x6, x7] := by
  match xs, h with
  | [x0, x1, x2, x3, x4, x5, x6, x7], _ => exact ⟨x0, x1, x2, x3, x4, x5, x6, x7, rfl⟩
theorem listM2 {α : Type} {xs : List α} (h : xs.length = 2) : ∃ x0 x1, xs = [x0, x1] := by
  match xs, h with
  | [x0, x1], _ => exact ⟨x0, x1, rfl⟩
/-- eight bytes, and dust by numbers, as values. -/
def byV (b : Nat → Nat) : Value := .agg #[.int .u8 (b 0 : Nat), .int .u8 (b 1 : Nat), .int .u8 (b 2 : Nat), .int .u8 (b 3 : Nat), .int .u8 (b 4 : Nat), .int .u8 (b 5 : Nat), .int .u8 (b 6 : Nat), .int .u8 (b 7 : Nat)]
def dustV (k : Nat) (b : Nat → Nat) : Value := .agg #[.int .u8 (k : Nat), .int .u8 (b 0 : Nat), .int .u8 (b 1 : Nat), .int .u8 (b 2 : Nat), .int .u8 (b 3 : Nat), .int .u8 (b 4 : Nat), .int .u8 (b 5 : Nat), .int .u8 (b 6 : Nat), .int .u8 (b 7 : Nat)]
set_option maxRecDepth 100000 in
/-- eight bytes that came in. -/
theorem open_eight {H : Type} {enc : TypeId × Value → H} {w : World} {base b0 : Nat} {spare : Nat → Bool} {held : Bool} {r : Reach} {v : Value} {d : DataW H} {p : List MemPlace}
    (hv : Value.okWide Try.prog w r b0 42 v) (h : DataW.Trod enc Try.prog w base spare held 42 v d p) :
    ∃ b : Nat → Nat, (∀ j, b j ≤ 255) ∧ v = byV b ∧ p = [] := by
  obtain ⟨fuel, hf⟩ := h
  simp only [Value.okWide, Try.underlying42] at hv
  obtain ⟨cs, rfl, hsz, _⟩ := hv
  obtain ⟨c0, c1, c2, c3, c4, c5, c6, c7, rfl⟩ := arrayN8 (hsz.trans cT42)
  obtain ⟨ys, m', _, hx, _, hyl, hys⟩ := DataW.trod_array Try.underlying42 hf
  obtain ⟨y0, y1, y2, y3, y4, y5, y6, y7, rfl⟩ := listM8 hyl
  have k0 := hys 0 (by decide)
  have k1 := hys 1 (by decide)
  have k2 := hys 2 (by decide)
  have k3 := hys 3 (by decide)
  have k4 := hys 4 (by decide)
  have k5 := hys 5 (by decide)
  have k6 := hys 6 (by decide)
  have k7 := hys 7 (by decide)
  simp [Value.cells, cT5] at k0 k1 k2 k3 k4 k5 k6 k7
  obtain ⟨a0, e0, rfl, w0⟩ := DataW.trod_int Try.underlying5 k0
  obtain ⟨a1, e1, rfl, w1⟩ := DataW.trod_int Try.underlying5 k1
  obtain ⟨a2, e2, rfl, w2⟩ := DataW.trod_int Try.underlying5 k2
  obtain ⟨a3, e3, rfl, w3⟩ := DataW.trod_int Try.underlying5 k3
  obtain ⟨a4, e4, rfl, w4⟩ := DataW.trod_int Try.underlying5 k4
  obtain ⟨a5, e5, rfl, w5⟩ := DataW.trod_int Try.underlying5 k5
  obtain ⟨a6, e6, rfl, w6⟩ := DataW.trod_int Try.underlying5 k6
  obtain ⟨a7, e7, rfl, w7⟩ := DataW.trod_int Try.underlying5 k7
  simp at e0 e1 e2 e3 e4 e5 e6 e7
  subst e0 e1 e2 e3 e4 e5 e6 e7
  obtain ⟨n0, rfl, b0⟩ := u8_nat w0
  obtain ⟨n1, rfl, b1⟩ := u8_nat w1
  obtain ⟨n2, rfl, b2⟩ := u8_nat w2
  obtain ⟨n3, rfl, b3⟩ := u8_nat w3
  obtain ⟨n4, rfl, b4⟩ := u8_nat w4
  obtain ⟨n5, rfl, b5⟩ := u8_nat w5
  obtain ⟨n6, rfl, b6⟩ := u8_nat w6
  obtain ⟨n7, rfl, b7⟩ := u8_nat w7
  refine ⟨fun j => match j with | 0 => n0 | 1 => n1 | 2 => n2 | 3 => n3 | 4 => n4 | 5 => n5 | 6 => n6 | 7 => n7 | _ => 0, fun j => ?_, rfl, ?_⟩
  · match j with
    | 0 => exact b0
    | 1 => exact b1
    | 2 => exact b2
    | 3 => exact b3
    | 4 => exact b4
    | 5 => exact b5
    | 6 => exact b6
    | 7 => exact b7
    | j + 8 => exact Nat.zero_le _
  · have := congrArg Prod.snd hx
    simpa using this
set_option maxRecDepth 100000 in
/-- dust by numbers that came in. -/
theorem open_dust {H : Type} {enc : TypeId × Value → H} {w : World} {base b0 : Nat} {spare : Nat → Bool} {held : Bool} {r : Reach} {v : Value} {d : DataW H} {p : List MemPlace}
    (hv : Value.okWide Try.prog w r b0 44 v) (h : DataW.Trod enc Try.prog w base spare held 44 v d p) :
    ∃ (k : Nat) (b : Nat → Nat), k ≤ 255 ∧ (∀ j, b j ≤ 255) ∧ v = dustV k b ∧ p = [] := by
  obtain ⟨cs, rfl, hsz⟩ := okWide_struct Try.underlying44 hv
  obtain ⟨c0, c1, c2, c3, c4, c5, c6, c7, c8, rfl⟩ := arrayN9 (hsz.trans cT44)
  obtain ⟨fuel, hf⟩ := h
  obtain ⟨xs, m, _, hx, _, hxl, hfs⟩ := DataW.trod_struct Try.underlying44 hf
  obtain ⟨x0, x1, rfl⟩ := listM2 hxl
  have h0 := hfs 0 _ rfl
  have h1 := hfs 1 _ rfl
  simp [Value.cells, cT5, cT42] at h0 h1
  obtain ⟨ak, ek, rfl, wk⟩ := DataW.trod_int Try.underlying5 h0
  obtain ⟨ys, m', _, rfl, _, hyl, hys⟩ := DataW.trod_array Try.underlying42 h1
  obtain ⟨y0, y1, y2, y3, y4, y5, y6, y7, rfl⟩ := listM8 hyl
  have k0 := hys 0 (by decide)
  have k1 := hys 1 (by decide)
  have k2 := hys 2 (by decide)
  have k3 := hys 3 (by decide)
  have k4 := hys 4 (by decide)
  have k5 := hys 5 (by decide)
  have k6 := hys 6 (by decide)
  have k7 := hys 7 (by decide)
  simp [cT5] at k0 k1 k2 k3 k4 k5 k6 k7
  obtain ⟨a0, e0, rfl, w0⟩ := DataW.trod_int Try.underlying5 k0
  obtain ⟨a1, e1, rfl, w1⟩ := DataW.trod_int Try.underlying5 k1
  obtain ⟨a2, e2, rfl, w2⟩ := DataW.trod_int Try.underlying5 k2
  obtain ⟨a3, e3, rfl, w3⟩ := DataW.trod_int Try.underlying5 k3
  obtain ⟨a4, e4, rfl, w4⟩ := DataW.trod_int Try.underlying5 k4
  obtain ⟨a5, e5, rfl, w5⟩ := DataW.trod_int Try.underlying5 k5
  obtain ⟨a6, e6, rfl, w6⟩ := DataW.trod_int Try.underlying5 k6
  obtain ⟨a7, e7, rfl, w7⟩ := DataW.trod_int Try.underlying5 k7
  simp at ek e0 e1 e2 e3 e4 e5 e6 e7
  subst ek e0 e1 e2 e3 e4 e5 e6 e7
  obtain ⟨nk, rfl, bk⟩ := u8_nat wk
  obtain ⟨n0, rfl, b0⟩ := u8_nat w0
  obtain ⟨n1, rfl, b1⟩ := u8_nat w1
  obtain ⟨n2, rfl, b2⟩ := u8_nat w2
  obtain ⟨n3, rfl, b3⟩ := u8_nat w3
  obtain ⟨n4, rfl, b4⟩ := u8_nat w4
  obtain ⟨n5, rfl, b5⟩ := u8_nat w5
  obtain ⟨n6, rfl, b6⟩ := u8_nat w6
  obtain ⟨n7, rfl, b7⟩ := u8_nat w7
  refine ⟨nk, fun j => match j with | 0 => n0 | 1 => n1 | 2 => n2 | 3 => n3 | 4 => n4 | 5 => n5 | 6 => n6 | 7 => n7 | _ => 0, bk, fun j => ?_, rfl, ?_⟩
  · match j with
    | 0 => exact b0
    | 1 => exact b1
    | 2 => exact b2
    | 3 => exact b3
    | 4 => exact b4
    | 5 => exact b5
    | 6 => exact b6
    | 7 => exact b7
    | j + 8 => exact Nat.zero_le _
  · have := congrArg Prod.snd hx
    simpa using this
set_option maxRecDepth 100000 in
/-- a list of numbers that came in. -/
theorem open_sl22 {H : Type} {enc : TypeId × Value → H} {w : World} {b0 : Nat} {r : Reach} {v : Value} {d : DataW H} {p : List MemPlace}
    (hv : Value.okWide Try.prog w r b0 22 v) (h : DataW.Trod enc Try.prog w 0 (fun _ => true) true 22 v d p) :
    ∃ a cap zs, v = .slice a (List.length zs) cap ∧ zs.length ≤ cap ∧ cap ≤ 9223372036854775807 ∧ IntsAt w a zs := by
  obtain ⟨a0, len0, cap0, rfl⟩ := okWide_slice Try.underlying22 hv
  obtain ⟨fuel, hf⟩ := h
  obtain ⟨a, cap, zs, hcs, hl, hm, hI⟩ := open_slc hf
  simp [Value.cells] at hcs
  obtain ⟨rfl, rfl, rfl⟩ := hcs
  exact ⟨a0, cap0, zs, rfl, hl, hm, hI⟩
end
end Go.Proofs.Ytjapconhehdcjaa
