/- Layer 2, the door's seat: the two tables of math/bits in their places; three bytes that came in. -/
import Derived.Test.YtimddkofcejijaaDoorTie
import Derived.Test.YtimddkofcejijaaDoorCards
import Derived.WalkKit
import Derived.ProofKit
import Derived.LaidMore
import Derived.OpenShut
import Derived.Carry
import Derived.Stop.Joined
import Derived.SevenTiedAt
import Derived.Test.YtimddkofcejijaaDoorDA
namespace Go.Proofs.YtimddkofcejijaaDoor.Ld
open Go.ChangeShapes Go.WideShapes Go.ChangeAt Go.WideMaps Go.WideElems Go.RowKit

theorem own : ownKnob Tryd.prog.godebug = none := by kernel_rfl
abbrev laidT {H : Type} : List (String × DataW H) := [("math/bits.deBruijn32tab", Rows.laid_math_bits_deBruijn32tab), ("math/bits.deBruijn64tab", Rows.laid_math_bits_deBruijn64tab)]
theorem g64 : Tryd.prog.globalNamed "math/bits.deBruijn64tab" = some 1 := by kernel_rfl
theorem t64 : (Tryd.prog.globals[1]?).map (·.type) = some 106 := by kernel_rfl
theorem u106 : Tryd.prog.underlying 106 = some (.array 64 5) := by kernel_rfl
theorem u5 : Tryd.prog.cellsOf 5 = 1 := by kernel_rfl
theorem c106 : Tryd.prog.cellsOf 106 = 64 := by kernel_rfl
/-- the table's cells. -/
def cells64 {H : Type} : List (DataW H) := match (Rows.laid_math_bits_deBruijn64tab : DataW H) with
  | .agg l => l
  | _ => []
theorem tab_agg {H : Type} : (Rows.laid_math_bits_deBruijn64tab : DataW H) = .agg cells64 := rfl
theorem tab_cell {H : Type} (i : Nat) (hi : i < 64) : (cells64 : List (DataW H))[i]? = some (.lit (.int .u8 (tabV i))) := by
  match i, hi with
  | 0, _ => rfl
  | 1, _ => rfl
  | 2, _ => rfl
  | 3, _ => rfl
  | 4, _ => rfl
  | 5, _ => rfl
  | 6, _ => rfl
  | 7, _ => rfl
  | 8, _ => rfl
  | 9, _ => rfl
  | 10, _ => rfl
  | 11, _ => rfl
  | 12, _ => rfl
  | 13, _ => rfl
  | 14, _ => rfl
  | 15, _ => rfl
  | 16, _ => rfl
  | 17, _ => rfl
  | 18, _ => rfl
  | 19, _ => rfl
  | 20, _ => rfl
  | 21, _ => rfl
  | 22, _ => rfl
  | 23, _ => rfl
  | 24, _ => rfl
  | 25, _ => rfl
  | 26, _ => rfl
  | 27, _ => rfl
  | 28, _ => rfl
  | 29, _ => rfl
  | 30, _ => rfl
  | 31, _ => rfl
  | 32, _ => rfl
  | 33, _ => rfl
  | 34, _ => rfl
  | 35, _ => rfl
  | 36, _ => rfl
  | 37, _ => rfl
  | 38, _ => rfl
  | 39, _ => rfl
  | 40, _ => rfl
  | 41, _ => rfl
  | 42, _ => rfl
  | 43, _ => rfl
  | 44, _ => rfl
  | 45, _ => rfl
  | 46, _ => rfl
  | 47, _ => rfl
  | 48, _ => rfl
  | 49, _ => rfl
  | 50, _ => rfl
  | 51, _ => rfl
  | 52, _ => rfl
  | 53, _ => rfl
  | 54, _ => rfl
  | 55, _ => rfl
  | 56, _ => rfl
  | 57, _ => rfl
  | 58, _ => rfl
  | 59, _ => rfl
  | 60, _ => rfl
  | 61, _ => rfl
  | 62, _ => rfl
  | 63, _ => rfl
  | n + 64, h => exact absurd h (by omega)
theorem door_met (os : Os) (args : Array Value) : laidMetH Tryd.prog laidT ((World.doorLaid Tryd.prog 400 os).forCall (fun _ _ => 0) ⟨#[], args, []⟩).memory :=
  laidMetH_of_parts3 (fuel := 8) (laidMet_of_run' 8 (by kernel_rfl) (by kernel_rfl)) (by kernel_rfl) (by kernel_rfl)

theorem of_laid {W : World} (h : laidMetH Tryd.prog laidT W) : TabAt W := by
  rw [MakeChecks.laidMetH_plain _ _ _ (by kernel_rfl)] at h
  obtain ⟨ps, ⟨g0, t0, cs0, f0, p0, q0, hg0, ht0, hv0, hd0, ⟨g1, t1, cs1, f1, p1, q1, hg1, ht1, hv1, hd1, _, _⟩, _⟩, _, _⟩ := h
  obtain rfl := Option.some.inj (g64.symm.trans hg1)
  obtain rfl := Option.some.inj (t64.symm.trans ht1)
  obtain ⟨xs, m1, rfl, hx1, hlen, hn3, hel⟩ := DataW.trod_array u106 hd1
  rw [tab_agg] at hx1
  simp only [Prod.mk.injEq, DataW.agg.injEq] at hx1
  have hc : ∀ i, i < 64 → W.cell? ⟨1, i, none⟩ = some (.int .u8 (tabV i)) := fun i hi => by
    have h0 := hel i hi
    have hix : i < xs.length := by omega
    rw [List.getElem?_eq_getElem hix] at h0
    have hxi : (xs[i]).1 = .lit (.int .u8 (tabV i)) := by
      have h2 := tab_cell (H := Unit) i hi
      rw [hx1.1, List.getElem?_map, List.getElem?_eq_getElem hix] at h2
      exact Option.some.inj h2
    obtain ⟨k, e1, e2, _⟩ := DataW.trod_int Tryd.underlying5 h0
    have hk : k = tabV i := by rw [e2] at hxi; simpa using hxi
    rw [u5, Nat.mul_one] at e1
    have := World.var?_cell hg1 hv1 i
    rw [this, ← Array.getElem?_toList]
    have h3 := congrArg (fun l => l[0]?) e1
    simp [List.getElem?_drop] at h3
    rw [← hk]
    simpa using h3
  exact ⟨World.block_lt_of_cell? W _ (hc 0 (by decide)), hc⟩

theorem array3 {α : Type} {cs : Array α} (h : cs.size = 3) : ∃ c0 c1 c2, cs = #[c0, c1, c2] := by
  obtain ⟨l⟩ := cs
  match l, h with
  | [c0, c1, c2], _ => exact ⟨c0, c1, c2, rfl⟩
theorem list3 {α : Type} {l : List α} (h : l.length = 3) : ∃ c0 c1 c2, l = [c0, c1, c2] := by
  match l, h with
  | [c0, c1, c2], _ => exact ⟨c0, c1, c2, rfl⟩
theorem u62 : Tryd.prog.underlying 62 = some (.array 3 5) := by kernel_rfl
theorem c62 : Tryd.prog.cellsOf 62 = 3 := by kernel_rfl
set_option maxRecDepth 100000 in
/-- three bytes that came in. -/
theorem open_three {H : Type} {enc : TypeId × Value → H} {w : World} {base b0 : Nat} {spare : Nat → Bool} {held : Bool} {r : Reach} {v : Value} {d : DataW H} {p : List MemPlace}
    (hv : Value.okWide Tryd.prog w r b0 62 v) (h : DataW.Trod enc Tryd.prog w base spare held 62 v d p) :
    ∃ b : Nat → Int, (∀ j, 0 ≤ b j ∧ b j ≤ 255) ∧ v = .agg #[.int .u8 (b 0), .int .u8 (b 1), .int .u8 (b 2)] ∧ p = [] := by
  obtain ⟨fuel, hf⟩ := h
  simp only [Value.okWide, u62] at hv
  obtain ⟨cs, rfl, hsz, _⟩ := hv
  obtain ⟨c0, c1, c2, rfl⟩ := array3 (hsz.trans c62)
  obtain ⟨ys, m', _, hx, _, hyl, hys⟩ := DataW.trod_array u62 hf
  obtain ⟨y0, y1, y2, rfl⟩ := list3 hyl
  have k0 := hys 0 (by decide)
  have k1 := hys 1 (by decide)
  have k2 := hys 2 (by decide)
  simp [Value.cells, u5] at k0 k1 k2
  obtain ⟨a0, e0, rfl, w0⟩ := DataW.trod_int Tryd.underlying5 k0
  obtain ⟨a1, e1, rfl, w1⟩ := DataW.trod_int Tryd.underlying5 k1
  obtain ⟨a2, e2, rfl, w2⟩ := DataW.trod_int Tryd.underlying5 k2
  simp at e0 e1 e2
  subst e0 e1 e2
  refine ⟨fun i => nth [a0, a1, a2] i, fun i => ?_, rfl, ?_⟩
  · match i with
    | 0 => exact u8_bd w0
    | 1 => exact u8_bd w1
    | 2 => exact u8_bd w2
    | i + 3 => exact ⟨by simp [nth_eq], by simp [nth_eq]⟩
  · have := congrArg Prod.snd hx
    simpa using this

end Go.Proofs.YtimddkofcejijaaDoor.Ld
