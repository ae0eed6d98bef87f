/- what came in: open_parish open_places -/
import Derived.Test.YtflllkamdihfaaaLD
namespace Go.Proofs.Ytflllkamdihfaaa
open Go.RowKit Go.Sort
open Go.Joins Go.ChangeShapes Go.WideShapes Go.ChangeAt
theorem cT24 : Try.prog.cellsOf 24 = 3 := by kernel_rfl
theorem cT26 : Try.prog.cellsOf 26 = 2 := by kernel_rfl
theorem arr2 {α : Type} {a : Array α} (h : a.size = 2) : ∃ x y, a = #[x, y] := by
  obtain ⟨l⟩ := a
  match l, h with
  | [x, y], _ => exact ⟨x, y, rfl⟩
theorem arr3 {α : Type} {a : Array α} (h : a.size = 3) : ∃ x y z, a = #[x, y, z] := by
  obtain ⟨l⟩ := a
  match l, h with
  | [x, y, z], _ => exact ⟨x, y, z, rfl⟩
theorem lis2 {α : Type} {l : List α} (h : l.length = 2) : ∃ x y, l = [x, y] := by
  match l, h with
  | [x, y], _ => exact ⟨x, y, rfl⟩
theorem lis3 {α : Type} {l : List α} (h : l.length = 3) : ∃ x y z, l = [x, y, z] := by
  match l, h with
  | [x, y, z], _ => exact ⟨x, y, z, rfl⟩
set_option maxRecDepth 100000 in
/-- a parish that came in. -/
theorem open_parish {H : Type} {enc : TypeId × Value → H} {w : World} {b0 : Nat} {r : Reach} {v : Value} {d : DataW H} {p : List MemPlace}
    (hv : Value.okWide Try.prog w r b0 24 v) (h : DataW.Trod enc Try.prog w 0 (fun _ => true) true 24 v d p) :
    ∃ x y a cap S, v = parV x y a (List.length S) cap ∧ S.length ≤ cap ∧ cap ≤ 9223372036854775807 ∧ IntsAt w a S := by
  obtain ⟨cs, rfl, hsz⟩ := okWide_struct Try.underlying24 hv
  obtain ⟨c0, c1, c2, rfl⟩ := arr3 (hsz.trans cT24)
  obtain ⟨fuel, hf⟩ := h
  obtain ⟨xs, m, _, _, _, hxl, hfs⟩ := DataW.trod_struct Try.underlying24 hf
  obtain ⟨x0, x1, x2, rfl⟩ := lis3 hxl
  have h0 := hfs 0 _ rfl
  have h1 := hfs 1 _ rfl
  have h2 := hfs 2 _ rfl
  clear hfs hv hsz hf hxl
  simp [Value.cells, cT3, cT22] at h0 h1 h2
  obtain ⟨a0, e0, _, w0⟩ := DataW.trod_int Try.underlying3 h0
  obtain ⟨a1, e1, _, w1⟩ := DataW.trod_int Try.underlying3 h1
  obtain ⟨a, cap, S, e2, hl, hm, hS⟩ := open_slc h2
  simp at e0 e1 e2
  subst e0
  subst e1
  subst e2
  exact ⟨a0, a1, a, cap, S, rfl, hl, hm, hS⟩
set_option maxRecDepth 100000 in
/-- places that came in. -/
theorem open_places {H : Type} {enc : TypeId × Value → H} {w : World} {b0 : Nat} {r : Reach} {v : Value} {d : DataW H} {p : List MemPlace}
    (hv : Value.okWide Try.prog w r b0 26 v) (h : DataW.Trod enc Try.prog w 0 (fun _ => true) true 26 v d p) :
    ∃ ya yc Y ta tc T, v = plaV ya (List.length Y) yc ta (List.length T) tc ∧ Y.length ≤ yc ∧ T.length ≤ tc ∧ IntsAt w ya Y ∧ IntsAt w ta T := by
  obtain ⟨cs, rfl, hsz⟩ := okWide_struct Try.underlying26 hv
  obtain ⟨c0, c1, rfl⟩ := arr2 (hsz.trans cT26)
  obtain ⟨fuel, hf⟩ := h
  obtain ⟨xs, m, _, _, _, hxl, hfs⟩ := DataW.trod_struct Try.underlying26 hf
  obtain ⟨x0, x1, rfl⟩ := lis2 hxl
  have h0 := hfs 0 _ rfl
  have h1 := hfs 1 _ rfl
  clear hfs hv hsz hf hxl
  simp [Value.cells, cT22] at h0 h1
  obtain ⟨ya, yc, Y, e0, hl, _, hY⟩ := open_slc h0
  obtain ⟨ta, tc, T, e1, hl1, _, hT⟩ := open_slc h1
  simp at e0 e1
  subst e0
  subst e1
  exact ⟨ya, yc, Y, ta, tc, T, rfl, hl, hl1, hY, hT⟩
end Go.Proofs.Ytflllkamdihfaaa
