/- Layer 2: maps and lists that came in, opened. -/
import Derived.Test.YtimddkofcejijaaSI
import Derived.Test.YtimddkofcejijaaSP
namespace Go.Proofs.Ytimddkofcejijaa
open Go.RowKit Go.Sort
open Go.Joins Go.ChangeShapes Go.WideShapes Go.ChangeAt
theorem cT24 : Try.prog.cellsOf 24 = 2 := by kernel_rfl
theorem cT22 : Try.prog.cellsOf 22 = 1 := by kernel_rfl
theorem cT3 : Try.prog.cellsOf 3 = 1 := by kernel_rfl
theorem cT65 : Try.prog.cellsOf 65 = 2 := by kernel_rfl
theorem array2 {α : Type} {cs : Array α} (h : cs.size = 2) : ∃ c0 c1, cs = #[c0, c1] := by
  obtain ⟨l⟩ := cs
  match l, h with
  | [c0, c1], _ => exact ⟨c0, c1, rfl⟩
/-- a street that was read. -/
theorem open_str {H : Type} {enc : TypeId × Value → H} {w : World} {base : Nat} {spare : Nat → Bool} {held : Bool} {n : Nat} {a : Addr} {y : DataW H × List MemPlace}
    (h : (w.cells? base a 2).bind (DataW.trod enc Try.prog w base spare held n 65) = some y) :
    ∃ p : Int × Int, w.cell? (a.add 0) = some (.int .i64 p.1) ∧ w.cell? (a.add 1) = some (.int .i64 p.2) := by
  rw [Option.bind_eq_some_iff] at h
  obtain ⟨cs, hcs, hy⟩ := h
  obtain ⟨_, hl, hc⟩ := World.cells?_some hcs
  obtain ⟨c0, c1, rfl⟩ := listN2 hl
  obtain ⟨xs, m, _, rfl, _, hxl, hxs⟩ := DataW.trod_array Try.underlying65 hy
  obtain ⟨x0, x1, rfl⟩ := listN2 hxl
  have k0 := hxs 0 (by decide)
  have k1 := hxs 1 (by decide)
  have g0 := hc 0 (by decide)
  have g1 := hc 1 (by decide)
  clear hxs hc hxl hl hcs hy
  simp [cT3] at k0 k1
  obtain ⟨a0, e0, _, w0⟩ := DataW.trod_int Try.underlying3 k0
  obtain ⟨a1, e1, _, w1⟩ := DataW.trod_int Try.underlying3 k1
  simp only [List.cons.injEq, and_true] at e0 e1
  subst e0
  subst e1
  exact ⟨(a0, a1), by simpa using g0, by simpa using g1⟩
set_option maxRecDepth 100000 in
/-- a slice of numbers that came in. -/
theorem open_sl {H : Type} {enc : TypeId × Value → H} {w : World} {b0 : Nat} {r : Reach} {v : Value} {d : DataW H} {p : List MemPlace}
    (hv : Value.okWide Try.prog w r b0 25 v) (h : DataW.Trod enc Try.prog w 0 (fun _ => true) true 25 v d p) :
    ∃ a cap zs, v = .slice a (List.length zs) cap ∧ zs.length ≤ 9223372036854775807 ∧ IntsAt w a zs := by
  obtain ⟨a0, len, cap, rfl⟩ := okWide_slice Try.underlying25 hv
  obtain ⟨fuel, hf⟩ := h
  rcases open_ints Try.underlying25 Try.underlying3 cT3 hf with ⟨hcs, _⟩ | ⟨a, len', cap', zs, hcs, _, hl, hm, hz, _, hcell, _⟩
  · simp [Value.cells] at hcs
    obtain ⟨rfl, rfl, rfl⟩ := hcs
    exact ⟨none, 0, [], rfl, by simp, fun j hj => absurd hj (by simp)⟩
  · simp [Value.cells] at hcs
    obtain ⟨rfl, rfl, rfl⟩ := hcs
    simp only [if_true] at hz
    unfold maxLen at hm
    have hlt : (zs.take len).length = len := by rw [List.length_take]; omega
    refine ⟨some a, cap, zs.take len, by rw [hlt], by omega, fun j hj => ?_⟩
    rw [hlt] at hj
    have hc0 := hcell 0 (by omega)
    have hc := hcell j (by omega)
    obtain ⟨b, off, spot⟩ := a
    have hspot : spot = none := by simpa [Addr.add] using World.cell?_spot hc0
    subst hspot
    have hadd : (⟨b, off, none⟩ : Addr).add j = ⟨b, off + j, none⟩ := by unfold Addr.add; split <;> simp_all
    rw [hadd] at hc
    refine ⟨b, off, rfl, World.block_lt_of_cell? _ _ hc, ?_⟩
    have e : nth (zs.take len) j = zs.getD j 0 := by rw [nth_eq, List.getElem?_take, if_pos hj, List.getD_eq_getElem?_getD]
    rw [e]
    exact hc
set_option maxRecDepth 100000 in
/-- streets that came in. -/
theorem open_sts {H : Type} {enc : TypeId × Value → H} {w : World} {fuel : Nat} {cs : List Value} {x : DataW H × List MemPlace}
    (h : DataW.trod enc Try.prog w 0 (fun _ => true) true fuel 22 cs = some x) :
    ∃ a cap ss, cs = [.slice a (List.length ss) cap] ∧ ss.length ≤ 9223372036854775807 ∧ StrAt w a ss := by
  rcases DataW.trod_slice Try.underlying22 h with ⟨rfl, _⟩ | ⟨a, len, cap, elems, rest, n, _, rfl, _, _, hl, hm, hlen, hel, _, _⟩
  · exact ⟨none, 0, [], rfl, by simp, fun j hj => absurd hj (by simp)⟩
  · unfold maxLen at hm
    have each : ∀ i, i < len → ∃ p : Int × Int, w.cell? ((a.add (i * 2)).add 0) = some (.int .i64 p.1) ∧ w.cell? ((a.add (i * 2)).add 1) = some (.int .i64 p.2) := fun i hi => by
      have := hel i hi
      rw [cT65, List.getElem?_eq_getElem (by omega)] at this
      exact open_str this
    have hex : ∃ ss : List (Int × Int), ss.length = len ∧ ∀ i, i < len → w.cell? ((a.add (i * 2)).add 0) = some (.int .i64 (str ss i).1) ∧ w.cell? ((a.add (i * 2)).add 1) = some (.int .i64 (str ss i).2) := by
      refine ⟨(List.range len).map fun i => if hi : i < len then (each i hi).choose else (0, 0), by simp, fun i hi => ?_⟩
      have e : str ((List.range len).map fun i => if hi : i < len then (each i hi).choose else (0, 0)) i = (each i hi).choose := by
        rw [str_eq, List.getElem?_map, List.getElem?_range hi]
        simp [hi]
      rw [e]
      exact (each i hi).choose_spec
    obtain ⟨ss, rfl, hc⟩ := hex
    refine ⟨some a, cap, ss, rfl, by omega, fun j hj => ?_⟩
    obtain ⟨c0, c1⟩ := hc j hj
    obtain ⟨b, off, spot⟩ := a
    have hspot : spot = none := by simpa [Addr.add] using World.cell?_spot (hc 0 (by omega)).1
    subst hspot
    have hadd : ∀ o k, (⟨b, o, none⟩ : Addr).add k = ⟨b, o + k, none⟩ := fun o k => by unfold Addr.add; split <;> simp_all
    rw [hadd, hadd] at c0 c1
    exact ⟨b, off, rfl, World.block_lt_of_cell? _ _ c0, c0, c1⟩
set_option maxRecDepth 100000 in
/-- a map that came in. -/
theorem open_map {H : Type} {enc : TypeId × Value → H} {w : World} {b0 : Nat} {r : Reach} {v : Value} {d : DataW H} {p : List MemPlace}
    (hv : Value.okWide Try.prog w r b0 24 v) (h : DataW.Trod enc Try.prog w 0 (fun _ => true) true 24 v d p) :
    ∃ c a cap ss, v = mapV c a (List.length ss) cap ∧ ss.length ≤ 9223372036854775807 ∧ StrAt w a ss := by
  obtain ⟨cs, rfl, hsz⟩ := okWide_struct Try.underlying24 hv
  obtain ⟨c0, c1, rfl⟩ := array2 (hsz.trans cT24)
  obtain ⟨fuel, hf⟩ := h
  obtain ⟨xs, m, _, _, _, hxl, hfs⟩ := DataW.trod_struct Try.underlying24 hf
  obtain ⟨x0, x1, rfl⟩ := listN2 hxl
  have h0 := hfs 0 _ rfl
  have h1 := hfs 1 _ rfl
  clear hfs hv hsz hf hxl
  simp [Value.cells, cT3, cT22] at h0 h1
  obtain ⟨a0, e0, _, w0⟩ := DataW.trod_int Try.underlying3 h0
  obtain ⟨a, cap, ss, e1, hl, hS⟩ := open_sts h1
  simp at e0 e1
  subst e0
  subst e1
  exact ⟨a0, a, cap, ss, rfl, hl, hS⟩
end Go.Proofs.Ytimddkofcejijaa
