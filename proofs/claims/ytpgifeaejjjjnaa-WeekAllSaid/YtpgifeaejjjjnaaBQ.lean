/- Layer 3: lists of lists that came in, opened, with their room. -/
import Derived.Test.YtpgifeaejjjjnaaBP
import Derived.Lib.SmallJoins
import Derived.ProofKit
import Derived.OpenShut
namespace Go.Proofs.Ytpgifeaejjjjnaa
open Go.RowKit Go.Sort
open Go.Joins Go.ChangeShapes Go.WideShapes Go.ChangeAt
theorem cT3 : Try.prog.cellsOf 3 = 1 := by kernel_rfl
theorem cT28 : Try.prog.cellsOf 28 = 1 := by kernel_rfl
theorem cT22 : Try.prog.cellsOf 22 = 1 := by kernel_rfl
set_option maxRecDepth 100000 in
/-- a list of numbers that was read. -/
theorem open_slc {H : Type} {enc : TypeId × Value → H} {w : World} {fuel : Nat} {cs : List Value} {x : DataW H × List MemPlace}
    (hf : DataW.trod enc Try.prog w 0 (fun _ => true) true fuel 28 cs = some x) :
    ∃ a cap zs, cs = [.slice a (List.length zs) cap] ∧ zs.length ≤ cap ∧ cap ≤ 9223372036854775807 ∧ IntsAt w a zs := by
  rcases open_ints Try.underlying28 Try.underlying3 cT3 hf with ⟨hcs, _⟩ | ⟨a, len, cap, zs, hcs, _, hl, hm, hz, _, hcell, _⟩
  · exact ⟨none, 0, [], hcs, by simp, by omega, fun j hj => absurd hj (by simp)⟩
  · simp only [if_true] at hz
    unfold maxLen at hm
    have hlt : (zs.take len).length = len := by rw [List.length_take]; omega
    refine ⟨some a, cap, zs.take len, by rw [hlt]; exact hcs, by omega, by omega, fun j hj => ?_⟩
    rw [hlt] at hj
    have hc0 := hcell 0 (by omega)
    have hc := hcell j (by omega)
    obtain ⟨b, off, spot⟩ := a
    have hspot : spot = none := by simpa [Addr.add] using World.cell?_spot hc0
    subst hspot
    have hadd : (⟨b, off, none⟩ : Addr).add j = ⟨b, off + j, none⟩ := by unfold Addr.add; split <;> simp_all
    rw [hadd] at hc
    refine ⟨b, off, rfl, World.block_lt_of_cell? _ _ hc, ?_⟩
    have e : nth (zs.take len) j = zs.getD j 0 := by rw [nth_eq, List.getElem?_take, if_pos hj, List.getD_eq_getElem?_getD]
    rw [e]
    exact hc
set_option maxRecDepth 100000 in
/-- lists that came in. -/
theorem open_lls {H : Type} {enc : TypeId × Value → H} {w : World} {b0 : Nat} {r : Reach} {v : Value} {d : DataW H} {p : List MemPlace}
    (hv : Value.okWide Try.prog w r b0 22 v) (h : DataW.Trod enc Try.prog w 0 (fun _ => true) true 22 v d p) :
    ∃ a cap zss, v = .slice a (List.length zss) cap ∧ zss.length ≤ cap ∧ cap ≤ 9223372036854775807 ∧ LstC w a zss := by
  obtain ⟨a0, len0, cap0, rfl⟩ := okWide_slice Try.underlying22 hv
  obtain ⟨fuel, hf⟩ := h
  rcases DataW.trod_slice Try.underlying22 hf with ⟨hcs, _⟩ | ⟨a, len, cap, elems, rest, n, _, hcs, _, _, hl, hm, hlen, hel, _, _⟩
  · simp [Value.cells] at hcs
    obtain ⟨rfl, rfl, rfl⟩ := hcs
    exact ⟨none, 0, [], rfl, by simp, by omega, fun j hj => absurd hj (by simp)⟩
  · simp [Value.cells] at hcs
    obtain ⟨rfl, rfl, rfl⟩ := hcs
    unfold maxLen at hm
    have each : ∀ i, i < len0 → ∃ zs : List Int, ∃ l lc, w.cell? ((a.add (i * 1)).add 0) = some (.slice l zs.length lc) ∧ (zs.length ≤ lc ∧ lc ≤ 9223372036854775807) ∧ IntsAt w l zs := fun i hi => by
      have := hel i hi
      rw [cT28, List.getElem?_eq_getElem (by omega), Option.bind_eq_some_iff] at this
      obtain ⟨cs, hcs, hy⟩ := this
      obtain ⟨_, hl1, hc⟩ := World.cells?_some hcs
      obtain ⟨l, lc, zs, rfl, hz1, hz2, hI⟩ := open_slc hy
      have c0 := hc 0 (by decide)
      exact ⟨zs, l, lc, by simpa using c0, ⟨hz1, hz2⟩, hI⟩
    have hex : ∃ zss : List (List Int), zss.length = len0 ∧ ∀ i, i < len0 → ∃ l lc, w.cell? ((a.add (i * 1)).add 0) = some (.slice l (lth zss i).length lc) ∧ ((lth zss i).length ≤ lc ∧ lc ≤ 9223372036854775807) ∧ IntsAt w l (lth zss i) := by
      refine ⟨(List.range len0).map fun i => if hi : i < len0 then (each i hi).choose else [], by simp, fun i hi => ?_⟩
      · have e : lth ((List.range len0).map fun i => if hi : i < len0 then (each i hi).choose else []) i = (each i hi).choose := by
          rw [lth_eq, List.getElem?_map, List.getElem?_range hi]
          simp [hi]
        rw [e]
        exact (each i hi).choose_spec
    obtain ⟨zss, rfl, hc⟩ := hex
    refine ⟨some a, cap0, zss, rfl, by omega, by omega, fun j hj => ?_⟩
    obtain ⟨l, lc, c0, hz, hI⟩ := hc j hj
    obtain ⟨b, off, spot⟩ := a
    have hspot : spot = none := by
      obtain ⟨_, _, c, _⟩ := hc 0 (by omega)
      simpa [Addr.add] using World.cell?_spot c
    subst hspot
    have hadd : ∀ o k, (⟨b, o, none⟩ : Addr).add k = ⟨b, o + k, none⟩ := fun o k => by unfold Addr.add; split <;> simp_all
    rw [hadd, hadd, Nat.mul_one, Nat.add_zero] at c0
    exact ⟨b, off, l, lc, rfl, World.block_lt_of_cell? _ _ c0, c0, hz.1, hz.2, hI⟩
end Go.Proofs.Ytpgifeaejjjjnaa
