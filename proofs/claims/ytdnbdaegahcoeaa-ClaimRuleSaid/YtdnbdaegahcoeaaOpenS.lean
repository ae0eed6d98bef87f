/- Layer 1: slices of numbers that came in, opened. -/
import Derived.Test.YtdnbdaegahcoeaaOpenQ
import Derived.Test.YtdnbdaegahcoeaaRefB
namespace Go.Proofs.Ytdnbdaegahcoeaa
open Go.RowKit Go.Sort
open Go.Joins Go.ChangeShapes Go.WideShapes Go.ChangeAt
theorem cT3 : Try.prog.cellsOf 3 = 1 := by kernel_rfl
/-- a slice of numbers that came in. -/
theorem open_sl {H : Type} {enc : TypeId × Value → H} {w : World} {b0 : Nat} {r : Reach} {v : Value} {d : DataW H} {p : List MemPlace}
    (hv : Value.okWide Try.prog w r b0 22 v) (h : DataW.Trod enc Try.prog w 0 (fun _ => true) true 22 v d p) :
    ∃ a cap zs, v = .slice a (List.length zs) cap ∧ zs.length ≤ 9223372036854775807 ∧ IntsAt w a zs := by
  obtain ⟨a0, len, cap, rfl⟩ := okWide_slice Try.underlying22 hv
  obtain ⟨fuel, hf⟩ := h
  rcases open_ints Try.underlying22 Try.underlying3 cT3 hf with ⟨hcs, _⟩ | ⟨a, len', cap', zs, hcs, _, hl, hm, hz, _, hcell, _⟩
  · simp [Value.cells] at hcs
    obtain ⟨rfl, rfl, rfl⟩ := hcs
    exact ⟨none, 0, [], rfl, by simp, fun j hj => absurd hj (by simp)⟩
  · simp [Value.cells] at hcs
    obtain ⟨rfl, rfl, rfl⟩ := hcs
    simp only [if_true] at hz
    unfold maxLen at hm
    have hlt : (zs.take len).length = len := by rw [List.length_take]; omega
    refine ⟨some a, cap, zs.take len, by rw [hlt], by omega, fun j hj => ?_⟩
    rw [hlt] at hj
    have hc0 := hcell 0 (by omega)
    have hc := hcell j (by omega)
    obtain ⟨b, off, spot⟩ := a
    have hspot : spot = none := by simpa [Addr.add] using World.cell?_spot hc0
    subst hspot
    have hadd : (⟨b, off, none⟩ : Addr).add j = ⟨b, off + j, none⟩ := by unfold Addr.add; split <;> simp_all
    rw [hadd] at hc
    refine ⟨b, off, rfl, World.block_lt_of_cell? _ _ hc, ?_⟩
    have e : nth (zs.take len) j = zs.getD j 0 := by rw [nth_eq, List.getElem?_take, if_pos hj, List.getD_eq_getElem?_getD]
    rw [e]
    exact hc
end Go.Proofs.Ytdnbdaegahcoeaa
