/- Layer 1: the values of the examples. -/
import Derived.Test.YtdnbdaegahcoeaaT
namespace Go.Proofs.Ytdnbdaegahcoeaa
open Go.RowKit Go.Sort
abbrev CL : List Int := [100, 200, 300]
theorem ints_new (W : World) (zs : List Int) : IntsAt (W.alloc (.cells (zs.map (Value.int .i64)).toArray 3)) (some ⟨W.heap.size, 0, none⟩) zs := fun j hj => by
  refine ⟨W.heap.size, 0, rfl, by simp, ?_⟩
  rw [World.cell?_alloc_at _ _ _ _ rfl, nth_eq]
  simp [hj]
theorem Owns.ints {w : World} {B : Nat} {v : Value} {zs : List Int} (h : Owns w B v zs) : ∃ a cap, v = .slice a zs.length cap ∧ IntsAt w a zs := by
  obtain ⟨_, h | ⟨g, cap, cur, rfl, _, hg, _, _, _, htake⟩⟩ := h
  · obtain ⟨rfl, h0⟩ := h
    exact ⟨none, 0, by rw [h0], fun j hj => by omega⟩
  · refine ⟨_, cap, rfl, fun j hj => ⟨g, 0, rfl, (Array.getElem?_eq_some_iff.1 hg).1, ?_⟩⟩
    rw [cell_of_row w g _ cur 3 (0, 0) hg, Nat.zero_add]
    have e : (zs.map (Value.int .i64))[j]? = some (.int .i64 (nth zs j)) := by rw [nth_eq]; simp [hj]
    rw [← e, ← htake, List.getElem?_take]
    simp; omega
theorem lev_div : (list5 (lev (fun i => K CL i / 2) 3 (200 * 120))).take 3 = [6000, 9000, 9000] := by
  have h := lev_eq (fun i => K CL i / 2) 3 (by decide) (200 * 120) 9000 (by decide) (by decide)
  simp only [list5, h]; decide
theorem lev_gain : (list5 (lev (K CL) 3 (500 * 120))).take 3 = [12000, 24000, 24000] := by
  have h := lev_eq (K CL) 3 (by decide) (500 * 120) 24000 (by decide) (by decide)
  simp only [list5, h]; decide
theorem lev_loss : (list5 (fun i => K CL i - lev (K CL) 3 (CL.sum * 120 - 300 * 120) i)).take 3 = [0, 12000, 24000] := by
  have h := lev_eq (K CL) 3 (by decide) (CL.sum * 120 - 300 * 120) 12000 (by decide) (by decide)
  simp only [list5, h]; decide
theorem ord_val : (list5 (inF (K CL) [2, 0, 1] (200 * 120) (fun _ => 0))).take 3 = [0, 0, 24000] := by decide
theorem avg_val : (list5 (fun i => addAll (K CL) (200 * 120) (vis 3 (idxL 3) 0) (fun _ => 0) i / (fct 3 : Int))).take 3 = [4000, 10000, 10000] := by decide
theorem why_val1 : vld 200 CL [4000, 10000, 10000] = 0 ∧ whyL CL [4000, 10000, 10000] = some (0, 1) := by decide
theorem why_val2 : vld 200 CL [6000, 9000, 9000] = 0 ∧ whyL CL [6000, 9000, 9000] = none := by decide
theorem prv_val : prv 200 CL [4000, 10000, 10000] 0 1 = 0 ∧ prv 200 CL [4000, 10000, 10000] 1 2 = 14 := by decide
theorem two_val : twoB 100 100 50 = true ∧ tw1 (100 * 120) (100 * 120) (50 * 120) / 2 = 9000 ∧ tw1 (100 * 120) (50 * 120) (100 * 120) / 2 = 3000 := by decide
end Go.Proofs.Ytdnbdaegahcoeaa
