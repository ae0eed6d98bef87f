/- Layer 1: rows of one's own, and claims that change places. -/
import Derived.Test.YtdnbdaegahcoeaaRankB
namespace Go.Proofs.Ytdnbdaegahcoeaa
open Go.RowKit Go.Sort
/-- a row that the call has made, and reads as these numbers. -/
def RowN (w : World) (g : Nat) (zs : List Int) : Prop := (∀ j, j < zs.length → w.cell? ⟨g, j, none⟩ = some (.int .i64 (nth zs j))) ∧ ∀ j, w.frozen? ⟨g, j, none⟩ = false
theorem RowN.cell {w : World} {g : Nat} {zs : List Int} (h : RowN w g zs) (j : Nat) (hj : j < zs.length) : w.cell? ⟨g, j, none⟩ = some (.int .i64 (nth zs j)) := h.1 j hj
theorem RowN.ints {w : World} {g : Nat} {zs : List Int} (h : RowN w g zs) : IntsAt w (some ⟨g, 0, none⟩) zs := fun j hj =>
  ⟨g, 0, rfl, World.block_lt_of_cell? w _ (h.1 j hj), by rw [Nat.zero_add]; exact h.1 j hj⟩
theorem RowN.drew {w : World} {g : Nat} {zs : List Int} (h : RowN w g zs) : RowN w.drew g zs := h
theorem RowN.set {w : World} {g : Nat} {zs : List Int} (h : RowN w g zs) (i : Nat) (v : Int) (hi : i < zs.length) : RowN (w.setCell ⟨g, i, none⟩ (.int .i64 v)) g (zs.set i v) := by
  refine ⟨fun j hj => ?_, fun j => by rw [World.frozen?_setCell]; exact h.2 j⟩
  rw [List.length_set] at hj
  rw [nth_set _ _ _ _ hi]
  by_cases e : j = i
  · subst e
    rw [if_pos rfl]
    exact World.cell?_setCell_same _ _ _ (h.1 j hj)
  · rw [if_neg e, World.cell?_setCell_other _ _ _ _ (by intro h; injection h with _ h; exact e h.symm)]
    exact h.1 j hj
theorem RowN.setO {w : World} {g g' : Nat} {zs : List Int} (h : RowN w g zs) (hne : g' ≠ g) (i : Nat) (v : Value) : RowN (w.setCell ⟨g', i, none⟩ v) g zs := by
  refine ⟨fun j hj => ?_, fun j => by rw [World.frozen?_setCell]; exact h.2 j⟩
  rw [World.cell?_setCell_other _ _ _ _ (by intro h; injection h with h; exact hne h)]
  exact h.1 j hj
theorem RowN.swap {w : World} {g : Nat} {zs : List Int} (h : RowN w g zs) (i k : Nat) (hi : i < zs.length) (hk : k < zs.length) : RowN ((w.setCell ⟨g, i, none⟩ (.int .i64 (nth zs k))).setCell ⟨g, k, none⟩ (.int .i64 (nth zs i))) g (swp zs i k) :=
  (h.set i _ hi).set k _ (by rw [List.length_set]; exact hk)
theorem RowN.below {w w' : World} {B g : Nat} {zs : List Int} (h : RowN w g zs) (hb : RowKit.Below B w w') (hg : g < B) : RowN w' g zs :=
  ⟨fun j hj => (hb.cell (p := ⟨g, j, none⟩) hg).trans (h.1 j hj), fun j => (hb.frozen (p := ⟨g, j, none⟩) hg).trans (h.2 j)⟩
theorem own_row {w : World} {B : Nat} {v : Value} {zs : List Int} (h : Owns w B v zs) (h0 : 0 < zs.length) :
    ∃ g cap, v = .slice (some ⟨g, 0, none⟩) zs.length cap ∧ B ≤ g ∧ g < w.heap.size ∧ RowN w g zs := by
  obtain ⟨_, h | ⟨g, cap, cur, rfl, hb, hg, hnc, _, hcs, htake⟩⟩ := h
  · exfalso
    obtain ⟨_, h1⟩ := h
    omega
  · have hlt := (Array.getElem?_eq_some_iff.1 hg).1
    refine ⟨g, cap, rfl, hb, hlt, fun j hj => ?_, fun j => frozen_of_row w g j _ _ hg⟩
    have e : (zs.map (Value.int .i64))[j]? = some (.int .i64 (nth zs j)) := by rw [nth_eq]; simp [hj]
    rw [← htake, List.getElem?_take, if_pos (by omega)] at e
    rw [cell_of_row w g j _ _ _ hg]
    simpa using e
theorem made_row (w : World) (n : Nat) : RowN (w.alloc (.cells (Array.replicate n (Value.int .i64 0)) 3)) w.heap.size (List.replicate n 0) := by
  have hh : (w.alloc (.cells (Array.replicate n (Value.int .i64 0)) 3)).heap[w.heap.size]? = some (.cells (Array.replicate n (Value.int .i64 0)) 3 (0, 0)) := heap_alloc_new w _
  refine ⟨fun j hj => ?_, fun j => frozen_of_row _ _ j _ _ hh⟩
  rw [List.length_replicate] at hj
  rw [cell_of_row _ _ j _ _ _ hh, nth_eq]
  simp [hj]
set_option maxRecDepth 100000 in
theorem mk5 (n : Nat) (hn : n ≤ 5) (w : World) : (Instr.makeSlice 22 (.int .i64 n) (.int .i64 n)).run Try.prog w = .ok (.slice (some ⟨w.heap.size, 0, none⟩) n n) (w.alloc (.cells (Array.replicate n (Value.int .i64 0)) 3)) := by
  have h0 : ∀ w, (Instr.makeSlice 22 (.int .i64 0) (.int .i64 0)).run Try.prog w = .ok (.slice (some ⟨w.heap.size, 0, none⟩) 0 0) (w.alloc (.cells (Array.replicate 0 (Value.int .i64 0)) 3)) := fun _ => by kernel_rfl
  have h1 : ∀ w, (Instr.makeSlice 22 (.int .i64 1) (.int .i64 1)).run Try.prog w = .ok (.slice (some ⟨w.heap.size, 0, none⟩) 1 1) (w.alloc (.cells (Array.replicate 1 (Value.int .i64 0)) 3)) := fun _ => by kernel_rfl
  have h2 : ∀ w, (Instr.makeSlice 22 (.int .i64 2) (.int .i64 2)).run Try.prog w = .ok (.slice (some ⟨w.heap.size, 0, none⟩) 2 2) (w.alloc (.cells (Array.replicate 2 (Value.int .i64 0)) 3)) := fun _ => by kernel_rfl
  have h3 : ∀ w, (Instr.makeSlice 22 (.int .i64 3) (.int .i64 3)).run Try.prog w = .ok (.slice (some ⟨w.heap.size, 0, none⟩) 3 3) (w.alloc (.cells (Array.replicate 3 (Value.int .i64 0)) 3)) := fun _ => by kernel_rfl
  have h4 : ∀ w, (Instr.makeSlice 22 (.int .i64 4) (.int .i64 4)).run Try.prog w = .ok (.slice (some ⟨w.heap.size, 0, none⟩) 4 4) (w.alloc (.cells (Array.replicate 4 (Value.int .i64 0)) 3)) := fun _ => by kernel_rfl
  have h5 : ∀ w, (Instr.makeSlice 22 (.int .i64 5) (.int .i64 5)).run Try.prog w = .ok (.slice (some ⟨w.heap.size, 0, none⟩) 5 5) (w.alloc (.cells (Array.replicate 5 (Value.int .i64 0)) 3)) := fun _ => by kernel_rfl
  match n, hn with
  | 0, _ => exact h0 w
  | 1, _ => exact h1 w
  | 2, _ => exact h2 w
  | 3, _ => exact h3 w
  | 4, _ => exact h4 w
  | 5, _ => exact h5 w
  | k + 6, h => exact absurd h (by omega)
/-- the claims and their old places, i of them exchanged. -/
def Inv (x : Int) (zs : List Int) (i : Nat) (pi : Nat → Nat) (o f : List Int) : Prop :=
  o.length = zs.length ∧ f.length = zs.length ∧ (∀ j, j < i → nth f j = (pi j : Int) ∧ pi j < zs.length) ∧ (∀ j, i ≤ j → pi j = j) ∧ Full5 x o ∧ ∀ c j, j < zs.length → nth (DkL x o c) j = nth (DkL x zs c) (pi j)
theorem inv_start {x : Int} {zs : List Int} (h : Full5 x zs) : Inv x zs 0 id zs (List.replicate zs.length 0) :=
  ⟨rfl, by simp, fun j hj => absurd hj (by omega), fun _ _ => rfl, h, fun _ _ _ => rfl⟩
theorem inv_step {x : Int} {zs o f : List Int} {i k : Nat} {pi : Nat → Nat} (h : Inv x zs i pi o f) (hi : i < zs.length) (hk : k ≤ i) : Inv x zs (i + 1) (fun j => pi (sw i k j)) (swp o i k) (swp (f.set i i) i k) := by
  obtain ⟨lo, lf, hf, hp, hF, hD⟩ := h
  have hkn : k < zs.length := by omega
  refine ⟨by rw [swp_len]; exact lo, by rw [swp_len, List.length_set]; exact lf, fun j hj => ?_, fun j hj => ?_, full_swp hF i k (by omega) (by omega), fun c j hj => ?_⟩
  · have hs : sw i k j ≤ i := by unfold sw; split <;> (try split) <;> omega
    rw [nth_swp _ _ _ _ (by rw [List.length_set]; omega) (by rw [List.length_set]; omega), nth_set _ _ _ _ (by omega)]
    show _ = ((pi (sw i k j) : Nat) : Int) ∧ pi (sw i k j) < zs.length
    by_cases e : sw i k j = i
    · rw [if_pos e, e, hp i (Nat.le_refl _)]
      exact ⟨rfl, hi⟩
    · rw [if_neg e]
      exact hf _ (by omega)
  · have hs : sw i k j = j := by unfold sw; rw [if_neg (by omega), if_neg (by omega)]
    show pi (sw i k j) = j
    rw [hs]; exact hp j (by omega)
  · rw [dk_swp hF i k (by omega) (by omega) c j (by omega)]
    exact hD c _ (sw_lt i k j _ hi hkn hj)
theorem Fut.drew1 (w : World) {B : Nat} : RowKit.Below B w w.drew := below_drewN (RowKit.Below.refl _ _) 1
end Go.Proofs.Ytdnbdaegahcoeaa
