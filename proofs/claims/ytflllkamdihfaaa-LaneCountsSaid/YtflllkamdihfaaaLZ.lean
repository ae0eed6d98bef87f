/- the law's own P X Q S Z Y: p61_any x62_any q63_any s64_any z65_any y67_any -/
import Derived.Test.YtflllkamdihfaaaLU
namespace Go.Proofs.Ytflllkamdihfaaa
open Go.RowKit Go.Sort
theorem res_cell0 {fn : Func} {ty : TypeId} (hf : fn.results = #[.cell 0 ty]) {tmps : Array Value} {w : World} {B : Nat} {cs : Array Value} (h0 : tmps.getD 0 undef = .pointer (some ⟨B, 0, none⟩))
    (hr : (loadVar ty ⟨B, 0, none⟩).run Try.prog w = .ok (.agg cs) w) :
    (results fn tmps).run Try.prog w = .ok (.agg cs) w := by
  rw [results_one_cell hf, h0]
  simp [asAddr, hr, Result.andThen]
theorem load24 {w : World} {B : Nat} {cs : Array Value} (hc : cs.size = 3) (hw : w.heap[B]? = some (.cells cs 24)) : (loadVar 24 ⟨B, 0, none⟩).run Try.prog w = .ok (.agg cs) w :=
  run_loadVar_row (P := Try.prog) w B 24 24 cs (0, 0) _ hw Try.underlying24 rfl (by rw [hc]; kernel_rfl)
theorem load26 {w : World} {B : Nat} {cs : Array Value} (hc : cs.size = 2) (hw : w.heap[B]? = some (.cells cs 26)) : (loadVar 26 ⟨B, 0, none⟩).run Try.prog w = .ok (.agg cs) w :=
  run_loadVar_row (P := Try.prog) w B 26 26 cs (0, 0) _ hw Try.underlying26 rfl (by rw [hc]; kernel_rfl)
theorem at_new1 (w : World) (o : Obj) (zs : List Int) : IntsAt ((w.alloc o).alloc (.cells (zs.map (Value.int .i64)).toArray 3)) (some ⟨w.heap.size + 1, 0, none⟩) zs := by
  have h := ints_new (w.alloc o) zs
  rw [World.size_alloc] at h
  exact h
theorem at_new2 (w : World) (o o2 : Obj) (zs : List Int) : IntsAt (((w.alloc o).alloc o2).alloc (.cells (zs.map (Value.int .i64)).toArray 3)) (some ⟨w.heap.size + 1 + 1, 0, none⟩) zs := by
  have h := ints_new ((w.alloc o).alloc o2) zs
  rw [World.size_alloc, World.size_alloc] at h
  exact h
theorem heap_new1 (w : World) (o o2 : Obj) : ((w.alloc o).alloc o2).heap[w.heap.size]? = some o := (RowKit.Below.heap_alloc _ _ _ (by simp)).trans (World.alloc_heap_new _ _)
theorem heap_new2 (w : World) (o o2 o3 : Obj) : (((w.alloc o).alloc o2).alloc o3).heap[w.heap.size]? = some o := (RowKit.Below.heap_alloc _ _ _ (by simp; omega)).trans (heap_new1 _ _ _)
set_option maxRecDepth 100000 in
theorem p61_any (w : World) : Calls Try.prog 61 #[] w fun e w' => e = .returned (parV 3 3 none 0 0) ∧ Fut w w' := by
  go_enter Try.func61, Try.ntmps61
  go_wp2_with fail
  refine bodyPost_ret (res_cell0 rfl rfl (load24 rfl (World.alloc_heap_new _ _))) rfl ?_
  exact ⟨rfl, Fut.alloc _ _⟩
set_option maxRecDepth 100000 in
theorem q63_any (w : World) : Calls Try.prog 63 #[] w fun e w' => ∃ l lc, e = .returned (parV 3 3 l 1 lc) ∧ 1 ≤ lc ∧ IntsAt w' l [4] ∧ Fut w w' := by
  go_enter Try.func63, Try.ntmps63
  go_wp2_with fail
  refine (list_id _ _).mono ?_
  rintro _ _ ⟨rfl, rfl⟩
  go_wp2_with fail
  refine bodyPost_ret (res_cell0 rfl rfl (load24 rfl (heap_new1 _ _ _))) rfl ?_
  exact ⟨_, _, rfl, Nat.le_refl _, at_new1 _ _ [4], (Fut.alloc _ _).trans (Fut.alloc _ _)⟩
set_option maxRecDepth 100000 in
theorem s64_any (w : World) : Calls Try.prog 64 #[] w fun e w' => ∃ l lc, e = .returned (parV 3 3 l 2 lc) ∧ 2 ≤ lc ∧ IntsAt w' l [3, 5] ∧ Fut w w' := by
  go_enter Try.func64, Try.ntmps64
  go_wp2_with fail
  refine (list_id _ _).mono ?_
  rintro _ _ ⟨rfl, rfl⟩
  go_wp2_with fail
  refine bodyPost_ret (res_cell0 rfl rfl (load24 rfl (heap_new1 _ _ _))) rfl ?_
  exact ⟨_, _, rfl, Nat.le_refl _, at_new1 _ _ [3, 5], (Fut.alloc _ _).trans (Fut.alloc _ _)⟩
set_option maxRecDepth 100000 in
theorem x62_any (w : World) : Calls Try.prog 62 #[] w fun e w' => ∃ l lc l2 lc2, e = .returned (plaV l 2 lc l2 2 lc2) ∧ 2 ≤ lc ∧ 2 ≤ lc2 ∧ IntsAt w' l [1, 3] ∧ IntsAt w' l2 [5, 7] ∧ Fut w w' := by
  go_enter Try.func62, Try.ntmps62
  go_wp2_with fail
  refine (list_id _ _).mono ?_
  rintro _ _ ⟨rfl, rfl⟩
  go_wp2_with fail
  refine (list_id _ _).mono ?_
  rintro _ _ ⟨rfl, rfl⟩
  go_wp2_with fail
  refine bodyPost_ret (res_cell0 rfl rfl (load26 rfl (heap_new2 _ _ _ _))) rfl ?_
  exact ⟨_, _, _, _, rfl, Nat.le_refl _, Nat.le_refl _, (at_new1 _ _ [1, 3]).fut (Fut.alloc _ _), at_new2 _ _ _ [5, 7], ((Fut.alloc _ _).trans (Fut.alloc _ _)).trans (Fut.alloc _ _)⟩
set_option maxRecDepth 100000 in
theorem z65_any (w : World) : Calls Try.prog 65 #[] w fun e w' => ∃ l lc l2 lc2, e = .returned (plaV l 2 lc l2 2 lc2) ∧ 2 ≤ lc ∧ 2 ≤ lc2 ∧ IntsAt w' l [0, 1] ∧ IntsAt w' l2 [7, 8] ∧ Fut w w' := by
  go_enter Try.func65, Try.ntmps65
  go_wp2_with fail
  refine (list_id _ _).mono ?_
  rintro _ _ ⟨rfl, rfl⟩
  go_wp2_with fail
  refine (list_id _ _).mono ?_
  rintro _ _ ⟨rfl, rfl⟩
  go_wp2_with fail
  refine bodyPost_ret (res_cell0 rfl rfl (load26 rfl (heap_new2 _ _ _ _))) rfl ?_
  exact ⟨_, _, _, _, rfl, Nat.le_refl _, Nat.le_refl _, (at_new1 _ _ [0, 1]).fut (Fut.alloc _ _), at_new2 _ _ _ [7, 8], ((Fut.alloc _ _).trans (Fut.alloc _ _)).trans (Fut.alloc _ _)⟩
set_option maxRecDepth 100000 in
theorem y67_any (w : World) : Calls Try.prog 67 #[] w fun e w' => ∃ l lc l2 lc2, e = .returned (plaV l 2 lc l2 2 lc2) ∧ 2 ≤ lc ∧ 2 ≤ lc2 ∧ IntsAt w' l [1, 3] ∧ IntsAt w' l2 [7, 5] ∧ Fut w w' := by
  go_enter Try.func67, Try.ntmps67
  go_wp2_with fail
  refine (list_id _ _).mono ?_
  rintro _ _ ⟨rfl, rfl⟩
  go_wp2_with fail
  refine (list_id _ _).mono ?_
  rintro _ _ ⟨rfl, rfl⟩
  go_wp2_with fail
  refine bodyPost_ret (res_cell0 rfl rfl (load26 rfl (heap_new2 _ _ _ _))) rfl ?_
  exact ⟨_, _, _, _, rfl, Nat.le_refl _, Nat.le_refl _, (at_new1 _ _ [1, 3]).fut (Fut.alloc _ _), at_new2 _ _ _ [7, 5], ((Fut.alloc _ _).trans (Fut.alloc _ _)).trans (Fut.alloc _ _)⟩
end Go.Proofs.Ytflllkamdihfaaa
