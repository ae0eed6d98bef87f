/- what the law Known answers. -/
import Derived.Test.YtpgifeaejjjjnaaCM
import Derived.Test.YtpgifeaejjjjnaaSD
namespace Go.Proofs.Ytpgifeaejjjjnaa
open Go.RowKit Go.Sort
theorem lst_nil (w : World) (a : Option Addr) : LstC w a [] := fun j hj => absurd hj (by simp)
theorem made4 (w : World) : LstC (w.alloc (.cells (madeCells #[Value.slice none 0 0] 4) 28)) (some ⟨w.heap.size, 0, none⟩) [[], [], [], []] := fun j hj => by
  have h := World.alloc_heap_new w (.cells (madeCells #[Value.slice none 0 0] 4) 28)
  have e : lth [[], [], [], []] j = [] := by
    match j with
    | 0 => rfl
    | 1 => rfl
    | 2 => rfl
    | 3 => rfl
    | j + 4 => rfl
  rw [e]
  refine ⟨w.heap.size, 0, none, 0, rfl, by simp, ?_, Nat.le_refl _, by omega, nil_ints _ _⟩
  unfold World.cell?
  rw [h]
  simp at hj
  show (madeCells #[Value.slice none 0 0] 4)[0 + j]? = _
  simp [madeCells, hj, Nat.mod_one]
theorem ex_R2 : gridL 2 2 (rndF 2) = [[0, 1], [1, 0]] := by decide
theorem ex_round2 (w : World) : Calls Try.prog 32 #[.int .i64 2] w fun e w' => ∃ l lc, e = .returned (.tuple #[.slice l 2 lc, .int .i64 0]) ∧ LstC w' l [[0, 1], [1, 0]] ∧ Fut w w' :=
  ex_L ((round_any 2 (by omega) (by omega) w).mono fun _ _ ⟨_, e, hO, F⟩ => by subst e; exact hO.tup (by omega) F 0) 2 0 [[0, 1], [1, 0]] rfl rfl ex_R2
set_option maxRecDepth 100000 in
set_option maxHeartbeats 8000000 in
theorem known_any (w : World) : Calls Try.prog 14 #[] w fun e w' => e = .returned (.bool true) ∧ Fut w w' := by
  have F0 : Fut w w := Fut.rfl
  go_enter Try.func14, Try.ntmps14
  go_wp2_with fail
  refine (lawA _).mono ?_
  rintro _ wx1 ⟨p, rfl, hp, F⟩
  replace F0 := F0.trans F
  clear F
  go_wp2_with fail
  refine (ex_N (count26_any 3 _ _ [[0, 1, 2]] _ hp (by decide) (by decide)) 0 2 ex_opnA ex_cntA).mono ?_
  rintro _ wx2 ⟨rfl, F⟩
  replace hp := hp.fut F
  replace F0 := F0.trans F
  clear F
  clear hp
  go_wp2_with fail
  refine (ex_N (count26_any 4 none 0 [] _ (lst_nil _ _) (by decide) (by decide)) 0 24 ex_cnt0.1 ex_cnt0.2).mono ?_
  rintro _ wx3 ⟨rfl, F⟩
  replace F0 := F0.trans F
  clear F
  go_wp2_with fail
  refine (ex_R 4 (by omega) (by omega) R4 ex_R4 _).mono ?_
  rintro _ wx4 ⟨b1, o1, c1, rfl, hc1, hm1, hp, F⟩
  replace F0 := F0.trans F
  clear F
  have hcx : (1 : Int) ≤ c1 := by omega
  go_wp2_with fail
  refine (ex_N (count26_any 4 _ _ [[0, 1, 2, 3]] _ (hp.take 1) (by show 1 ≤ _; omega) hm1) 0 9 ex_cnt1.1 ex_cnt1.2).mono ?_
  rintro _ wx5 ⟨rfl, F⟩
  replace hp := hp.fut F
  replace F0 := F0.trans F
  clear F
  clear hcx hc1 hm1
  clear hp
  go_wp2_with fail
  refine (ex_R 4 (by omega) (by omega) R4 ex_R4 _).mono ?_
  rintro _ wx6 ⟨b1, o1, c1, rfl, hc1, hm1, hp, F⟩
  replace F0 := F0.trans F
  clear F
  go_wp2_with fail
  refine (ex_N (count26_any 4 _ _ R4 _ hp hc1 hm1) 16 _ ex_opn4R rfl).mono ?_
  rintro _ wx7 ⟨rfl, F⟩
  replace hp := hp.fut F
  replace F0 := F0.trans F
  clear F
  clear hc1 hm1
  clear hp
  go_wp2_with fail
  refine (ex_round2 _).mono ?_
  rintro _ wx8 ⟨lo, co, rfl, ho, F⟩
  replace F0 := F0.trans F
  clear F
  go_wp2_with fail
  refine (ex_L (fillC_any 2 none 0 [] _ (lst_nil _ _) (by decide) (by decide)) 2 0 [[0, 1], [1, 0]] rfl ex_fil2.1 (ex_fil2.2.trans ex_R2)).mono ?_
  rintro _ wx9 ⟨ln, cn, rfl, hn, F⟩
  replace ho := ho.fut F
  replace F0 := F0.trans F
  clear F
  go_wp2_with fail
  refine (ex_R 5 (by omega) (by omega) R5 ex_R5 _).mono ?_
  rintro _ wx10 ⟨b1, o1, c1, rfl, hc1, hm1, hp, F⟩
  replace ho := ho.fut F
  replace hn := hn.fut F
  replace F0 := F0.trans F
  clear F
  go_wp2_with fail
  refine (ex_N (crosses_any 5 _ _ R5 _ hp hc1 hm1) 0 15 ex_crs5.1 ex_crs5.2).mono ?_
  rintro _ wx11 ⟨rfl, F⟩
  replace ho := ho.fut F
  replace hn := hn.fut F
  replace hp := hp.fut F
  replace F0 := F0.trans F
  clear F
  clear hc1 hm1
  clear hp
  go_wp2_with fail
  refine (ex_R 4 (by omega) (by omega) R4 ex_R4 _).mono ?_
  rintro _ wx12 ⟨b1, o1, c1, rfl, hc1, hm1, hp, F⟩
  replace ho := ho.fut F
  replace hn := hn.fut F
  replace F0 := F0.trans F
  clear F
  go_wp2_with fail
  refine (ex_N (crosses_any 4 _ _ R4 _ hp hc1 hm1) 0 0 ex_ful4R ex_crs4).mono ?_
  rintro _ wx13 ⟨rfl, F⟩
  replace ho := ho.fut F
  replace hn := hn.fut F
  replace hp := hp.fut F
  replace F0 := F0.trans F
  clear F
  clear hc1 hm1
  clear hp
  go_wp2_with fail
  have hp := built2 wx13 [0, 1] [1, 0] (by decide) (by decide)
  have FB : Fut wx13 (((wx13.alloc (.cells #[.int .i64 0, .int .i64 1] 3)).alloc (.cells #[.int .i64 1, .int .i64 0] 3)).alloc (.cells #[.slice (some ⟨wx13.heap.size, 0, none⟩) 2 2, .slice (some ⟨wx13.heap.size + 1, 0, none⟩) 2 2] 28)) := ((Fut.alloc _ _).trans (Fut.alloc _ _)).trans (Fut.alloc _ _)
  replace ho := ho.fut FB
  replace hn := hn.fut FB
  replace F0 := F0.trans FB
  clear FB
  refine (ex_lists [[0, 1], [1, 0]] [[0, 1], [1, 0]] rfl rfl _ ho hp ⟨by decide, by decide, by decide, by decide⟩ true (by decide)).mono ?_
  rintro _ wx14 ⟨rfl, F⟩
  replace ho := ho.fut F
  replace hn := hn.fut F
  replace hp := hp.fut F
  replace F0 := F0.trans F
  clear F
  clear hp
  go_wp2_with fail
  refine (ex_lists [[0, 1], [1, 0]] [[0, 1], [1, 0]] rfl rfl _ hn ho ⟨by decide, by decide, by decide, by decide⟩ true (by decide)).mono ?_
  rintro _ wx15 ⟨rfl, F⟩
  replace ho := ho.fut F
  replace hn := hn.fut F
  replace F0 := F0.trans F
  clear F
  clear hn
  clear ho
  go_wp2_with fail
  refine (lawB _).mono ?_
  rintro _ wx16 ⟨p, rfl, hp, F⟩
  replace F0 := F0.trans F
  clear F
  go_wp2_with fail
  refine (ex_e (proves_any 3 _ _ [[0, 1], [1, 0]] 3 _ hp (by decide) (by decide)) 2 ex_prv3).mono ?_
  rintro _ wx17 ⟨rfl, F⟩
  replace hp := hp.fut F
  replace F0 := F0.trans F
  clear F
  clear hp
  go_wp2_with fail
  have hp := built1 wx17 [0, 1] (by decide)
  have FB : Fut wx17 ((wx17.alloc (.cells #[.int .i64 0, .int .i64 1] 3)).alloc (.cells #[.slice (some ⟨wx17.heap.size, 0, none⟩) 2 2] 28)) := (Fut.alloc _ _).trans (Fut.alloc _ _)
  replace F0 := F0.trans FB
  clear FB
  refine (ex_e (check_any 3 _ _ [[0, 1]] _ hp (by decide) (by decide)) 5 ex_chk1).mono ?_
  rintro _ wx18 ⟨rfl, F⟩
  replace hp := hp.fut F
  replace F0 := F0.trans F
  clear F
  clear hp
  go_wp2_with fail
  have hp := built1 wx18 [0, 1, 3] (by decide)
  have FB : Fut wx18 ((wx18.alloc (.cells #[.int .i64 0, .int .i64 1, .int .i64 3] 3)).alloc (.cells #[.slice (some ⟨wx18.heap.size, 0, none⟩) 3 3] 28)) := (Fut.alloc _ _).trans (Fut.alloc _ _)
  replace F0 := F0.trans FB
  clear FB
  refine (ex_e (check_any 3 _ _ [[0, 1, 3]] _ hp (by decide) (by decide)) 2 ex_chk2).mono ?_
  rintro _ wx19 ⟨rfl, F⟩
  replace hp := hp.fut F
  replace F0 := F0.trans F
  clear F
  clear hp
  go_wp2_with fail
  have hp := built1 wx19 [0, 1, 1] (by decide)
  have FB : Fut wx19 ((wx19.alloc (.cells #[.int .i64 0, .int .i64 1, .int .i64 1] 3)).alloc (.cells #[.slice (some ⟨wx19.heap.size, 0, none⟩) 3 3] 28)) := (Fut.alloc _ _).trans (Fut.alloc _ _)
  replace F0 := F0.trans FB
  clear FB
  refine (ex_e (check_any 3 _ _ [[0, 1, 1]] _ hp (by decide) (by decide)) 6 ex_chk3).mono ?_
  rintro _ wx20 ⟨rfl, F⟩
  replace hp := hp.fut F
  replace F0 := F0.trans F
  clear F
  clear hp
  go_wp2_with fail
  have hp := built2 wx20 [0, 1, 2] [0, 2, 1] (by decide) (by decide)
  have FB : Fut wx20 (((wx20.alloc (.cells #[.int .i64 0, .int .i64 1, .int .i64 2] 3)).alloc (.cells #[.int .i64 0, .int .i64 2, .int .i64 1] 3)).alloc (.cells #[.slice (some ⟨wx20.heap.size, 0, none⟩) 3 3, .slice (some ⟨wx20.heap.size + 1, 0, none⟩) 3 3] 28)) := ((Fut.alloc _ _).trans (Fut.alloc _ _)).trans (Fut.alloc _ _)
  replace F0 := F0.trans FB
  clear FB
  refine (ex_e (check_any 3 _ _ [[0, 1, 2], [0, 2, 1]] _ hp (by decide) (by decide)) 13 ex_chk4).mono ?_
  rintro _ wx21 ⟨rfl, F⟩
  replace hp := hp.fut F
  replace F0 := F0.trans F
  clear F
  clear hp
  have hmk : ∀ W : World, (Instr.makeSlice 22 (.int .i64 4) (.int .i64 4)).run Try.prog W = .ok (.slice (some ⟨W.heap.size, 0, none⟩) 4 4) (W.alloc (.cells (madeCells #[.slice none 0 0] 4) 28)) := mk_rows 4 (by omega)
  go_wp2_with fail
  clear hmk
  have hp := made4 wx21
  have FB : Fut wx21 (wx21.alloc (.cells (madeCells #[.slice none 0 0] 4) 28)) := Fut.alloc _ _
  replace F0 := F0.trans FB
  clear FB
  refine (ex_e (check_any 3 _ 4 [[], [], [], []] _ hp (by decide) (by decide)) 3 ex_chk5).mono ?_
  rintro _ wx22 ⟨rfl, F⟩
  replace hp := hp.fut F
  replace F0 := F0.trans F
  clear F
  clear hp
  go_wp2_with fail
  have hp := built2 wx22 [0, 1] [1] (by decide) (by decide)
  have FB : Fut wx22 (((wx22.alloc (.cells #[.int .i64 0, .int .i64 1] 3)).alloc (.cells #[.int .i64 1] 3)).alloc (.cells #[.slice (some ⟨wx22.heap.size, 0, none⟩) 2 2, .slice (some ⟨wx22.heap.size + 1, 0, none⟩) 1 1] 28)) := ((Fut.alloc _ _).trans (Fut.alloc _ _)).trans (Fut.alloc _ _)
  replace F0 := F0.trans FB
  clear FB
  refine (ex_e (corner_any 3 _ _ [[0, 1], [1]] _ hp (by decide) (by decide)) 5 ex_cor1).mono ?_
  rintro _ wx23 ⟨rfl, F⟩
  replace hp := hp.fut F
  replace F0 := F0.trans F
  clear F
  clear hp
  go_wp2_with fail
  have hp := built1 wx23 [0, 0] (by decide)
  have FB : Fut wx23 ((wx23.alloc (.cells #[.int .i64 0, .int .i64 0] 3)).alloc (.cells #[.slice (some ⟨wx23.heap.size, 0, none⟩) 2 2] 28)) := (Fut.alloc _ _).trans (Fut.alloc _ _)
  replace F0 := F0.trans FB
  clear FB
  refine (ex_e (corner_any 3 _ _ [[0, 0]] _ hp (by decide) (by decide)) 6 ex_cor2).mono ?_
  rintro _ wx24 ⟨rfl, F⟩
  replace hp := hp.fut F
  replace F0 := F0.trans F
  clear F
  clear hp
  go_wp2_with fail
  have hp := built2 wx24 [0] [0] (by decide) (by decide)
  have FB : Fut wx24 (((wx24.alloc (.cells #[.int .i64 0] 3)).alloc (.cells #[.int .i64 0] 3)).alloc (.cells #[.slice (some ⟨wx24.heap.size, 0, none⟩) 1 1, .slice (some ⟨wx24.heap.size + 1, 0, none⟩) 1 1] 28)) := ((Fut.alloc _ _).trans (Fut.alloc _ _)).trans (Fut.alloc _ _)
  replace F0 := F0.trans FB
  clear FB
  refine (ex_e (corner_any 3 _ _ [[0], [0]] _ hp (by decide) (by decide)) 13 ex_cor3).mono ?_
  rintro _ wx25 ⟨rfl, F⟩
  replace hp := hp.fut F
  replace F0 := F0.trans F
  clear F
  clear hp
  go_wp2_with fail
  refine (ex_e (corner_any 6 none 0 [] _ (lst_nil _ _) (by decide) (by decide)) 1 ex_cor4).mono ?_
  rintro _ wx26 ⟨rfl, F⟩
  replace F0 := F0.trans F
  clear F
  go_wp2_with fail
  refine (works_any _).mono ?_
  rintro _ wx27 ⟨rfl, F⟩
  replace F0 := F0.trans F
  clear F
  go_wp2
  go_ret
  exact ⟨rfl, F0⟩
end Go.Proofs.Ytpgifeaejjjjnaa
