/- LaneKnown: known_any -/
import Derived.Test.YtflllkamdihfaaaLBJ
namespace Go.Proofs.Ytflllkamdihfaaa
open Go.RowKit Go.Sort
set_option maxRecDepth 100000 in
set_option maxHeartbeats 16000000 in
theorem known_any (w : World) : Calls Try.prog 13 #[] w fun e w' => e = .returned (.bool true) ∧ Fut w w' := by
  have F0 : Fut w w := Fut.rfl
  go_enter Try.func13, Try.ntmps13
  go_wp2_with fail
  refine (p61_any _).mono ?_
  rintro _ wx1 ⟨rfl, F⟩
  replace F0 := F0.trans F
  clear F
  go_wp2_with fail
  refine (x62_any _).mono ?_
  rintro _ wx2 ⟨ay5, cy6, at7, ct8, rfl, gy3, gt4, hy1, ht2, F⟩
  replace F0 := F0.trans F
  clear F
  go_wp2_with fail
  refine (ex_N (ways_any 3 3 _ _ [] _ _ [1, 3] _ _ [5, 7] 1 5 _ (in_pq (nil_ints _ _) hy1 ht2 (by decide) gy3 gt4)) 2 0 (by rw [v_way2.1]; rfl) v_way2.2).mono ?_
  rintro _ wx3 ⟨rfl, F⟩
  replace hy1 := hy1.fut F
  replace ht2 := ht2.fut F
  replace F0 := F0.trans F
  clear F
  clear hy1
  clear ht2
  go_wp2_with fail
  refine (p61_any _).mono ?_
  rintro _ wx4 ⟨rfl, F⟩
  replace F0 := F0.trans F
  clear F
  go_wp2_with fail
  refine (x62_any _).mono ?_
  rintro _ wx5 ⟨ay13, cy14, at15, ct16, rfl, gy11, gt12, hy9, ht10, F⟩
  replace F0 := F0.trans F
  clear F
  go_wp2_with fail
  refine (ex_N (ways_any 3 3 _ _ [] _ _ [1, 3] _ _ [5, 7] 8 0 _ (in_pq (nil_ints _ _) hy9 ht10 (by decide) gy11 gt12)) 0 0 (by rw [v_way3.1]; rfl) v_way3.2).mono ?_
  rintro _ wx6 ⟨rfl, F⟩
  replace hy9 := hy9.fut F
  replace ht10 := ht10.fut F
  replace F0 := F0.trans F
  clear F
  clear hy9
  clear ht10
  go_wp2_with fail
  refine (p61_any _).mono ?_
  rintro _ wx7 ⟨rfl, F⟩
  replace F0 := F0.trans F
  clear F
  go_wp2_with fail
  refine (x62_any _).mono ?_
  rintro _ wx8 ⟨ay21, cy22, at23, ct24, rfl, gy19, gt20, hy17, ht18, F⟩
  replace F0 := F0.trans F
  clear F
  go_wp2_with fail
  refine (ex_N (ways_any 3 3 _ _ [] _ _ [1, 3] _ _ [5, 7] 4 4 _ (in_pq (nil_ints _ _) hy17 ht18 (by decide) gy19 gt20)) 1 0 (by rw [v_way4.1]; rfl) v_way4.2).mono ?_
  rintro _ wx9 ⟨rfl, F⟩
  replace hy17 := hy17.fut F
  replace ht18 := ht18.fut F
  replace F0 := F0.trans F
  clear F
  clear hy17
  clear ht18
  go_wp2_with fail
  refine (p61_any _).mono ?_
  rintro _ wx10 ⟨rfl, F⟩
  replace F0 := F0.trans F
  clear F
  go_wp2_with fail
  refine (x62_any _).mono ?_
  rintro _ wx11 ⟨ay29, cy30, at31, ct32, rfl, gy27, gt28, hy25, ht26, F⟩
  replace F0 := F0.trans F
  clear F
  go_wp2_with fail
  refine (ex_N (ways_any 3 3 _ _ [] _ _ [1, 3] _ _ [5, 7] 0 9 _ (in_pq (nil_ints _ _) hy25 ht26 (by decide) gy27 gt28)) 0 2 (by rw [v_way5.1]; rfl) v_way5.2).mono ?_
  rintro _ wx12 ⟨rfl, F⟩
  replace hy25 := hy25.fut F
  replace ht26 := ht26.fut F
  replace F0 := F0.trans F
  clear F
  clear hy25
  clear ht26
  go_wp2_with fail
  refine (q63_any _).mono ?_
  rintro _ wx13 ⟨as34, cs35, rfl, gs36, hs33, F⟩
  replace F0 := F0.trans F
  clear F
  go_wp2_with fail
  refine (x62_any _).mono ?_
  rintro _ wx14 ⟨ay41, cy42, at43, ct44, rfl, gy39, gt40, hy37, ht38, F⟩
  replace hs33 := hs33.fut F
  replace F0 := F0.trans F
  clear F
  go_wp2_with fail
  refine (ex_L (table_any 3 3 _ _ [4] _ _ [1, 3] _ _ [5, 7] _ (in_pq hs33 hy37 ht38 (by decide) gy39 gt40)) 2 0 [[1, 0], [0, 1]] rfl v_tab2.1 v_tab2.2).mono ?_
  rintro _ wx15 ⟨lT46, cT47, rfl, hT45, F⟩
  replace hs33 := hs33.fut F
  replace hy37 := hy37.fut F
  replace ht38 := ht38.fut F
  replace F0 := F0.trans F
  clear F
  clear hs33
  clear hy37
  clear ht38
  go_wp2_with fail
  refine (s64_any _).mono ?_
  rintro _ wx16 ⟨as49, cs50, rfl, gs51, hs48, F⟩
  replace hT45 := hT45.fut F
  replace F0 := F0.trans F
  clear F
  go_wp2_with fail
  refine (z65_any _).mono ?_
  rintro _ wx17 ⟨ay56, cy57, at58, ct59, rfl, gy54, gt55, hy52, ht53, F⟩
  replace hT45 := hT45.fut F
  replace hs48 := hs48.fut F
  replace F0 := F0.trans F
  clear F
  go_wp2_with fail
  refine (ex_L (table_any 3 3 _ _ [3, 5] _ _ [0, 1] _ _ [7, 8] _ (in_pq hs48 hy52 ht53 (by decide) gy54 gt55)) 2 0 [[1, 1], [1, 1]] rfl v_tab3.1 v_tab3.2).mono ?_
  rintro _ wx18 ⟨lT61, cT62, rfl, hT60, F⟩
  replace hT45 := hT45.fut F
  replace hs48 := hs48.fut F
  replace hy52 := hy52.fut F
  replace ht53 := ht53.fut F
  replace F0 := F0.trans F
  clear F
  clear hs48
  clear hy52
  clear ht53
  go_wp2_with fail
  have hl63 := ints_new wx18 [1, 0]
  have FB : Fut wx18 (wx18.alloc (.cells #[.int .i64 1, .int .i64 0] 3)) := Fut.alloc _ _
  replace hT45 := hT45.fut FB
  replace hT60 := hT60.fut FB
  replace F0 := F0.trans FB
  clear FB
  refine (ex_id _ _).mono ?_
  rintro _ wx19 ⟨rfl, F⟩
  replace hT45 := hT45.fut F
  replace hT60 := hT60.fut F
  replace hl63 := hl63.fut F
  replace F0 := F0.trans F
  clear F
  go_wp2_with fail
  have hl64 := ints_new wx19 [0, 1]
  have FB : Fut wx19 (wx19.alloc (.cells #[.int .i64 0, .int .i64 1] 3)) := Fut.alloc _ _
  replace hT45 := hT45.fut FB
  replace hT60 := hT60.fut FB
  replace hl63 := hl63.fut FB
  replace F0 := F0.trans FB
  clear FB
  refine (ex_id _ _).mono ?_
  rintro _ wx20 ⟨rfl, F⟩
  replace hT45 := hT45.fut F
  replace hT60 := hT60.fut F
  replace hl63 := hl63.fut F
  replace hl64 := hl64.fut F
  replace F0 := F0.trans F
  clear F
  go_wp2_with fail
  have hf65 := pair_new hl63 hl64 (lc := 2) (kc := 2) (by decide) (by decide)
  have FB : Fut wx20 (wx20.alloc (.cells #[.slice (some ⟨wx18.heap.size, 0, none⟩) 2 2, .slice (some ⟨wx19.heap.size, 0, none⟩) 2 2] 22)) := Fut.alloc _ _
  clear hl63
  clear hl64
  replace hT45 := hT45.fut FB
  replace hT60 := hT60.fut FB
  replace F0 := F0.trans FB
  clear FB
  refine (ex_ids _ _).mono ?_
  rintro _ wx21 ⟨rfl, F⟩
  replace hT45 := hT45.fut F
  replace hT60 := hT60.fut F
  replace hf65 := hf65.fut F
  replace F0 := F0.trans F
  clear F
  go_wp2_with fail
  refine (ex_lists [[1, 0], [0, 1]] [[1, 0], [0, 1]] rfl rfl _ hT45 hf65 ⟨by decide, by decide, small_lists (by decide), small_lists (by decide)⟩ true (by decide)).mono ?_
  rintro _ wx22 ⟨rfl, F⟩
  replace hT45 := hT45.fut F
  replace hT60 := hT60.fut F
  replace hf65 := hf65.fut F
  replace F0 := F0.trans F
  clear F
  clear hf65
  clear hT45
  go_wp2_with fail
  have hl66 := ints_new wx22 [1, 1]
  have FB : Fut wx22 (wx22.alloc (.cells #[.int .i64 1, .int .i64 1] 3)) := Fut.alloc _ _
  replace hT60 := hT60.fut FB
  replace F0 := F0.trans FB
  clear FB
  refine (ex_id _ _).mono ?_
  rintro _ wx23 ⟨rfl, F⟩
  replace hT60 := hT60.fut F
  replace hl66 := hl66.fut F
  replace F0 := F0.trans F
  clear F
  go_wp2_with fail
  have hl67 := ints_new wx23 [1, 1]
  have FB : Fut wx23 (wx23.alloc (.cells #[.int .i64 1, .int .i64 1] 3)) := Fut.alloc _ _
  replace hT60 := hT60.fut FB
  replace hl66 := hl66.fut FB
  replace F0 := F0.trans FB
  clear FB
  refine (ex_id _ _).mono ?_
  rintro _ wx24 ⟨rfl, F⟩
  replace hT60 := hT60.fut F
  replace hl66 := hl66.fut F
  replace hl67 := hl67.fut F
  replace F0 := F0.trans F
  clear F
  go_wp2_with fail
  have hf68 := pair_new hl66 hl67 (lc := 2) (kc := 2) (by decide) (by decide)
  have FB : Fut wx24 (wx24.alloc (.cells #[.slice (some ⟨wx22.heap.size, 0, none⟩) 2 2, .slice (some ⟨wx23.heap.size, 0, none⟩) 2 2] 22)) := Fut.alloc _ _
  clear hl66
  clear hl67
  replace hT60 := hT60.fut FB
  replace F0 := F0.trans FB
  clear FB
  refine (ex_ids _ _).mono ?_
  rintro _ wx25 ⟨rfl, F⟩
  replace hT60 := hT60.fut F
  replace hf68 := hf68.fut F
  replace F0 := F0.trans F
  clear F
  go_wp2_with fail
  refine (ex_lists [[1, 1], [1, 1]] [[1, 1], [1, 1]] rfl rfl _ hT60 hf68 ⟨by decide, by decide, small_lists (by decide), small_lists (by decide)⟩ true (by decide)).mono ?_
  rintro _ wx26 ⟨rfl, F⟩
  replace hT60 := hT60.fut F
  replace hf68 := hf68.fut F
  replace F0 := F0.trans F
  clear F
  clear hf68
  clear hT60
  go_wp2_with fail
  refine (p61_any _).mono ?_
  rintro _ wx27 ⟨rfl, F⟩
  replace F0 := F0.trans F
  clear F
  go_wp2_with fail
  refine (x62_any _).mono ?_
  rintro _ wx28 ⟨ay73, cy74, at75, ct76, rfl, gy71, gt72, hy69, ht70, F⟩
  replace F0 := F0.trans F
  clear F
  go_wp2_with fail
  refine (ex_N (signed_any 3 3 _ _ [] _ _ [1, 3] _ _ [5, 7] _ (in_pq (nil_ints _ _) hy69 ht70 (by decide) gy71 gt72)) (3) 0 v_sgn2 v_tab1.1).mono ?_
  rintro _ wx29 ⟨rfl, F⟩
  replace hy69 := hy69.fut F
  replace ht70 := ht70.fut F
  replace F0 := F0.trans F
  clear F
  clear hy69
  clear ht70
  go_wp2_with fail
  refine (s64_any _).mono ?_
  rintro _ wx30 ⟨as78, cs79, rfl, gs80, hs77, F⟩
  replace F0 := F0.trans F
  clear F
  go_wp2_with fail
  refine (z65_any _).mono ?_
  rintro _ wx31 ⟨ay85, cy86, at87, ct88, rfl, gy83, gt84, hy81, ht82, F⟩
  replace hs77 := hs77.fut F
  replace F0 := F0.trans F
  clear F
  go_wp2_with fail
  refine (ex_N (signed_any 3 3 _ _ [3, 5] _ _ [0, 1] _ _ [7, 8] _ (in_pq hs77 hy81 ht82 (by decide) gy83 gt84)) (0) 0 v_sgn3 v_tab3.1).mono ?_
  rintro _ wx32 ⟨rfl, F⟩
  replace hs77 := hs77.fut F
  replace hy81 := hy81.fut F
  replace ht82 := ht82.fut F
  replace F0 := F0.trans F
  clear F
  clear hs77
  clear hy81
  clear ht82
  go_wp2_with fail
  refine (p61_any _).mono ?_
  rintro _ wx33 ⟨rfl, F⟩
  replace F0 := F0.trans F
  clear F
  go_wp2_with fail
  refine (x62_any _).mono ?_
  rintro _ wx34 ⟨ay93, cy94, at95, ct96, rfl, gy91, gt92, hy89, ht90, F⟩
  replace F0 := F0.trans F
  clear F
  go_wp2_with fail
  refine (ex_N (fcount_any 3 3 _ _ [] _ _ [1, 3] _ _ [5, 7] _ (in_pq (nil_ints _ _) hy89 ht90 (by decide) gy91 gt92)) 3 0 (by rw [v_cnt2]; rfl) v_tab1.1).mono ?_
  rintro _ wx35 ⟨rfl, F⟩
  replace hy89 := hy89.fut F
  replace ht90 := ht90.fut F
  replace F0 := F0.trans F
  clear F
  clear hy89
  clear ht90
  go_wp2_with fail
  refine (q63_any _).mono ?_
  rintro _ wx36 ⟨as98, cs99, rfl, gs100, hs97, F⟩
  replace F0 := F0.trans F
  clear F
  go_wp2_with fail
  refine (x62_any _).mono ?_
  rintro _ wx37 ⟨ay105, cy106, at107, ct108, rfl, gy103, gt104, hy101, ht102, F⟩
  replace hs97 := hs97.fut F
  replace F0 := F0.trans F
  clear F
  go_wp2_with fail
  refine (ex_N (fcount_any 3 3 _ _ [4] _ _ [1, 3] _ _ [5, 7] _ (in_pq hs97 hy101 ht102 (by decide) gy103 gt104)) 1 0 (by rw [v_cnt3]; rfl) v_tab2.1).mono ?_
  rintro _ wx38 ⟨rfl, F⟩
  replace hs97 := hs97.fut F
  replace hy101 := hy101.fut F
  replace ht102 := ht102.fut F
  replace F0 := F0.trans F
  clear F
  clear hs97
  clear hy101
  clear ht102
  go_wp2_with fail
  refine (s64_any _).mono ?_
  rintro _ wx39 ⟨as110, cs111, rfl, gs112, hs109, F⟩
  replace F0 := F0.trans F
  clear F
  go_wp2_with fail
  refine (z65_any _).mono ?_
  rintro _ wx40 ⟨ay117, cy118, at119, ct120, rfl, gy115, gt116, hy113, ht114, F⟩
  replace hs109 := hs109.fut F
  replace F0 := F0.trans F
  clear F
  go_wp2_with fail
  refine (ex_N (fcount_any 3 3 _ _ [3, 5] _ _ [0, 1] _ _ [7, 8] _ (in_pq hs109 hy113 ht114 (by decide) gy115 gt116)) 0 0 (by rw [v_cnt4]; rfl) v_tab3.1).mono ?_
  rintro _ wx41 ⟨rfl, F⟩
  replace hs109 := hs109.fut F
  replace hy113 := hy113.fut F
  replace ht114 := ht114.fut F
  replace F0 := F0.trans F
  clear F
  clear hs109
  clear hy113
  clear ht114
  go_wp2_with fail
  refine (q63_any _).mono ?_
  rintro _ wx42 ⟨as122, cs123, rfl, gs124, hs121, F⟩
  replace F0 := F0.trans F
  clear F
  go_wp2_with fail
  refine (x62_any _).mono ?_
  rintro _ wx43 ⟨ay129, cy130, at131, ct132, rfl, gy127, gt128, hy125, ht126, F⟩
  replace hs121 := hs121.fut F
  replace F0 := F0.trans F
  clear F
  go_wp2_with fail
  refine (ex_L (first_any 3 3 _ _ [4] _ _ [1, 3] _ _ [5, 7] _ (in_pq hs121 hy125 ht126 (by decide) gy127 gt128)) 2 0 [[1, 2, 5], [3, 6, 7]] rfl v_fst3.1 v_fst3.2).mono ?_
  rintro _ wx44 ⟨lT134, cT135, rfl, hT133, F⟩
  replace hs121 := hs121.fut F
  replace hy125 := hy125.fut F
  replace ht126 := ht126.fut F
  replace F0 := F0.trans F
  clear F
  clear hs121
  clear hy125
  clear ht126
  go_wp2_with fail
  refine (p61_any _).mono ?_
  rintro _ wx45 ⟨rfl, F⟩
  replace hT133 := hT133.fut F
  replace F0 := F0.trans F
  clear F
  go_wp2_with fail
  refine (x62_any _).mono ?_
  rintro _ wx46 ⟨ay140, cy141, at142, ct143, rfl, gy138, gt139, hy136, ht137, F⟩
  replace hT133 := hT133.fut F
  replace F0 := F0.trans F
  clear F
  go_wp2_with fail
  have hl144 := ints_new wx46 [1, 2, 5]
  have FB : Fut wx46 (wx46.alloc (.cells #[.int .i64 1, .int .i64 2, .int .i64 5] 3)) := Fut.alloc _ _
  replace hT133 := hT133.fut FB
  replace hy136 := hy136.fut FB
  replace ht137 := ht137.fut FB
  replace F0 := F0.trans FB
  clear FB
  refine (ex_id _ _).mono ?_
  rintro _ wx47 ⟨rfl, F⟩
  replace hT133 := hT133.fut F
  replace hy136 := hy136.fut F
  replace ht137 := ht137.fut F
  replace hl144 := hl144.fut F
  replace F0 := F0.trans F
  clear F
  go_wp2_with fail
  have hl145 := ints_new wx47 [3, 4, 7]
  have FB : Fut wx47 (wx47.alloc (.cells #[.int .i64 3, .int .i64 4, .int .i64 7] 3)) := Fut.alloc _ _
  replace hT133 := hT133.fut FB
  replace hy136 := hy136.fut FB
  replace ht137 := ht137.fut FB
  replace hl144 := hl144.fut FB
  replace F0 := F0.trans FB
  clear FB
  refine (ex_id _ _).mono ?_
  rintro _ wx48 ⟨rfl, F⟩
  replace hT133 := hT133.fut F
  replace hy136 := hy136.fut F
  replace ht137 := ht137.fut F
  replace hl144 := hl144.fut F
  replace hl145 := hl145.fut F
  replace F0 := F0.trans F
  clear F
  go_wp2_with fail
  have hf146 := pair_new hl144 hl145 (lc := 3) (kc := 3) (by decide) (by decide)
  have FB : Fut wx48 (wx48.alloc (.cells #[.slice (some ⟨wx46.heap.size, 0, none⟩) 3 3, .slice (some ⟨wx47.heap.size, 0, none⟩) 3 3] 22)) := Fut.alloc _ _
  clear hl144
  clear hl145
  replace hT133 := hT133.fut FB
  replace hy136 := hy136.fut FB
  replace ht137 := ht137.fut FB
  replace F0 := F0.trans FB
  clear FB
  refine (ex_ids _ _).mono ?_
  rintro _ wx49 ⟨rfl, F⟩
  replace hT133 := hT133.fut F
  replace hy136 := hy136.fut F
  replace ht137 := ht137.fut F
  replace hf146 := hf146.fut F
  replace F0 := F0.trans F
  clear F
  go_wp2_with fail
  refine (ex_L (swap_any 3 3 _ _ [] _ _ [1, 3] _ _ [5, 7] _ _ [[1, 2, 5], [3, 4, 7]] _ (in_pq (nil_ints _ _) hy136 ht137 (by decide) gy138 gt139) hf146 (by decide) (small_lists (by decide))) 0 13 [] rfl v_swp2.1 v_swp2.2).mono ?_
  rintro _ wx50 ⟨lT148, cT149, rfl, hT147, F⟩
  replace hT133 := hT133.fut F
  replace hy136 := hy136.fut F
  replace ht137 := ht137.fut F
  replace hf146 := hf146.fut F
  replace F0 := F0.trans F
  clear F
  clear hy136
  clear ht137
  clear hf146
  clear hT147
  go_wp2_with fail
  have hl150 := ints_new wx50 [1, 2, 5]
  have FB : Fut wx50 (wx50.alloc (.cells #[.int .i64 1, .int .i64 2, .int .i64 5] 3)) := Fut.alloc _ _
  replace hT133 := hT133.fut FB
  replace F0 := F0.trans FB
  clear FB
  refine (ex_id _ _).mono ?_
  rintro _ wx51 ⟨rfl, F⟩
  replace hT133 := hT133.fut F
  replace hl150 := hl150.fut F
  replace F0 := F0.trans F
  clear F
  go_wp2_with fail
  have hl151 := ints_new wx51 [3, 6, 7]
  have FB : Fut wx51 (wx51.alloc (.cells #[.int .i64 3, .int .i64 6, .int .i64 7] 3)) := Fut.alloc _ _
  replace hT133 := hT133.fut FB
  replace hl150 := hl150.fut FB
  replace F0 := F0.trans FB
  clear FB
  refine (ex_id _ _).mono ?_
  rintro _ wx52 ⟨rfl, F⟩
  replace hT133 := hT133.fut F
  replace hl150 := hl150.fut F
  replace hl151 := hl151.fut F
  replace F0 := F0.trans F
  clear F
  go_wp2_with fail
  have hf152 := pair_new hl150 hl151 (lc := 3) (kc := 3) (by decide) (by decide)
  have FB : Fut wx52 (wx52.alloc (.cells #[.slice (some ⟨wx50.heap.size, 0, none⟩) 3 3, .slice (some ⟨wx51.heap.size, 0, none⟩) 3 3] 22)) := Fut.alloc _ _
  clear hl150
  clear hl151
  replace hT133 := hT133.fut FB
  replace F0 := F0.trans FB
  clear FB
  refine (ex_ids _ _).mono ?_
  rintro _ wx53 ⟨rfl, F⟩
  replace hT133 := hT133.fut F
  replace hf152 := hf152.fut F
  replace F0 := F0.trans F
  clear F
  go_wp2_with fail
  refine (ex_lists [[1, 2, 5], [3, 6, 7]] [[1, 2, 5], [3, 6, 7]] rfl rfl _ hT133 hf152 ⟨by decide, by decide, small_lists (by decide), small_lists (by decide)⟩ true (by decide)).mono ?_
  rintro _ wx54 ⟨rfl, F⟩
  replace hT133 := hT133.fut F
  replace hf152 := hf152.fut F
  replace F0 := F0.trans F
  clear F
  clear hf152
  clear hT133
  go_wp2_with fail
  refine (p61_any _).mono ?_
  rintro _ wx55 ⟨rfl, F⟩
  replace F0 := F0.trans F
  clear F
  go_wp2_with fail
  refine (x62_any _).mono ?_
  rintro _ wx56 ⟨ay157, cy158, at159, ct160, rfl, gy155, gt156, hy153, ht154, F⟩
  replace F0 := F0.trans F
  clear F
  go_wp2_with fail
  have hl161 := ints_new wx56 [1, 2, 5]
  have FB : Fut wx56 (wx56.alloc (.cells #[.int .i64 1, .int .i64 2, .int .i64 5] 3)) := Fut.alloc _ _
  replace hy153 := hy153.fut FB
  replace ht154 := ht154.fut FB
  replace F0 := F0.trans FB
  clear FB
  refine (ex_id _ _).mono ?_
  rintro _ wx57 ⟨rfl, F⟩
  replace hy153 := hy153.fut F
  replace ht154 := ht154.fut F
  replace hl161 := hl161.fut F
  replace F0 := F0.trans F
  clear F
  go_wp2_with fail
  have hl162 := ints_new wx57 [3, 4, 5]
  have FB : Fut wx57 (wx57.alloc (.cells #[.int .i64 3, .int .i64 4, .int .i64 5] 3)) := Fut.alloc _ _
  replace hy153 := hy153.fut FB
  replace ht154 := ht154.fut FB
  replace hl161 := hl161.fut FB
  replace F0 := F0.trans FB
  clear FB
  refine (ex_id _ _).mono ?_
  rintro _ wx58 ⟨rfl, F⟩
  replace hy153 := hy153.fut F
  replace ht154 := ht154.fut F
  replace hl161 := hl161.fut F
  replace hl162 := hl162.fut F
  replace F0 := F0.trans F
  clear F
  go_wp2_with fail
  have hf163 := pair_new hl161 hl162 (lc := 3) (kc := 3) (by decide) (by decide)
  have FB : Fut wx58 (wx58.alloc (.cells #[.slice (some ⟨wx56.heap.size, 0, none⟩) 3 3, .slice (some ⟨wx57.heap.size, 0, none⟩) 3 3] 22)) := Fut.alloc _ _
  clear hl161
  clear hl162
  replace hy153 := hy153.fut FB
  replace ht154 := ht154.fut FB
  replace F0 := F0.trans FB
  clear FB
  refine (ex_ids _ _).mono ?_
  rintro _ wx59 ⟨rfl, F⟩
  replace hy153 := hy153.fut F
  replace ht154 := ht154.fut F
  replace hf163 := hf163.fut F
  replace F0 := F0.trans F
  clear F
  go_wp2_with fail
  refine (ex_e (apart_any 3 3 _ _ [] _ _ [1, 3] _ _ [5, 7] _ _ [[1, 2, 5], [3, 4, 5]] _ (in_pq (nil_ints _ _) hy153 ht154 (by decide) gy155 gt156) hf163.lst (by decide) (small_lists (by decide))) 6 v_apt2).mono ?_
  rintro _ wx60 ⟨rfl, F⟩
  replace hy153 := hy153.fut F
  replace ht154 := ht154.fut F
  replace hf163 := hf163.fut F
  replace F0 := F0.trans F
  clear F
  clear hy153
  clear ht154
  clear hf163
  go_wp2_with fail
  refine (p61_any _).mono ?_
  rintro _ wx61 ⟨rfl, F⟩
  replace F0 := F0.trans F
  clear F
  go_wp2_with fail
  refine (x62_any _).mono ?_
  rintro _ wx62 ⟨ay168, cy169, at170, ct171, rfl, gy166, gt167, hy164, ht165, F⟩
  replace F0 := F0.trans F
  clear F
  go_wp2_with fail
  have hl172 := ints_new wx62 [1, 5]
  have FB : Fut wx62 (wx62.alloc (.cells #[.int .i64 1, .int .i64 5] 3)) := Fut.alloc _ _
  replace hy164 := hy164.fut FB
  replace ht165 := ht165.fut FB
  replace F0 := F0.trans FB
  clear FB
  refine (ex_id _ _).mono ?_
  rintro _ wx63 ⟨rfl, F⟩
  replace hy164 := hy164.fut F
  replace ht165 := ht165.fut F
  replace hl172 := hl172.fut F
  replace F0 := F0.trans F
  clear F
  go_wp2_with fail
  have hl173 := ints_new wx63 [3, 4, 7]
  have FB : Fut wx63 (wx63.alloc (.cells #[.int .i64 3, .int .i64 4, .int .i64 7] 3)) := Fut.alloc _ _
  replace hy164 := hy164.fut FB
  replace ht165 := ht165.fut FB
  replace hl172 := hl172.fut FB
  replace F0 := F0.trans FB
  clear FB
  refine (ex_id _ _).mono ?_
  rintro _ wx64 ⟨rfl, F⟩
  replace hy164 := hy164.fut F
  replace ht165 := ht165.fut F
  replace hl172 := hl172.fut F
  replace hl173 := hl173.fut F
  replace F0 := F0.trans F
  clear F
  go_wp2_with fail
  have hf174 := pair_new hl172 hl173 (lc := 2) (kc := 3) (by decide) (by decide)
  have FB : Fut wx64 (wx64.alloc (.cells #[.slice (some ⟨wx62.heap.size, 0, none⟩) 2 2, .slice (some ⟨wx63.heap.size, 0, none⟩) 3 3] 22)) := Fut.alloc _ _
  clear hl172
  clear hl173
  replace hy164 := hy164.fut FB
  replace ht165 := ht165.fut FB
  replace F0 := F0.trans FB
  clear FB
  refine (ex_ids _ _).mono ?_
  rintro _ wx65 ⟨rfl, F⟩
  replace hy164 := hy164.fut F
  replace ht165 := ht165.fut F
  replace hf174 := hf174.fut F
  replace F0 := F0.trans F
  clear F
  go_wp2_with fail
  refine (ex_e (apart_any 3 3 _ _ [] _ _ [1, 3] _ _ [5, 7] _ _ [[1, 5], [3, 4, 7]] _ (in_pq (nil_ints _ _) hy164 ht165 (by decide) gy166 gt167) hf174.lst (by decide) (small_lists (by decide))) 7 v_apt3).mono ?_
  rintro _ wx66 ⟨rfl, F⟩
  replace hy164 := hy164.fut F
  replace ht165 := ht165.fut F
  replace hf174 := hf174.fut F
  replace F0 := F0.trans F
  clear F
  clear hy164
  clear ht165
  clear hf174
  go_wp2_with fail
  refine (p61_any _).mono ?_
  rintro _ wx67 ⟨rfl, F⟩
  replace F0 := F0.trans F
  clear F
  go_wp2_with fail
  refine (x62_any _).mono ?_
  rintro _ wx68 ⟨ay179, cy180, at181, ct182, rfl, gy177, gt178, hy175, ht176, F⟩
  replace F0 := F0.trans F
  clear F
  go_wp2_with fail
  have hl183 := ints_new wx68 [1, 2]
  have FB : Fut wx68 (wx68.alloc (.cells #[.int .i64 1, .int .i64 2] 3)) := Fut.alloc _ _
  replace hy175 := hy175.fut FB
  replace ht176 := ht176.fut FB
  replace F0 := F0.trans FB
  clear FB
  refine (ex_id _ _).mono ?_
  rintro _ wx69 ⟨rfl, F⟩
  replace hy175 := hy175.fut F
  replace ht176 := ht176.fut F
  replace hl183 := hl183.fut F
  replace F0 := F0.trans F
  clear F
  go_wp2_with fail
  have hl184 := ints_new wx69 [3, 4, 7]
  have FB : Fut wx69 (wx69.alloc (.cells #[.int .i64 3, .int .i64 4, .int .i64 7] 3)) := Fut.alloc _ _
  replace hy175 := hy175.fut FB
  replace ht176 := ht176.fut FB
  replace hl183 := hl183.fut FB
  replace F0 := F0.trans FB
  clear FB
  refine (ex_id _ _).mono ?_
  rintro _ wx70 ⟨rfl, F⟩
  replace hy175 := hy175.fut F
  replace ht176 := ht176.fut F
  replace hl183 := hl183.fut F
  replace hl184 := hl184.fut F
  replace F0 := F0.trans F
  clear F
  go_wp2_with fail
  have hf185 := pair_new hl183 hl184 (lc := 2) (kc := 3) (by decide) (by decide)
  have FB : Fut wx70 (wx70.alloc (.cells #[.slice (some ⟨wx68.heap.size, 0, none⟩) 2 2, .slice (some ⟨wx69.heap.size, 0, none⟩) 3 3] 22)) := Fut.alloc _ _
  clear hl183
  clear hl184
  replace hy175 := hy175.fut FB
  replace ht176 := ht176.fut FB
  replace F0 := F0.trans FB
  clear FB
  refine (ex_ids _ _).mono ?_
  rintro _ wx71 ⟨rfl, F⟩
  replace hy175 := hy175.fut F
  replace ht176 := ht176.fut F
  replace hf185 := hf185.fut F
  replace F0 := F0.trans F
  clear F
  go_wp2_with fail
  refine (ex_e (apart_any 3 3 _ _ [] _ _ [1, 3] _ _ [5, 7] _ _ [[1, 2], [3, 4, 7]] _ (in_pq (nil_ints _ _) hy175 ht176 (by decide) gy177 gt178) hf185.lst (by decide) (small_lists (by decide))) 12 v_apt4).mono ?_
  rintro _ wx72 ⟨rfl, F⟩
  replace hy175 := hy175.fut F
  replace ht176 := ht176.fut F
  replace hf185 := hf185.fut F
  replace F0 := F0.trans F
  clear F
  clear hy175
  clear ht176
  clear hf185
  go_wp2_with fail
  refine (s64_any _).mono ?_
  rintro _ wx73 ⟨as187, cs188, rfl, gs189, hs186, F⟩
  replace F0 := F0.trans F
  clear F
  go_wp2_with fail
  refine (z65_any _).mono ?_
  rintro _ wx74 ⟨ay194, cy195, at196, ct197, rfl, gy192, gt193, hy190, ht191, F⟩
  replace hs186 := hs186.fut F
  replace F0 := F0.trans F
  clear F
  go_wp2_with fail
  have hl198 := ints_new wx74 [1, 4]
  have FB : Fut wx74 (wx74.alloc (.cells #[.int .i64 1, .int .i64 4] 3)) := Fut.alloc _ _
  replace hs186 := hs186.fut FB
  replace hy190 := hy190.fut FB
  replace ht191 := ht191.fut FB
  replace F0 := F0.trans FB
  clear FB
  refine (ex_id _ _).mono ?_
  rintro _ wx75 ⟨rfl, F⟩
  replace hs186 := hs186.fut F
  replace hy190 := hy190.fut F
  replace ht191 := ht191.fut F
  replace hl198 := hl198.fut F
  replace F0 := F0.trans F
  clear F
  go_wp2_with fail
  refine (ex_e (proves_any 3 3 _ _ [3, 5] _ _ [0, 1] _ _ [7, 8] _ _ [1, 4] _ (in_pq hs186 hy190 ht191 (by decide) gy192 gt193) (by decide) hl198 (by decide)) 14 v_prv3).mono ?_
  rintro _ wx76 ⟨rfl, F⟩
  replace hs186 := hs186.fut F
  replace hy190 := hy190.fut F
  replace ht191 := ht191.fut F
  replace hl198 := hl198.fut F
  replace F0 := F0.trans F
  clear F
  clear hs186
  clear hy190
  clear ht191
  clear hl198
  go_wp2_with fail
  refine (s64_any _).mono ?_
  rintro _ wx77 ⟨as200, cs201, rfl, gs202, hs199, F⟩
  replace F0 := F0.trans F
  clear F
  go_wp2_with fail
  refine (z65_any _).mono ?_
  rintro _ wx78 ⟨ay207, cy208, at209, ct210, rfl, gy205, gt206, hy203, ht204, F⟩
  replace hs199 := hs199.fut F
  replace F0 := F0.trans F
  clear F
  go_wp2_with fail
  have hl211 := ints_new wx78 [1, 1]
  have FB : Fut wx78 (wx78.alloc (.cells #[.int .i64 1, .int .i64 1] 3)) := Fut.alloc _ _
  replace hs199 := hs199.fut FB
  replace hy203 := hy203.fut FB
  replace ht204 := ht204.fut FB
  replace F0 := F0.trans FB
  clear FB
  refine (ex_id _ _).mono ?_
  rintro _ wx79 ⟨rfl, F⟩
  replace hs199 := hs199.fut F
  replace hy203 := hy203.fut F
  replace ht204 := ht204.fut F
  replace hl211 := hl211.fut F
  replace F0 := F0.trans F
  clear F
  go_wp2_with fail
  refine (ex_e (proves_any 3 3 _ _ [3, 5] _ _ [0, 1] _ _ [7, 8] _ _ [1, 1] _ (in_pq hs199 hy203 ht204 (by decide) gy205 gt206) (by decide) hl211 (by decide)) 7 v_prv4).mono ?_
  rintro _ wx80 ⟨rfl, F⟩
  replace hs199 := hs199.fut F
  replace hy203 := hy203.fut F
  replace ht204 := ht204.fut F
  replace hl211 := hl211.fut F
  replace F0 := F0.trans F
  clear F
  clear hs199
  clear hy203
  clear ht204
  clear hl211
  go_wp2_with fail
  refine (x62_any _).mono ?_
  rintro _ wx81 ⟨ay216, cy217, at218, ct219, rfl, gy214, gt215, hy212, ht213, F⟩
  replace F0 := F0.trans F
  clear F
  go_wp2_with fail
  refine (ex_e (chk_any 5 1 _ _ [] _ _ [1, 3] _ _ [5, 7] _ (in_pq (nil_ints _ _) hy212 ht213 (by decide) gy214 gt215)) 1 v_chk1).mono ?_
  rintro _ wx82 ⟨rfl, F⟩
  replace hy212 := hy212.fut F
  replace ht213 := ht213.fut F
  replace F0 := F0.trans F
  clear F
  clear hy212
  clear ht213
  go_wp2_with fail
  refine (p61_any _).mono ?_
  rintro _ wx83 ⟨rfl, F⟩
  replace F0 := F0.trans F
  clear F
  go_wp2_with fail
  refine (ex_e (chk_any 3 3 _ _ [] _ _ [] _ _ [] _ (in_pq (nil_ints _ _) (nil_ints _ _) (nil_ints _ _) (by decide) (by decide) (by decide))) 4 v_chk2).mono ?_
  rintro _ wx84 ⟨rfl, F⟩
  replace F0 := F0.trans F
  clear F
  go_wp2_with fail
  refine (p61_any _).mono ?_
  rintro _ wx85 ⟨rfl, F⟩
  replace F0 := F0.trans F
  clear F
  go_wp2_with fail
  have hl220 := ints_new wx85 [1, 3]
  have FB : Fut wx85 (wx85.alloc (.cells #[.int .i64 1, .int .i64 3] 3)) := Fut.alloc _ _
  replace F0 := F0.trans FB
  clear FB
  refine (ex_id _ _).mono ?_
  rintro _ wx86 ⟨rfl, F⟩
  replace hl220 := hl220.fut F
  replace F0 := F0.trans F
  clear F
  go_wp2_with fail
  have hl221 := ints_new wx86 [5]
  have FB : Fut wx86 (wx86.alloc (.cells #[.int .i64 5] 3)) := Fut.alloc _ _
  replace hl220 := hl220.fut FB
  replace F0 := F0.trans FB
  clear FB
  refine (ex_id _ _).mono ?_
  rintro _ wx87 ⟨rfl, F⟩
  replace hl220 := hl220.fut F
  replace hl221 := hl221.fut F
  replace F0 := F0.trans F
  clear F
  go_wp2_with fail
  refine (ex_e (chk_any 3 3 _ _ [] _ _ [1, 3] _ _ [5] _ (in_pq (nil_ints _ _) hl220 hl221 (by decide) (by decide) (by decide))) 5 v_chk3).mono ?_
  rintro _ wx88 ⟨rfl, F⟩
  replace hl220 := hl220.fut F
  replace hl221 := hl221.fut F
  replace F0 := F0.trans F
  clear F
  clear hl220
  clear hl221
  go_wp2_with fail
  refine (p61_any _).mono ?_
  rintro _ wx89 ⟨rfl, F⟩
  replace F0 := F0.trans F
  clear F
  go_wp2_with fail
  have hl222 := ints_new wx89 [1, 1]
  have FB : Fut wx89 (wx89.alloc (.cells #[.int .i64 1, .int .i64 1] 3)) := Fut.alloc _ _
  replace F0 := F0.trans FB
  clear FB
  refine (ex_id _ _).mono ?_
  rintro _ wx90 ⟨rfl, F⟩
  replace hl222 := hl222.fut F
  replace F0 := F0.trans F
  clear F
  go_wp2_with fail
  have hl223 := ints_new wx90 [5, 7]
  have FB : Fut wx90 (wx90.alloc (.cells #[.int .i64 5, .int .i64 7] 3)) := Fut.alloc _ _
  replace hl222 := hl222.fut FB
  replace F0 := F0.trans FB
  clear FB
  refine (ex_id _ _).mono ?_
  rintro _ wx91 ⟨rfl, F⟩
  replace hl222 := hl222.fut F
  replace hl223 := hl223.fut F
  replace F0 := F0.trans F
  clear F
  go_wp2_with fail
  refine (ex_e (chk_any 3 3 _ _ [] _ _ [1, 1] _ _ [5, 7] _ (in_pq (nil_ints _ _) hl222 hl223 (by decide) (by decide) (by decide))) 6 v_chk4).mono ?_
  rintro _ wx92 ⟨rfl, F⟩
  replace hl222 := hl222.fut F
  replace hl223 := hl223.fut F
  replace F0 := F0.trans F
  clear F
  clear hl222
  clear hl223
  go_wp2_with fail
  refine (q63_any _).mono ?_
  rintro _ wx93 ⟨as225, cs226, rfl, gs227, hs224, F⟩
  replace F0 := F0.trans F
  clear F
  go_wp2_with fail
  have hl228 := ints_new wx93 [4]
  have FB : Fut wx93 (wx93.alloc (.cells #[.int .i64 4] 3)) := Fut.alloc _ _
  replace hs224 := hs224.fut FB
  replace F0 := F0.trans FB
  clear FB
  refine (ex_id _ _).mono ?_
  rintro _ wx94 ⟨rfl, F⟩
  replace hs224 := hs224.fut F
  replace hl228 := hl228.fut F
  replace F0 := F0.trans F
  clear F
  go_wp2_with fail
  have hl229 := ints_new wx94 [5]
  have FB : Fut wx94 (wx94.alloc (.cells #[.int .i64 5] 3)) := Fut.alloc _ _
  replace hs224 := hs224.fut FB
  replace hl228 := hl228.fut FB
  replace F0 := F0.trans FB
  clear FB
  refine (ex_id _ _).mono ?_
  rintro _ wx95 ⟨rfl, F⟩
  replace hs224 := hs224.fut F
  replace hl228 := hl228.fut F
  replace hl229 := hl229.fut F
  replace F0 := F0.trans F
  clear F
  go_wp2_with fail
  refine (ex_e (chk_any 3 3 _ _ [4] _ _ [4] _ _ [5] _ (in_pq hs224 hl228 hl229 (by decide) (by decide) (by decide))) 20 v_chk5).mono ?_
  rintro _ wx96 ⟨rfl, F⟩
  replace hs224 := hs224.fut F
  replace hl228 := hl228.fut F
  replace hl229 := hl229.fut F
  replace F0 := F0.trans F
  clear F
  clear hl228
  clear hl229
  clear hs224
  go_wp2_with fail
  refine (works_any _).mono ?_
  rintro _ wx97 ⟨rfl, F⟩
  replace F0 := F0.trans F
  clear F
  go_wp2
  go_ret
  exact ⟨rfl, F0⟩
end Go.Proofs.Ytflllkamdihfaaa
