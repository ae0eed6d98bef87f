/- works: works_any -/
import Derived.Test.YtflllkamdihfaaaLBI
namespace Go.Proofs.Ytflllkamdihfaaa
open Go.RowKit Go.Sort
set_option maxRecDepth 100000 in
set_option maxHeartbeats 16000000 in
theorem works_any (w : World) : Calls Try.prog 15 #[] w fun e w' => e = .returned (.bool true) ∧ Fut w w' := by
  have F0 : Fut w w := Fut.rfl
  go_enter Try.func15, Try.ntmps15
  go_wp2_with fail
  refine (p61_any _).mono ?_
  rintro _ wx1 ⟨rfl, F⟩
  replace F0 := F0.trans F
  clear F
  go_wp2_with fail
  refine (x62_any _).mono ?_
  rintro _ wx2 ⟨ay5, cy6, at7, ct8, rfl, gy3, gt4, hy1, ht2, F⟩
  replace F0 := F0.trans F
  clear F
  go_wp2_with fail
  refine (ex_N (ways_any 3 3 _ _ [] _ _ [1, 3] _ _ [5, 7] 0 8 _ (in_pq (nil_ints _ _) hy1 ht2 (by decide) gy3 gt4)) 6 0 (by rw [v_way1.1]; rfl) v_way1.2).mono ?_
  rintro _ wx3 ⟨rfl, F⟩
  replace hy1 := hy1.fut F
  replace ht2 := ht2.fut F
  replace F0 := F0.trans F
  clear F
  clear hy1
  clear ht2
  go_wp2_with fail
  refine (p61_any _).mono ?_
  rintro _ wx4 ⟨rfl, F⟩
  replace F0 := F0.trans F
  clear F
  go_wp2_with fail
  refine (x62_any _).mono ?_
  rintro _ wx5 ⟨ay13, cy14, at15, ct16, rfl, gy11, gt12, hy9, ht10, F⟩
  replace F0 := F0.trans F
  clear F
  go_wp2_with fail
  refine (ex_L (table_any 3 3 _ _ [] _ _ [1, 3] _ _ [5, 7] _ (in_pq (nil_ints _ _) hy9 ht10 (by decide) gy11 gt12)) 2 0 [[2, 1], [1, 2]] rfl v_tab1.1 v_tab1.2).mono ?_
  rintro _ wx6 ⟨lT18, cT19, rfl, hT17, F⟩
  replace hy9 := hy9.fut F
  replace ht10 := ht10.fut F
  replace F0 := F0.trans F
  clear F
  clear hy9
  clear ht10
  go_wp2_with fail
  refine (p61_any _).mono ?_
  rintro _ wx7 ⟨rfl, F⟩
  replace hT17 := hT17.fut F
  replace F0 := F0.trans F
  clear F
  go_wp2_with fail
  refine (y67_any _).mono ?_
  rintro _ wx8 ⟨ay24, cy25, at26, ct27, rfl, gy22, gt23, hy20, ht21, F⟩
  replace hT17 := hT17.fut F
  replace F0 := F0.trans F
  clear F
  go_wp2_with fail
  refine (ex_N (signed_any 3 3 _ _ [] _ _ [1, 3] _ _ [7, 5] _ (in_pq (nil_ints _ _) hy20 ht21 (by decide) gy22 gt23)) (-3) 0 v_sgn1.1 v_sgn1.2).mono ?_
  rintro _ wx9 ⟨rfl, F⟩
  replace hT17 := hT17.fut F
  replace hy20 := hy20.fut F
  replace ht21 := ht21.fut F
  replace F0 := F0.trans F
  clear F
  clear hy20
  clear ht21
  go_wp2_with fail
  refine (p61_any _).mono ?_
  rintro _ wx10 ⟨rfl, F⟩
  replace hT17 := hT17.fut F
  replace F0 := F0.trans F
  clear F
  go_wp2_with fail
  refine (y67_any _).mono ?_
  rintro _ wx11 ⟨ay32, cy33, at34, ct35, rfl, gy30, gt31, hy28, ht29, F⟩
  replace hT17 := hT17.fut F
  replace F0 := F0.trans F
  clear F
  go_wp2_with fail
  refine (ex_N (fcount_any 3 3 _ _ [] _ _ [1, 3] _ _ [7, 5] _ (in_pq (nil_ints _ _) hy28 ht29 (by decide) gy30 gt31)) 3 0 (by rw [v_cnt1]; rfl) v_sgn1.2).mono ?_
  rintro _ wx12 ⟨rfl, F⟩
  replace hT17 := hT17.fut F
  replace hy28 := hy28.fut F
  replace ht29 := ht29.fut F
  replace F0 := F0.trans F
  clear F
  clear hy28
  clear ht29
  go_wp2_with fail
  refine (p61_any _).mono ?_
  rintro _ wx13 ⟨rfl, F⟩
  replace hT17 := hT17.fut F
  replace F0 := F0.trans F
  clear F
  go_wp2_with fail
  refine (x62_any _).mono ?_
  rintro _ wx14 ⟨ay40, cy41, at42, ct43, rfl, gy38, gt39, hy36, ht37, F⟩
  replace hT17 := hT17.fut F
  replace F0 := F0.trans F
  clear F
  go_wp2_with fail
  refine (ex_L (first_any 3 3 _ _ [] _ _ [1, 3] _ _ [5, 7] _ (in_pq (nil_ints _ _) hy36 ht37 (by decide) gy38 gt39)) 2 0 [[1, 2, 5], [3, 4, 7]] rfl v_fst1.1 v_fst1.2).mono ?_
  rintro _ wx15 ⟨lT45, cT46, rfl, hT44, F⟩
  replace hT17 := hT17.fut F
  replace hy36 := hy36.fut F
  replace ht37 := ht37.fut F
  replace F0 := F0.trans F
  clear F
  clear hy36
  clear ht37
  go_wp2_with fail
  refine (p61_any _).mono ?_
  rintro _ wx16 ⟨rfl, F⟩
  replace hT17 := hT17.fut F
  replace hT44 := hT44.fut F
  replace F0 := F0.trans F
  clear F
  go_wp2_with fail
  refine (y67_any _).mono ?_
  rintro _ wx17 ⟨ay51, cy52, at53, ct54, rfl, gy49, gt50, hy47, ht48, F⟩
  replace hT17 := hT17.fut F
  replace hT44 := hT44.fut F
  replace F0 := F0.trans F
  clear F
  go_wp2_with fail
  have hl55 := ints_new wx17 [1, 2, 5]
  have FB : Fut wx17 (wx17.alloc (.cells #[.int .i64 1, .int .i64 2, .int .i64 5] 3)) := Fut.alloc _ _
  replace hT17 := hT17.fut FB
  replace hT44 := hT44.fut FB
  replace hy47 := hy47.fut FB
  replace ht48 := ht48.fut FB
  replace F0 := F0.trans FB
  clear FB
  refine (ex_id _ _).mono ?_
  rintro _ wx18 ⟨rfl, F⟩
  replace hT17 := hT17.fut F
  replace hT44 := hT44.fut F
  replace hy47 := hy47.fut F
  replace ht48 := ht48.fut F
  replace hl55 := hl55.fut F
  replace F0 := F0.trans F
  clear F
  go_wp2_with fail
  have hl56 := ints_new wx18 [3, 4, 7]
  have FB : Fut wx18 (wx18.alloc (.cells #[.int .i64 3, .int .i64 4, .int .i64 7] 3)) := Fut.alloc _ _
  replace hT17 := hT17.fut FB
  replace hT44 := hT44.fut FB
  replace hy47 := hy47.fut FB
  replace ht48 := ht48.fut FB
  replace hl55 := hl55.fut FB
  replace F0 := F0.trans FB
  clear FB
  refine (ex_id _ _).mono ?_
  rintro _ wx19 ⟨rfl, F⟩
  replace hT17 := hT17.fut F
  replace hT44 := hT44.fut F
  replace hy47 := hy47.fut F
  replace ht48 := ht48.fut F
  replace hl55 := hl55.fut F
  replace hl56 := hl56.fut F
  replace F0 := F0.trans F
  clear F
  go_wp2_with fail
  have hf57 := pair_new hl55 hl56 (lc := 3) (kc := 3) (by decide) (by decide)
  have FB : Fut wx19 (wx19.alloc (.cells #[.slice (some ⟨wx17.heap.size, 0, none⟩) 3 3, .slice (some ⟨wx18.heap.size, 0, none⟩) 3 3] 22)) := Fut.alloc _ _
  clear hl55
  clear hl56
  replace hT17 := hT17.fut FB
  replace hT44 := hT44.fut FB
  replace hy47 := hy47.fut FB
  replace ht48 := ht48.fut FB
  replace F0 := F0.trans FB
  clear FB
  refine (ex_ids _ _).mono ?_
  rintro _ wx20 ⟨rfl, F⟩
  replace hT17 := hT17.fut F
  replace hT44 := hT44.fut F
  replace hy47 := hy47.fut F
  replace ht48 := ht48.fut F
  replace hf57 := hf57.fut F
  replace F0 := F0.trans F
  clear F
  go_wp2_with fail
  refine (ex_T (order_any 3 3 _ _ [] _ _ [1, 3] _ _ [7, 5] _ _ [[1, 2, 5], [3, 4, 7]] _ (in_pq (nil_ints _ _) hy47 ht48 (by decide) gy49 gt50) hf57.lst (by decide) (small_lists (by decide))) 2 0 [1, 0] rfl (by rw [v_ord1]) (by rw [v_ord1])).mono ?_
  rintro _ wx21 ⟨lT59, cT60, rfl, hT58, F⟩
  replace hT17 := hT17.fut F
  replace hT44 := hT44.fut F
  replace hy47 := hy47.fut F
  replace ht48 := ht48.fut F
  replace hf57 := hf57.fut F
  replace F0 := F0.trans F
  clear F
  clear hy47
  clear ht48
  clear hf57
  go_wp2_with fail
  refine (p61_any _).mono ?_
  rintro _ wx22 ⟨rfl, F⟩
  replace hT17 := hT17.fut F
  replace hT44 := hT44.fut F
  replace hT58 := hT58.fut F
  replace F0 := F0.trans F
  clear F
  go_wp2_with fail
  refine (x62_any _).mono ?_
  rintro _ wx23 ⟨ay65, cy66, at67, ct68, rfl, gy63, gt64, hy61, ht62, F⟩
  replace hT17 := hT17.fut F
  replace hT44 := hT44.fut F
  replace hT58 := hT58.fut F
  replace F0 := F0.trans F
  clear F
  go_wp2_with fail
  have hl69 := ints_new wx23 [1, 4, 5]
  have FB : Fut wx23 (wx23.alloc (.cells #[.int .i64 1, .int .i64 4, .int .i64 5] 3)) := Fut.alloc _ _
  replace hT17 := hT17.fut FB
  replace hT44 := hT44.fut FB
  replace hT58 := hT58.fut FB
  replace hy61 := hy61.fut FB
  replace ht62 := ht62.fut FB
  replace F0 := F0.trans FB
  clear FB
  refine (ex_id _ _).mono ?_
  rintro _ wx24 ⟨rfl, F⟩
  replace hT17 := hT17.fut F
  replace hT44 := hT44.fut F
  replace hT58 := hT58.fut F
  replace hy61 := hy61.fut F
  replace ht62 := ht62.fut F
  replace hl69 := hl69.fut F
  replace F0 := F0.trans F
  clear F
  go_wp2_with fail
  have hl70 := ints_new wx24 [3, 4, 7]
  have FB : Fut wx24 (wx24.alloc (.cells #[.int .i64 3, .int .i64 4, .int .i64 7] 3)) := Fut.alloc _ _
  replace hT17 := hT17.fut FB
  replace hT44 := hT44.fut FB
  replace hT58 := hT58.fut FB
  replace hy61 := hy61.fut FB
  replace ht62 := ht62.fut FB
  replace hl69 := hl69.fut FB
  replace F0 := F0.trans FB
  clear FB
  refine (ex_id _ _).mono ?_
  rintro _ wx25 ⟨rfl, F⟩
  replace hT17 := hT17.fut F
  replace hT44 := hT44.fut F
  replace hT58 := hT58.fut F
  replace hy61 := hy61.fut F
  replace ht62 := ht62.fut F
  replace hl69 := hl69.fut F
  replace hl70 := hl70.fut F
  replace F0 := F0.trans F
  clear F
  go_wp2_with fail
  have hf71 := pair_new hl69 hl70 (lc := 3) (kc := 3) (by decide) (by decide)
  have FB : Fut wx25 (wx25.alloc (.cells #[.slice (some ⟨wx23.heap.size, 0, none⟩) 3 3, .slice (some ⟨wx24.heap.size, 0, none⟩) 3 3] 22)) := Fut.alloc _ _
  clear hl69
  clear hl70
  replace hT17 := hT17.fut FB
  replace hT44 := hT44.fut FB
  replace hT58 := hT58.fut FB
  replace hy61 := hy61.fut FB
  replace ht62 := ht62.fut FB
  replace F0 := F0.trans FB
  clear FB
  refine (ex_ids _ _).mono ?_
  rintro _ wx26 ⟨rfl, F⟩
  replace hT17 := hT17.fut F
  replace hT44 := hT44.fut F
  replace hT58 := hT58.fut F
  replace hy61 := hy61.fut F
  replace ht62 := ht62.fut F
  replace hf71 := hf71.fut F
  replace F0 := F0.trans F
  clear F
  go_wp2_with fail
  refine (ex_L (swap_any 3 3 _ _ [] _ _ [1, 3] _ _ [5, 7] _ _ [[1, 4, 5], [3, 4, 7]] _ (in_pq (nil_ints _ _) hy61 ht62 (by decide) gy63 gt64) hf71 (by decide) (small_lists (by decide))) 2 0 [[1, 4, 7], [3, 4, 5]] rfl v_swp1.1 v_swp1.2).mono ?_
  rintro _ wx27 ⟨lT73, cT74, rfl, hT72, F⟩
  replace hT17 := hT17.fut F
  replace hT44 := hT44.fut F
  replace hT58 := hT58.fut F
  replace hy61 := hy61.fut F
  replace ht62 := ht62.fut F
  replace hf71 := hf71.fut F
  replace F0 := F0.trans F
  clear F
  clear hy61
  clear ht62
  clear hf71
  go_wp2_with fail
  refine (s64_any _).mono ?_
  rintro _ wx28 ⟨as76, cs77, rfl, gs78, hs75, F⟩
  replace hT17 := hT17.fut F
  replace hT44 := hT44.fut F
  replace hT58 := hT58.fut F
  replace hT72 := hT72.fut F
  replace F0 := F0.trans F
  clear F
  go_wp2_with fail
  refine (z65_any _).mono ?_
  rintro _ wx29 ⟨ay83, cy84, at85, ct86, rfl, gy81, gt82, hy79, ht80, F⟩
  replace hT17 := hT17.fut F
  replace hT44 := hT44.fut F
  replace hT58 := hT58.fut F
  replace hT72 := hT72.fut F
  replace hs75 := hs75.fut F
  replace F0 := F0.trans F
  clear F
  go_wp2_with fail
  refine (ex_I (bar_any 3 3 _ _ [3, 5] _ _ [0, 1] _ _ [7, 8] _ (in_pq hs75 hy79 ht80 (by decide) gy81 gt82) (by decide)) 1 0 [1] rfl v_bar1.1 v_bar1.2).mono ?_
  rintro _ wx30 ⟨lT88, cT89, rfl, hT87, F⟩
  replace hT17 := hT17.fut F
  replace hT44 := hT44.fut F
  replace hT58 := hT58.fut F
  replace hT72 := hT72.fut F
  replace hs75 := hs75.fut F
  replace hy79 := hy79.fut F
  replace ht80 := ht80.fut F
  replace F0 := F0.trans F
  clear F
  clear hs75
  clear hy79
  clear ht80
  go_wp2_with fail
  refine (p61_any _).mono ?_
  rintro _ wx31 ⟨rfl, F⟩
  replace hT17 := hT17.fut F
  replace hT44 := hT44.fut F
  replace hT58 := hT58.fut F
  replace hT72 := hT72.fut F
  replace hT87 := hT87.fut F
  replace F0 := F0.trans F
  clear F
  go_wp2_with fail
  refine (x62_any _).mono ?_
  rintro _ wx32 ⟨ay94, cy95, at96, ct97, rfl, gy92, gt93, hy90, ht91, F⟩
  replace hT17 := hT17.fut F
  replace hT44 := hT44.fut F
  replace hT58 := hT58.fut F
  replace hT72 := hT72.fut F
  replace hT87 := hT87.fut F
  replace F0 := F0.trans F
  clear F
  go_wp2_with fail
  refine (ex_I (bar_any 3 3 _ _ [] _ _ [1, 3] _ _ [5, 7] _ (in_pq (nil_ints _ _) hy90 ht91 (by decide) gy92 gt93) (by decide)) 0 13 [] rfl v_bar2.1 v_bar2.2).mono ?_
  rintro _ wx33 ⟨lT99, cT100, rfl, hT98, F⟩
  replace hT17 := hT17.fut F
  replace hT44 := hT44.fut F
  replace hT58 := hT58.fut F
  replace hT72 := hT72.fut F
  replace hT87 := hT87.fut F
  replace hy90 := hy90.fut F
  replace ht91 := ht91.fut F
  replace F0 := F0.trans F
  clear F
  clear hy90
  clear ht91
  clear hT98
  go_wp2_with fail
  refine (s64_any _).mono ?_
  rintro _ wx34 ⟨as102, cs103, rfl, gs104, hs101, F⟩
  replace hT17 := hT17.fut F
  replace hT44 := hT44.fut F
  replace hT58 := hT58.fut F
  replace hT72 := hT72.fut F
  replace hT87 := hT87.fut F
  replace F0 := F0.trans F
  clear F
  go_wp2_with fail
  refine (z65_any _).mono ?_
  rintro _ wx35 ⟨ay109, cy110, at111, ct112, rfl, gy107, gt108, hy105, ht106, F⟩
  replace hT17 := hT17.fut F
  replace hT44 := hT44.fut F
  replace hT58 := hT58.fut F
  replace hT72 := hT72.fut F
  replace hT87 := hT87.fut F
  replace hs101 := hs101.fut F
  replace F0 := F0.trans F
  clear F
  go_wp2_with fail
  refine (ex_L (first_any 3 3 _ _ [3, 5] _ _ [0, 1] _ _ [7, 8] _ (in_pq hs101 hy105 ht106 (by decide) gy107 gt108)) 0 12 [] rfl v_fst2.1 v_fst2.2).mono ?_
  rintro _ wx36 ⟨lT114, cT115, rfl, hT113, F⟩
  replace hT17 := hT17.fut F
  replace hT44 := hT44.fut F
  replace hT58 := hT58.fut F
  replace hT72 := hT72.fut F
  replace hT87 := hT87.fut F
  replace hs101 := hs101.fut F
  replace hy105 := hy105.fut F
  replace ht106 := ht106.fut F
  replace F0 := F0.trans F
  clear F
  clear hs101
  clear hy105
  clear ht106
  clear hT113
  go_wp2_with fail
  have hl116 := ints_new wx36 [2, 1]
  have FB : Fut wx36 (wx36.alloc (.cells #[.int .i64 2, .int .i64 1] 3)) := Fut.alloc _ _
  replace hT17 := hT17.fut FB
  replace hT44 := hT44.fut FB
  replace hT58 := hT58.fut FB
  replace hT72 := hT72.fut FB
  replace hT87 := hT87.fut FB
  replace F0 := F0.trans FB
  clear FB
  refine (ex_id _ _).mono ?_
  rintro _ wx37 ⟨rfl, F⟩
  replace hT17 := hT17.fut F
  replace hT44 := hT44.fut F
  replace hT58 := hT58.fut F
  replace hT72 := hT72.fut F
  replace hT87 := hT87.fut F
  replace hl116 := hl116.fut F
  replace F0 := F0.trans F
  clear F
  go_wp2_with fail
  have hl117 := ints_new wx37 [1, 2]
  have FB : Fut wx37 (wx37.alloc (.cells #[.int .i64 1, .int .i64 2] 3)) := Fut.alloc _ _
  replace hT17 := hT17.fut FB
  replace hT44 := hT44.fut FB
  replace hT58 := hT58.fut FB
  replace hT72 := hT72.fut FB
  replace hT87 := hT87.fut FB
  replace hl116 := hl116.fut FB
  replace F0 := F0.trans FB
  clear FB
  refine (ex_id _ _).mono ?_
  rintro _ wx38 ⟨rfl, F⟩
  replace hT17 := hT17.fut F
  replace hT44 := hT44.fut F
  replace hT58 := hT58.fut F
  replace hT72 := hT72.fut F
  replace hT87 := hT87.fut F
  replace hl116 := hl116.fut F
  replace hl117 := hl117.fut F
  replace F0 := F0.trans F
  clear F
  go_wp2_with fail
  have hf118 := pair_new hl116 hl117 (lc := 2) (kc := 2) (by decide) (by decide)
  have FB : Fut wx38 (wx38.alloc (.cells #[.slice (some ⟨wx36.heap.size, 0, none⟩) 2 2, .slice (some ⟨wx37.heap.size, 0, none⟩) 2 2] 22)) := Fut.alloc _ _
  clear hl116
  clear hl117
  replace hT17 := hT17.fut FB
  replace hT44 := hT44.fut FB
  replace hT58 := hT58.fut FB
  replace hT72 := hT72.fut FB
  replace hT87 := hT87.fut FB
  replace F0 := F0.trans FB
  clear FB
  refine (ex_ids _ _).mono ?_
  rintro _ wx39 ⟨rfl, F⟩
  replace hT17 := hT17.fut F
  replace hT44 := hT44.fut F
  replace hT58 := hT58.fut F
  replace hT72 := hT72.fut F
  replace hT87 := hT87.fut F
  replace hf118 := hf118.fut F
  replace F0 := F0.trans F
  clear F
  go_wp2_with fail
  refine (ex_lists [[2, 1], [1, 2]] [[2, 1], [1, 2]] rfl rfl _ hT17 hf118 ⟨by decide, by decide, small_lists (by decide), small_lists (by decide)⟩ true (by decide)).mono ?_
  rintro _ wx40 ⟨rfl, F⟩
  replace hT17 := hT17.fut F
  replace hT44 := hT44.fut F
  replace hT58 := hT58.fut F
  replace hT72 := hT72.fut F
  replace hT87 := hT87.fut F
  replace hf118 := hf118.fut F
  replace F0 := F0.trans F
  clear F
  clear hf118
  clear hT17
  go_wp2_with fail
  have hl119 := ints_new wx40 [1, 2, 5]
  have FB : Fut wx40 (wx40.alloc (.cells #[.int .i64 1, .int .i64 2, .int .i64 5] 3)) := Fut.alloc _ _
  replace hT44 := hT44.fut FB
  replace hT58 := hT58.fut FB
  replace hT72 := hT72.fut FB
  replace hT87 := hT87.fut FB
  replace F0 := F0.trans FB
  clear FB
  refine (ex_id _ _).mono ?_
  rintro _ wx41 ⟨rfl, F⟩
  replace hT44 := hT44.fut F
  replace hT58 := hT58.fut F
  replace hT72 := hT72.fut F
  replace hT87 := hT87.fut F
  replace hl119 := hl119.fut F
  replace F0 := F0.trans F
  clear F
  go_wp2_with fail
  have hl120 := ints_new wx41 [3, 4, 7]
  have FB : Fut wx41 (wx41.alloc (.cells #[.int .i64 3, .int .i64 4, .int .i64 7] 3)) := Fut.alloc _ _
  replace hT44 := hT44.fut FB
  replace hT58 := hT58.fut FB
  replace hT72 := hT72.fut FB
  replace hT87 := hT87.fut FB
  replace hl119 := hl119.fut FB
  replace F0 := F0.trans FB
  clear FB
  refine (ex_id _ _).mono ?_
  rintro _ wx42 ⟨rfl, F⟩
  replace hT44 := hT44.fut F
  replace hT58 := hT58.fut F
  replace hT72 := hT72.fut F
  replace hT87 := hT87.fut F
  replace hl119 := hl119.fut F
  replace hl120 := hl120.fut F
  replace F0 := F0.trans F
  clear F
  go_wp2_with fail
  have hf121 := pair_new hl119 hl120 (lc := 3) (kc := 3) (by decide) (by decide)
  have FB : Fut wx42 (wx42.alloc (.cells #[.slice (some ⟨wx40.heap.size, 0, none⟩) 3 3, .slice (some ⟨wx41.heap.size, 0, none⟩) 3 3] 22)) := Fut.alloc _ _
  clear hl119
  clear hl120
  replace hT44 := hT44.fut FB
  replace hT58 := hT58.fut FB
  replace hT72 := hT72.fut FB
  replace hT87 := hT87.fut FB
  replace F0 := F0.trans FB
  clear FB
  refine (ex_ids _ _).mono ?_
  rintro _ wx43 ⟨rfl, F⟩
  replace hT44 := hT44.fut F
  replace hT58 := hT58.fut F
  replace hT72 := hT72.fut F
  replace hT87 := hT87.fut F
  replace hf121 := hf121.fut F
  replace F0 := F0.trans F
  clear F
  go_wp2_with fail
  refine (ex_lists [[1, 2, 5], [3, 4, 7]] [[1, 2, 5], [3, 4, 7]] rfl rfl _ hT44 hf121 ⟨by decide, by decide, small_lists (by decide), small_lists (by decide)⟩ true (by decide)).mono ?_
  rintro _ wx44 ⟨rfl, F⟩
  replace hT44 := hT44.fut F
  replace hT58 := hT58.fut F
  replace hT72 := hT72.fut F
  replace hT87 := hT87.fut F
  replace hf121 := hf121.fut F
  replace F0 := F0.trans F
  clear F
  clear hf121
  clear hT44
  go_wp2_with fail
  have hl122 := ints_new wx44 [1, 0]
  have FB : Fut wx44 (wx44.alloc (.cells #[.int .i64 1, .int .i64 0] 3)) := Fut.alloc _ _
  replace hT58 := hT58.fut FB
  replace hT72 := hT72.fut FB
  replace hT87 := hT87.fut FB
  replace F0 := F0.trans FB
  clear FB
  refine (ex_id _ _).mono ?_
  rintro _ wx45 ⟨rfl, F⟩
  replace hT58 := hT58.fut F
  replace hT72 := hT72.fut F
  replace hT87 := hT87.fut F
  replace hl122 := hl122.fut F
  replace F0 := F0.trans F
  clear F
  go_wp2_with fail
  refine (ex_same [1, 0] [1, 0] rfl rfl ⟨by decide, by decide⟩ _ hT58 hl122 true (by decide)).mono ?_
  rintro _ wx46 ⟨rfl, F⟩
  replace hT58 := hT58.fut F
  replace hT72 := hT72.fut F
  replace hT87 := hT87.fut F
  replace hl122 := hl122.fut F
  replace F0 := F0.trans F
  clear F
  clear hl122
  clear hT58
  go_wp2_with fail
  have hl123 := ints_new wx46 [1, 4, 7]
  have FB : Fut wx46 (wx46.alloc (.cells #[.int .i64 1, .int .i64 4, .int .i64 7] 3)) := Fut.alloc _ _
  replace hT72 := hT72.fut FB
  replace hT87 := hT87.fut FB
  replace F0 := F0.trans FB
  clear FB
  refine (ex_id _ _).mono ?_
  rintro _ wx47 ⟨rfl, F⟩
  replace hT72 := hT72.fut F
  replace hT87 := hT87.fut F
  replace hl123 := hl123.fut F
  replace F0 := F0.trans F
  clear F
  go_wp2_with fail
  have hl124 := ints_new wx47 [3, 4, 5]
  have FB : Fut wx47 (wx47.alloc (.cells #[.int .i64 3, .int .i64 4, .int .i64 5] 3)) := Fut.alloc _ _
  replace hT72 := hT72.fut FB
  replace hT87 := hT87.fut FB
  replace hl123 := hl123.fut FB
  replace F0 := F0.trans FB
  clear FB
  refine (ex_id _ _).mono ?_
  rintro _ wx48 ⟨rfl, F⟩
  replace hT72 := hT72.fut F
  replace hT87 := hT87.fut F
  replace hl123 := hl123.fut F
  replace hl124 := hl124.fut F
  replace F0 := F0.trans F
  clear F
  go_wp2_with fail
  have hf125 := pair_new hl123 hl124 (lc := 3) (kc := 3) (by decide) (by decide)
  have FB : Fut wx48 (wx48.alloc (.cells #[.slice (some ⟨wx46.heap.size, 0, none⟩) 3 3, .slice (some ⟨wx47.heap.size, 0, none⟩) 3 3] 22)) := Fut.alloc _ _
  clear hl123
  clear hl124
  replace hT72 := hT72.fut FB
  replace hT87 := hT87.fut FB
  replace F0 := F0.trans FB
  clear FB
  refine (ex_ids _ _).mono ?_
  rintro _ wx49 ⟨rfl, F⟩
  replace hT72 := hT72.fut F
  replace hT87 := hT87.fut F
  replace hf125 := hf125.fut F
  replace F0 := F0.trans F
  clear F
  go_wp2_with fail
  refine (ex_lists [[1, 4, 7], [3, 4, 5]] [[1, 4, 7], [3, 4, 5]] rfl rfl _ hT72 hf125 ⟨by decide, by decide, small_lists (by decide), small_lists (by decide)⟩ true (by decide)).mono ?_
  rintro _ wx50 ⟨rfl, F⟩
  replace hT72 := hT72.fut F
  replace hT87 := hT87.fut F
  replace hf125 := hf125.fut F
  replace F0 := F0.trans F
  clear F
  clear hf125
  clear hT72
  go_wp2_with fail
  have hl126 := ints_new wx50 [1]
  have FB : Fut wx50 (wx50.alloc (.cells #[.int .i64 1] 3)) := Fut.alloc _ _
  replace hT87 := hT87.fut FB
  replace F0 := F0.trans FB
  clear FB
  refine (ex_id _ _).mono ?_
  rintro _ wx51 ⟨rfl, F⟩
  replace hT87 := hT87.fut F
  replace hl126 := hl126.fut F
  replace F0 := F0.trans F
  clear F
  go_wp2_with fail
  refine (ex_same [1] [1] rfl rfl ⟨by decide, by decide⟩ _ hT87 hl126 true (by decide)).mono ?_
  rintro _ wx52 ⟨rfl, F⟩
  replace hT87 := hT87.fut F
  replace hl126 := hl126.fut F
  replace F0 := F0.trans F
  clear F
  clear hl126
  clear hT87
  go_wp2_with fail
  refine (s64_any _).mono ?_
  rintro _ wx53 ⟨as128, cs129, rfl, gs130, hs127, F⟩
  replace F0 := F0.trans F
  clear F
  go_wp2_with fail
  refine (z65_any _).mono ?_
  rintro _ wx54 ⟨ay135, cy136, at137, ct138, rfl, gy133, gt134, hy131, ht132, F⟩
  replace hs127 := hs127.fut F
  replace F0 := F0.trans F
  clear F
  go_wp2_with fail
  have hl139 := ints_new wx54 [4]
  have FB : Fut wx54 (wx54.alloc (.cells #[.int .i64 4] 3)) := Fut.alloc _ _
  replace hs127 := hs127.fut FB
  replace hy131 := hy131.fut FB
  replace ht132 := ht132.fut FB
  replace F0 := F0.trans FB
  clear FB
  refine (ex_id _ _).mono ?_
  rintro _ wx55 ⟨rfl, F⟩
  replace hs127 := hs127.fut F
  replace hy131 := hy131.fut F
  replace ht132 := ht132.fut F
  replace hl139 := hl139.fut F
  replace F0 := F0.trans F
  clear F
  go_wp2_with fail
  refine (ex_e (proves_any 3 3 _ _ [3, 5] _ _ [0, 1] _ _ [7, 8] _ _ [4] _ (in_pq hs127 hy131 ht132 (by decide) gy133 gt134) (by decide) hl139 (by decide)) 0 v_prv1).mono ?_
  rintro _ wx56 ⟨rfl, F⟩
  replace hs127 := hs127.fut F
  replace hy131 := hy131.fut F
  replace ht132 := ht132.fut F
  replace hl139 := hl139.fut F
  replace F0 := F0.trans F
  clear F
  clear hs127
  clear hy131
  clear ht132
  clear hl139
  go_wp2_with fail
  refine (s64_any _).mono ?_
  rintro _ wx57 ⟨as141, cs142, rfl, gs143, hs140, F⟩
  replace F0 := F0.trans F
  clear F
  go_wp2_with fail
  refine (z65_any _).mono ?_
  rintro _ wx58 ⟨ay148, cy149, at150, ct151, rfl, gy146, gt147, hy144, ht145, F⟩
  replace hs140 := hs140.fut F
  replace F0 := F0.trans F
  clear F
  go_wp2_with fail
  have hl152 := ints_new wx58 [8]
  have FB : Fut wx58 (wx58.alloc (.cells #[.int .i64 8] 3)) := Fut.alloc _ _
  replace hs140 := hs140.fut FB
  replace hy144 := hy144.fut FB
  replace ht145 := ht145.fut FB
  replace F0 := F0.trans FB
  clear FB
  refine (ex_id _ _).mono ?_
  rintro _ wx59 ⟨rfl, F⟩
  replace hs140 := hs140.fut F
  replace hy144 := hy144.fut F
  replace ht145 := ht145.fut F
  replace hl152 := hl152.fut F
  replace F0 := F0.trans F
  clear F
  go_wp2_with fail
  refine (ex_e (proves_any 3 3 _ _ [3, 5] _ _ [0, 1] _ _ [7, 8] _ _ [8] _ (in_pq hs140 hy144 ht145 (by decide) gy146 gt147) (by decide) hl152 (by decide)) 14 v_prv2).mono ?_
  rintro _ wx60 ⟨rfl, F⟩
  replace hs140 := hs140.fut F
  replace hy144 := hy144.fut F
  replace ht145 := ht145.fut F
  replace hl152 := hl152.fut F
  replace F0 := F0.trans F
  clear F
  clear hs140
  clear hy144
  clear ht145
  clear hl152
  go_wp2_with fail
  refine (p61_any _).mono ?_
  rintro _ wx61 ⟨rfl, F⟩
  replace F0 := F0.trans F
  clear F
  go_wp2_with fail
  refine (x62_any _).mono ?_
  rintro _ wx62 ⟨ay157, cy158, at159, ct160, rfl, gy155, gt156, hy153, ht154, F⟩
  replace F0 := F0.trans F
  clear F
  go_wp2_with fail
  have hl161 := ints_new wx62 [1, 4, 5]
  have FB : Fut wx62 (wx62.alloc (.cells #[.int .i64 1, .int .i64 4, .int .i64 5] 3)) := Fut.alloc _ _
  replace hy153 := hy153.fut FB
  replace ht154 := ht154.fut FB
  replace F0 := F0.trans FB
  clear FB
  refine (ex_id _ _).mono ?_
  rintro _ wx63 ⟨rfl, F⟩
  replace hy153 := hy153.fut F
  replace ht154 := ht154.fut F
  replace hl161 := hl161.fut F
  replace F0 := F0.trans F
  clear F
  go_wp2_with fail
  have hl162 := ints_new wx63 [3, 4, 7]
  have FB : Fut wx63 (wx63.alloc (.cells #[.int .i64 3, .int .i64 4, .int .i64 7] 3)) := Fut.alloc _ _
  replace hy153 := hy153.fut FB
  replace ht154 := ht154.fut FB
  replace hl161 := hl161.fut FB
  replace F0 := F0.trans FB
  clear FB
  refine (ex_id _ _).mono ?_
  rintro _ wx64 ⟨rfl, F⟩
  replace hy153 := hy153.fut F
  replace ht154 := ht154.fut F
  replace hl161 := hl161.fut F
  replace hl162 := hl162.fut F
  replace F0 := F0.trans F
  clear F
  go_wp2_with fail
  have hf163 := pair_new hl161 hl162 (lc := 3) (kc := 3) (by decide) (by decide)
  have FB : Fut wx64 (wx64.alloc (.cells #[.slice (some ⟨wx62.heap.size, 0, none⟩) 3 3, .slice (some ⟨wx63.heap.size, 0, none⟩) 3 3] 22)) := Fut.alloc _ _
  clear hl161
  clear hl162
  replace hy153 := hy153.fut FB
  replace ht154 := ht154.fut FB
  replace F0 := F0.trans FB
  clear FB
  refine (ex_ids _ _).mono ?_
  rintro _ wx65 ⟨rfl, F⟩
  replace hy153 := hy153.fut F
  replace ht154 := ht154.fut F
  replace hf163 := hf163.fut F
  replace F0 := F0.trans F
  clear F
  go_wp2_with fail
  refine (ex_e (apart_any 3 3 _ _ [] _ _ [1, 3] _ _ [5, 7] _ _ [[1, 4, 5], [3, 4, 7]] _ (in_pq (nil_ints _ _) hy153 ht154 (by decide) gy155 gt156) hf163.lst (by decide) (small_lists (by decide))) 13 v_apt1).mono ?_
  rintro _ wx66 ⟨rfl, F⟩
  replace hy153 := hy153.fut F
  replace ht154 := ht154.fut F
  replace hf163 := hf163.fut F
  replace F0 := F0.trans F
  clear F
  clear hy153
  clear ht154
  clear hf163
  go_wp2
  go_ret
  exact ⟨rfl, F0⟩
end Go.Proofs.Ytflllkamdihfaaa
