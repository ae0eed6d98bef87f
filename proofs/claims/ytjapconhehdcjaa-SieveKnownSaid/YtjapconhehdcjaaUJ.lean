/- known 16 -/
import Derived.Test.YtjapconhehdcjaaUH
namespace Go.Proofs.Ytjapconhehdcjaa
open Go.RowKit Go.Sort
theorem k_b1 : bestE [1, 2, 3] = [1, 0] := by decide +kernel
theorem k_b2 : bestE [1, 1, 1] = [0, 1] := by decide +kernel
theorem k_l1 : leastE [1, 2, 3] = 9 := by decide +kernel
theorem k_l2 : leastE [1, 1, 1] = 5 := by decide +kernel
theorem k_n1 : countE [1, 2, 3] = 1 := by decide +kernel
theorem k_n2 : countE [1, 1, 1] = 2 := by decide +kernel
theorem k_t1 : topsE [1, 2, 3] = (1, 1) := by decide +kernel
theorem k_l3 : leastE [1, 9, 1] = 21 := by decide +kernel
theorem k_r1 : treeE 4 0 = [0, 1, 2] := by decide +kernel
theorem k_r2 : treeE 4 4 = [2, 1, 0] := by decide +kernel
theorem k_r3 : treeE 1 0 = [] := by decide +kernel
theorem k_s1 : askedE 4 [0, 2, 1] 0 = [0] := by decide +kernel
theorem k_s2 : askedE 4 [0, 2, 1] 4 = [] := by decide +kernel
theorem k_q1 : questE [1, 2, 3] [1, 0] = 9 := by decide +kernel
theorem k_q2 : questE [1, 2, 3] [0] = 0 := by decide +kernel
theorem k_m1 : madeE [0] = [] := by decide +kernel
theorem k_m2 : madeE [1, 1, 1] = [] := by decide +kernel
theorem k_m3 : madeE [0, 2] = [] := by decide +kernel
theorem k_b1c : chkL [1, 2, 3] = 0 := by decide +kernel
theorem k_b2c : chkL [1, 1, 1] = 0 := by decide +kernel
theorem k_l1c : chkL [1, 2, 3] = 0 := by decide +kernel
theorem k_l2c : chkL [1, 1, 1] = 0 := by decide +kernel
theorem k_n1c : chkL [1, 2, 3] = 0 := by decide +kernel
theorem k_n2c : chkL [1, 1, 1] = 0 := by decide +kernel
theorem k_t1c : topsC [1, 2, 3] = 0 := by decide +kernel
theorem k_l3c : chkL [1, 9, 1] = 0 := by decide +kernel
theorem k_r1c : treeC 4 0 = 0 := by decide +kernel
theorem k_r2c : treeC 4 4 = 0 := by decide +kernel
theorem k_r3c : treeC 1 0 = 0 := by decide +kernel
theorem k_s1c : askedC 4 [0, 2, 1] 0 = 0 := by decide +kernel
theorem k_s2c : askedC 4 [0, 2, 1] 4 = 2 := by decide +kernel
theorem k_q1c : questC [1, 2, 3] [1, 0] = 0 := by decide +kernel
theorem k_q2c : questC [1, 2, 3] [0] = 5 := by decide +kernel
theorem k_m1c : madeC [0] = 0 := by decide +kernel
theorem k_m2c : madeC [1, 1, 1] = 12 := by decide +kernel
theorem k_m3c : madeC [0, 2] = 1 := by decide +kernel
theorem k_v1 : validE 3 [0] = 5 := by decide +kernel
theorem k_a1 : anyE [1, 2, 3] = 9 := by
  unfold anyE
  rw [if_pos k_l1c]
  show Sv.huf (2 + 1) [1, 2, 3] = 9
  rw [Sv.huf_step 2 (x := 1) (y := 2) (r := [3]) (by decide) (by decide) (by decide)]
  show (1 + 2 : Int) + Sv.huf (1 + 1) [3, 3] = 9
  rw [Sv.huf_step 1 (x := 3) (y := 3) (r := []) (by decide) (by decide) (by decide), Sv.huf_one 1 rfl]
  rfl
set_option maxRecDepth 100000 in
set_option maxHeartbeats 16000000 in
theorem known_any (w : World) : Calls Try.prog 16 #[] w fun e w' => e = .returned (.bool true) ∧ Fut w w' := by
  have F0 : Fut w w := Fut.rfl
  go_enter Try.func16, Try.ntmps16
  go_wp2_with fail
  have hp := ints_new w [1, 2, 3]
  have FB : Fut w (w.alloc (.cells #[.int .i64 1, .int .i64 2, .int .i64 3] 3)) := Fut.alloc _ _
  replace F0 := F0.trans FB
  clear FB
  refine (ex_id _ _).mono ?_
  rintro _ wx1 ⟨rfl, F⟩
  replace hp := hp.fut F
  replace F0 := F0.trans F
  clear F
  go_wp2_with fail
  refine (ex_K (best18W _ _ [1, 2, 3] _ hp (by decide) (by decide)) 0 [1, 0] k_b1c k_b1).mono ?_
  rintro _ wx2 ⟨lha, cha, rfl, _, ha, F⟩
  replace hp := hp.fut F
  replace F0 := F0.trans F
  clear F
  clear hp
  go_wp2_with fail
  have hp := ints_new wx2 [1, 1, 1]
  have FB : Fut wx2 (wx2.alloc (.cells #[.int .i64 1, .int .i64 1, .int .i64 1] 3)) := Fut.alloc _ _
  replace ha := ha.fut FB
  replace F0 := F0.trans FB
  clear FB
  refine (ex_id _ _).mono ?_
  rintro _ wx3 ⟨rfl, F⟩
  replace ha := ha.fut F
  replace hp := hp.fut F
  replace F0 := F0.trans F
  clear F
  go_wp2_with fail
  refine (ex_K (best18W _ _ [1, 1, 1] _ hp (by decide) (by decide)) 0 [0, 1] k_b2c k_b2).mono ?_
  rintro _ wx4 ⟨lhb, chb, rfl, _, hb, F⟩
  replace ha := ha.fut F
  replace hp := hp.fut F
  replace F0 := F0.trans F
  clear F
  clear hp
  go_wp2_with fail
  have hp := ints_new wx4 [1, 2, 3]
  have FB : Fut wx4 (wx4.alloc (.cells #[.int .i64 1, .int .i64 2, .int .i64 3] 3)) := Fut.alloc _ _
  replace ha := ha.fut FB
  replace hb := hb.fut FB
  replace F0 := F0.trans FB
  clear FB
  refine (ex_id _ _).mono ?_
  rintro _ wx5 ⟨rfl, F⟩
  replace ha := ha.fut F
  replace hb := hb.fut F
  replace hp := hp.fut F
  replace F0 := F0.trans F
  clear F
  go_wp2_with fail
  refine (ex_2 (least_any _ _ [1, 2, 3] _ hp (by decide) (by decide)) 9 0 k_l1 k_l1c).mono ?_
  rintro _ wx6 ⟨rfl, F⟩
  replace ha := ha.fut F
  replace hb := hb.fut F
  replace hp := hp.fut F
  replace F0 := F0.trans F
  clear F
  clear hp
  go_wp2_with fail
  have hp := ints_new wx6 [1, 1, 1]
  have FB : Fut wx6 (wx6.alloc (.cells #[.int .i64 1, .int .i64 1, .int .i64 1] 3)) := Fut.alloc _ _
  replace ha := ha.fut FB
  replace hb := hb.fut FB
  replace F0 := F0.trans FB
  clear FB
  refine (ex_id _ _).mono ?_
  rintro _ wx7 ⟨rfl, F⟩
  replace ha := ha.fut F
  replace hb := hb.fut F
  replace hp := hp.fut F
  replace F0 := F0.trans F
  clear F
  go_wp2_with fail
  refine (ex_2 (least_any _ _ [1, 1, 1] _ hp (by decide) (by decide)) 5 0 k_l2 k_l2c).mono ?_
  rintro _ wx8 ⟨rfl, F⟩
  replace ha := ha.fut F
  replace hb := hb.fut F
  replace hp := hp.fut F
  replace F0 := F0.trans F
  clear F
  clear hp
  go_wp2_with fail
  have hp := ints_new wx8 [1, 2, 3]
  have FB : Fut wx8 (wx8.alloc (.cells #[.int .i64 1, .int .i64 2, .int .i64 3] 3)) := Fut.alloc _ _
  replace ha := ha.fut FB
  replace hb := hb.fut FB
  replace F0 := F0.trans FB
  clear FB
  refine (ex_id _ _).mono ?_
  rintro _ wx9 ⟨rfl, F⟩
  replace ha := ha.fut F
  replace hb := hb.fut F
  replace hp := hp.fut F
  replace F0 := F0.trans F
  clear F
  go_wp2_with fail
  refine (ex_2 (count_any _ _ [1, 2, 3] _ hp (by decide) (by decide)) 1 0 k_n1 k_n1c).mono ?_
  rintro _ wx10 ⟨rfl, F⟩
  replace ha := ha.fut F
  replace hb := hb.fut F
  replace hp := hp.fut F
  replace F0 := F0.trans F
  clear F
  clear hp
  go_wp2_with fail
  have hp := ints_new wx10 [1, 1, 1]
  have FB : Fut wx10 (wx10.alloc (.cells #[.int .i64 1, .int .i64 1, .int .i64 1] 3)) := Fut.alloc _ _
  replace ha := ha.fut FB
  replace hb := hb.fut FB
  replace F0 := F0.trans FB
  clear FB
  refine (ex_id _ _).mono ?_
  rintro _ wx11 ⟨rfl, F⟩
  replace ha := ha.fut F
  replace hb := hb.fut F
  replace hp := hp.fut F
  replace F0 := F0.trans F
  clear F
  go_wp2_with fail
  refine (ex_2 (count_any _ _ [1, 1, 1] _ hp (by decide) (by decide)) 2 0 k_n2 k_n2c).mono ?_
  rintro _ wx12 ⟨rfl, F⟩
  replace ha := ha.fut F
  replace hb := hb.fut F
  replace hp := hp.fut F
  replace F0 := F0.trans F
  clear F
  clear hp
  go_wp2_with fail
  have hp := ints_new wx12 [1, 2, 3]
  have FB : Fut wx12 (wx12.alloc (.cells #[.int .i64 1, .int .i64 2, .int .i64 3] 3)) := Fut.alloc _ _
  replace ha := ha.fut FB
  replace hb := hb.fut FB
  replace F0 := F0.trans FB
  clear FB
  refine (ex_id _ _).mono ?_
  rintro _ wx13 ⟨rfl, F⟩
  replace ha := ha.fut F
  replace hb := hb.fut F
  replace hp := hp.fut F
  replace F0 := F0.trans F
  clear F
  go_wp2_with fail
  refine (ex_3 (tops_any _ _ [1, 2, 3] _ hp (by decide) (by decide)) (1, 1) 0 k_t1 k_t1c).mono ?_
  rintro _ wx14 ⟨rfl, F⟩
  replace ha := ha.fut F
  replace hb := hb.fut F
  replace hp := hp.fut F
  replace F0 := F0.trans F
  clear F
  clear hp
  go_wp2_with fail
  have hp := ints_new wx14 [1, 0]
  have FB : Fut wx14 (wx14.alloc (.cells #[.int .i64 1, .int .i64 0] 3)) := Fut.alloc _ _
  replace ha := ha.fut FB
  replace hb := hb.fut FB
  replace F0 := F0.trans FB
  clear FB
  refine (ex_id _ _).mono ?_
  rintro _ wx15 ⟨rfl, F⟩
  replace ha := ha.fut F
  replace hb := hb.fut F
  replace hp := hp.fut F
  replace F0 := F0.trans F
  clear F
  go_wp2_with fail
  refine (ex_same [1, 0] [1, 0] ha hp ⟨by decide, by decide⟩ true (by decide)).mono ?_
  rintro _ wx16 ⟨rfl, F⟩
  replace ha := ha.fut F
  replace hb := hb.fut F
  replace hp := hp.fut F
  replace F0 := F0.trans F
  clear F
  clear hp
  clear ha
  go_wp2_with fail
  have hp := ints_new wx16 [0, 1]
  have FB : Fut wx16 (wx16.alloc (.cells #[.int .i64 0, .int .i64 1] 3)) := Fut.alloc _ _
  replace hb := hb.fut FB
  replace F0 := F0.trans FB
  clear FB
  refine (ex_id _ _).mono ?_
  rintro _ wx17 ⟨rfl, F⟩
  replace hb := hb.fut F
  replace hp := hp.fut F
  replace F0 := F0.trans F
  clear F
  go_wp2_with fail
  refine (ex_same [0, 1] [0, 1] hb hp ⟨by decide, by decide⟩ true (by decide)).mono ?_
  rintro _ wx18 ⟨rfl, F⟩
  replace hb := hb.fut F
  replace hp := hp.fut F
  replace F0 := F0.trans F
  clear F
  clear hp
  clear hb
  go_wp2_with fail
  have hp := ints_new wx18 [1, 9, 1]
  have FB : Fut wx18 (wx18.alloc (.cells #[.int .i64 1, .int .i64 9, .int .i64 1] 3)) := Fut.alloc _ _
  replace F0 := F0.trans FB
  clear FB
  refine (ex_id _ _).mono ?_
  rintro _ wx19 ⟨rfl, F⟩
  replace hp := hp.fut F
  replace F0 := F0.trans F
  clear F
  go_wp2_with fail
  refine (ex_2 (least_any _ _ [1, 9, 1] _ hp (by decide) (by decide)) 21 0 k_l3 k_l3c).mono ?_
  rintro _ wx20 ⟨rfl, F⟩
  replace hp := hp.fut F
  replace F0 := F0.trans F
  clear F
  clear hp
  go_wp2_with fail
  have hp := ints_new wx20 [1, 2, 3]
  have FB : Fut wx20 (wx20.alloc (.cells #[.int .i64 1, .int .i64 2, .int .i64 3] 3)) := Fut.alloc _ _
  replace F0 := F0.trans FB
  clear FB
  refine (ex_id _ _).mono ?_
  rintro _ wx21 ⟨rfl, F⟩
  replace hp := hp.fut F
  replace F0 := F0.trans F
  clear F
  go_wp2_with fail
  refine (ex_2 (any_any _ _ [1, 2, 3] _ hp (by decide)) 9 0 k_a1 k_l1c).mono ?_
  rintro _ wx22 ⟨rfl, F⟩
  replace hp := hp.fut F
  replace F0 := F0.trans F
  clear F
  clear hp
  go_wp2_with fail
  refine (ex_K (treeW 4 0 _) 0 [0, 1, 2] k_r1c k_r1).mono ?_
  rintro _ wx23 ⟨lr, cr, rfl, _, hr, F⟩
  replace F0 := F0.trans F
  clear F
  go_wp2_with fail
  refine (ex_K (treeW 4 4 _) 0 [2, 1, 0] k_r2c k_r2).mono ?_
  rintro _ wx24 ⟨ls, cs, rfl, _, hs, F⟩
  replace hr := hr.fut F
  replace F0 := F0.trans F
  clear F
  go_wp2_with fail
  refine (ex_K (treeW 1 0 _) 0 [] k_r3c k_r3).mono ?_
  rintro _ wx25 ⟨lt, ct, rfl, _, _, F⟩
  replace hr := hr.fut F
  replace hs := hs.fut F
  replace F0 := F0.trans F
  clear F
  go_wp2_with fail
  have hp := ints_new wx25 [0, 2, 1]
  have FB : Fut wx25 (wx25.alloc (.cells #[.int .i64 0, .int .i64 2, .int .i64 1] 3)) := Fut.alloc _ _
  replace hr := hr.fut FB
  replace hs := hs.fut FB
  replace F0 := F0.trans FB
  clear FB
  refine (ex_id _ _).mono ?_
  rintro _ wx26 ⟨rfl, F⟩
  replace hr := hr.fut F
  replace hs := hs.fut F
  replace hp := hp.fut F
  replace F0 := F0.trans F
  clear F
  go_wp2_with fail
  refine (ex_L (asked39_any 4 _ _ [0, 2, 1] 0 _ hp (by decide) (by decide)) 0 [0] k_s1c k_s1).mono ?_
  rintro _ wx27 ⟨lu, cu, rfl, hu, F⟩
  replace hr := hr.fut F
  replace hs := hs.fut F
  replace hp := hp.fut F
  replace F0 := F0.trans F
  clear F
  clear hp
  go_wp2_with fail
  have hp := ints_new wx27 [0, 2, 1]
  have FB : Fut wx27 (wx27.alloc (.cells #[.int .i64 0, .int .i64 2, .int .i64 1] 3)) := Fut.alloc _ _
  replace hr := hr.fut FB
  replace hs := hs.fut FB
  replace hu := hu.fut FB
  replace F0 := F0.trans FB
  clear FB
  refine (ex_id _ _).mono ?_
  rintro _ wx28 ⟨rfl, F⟩
  replace hr := hr.fut F
  replace hs := hs.fut F
  replace hu := hu.fut F
  replace hp := hp.fut F
  replace F0 := F0.trans F
  clear F
  go_wp2_with fail
  refine (ex_L (asked39_any 4 _ _ [0, 2, 1] 4 _ hp (by decide) (by decide)) 2 [] k_s2c k_s2).mono ?_
  rintro _ wx29 ⟨lu2, cu2, rfl, _, F⟩
  replace hr := hr.fut F
  replace hs := hs.fut F
  replace hu := hu.fut F
  replace hp := hp.fut F
  replace F0 := F0.trans F
  clear F
  clear hp
  go_wp2_with fail
  have hp := ints_new wx29 [1, 2, 3]
  have FB : Fut wx29 (wx29.alloc (.cells #[.int .i64 1, .int .i64 2, .int .i64 3] 3)) := Fut.alloc _ _
  replace hr := hr.fut FB
  replace hs := hs.fut FB
  replace hu := hu.fut FB
  replace F0 := F0.trans FB
  clear FB
  refine (ex_id _ _).mono ?_
  rintro _ wx30 ⟨rfl, F⟩
  replace hr := hr.fut F
  replace hs := hs.fut F
  replace hu := hu.fut F
  replace hp := hp.fut F
  replace F0 := F0.trans F
  clear F
  go_wp2_with fail
  have hq := ints_new wx30 [1, 0]
  have FB : Fut wx30 (wx30.alloc (.cells #[.int .i64 1, .int .i64 0] 3)) := Fut.alloc _ _
  replace hr := hr.fut FB
  replace hs := hs.fut FB
  replace hu := hu.fut FB
  replace hp := hp.fut FB
  replace F0 := F0.trans FB
  clear FB
  refine (ex_id _ _).mono ?_
  rintro _ wx31 ⟨rfl, F⟩
  replace hr := hr.fut F
  replace hs := hs.fut F
  replace hu := hu.fut F
  replace hp := hp.fut F
  replace hq := hq.fut F
  replace F0 := F0.trans F
  clear F
  go_wp2_with fail
  refine (ex_2 (quest_any _ _ [1, 2, 3] _ _ [1, 0] _ hp hq (by decide) (by decide) (by decide)) 9 0 k_q1 k_q1c).mono ?_
  rintro _ wx32 ⟨rfl, F⟩
  replace hr := hr.fut F
  replace hs := hs.fut F
  replace hu := hu.fut F
  replace hp := hp.fut F
  replace hq := hq.fut F
  replace F0 := F0.trans F
  clear F
  clear hp
  clear hq
  go_wp2_with fail
  have hp := ints_new wx32 [1, 2, 3]
  have FB : Fut wx32 (wx32.alloc (.cells #[.int .i64 1, .int .i64 2, .int .i64 3] 3)) := Fut.alloc _ _
  replace hr := hr.fut FB
  replace hs := hs.fut FB
  replace hu := hu.fut FB
  replace F0 := F0.trans FB
  clear FB
  refine (ex_id _ _).mono ?_
  rintro _ wx33 ⟨rfl, F⟩
  replace hr := hr.fut F
  replace hs := hs.fut F
  replace hu := hu.fut F
  replace hp := hp.fut F
  replace F0 := F0.trans F
  clear F
  go_wp2_with fail
  have hq := ints_new wx33 [0]
  have FB : Fut wx33 (wx33.alloc (.cells #[.int .i64 0] 3)) := Fut.alloc _ _
  replace hr := hr.fut FB
  replace hs := hs.fut FB
  replace hu := hu.fut FB
  replace hp := hp.fut FB
  replace F0 := F0.trans FB
  clear FB
  refine (ex_id _ _).mono ?_
  rintro _ wx34 ⟨rfl, F⟩
  replace hr := hr.fut F
  replace hs := hs.fut F
  replace hu := hu.fut F
  replace hp := hp.fut F
  replace hq := hq.fut F
  replace F0 := F0.trans F
  clear F
  go_wp2_with fail
  refine (ex_2 (quest_any _ _ [1, 2, 3] _ _ [0] _ hp hq (by decide) (by decide) (by decide)) 0 5 k_q2 k_q2c).mono ?_
  rintro _ wx35 ⟨rfl, F⟩
  replace hr := hr.fut F
  replace hs := hs.fut F
  replace hu := hu.fut F
  replace hp := hp.fut F
  replace hq := hq.fut F
  replace F0 := F0.trans F
  clear F
  clear hp
  clear hq
  go_wp2_with fail
  have hp := ints_new wx35 [0]
  have FB : Fut wx35 (wx35.alloc (.cells #[.int .i64 0] 3)) := Fut.alloc _ _
  replace hr := hr.fut FB
  replace hs := hs.fut FB
  replace hu := hu.fut FB
  replace F0 := F0.trans FB
  clear FB
  refine (ex_id _ _).mono ?_
  rintro _ wx36 ⟨rfl, F⟩
  replace hr := hr.fut F
  replace hs := hs.fut F
  replace hu := hu.fut F
  replace hp := hp.fut F
  replace F0 := F0.trans F
  clear F
  go_wp2_with fail
  refine (ex_K (made43_any _ _ [0] _ hp (by decide)) 0 [] k_m1c k_m1).mono ?_
  rintro _ wx37 ⟨ly, cy, rfl, _, _, F⟩
  replace hr := hr.fut F
  replace hs := hs.fut F
  replace hu := hu.fut F
  replace hp := hp.fut F
  replace F0 := F0.trans F
  clear F
  clear hp
  go_wp2_with fail
  have hp := ints_new wx37 [1, 1, 1]
  have FB : Fut wx37 (wx37.alloc (.cells #[.int .i64 1, .int .i64 1, .int .i64 1] 3)) := Fut.alloc _ _
  replace hr := hr.fut FB
  replace hs := hs.fut FB
  replace hu := hu.fut FB
  replace F0 := F0.trans FB
  clear FB
  refine (ex_id _ _).mono ?_
  rintro _ wx38 ⟨rfl, F⟩
  replace hr := hr.fut F
  replace hs := hs.fut F
  replace hu := hu.fut F
  replace hp := hp.fut F
  replace F0 := F0.trans F
  clear F
  go_wp2_with fail
  refine (ex_K (made43_any _ _ [1, 1, 1] _ hp (by decide)) 12 [] k_m2c k_m2).mono ?_
  rintro _ wx39 ⟨ly2, cy2, rfl, _, _, F⟩
  replace hr := hr.fut F
  replace hs := hs.fut F
  replace hu := hu.fut F
  replace hp := hp.fut F
  replace F0 := F0.trans F
  clear F
  clear hp
  go_wp2_with fail
  have hp := ints_new wx39 [0, 2]
  have FB : Fut wx39 (wx39.alloc (.cells #[.int .i64 0, .int .i64 2] 3)) := Fut.alloc _ _
  replace hr := hr.fut FB
  replace hs := hs.fut FB
  replace hu := hu.fut FB
  replace F0 := F0.trans FB
  clear FB
  refine (ex_id _ _).mono ?_
  rintro _ wx40 ⟨rfl, F⟩
  replace hr := hr.fut F
  replace hs := hs.fut F
  replace hu := hu.fut F
  replace hp := hp.fut F
  replace F0 := F0.trans F
  clear F
  go_wp2_with fail
  refine (ex_K (made43_any _ _ [0, 2] _ hp (by decide)) 1 [] k_m3c k_m3).mono ?_
  rintro _ wx41 ⟨ly3, cy3, rfl, _, _, F⟩
  replace hr := hr.fut F
  replace hs := hs.fut F
  replace hu := hu.fut F
  replace hp := hp.fut F
  replace F0 := F0.trans F
  clear F
  clear hp
  go_wp2_with fail
  have hp := ints_new wx41 [0, 1, 2]
  have FB : Fut wx41 (wx41.alloc (.cells #[.int .i64 0, .int .i64 1, .int .i64 2] 3)) := Fut.alloc _ _
  replace hr := hr.fut FB
  replace hs := hs.fut FB
  replace hu := hu.fut FB
  replace F0 := F0.trans FB
  clear FB
  refine (ex_id _ _).mono ?_
  rintro _ wx42 ⟨rfl, F⟩
  replace hr := hr.fut F
  replace hs := hs.fut F
  replace hu := hu.fut F
  replace hp := hp.fut F
  replace F0 := F0.trans F
  clear F
  go_wp2_with fail
  refine (ex_same [0, 1, 2] [0, 1, 2] hr hp ⟨by decide, by decide⟩ true (by decide)).mono ?_
  rintro _ wx43 ⟨rfl, F⟩
  replace hr := hr.fut F
  replace hs := hs.fut F
  replace hu := hu.fut F
  replace hp := hp.fut F
  replace F0 := F0.trans F
  clear F
  clear hp
  clear hr
  go_wp2_with fail
  have hp := ints_new wx43 [2, 1, 0]
  have FB : Fut wx43 (wx43.alloc (.cells #[.int .i64 2, .int .i64 1, .int .i64 0] 3)) := Fut.alloc _ _
  replace hs := hs.fut FB
  replace hu := hu.fut FB
  replace F0 := F0.trans FB
  clear FB
  refine (ex_id _ _).mono ?_
  rintro _ wx44 ⟨rfl, F⟩
  replace hs := hs.fut F
  replace hu := hu.fut F
  replace hp := hp.fut F
  replace F0 := F0.trans F
  clear F
  go_wp2_with fail
  refine (ex_same [2, 1, 0] [2, 1, 0] hs hp ⟨by decide, by decide⟩ true (by decide)).mono ?_
  rintro _ wx45 ⟨rfl, F⟩
  replace hs := hs.fut F
  replace hu := hu.fut F
  replace hp := hp.fut F
  replace F0 := F0.trans F
  clear F
  clear hp
  clear hs
  go_wp2_with fail
  have hp := ints_new wx45 [0]
  have FB : Fut wx45 (wx45.alloc (.cells #[.int .i64 0] 3)) := Fut.alloc _ _
  replace hu := hu.fut FB
  replace F0 := F0.trans FB
  clear FB
  refine (ex_id _ _).mono ?_
  rintro _ wx46 ⟨rfl, F⟩
  replace hu := hu.fut F
  replace hp := hp.fut F
  replace F0 := F0.trans F
  clear F
  go_wp2_with fail
  refine (ex_same [0] [0] hu hp ⟨by decide, by decide⟩ true (by decide)).mono ?_
  rintro _ wx47 ⟨rfl, F⟩
  replace hu := hu.fut F
  replace hp := hp.fut F
  replace F0 := F0.trans F
  clear F
  clear hp
  clear hu
  go_wp2_with fail
  have hp := ints_new wx47 [0]
  have FB : Fut wx47 (wx47.alloc (.cells #[.int .i64 0] 3)) := Fut.alloc _ _
  replace F0 := F0.trans FB
  clear FB
  refine (ex_id _ _).mono ?_
  rintro _ wx48 ⟨rfl, F⟩
  replace hp := hp.fut F
  replace F0 := F0.trans F
  clear F
  go_wp2_with fail
  refine (ex_1 (valid_any 3 _ _ [0] _ hp (by decide) (by decide)) 5 k_v1).mono ?_
  rintro _ wx49 ⟨rfl, F⟩
  replace hp := hp.fut F
  replace F0 := F0.trans F
  clear F
  clear hp
  go_wp2_with fail
  refine (ex_chk [] (nil_ints _ _) (by decide) 4 (by decide)).mono ?_
  rintro _ wx50 ⟨rfl, F⟩
  replace F0 := F0.trans F
  clear F
  go_wp2_with fail
  have hp := ints_new wx50 [0]
  have FB : Fut wx50 (wx50.alloc (.cells #[.int .i64 0] 3)) := Fut.alloc _ _
  replace F0 := F0.trans FB
  clear FB
  refine (ex_id _ _).mono ?_
  rintro _ wx51 ⟨rfl, F⟩
  replace hp := hp.fut F
  replace F0 := F0.trans F
  clear F
  go_wp2_with fail
  refine (ex_chk [0] hp (by decide) 1 (by decide)).mono ?_
  rintro _ wx52 ⟨rfl, F⟩
  replace hp := hp.fut F
  replace F0 := F0.trans F
  clear F
  clear hp
  go_wp2_with fail
  have hp := ints_new wx52 [1, 101]
  have FB : Fut wx52 (wx52.alloc (.cells #[.int .i64 1, .int .i64 101] 3)) := Fut.alloc _ _
  replace F0 := F0.trans FB
  clear FB
  refine (ex_id _ _).mono ?_
  rintro _ wx53 ⟨rfl, F⟩
  replace hp := hp.fut F
  replace F0 := F0.trans F
  clear F
  go_wp2_with fail
  refine (ex_chk [1, 101] hp (by decide) 1 (by decide)).mono ?_
  rintro _ wx54 ⟨rfl, F⟩
  replace hp := hp.fut F
  replace F0 := F0.trans F
  clear F
  clear hp
  have hmk : (Instr.makeSlice 22 (.int .i64 9) (.int .i64 9)).run Try.prog wx54 = .ok (.slice (some ⟨wx54.heap.size, 0, none⟩) 9 9) (wx54.alloc (.cells (madeCells #[.int .i64 0] 9) 3)) := mk_row 9 (by decide) wx54
  go_wp2_with fail
  clear hmk
  have hp := own_ints (made_own wx54 9 (by decide)) (oft_len 9 [])
  have FB : Fut wx54 (wx54.alloc (.cells (madeCells #[.int .i64 0] 9) 3)) := Fut.alloc _ _
  replace F0 := F0.trans FB
  clear FB
  refine (ex_chk (oftL 9 []) hp (by decide) 3 (by decide)).mono ?_
  rintro _ wx55 ⟨rfl, F⟩
  replace hp := hp.fut F
  replace F0 := F0.trans F
  clear F
  clear hp
  go_wp2_with fail
  refine (works_any _).mono ?_
  rintro _ wx56 ⟨rfl, F⟩
  replace F0 := F0.trans F
  clear F
  go_wp2_with fail
  go_ret
  exact ⟨rfl, F0⟩
end Go.Proofs.Ytjapconhehdcjaa
