/- works 17 -/
import Derived.Test.YtjapconhehdcjaaMSC
namespace Go.Proofs.Ytjapconhehdcjaa
open Go.RowKit Go.Sort
set_option maxRecDepth 100000 in
set_option maxHeartbeats 8000000 in
theorem works_any (w : World) : Calls Try.prog 17 #[] w fun e w' => e = .returned (.bool true) ∧ Fut w w' := by
  have F0 : Fut w w := Fut.rfl
  go_enter Try.func17, Try.ntmps17
  go_wp2_with fail
  refine (law_L _).mono ?_
  rintro _ wx1 ⟨p, rfl, hp, F⟩
  replace F0 := F0.trans F
  clear F
  go_wp2_with fail
  refine (ex_K (best18W _ _ [4, 1, 1, 4] _ hp (by decide) (by decide)) 0 [0, 2, 1] v_c1 v_b1).mono ?_
  rintro _ wx2 ⟨la, ca, rfl, hac, ha, F⟩
  replace hp := hp.fut F
  replace F0 := F0.trans F
  clear F
  clear hp
  go_wp2_with fail
  refine (law_L _).mono ?_
  rintro _ wx3 ⟨p, rfl, hp, F⟩
  replace ha := ha.fut F
  replace F0 := F0.trans F
  clear F
  go_wp2_with fail
  refine (ex_2 (least_any _ _ [4, 1, 1, 4] _ hp (by decide) (by decide)) 18 0 v_l1 v_c1).mono ?_
  rintro _ wx4 ⟨rfl, F⟩
  replace ha := ha.fut F
  replace hp := hp.fut F
  replace F0 := F0.trans F
  clear F
  clear hp
  go_wp2_with fail
  refine (law_L _).mono ?_
  rintro _ wx5 ⟨p, rfl, hp, F⟩
  replace ha := ha.fut F
  replace F0 := F0.trans F
  clear F
  go_wp2_with fail
  refine (ex_2 (count_any _ _ [4, 1, 1, 4] _ hp (by decide) (by decide)) 2 0 v_n1 v_c1).mono ?_
  rintro _ wx6 ⟨rfl, F⟩
  replace ha := ha.fut F
  replace hp := hp.fut F
  replace F0 := F0.trans F
  clear F
  clear hp
  go_wp2_with fail
  refine (law_L _).mono ?_
  rintro _ wx7 ⟨p, rfl, hp, F⟩
  replace ha := ha.fut F
  replace F0 := F0.trans F
  clear F
  go_wp2_with fail
  refine (ex_3 (tops_any _ _ [4, 1, 1, 4] _ hp (by decide) (by decide)) (0, 2) 0 v_t1 v_t2).mono ?_
  rintro _ wx8 ⟨rfl, F⟩
  replace ha := ha.fut F
  replace hp := hp.fut F
  replace F0 := F0.trans F
  clear F
  clear hp
  go_wp2_with fail
  have hp := ints_new wx8 [1, 9, 1]
  have FB : Fut wx8 (wx8.alloc (.cells #[.int .i64 1, .int .i64 9, .int .i64 1] 3)) := Fut.alloc _ _
  replace ha := ha.fut FB
  replace F0 := F0.trans FB
  clear FB
  refine (ex_id _ _).mono ?_
  rintro _ wx9 ⟨rfl, F⟩
  replace ha := ha.fut F
  replace hp := hp.fut F
  replace F0 := F0.trans F
  clear F
  go_wp2_with fail
  refine (ex_2 (any_any _ _ [1, 9, 1] _ hp (by decide)) 13 0 v_a1 v_c2).mono ?_
  rintro _ wx10 ⟨rfl, F⟩
  replace ha := ha.fut F
  replace hp := hp.fut F
  replace F0 := F0.trans F
  clear F
  clear hp
  go_wp2_with fail
  refine (ex_2 (trees_any 4 _) 5 0 v_k1 v_k2).mono ?_
  rintro _ wx11 ⟨rfl, F⟩
  replace ha := ha.fut F
  replace F0 := F0.trans F
  clear F
  go_wp2_with fail
  refine (ex_K (treeW 4 2 _) 0 [1, 0, 2] v_r2 v_r1).mono ?_
  rintro _ wx12 ⟨lo, co, rfl, _, ho, F⟩
  replace ha := ha.fut F
  replace F0 := F0.trans F
  clear F
  go_wp2_with fail
  refine (ex_L (depths37_any 4 _ _ [0, 2, 1] _ ha hac (by decide)) 0 [1, 3, 3, 2] v_d2 v_d1).mono ?_
  rintro _ wx13 ⟨lp, cp, rfl, hq, F⟩
  replace ha := ha.fut F
  replace ho := ho.fut F
  replace F0 := F0.trans F
  clear F
  go_wp2_with fail
  refine (ex_L (asked39_any 4 _ _ [0, 2, 1] 2 _ ha hac (by decide)) 0 [0, 2, 1] v_s2 v_s1).mono ?_
  rintro _ wx14 ⟨lq, cq, rfl, hs, F⟩
  replace ha := ha.fut F
  replace ho := ho.fut F
  replace hq := hq.fut F
  replace F0 := F0.trans F
  clear F
  go_wp2_with fail
  have hp := ints_new wx14 [1, 2, 3]
  have FB : Fut wx14 (wx14.alloc (.cells #[.int .i64 1, .int .i64 2, .int .i64 3] 3)) := Fut.alloc _ _
  replace ha := ha.fut FB
  replace ho := ho.fut FB
  replace hq := hq.fut FB
  replace hs := hs.fut FB
  replace F0 := F0.trans FB
  clear FB
  refine (ex_id _ _).mono ?_
  rintro _ wx15 ⟨rfl, F⟩
  replace ha := ha.fut F
  replace ho := ho.fut F
  replace hq := hq.fut F
  replace hs := hs.fut F
  replace hp := hp.fut F
  replace F0 := F0.trans F
  clear F
  go_wp2_with fail
  have hr := ints_new wx15 [0, 1]
  have FB : Fut wx15 (wx15.alloc (.cells #[.int .i64 0, .int .i64 1] 3)) := Fut.alloc _ _
  replace ha := ha.fut FB
  replace ho := ho.fut FB
  replace hq := hq.fut FB
  replace hs := hs.fut FB
  replace hp := hp.fut FB
  replace F0 := F0.trans FB
  clear FB
  refine (ex_id _ _).mono ?_
  rintro _ wx16 ⟨rfl, F⟩
  replace ha := ha.fut F
  replace ho := ho.fut F
  replace hq := hq.fut F
  replace hs := hs.fut F
  replace hp := hp.fut F
  replace hr := hr.fut F
  replace F0 := F0.trans F
  clear F
  go_wp2_with fail
  refine (ex_2 (quest_any _ _ [1, 2, 3] _ _ [0, 1] _ hp hr (by decide) (by decide) (by decide)) 11 0 v_q1 v_q2).mono ?_
  rintro _ wx17 ⟨rfl, F⟩
  replace ha := ha.fut F
  replace ho := ho.fut F
  replace hq := hq.fut F
  replace hs := hs.fut F
  replace hp := hp.fut F
  replace hr := hr.fut F
  replace F0 := F0.trans F
  clear F
  clear hp
  clear hr
  go_wp2_with fail
  refine (ex_K (made43_any _ _ [1, 3, 3, 2] _ hq (by decide)) 0 [0, 2, 1] v_m2 v_m1).mono ?_
  rintro _ wx18 ⟨lm, cm, rfl, _, hm, F⟩
  replace ha := ha.fut F
  replace ho := ho.fut F
  replace hq := hq.fut F
  replace hs := hs.fut F
  replace F0 := F0.trans F
  clear F
  go_wp2_with fail
  have hp := ints_new wx18 [2, 1, 2]
  have FB : Fut wx18 (wx18.alloc (.cells #[.int .i64 2, .int .i64 1, .int .i64 2] 3)) := Fut.alloc _ _
  replace ha := ha.fut FB
  replace ho := ho.fut FB
  replace hq := hq.fut FB
  replace hs := hs.fut FB
  replace hm := hm.fut FB
  replace F0 := F0.trans FB
  clear FB
  refine (ex_id _ _).mono ?_
  rintro _ wx19 ⟨rfl, F⟩
  replace ha := ha.fut F
  replace ho := ho.fut F
  replace hq := hq.fut F
  replace hs := hs.fut F
  replace hm := hm.fut F
  replace hp := hp.fut F
  replace F0 := F0.trans F
  clear F
  go_wp2_with fail
  refine (ex_K (made43_any _ _ [2, 1, 2] _ hp (by decide)) 12 [] v_m4 v_m3).mono ?_
  rintro _ wx20 ⟨lx, cx, rfl, _, _, F⟩
  replace ha := ha.fut F
  replace ho := ho.fut F
  replace hq := hq.fut F
  replace hs := hs.fut F
  replace hm := hm.fut F
  replace hp := hp.fut F
  replace F0 := F0.trans F
  clear F
  clear hp
  go_wp2_with fail
  have hp := ints_new wx20 [7]
  have FB : Fut wx20 (wx20.alloc (.cells #[.int .i64 7] 3)) := Fut.alloc _ _
  replace ha := ha.fut FB
  replace ho := ho.fut FB
  replace hq := hq.fut FB
  replace hs := hs.fut FB
  replace hm := hm.fut FB
  replace F0 := F0.trans FB
  clear FB
  refine (ex_id _ _).mono ?_
  rintro _ wx21 ⟨rfl, F⟩
  replace ha := ha.fut F
  replace ho := ho.fut F
  replace hq := hq.fut F
  replace hs := hs.fut F
  replace hm := hm.fut F
  replace hp := hp.fut F
  replace F0 := F0.trans F
  clear F
  go_wp2_with fail
  refine (ex_3 (tops_any _ _ [7] _ hp (by decide) (by decide)) (0, 0) 2 v_t3 v_t4).mono ?_
  rintro _ wx22 ⟨rfl, F⟩
  replace ha := ha.fut F
  replace ho := ho.fut F
  replace hq := hq.fut F
  replace hs := hs.fut F
  replace hm := hm.fut F
  replace hp := hp.fut F
  replace F0 := F0.trans F
  clear F
  clear hp
  go_wp2_with fail
  refine (ex_L (tree_any 4 5 _) 2 [] v_r4 v_r3).mono ?_
  rintro _ wx23 ⟨ly, cy, rfl, _, F⟩
  replace ha := ha.fut F
  replace ho := ho.fut F
  replace hq := hq.fut F
  replace hs := hs.fut F
  replace hm := hm.fut F
  replace F0 := F0.trans F
  clear F
  go_wp2_with fail
  have hp := ints_new wx23 [0, 2, 1]
  have FB : Fut wx23 (wx23.alloc (.cells #[.int .i64 0, .int .i64 2, .int .i64 1] 3)) := Fut.alloc _ _
  replace ha := ha.fut FB
  replace ho := ho.fut FB
  replace hq := hq.fut FB
  replace hs := hs.fut FB
  replace hm := hm.fut FB
  replace F0 := F0.trans FB
  clear FB
  refine (ex_id _ _).mono ?_
  rintro _ wx24 ⟨rfl, F⟩
  replace ha := ha.fut F
  replace ho := ho.fut F
  replace hq := hq.fut F
  replace hs := hs.fut F
  replace hm := hm.fut F
  replace hp := hp.fut F
  replace F0 := F0.trans F
  clear F
  go_wp2_with fail
  refine (ex_same [0, 2, 1] [0, 2, 1] ha hp ⟨by decide, by decide⟩ true (by decide)).mono ?_
  rintro _ wx25 ⟨rfl, F⟩
  replace ha := ha.fut F
  replace ho := ho.fut F
  replace hq := hq.fut F
  replace hs := hs.fut F
  replace hm := hm.fut F
  replace hp := hp.fut F
  replace F0 := F0.trans F
  clear F
  clear hp
  go_wp2_with fail
  have hp := ints_new wx25 [1, 0, 2]
  have FB : Fut wx25 (wx25.alloc (.cells #[.int .i64 1, .int .i64 0, .int .i64 2] 3)) := Fut.alloc _ _
  replace ha := ha.fut FB
  replace ho := ho.fut FB
  replace hq := hq.fut FB
  replace hs := hs.fut FB
  replace hm := hm.fut FB
  replace F0 := F0.trans FB
  clear FB
  refine (ex_id _ _).mono ?_
  rintro _ wx26 ⟨rfl, F⟩
  replace ha := ha.fut F
  replace ho := ho.fut F
  replace hq := hq.fut F
  replace hs := hs.fut F
  replace hm := hm.fut F
  replace hp := hp.fut F
  replace F0 := F0.trans F
  clear F
  go_wp2_with fail
  refine (ex_same [1, 0, 2] [1, 0, 2] ho hp ⟨by decide, by decide⟩ true (by decide)).mono ?_
  rintro _ wx27 ⟨rfl, F⟩
  replace ha := ha.fut F
  replace ho := ho.fut F
  replace hq := hq.fut F
  replace hs := hs.fut F
  replace hm := hm.fut F
  replace hp := hp.fut F
  replace F0 := F0.trans F
  clear F
  clear hp
  go_wp2_with fail
  have hp := ints_new wx27 [1, 3, 3, 2]
  have FB : Fut wx27 (wx27.alloc (.cells #[.int .i64 1, .int .i64 3, .int .i64 3, .int .i64 2] 3)) := Fut.alloc _ _
  replace ha := ha.fut FB
  replace ho := ho.fut FB
  replace hq := hq.fut FB
  replace hs := hs.fut FB
  replace hm := hm.fut FB
  replace F0 := F0.trans FB
  clear FB
  refine (ex_id _ _).mono ?_
  rintro _ wx28 ⟨rfl, F⟩
  replace ha := ha.fut F
  replace ho := ho.fut F
  replace hq := hq.fut F
  replace hs := hs.fut F
  replace hm := hm.fut F
  replace hp := hp.fut F
  replace F0 := F0.trans F
  clear F
  go_wp2_with fail
  refine (ex_same [1, 3, 3, 2] [1, 3, 3, 2] hq hp ⟨by decide, by decide⟩ true (by decide)).mono ?_
  rintro _ wx29 ⟨rfl, F⟩
  replace ha := ha.fut F
  replace ho := ho.fut F
  replace hq := hq.fut F
  replace hs := hs.fut F
  replace hm := hm.fut F
  replace hp := hp.fut F
  replace F0 := F0.trans F
  clear F
  clear hp
  go_wp2_with fail
  have hp := ints_new wx29 [0, 2, 1]
  have FB : Fut wx29 (wx29.alloc (.cells #[.int .i64 0, .int .i64 2, .int .i64 1] 3)) := Fut.alloc _ _
  replace ha := ha.fut FB
  replace ho := ho.fut FB
  replace hq := hq.fut FB
  replace hs := hs.fut FB
  replace hm := hm.fut FB
  replace F0 := F0.trans FB
  clear FB
  refine (ex_id _ _).mono ?_
  rintro _ wx30 ⟨rfl, F⟩
  replace ha := ha.fut F
  replace ho := ho.fut F
  replace hq := hq.fut F
  replace hs := hs.fut F
  replace hm := hm.fut F
  replace hp := hp.fut F
  replace F0 := F0.trans F
  clear F
  go_wp2_with fail
  refine (ex_same [0, 2, 1] [0, 2, 1] hs hp ⟨by decide, by decide⟩ true (by decide)).mono ?_
  rintro _ wx31 ⟨rfl, F⟩
  replace ha := ha.fut F
  replace ho := ho.fut F
  replace hq := hq.fut F
  replace hs := hs.fut F
  replace hm := hm.fut F
  replace hp := hp.fut F
  replace F0 := F0.trans F
  clear F
  clear hp
  go_wp2_with fail
  refine (ex_same [0, 2, 1] [0, 2, 1] hm ha ⟨by decide, by decide⟩ true (by decide)).mono ?_
  rintro _ wx32 ⟨rfl, F⟩
  replace ha := ha.fut F
  replace ho := ho.fut F
  replace hq := hq.fut F
  replace hs := hs.fut F
  replace hm := hm.fut F
  replace F0 := F0.trans F
  clear F
  go_wp2_with fail
  have hp := ints_new wx32 [0, 1]
  have FB : Fut wx32 (wx32.alloc (.cells #[.int .i64 0, .int .i64 1] 3)) := Fut.alloc _ _
  replace ha := ha.fut FB
  replace ho := ho.fut FB
  replace hq := hq.fut FB
  replace hs := hs.fut FB
  replace hm := hm.fut FB
  replace F0 := F0.trans FB
  clear FB
  refine (ex_id _ _).mono ?_
  rintro _ wx33 ⟨rfl, F⟩
  replace ha := ha.fut F
  replace ho := ho.fut F
  replace hq := hq.fut F
  replace hs := hs.fut F
  replace hm := hm.fut F
  replace hp := hp.fut F
  replace F0 := F0.trans F
  clear F
  go_wp2_with fail
  refine (ex_1 (valid_any 3 _ _ [0, 1] _ hp (by decide) (by decide)) 0 v_v1).mono ?_
  rintro _ wx34 ⟨rfl, F⟩
  replace ha := ha.fut F
  replace ho := ho.fut F
  replace hq := hq.fut F
  replace hs := hs.fut F
  replace hm := hm.fut F
  replace hp := hp.fut F
  replace F0 := F0.trans F
  clear F
  clear hp
  go_wp2_with fail
  have hp := ints_new wx34 [0, 2]
  have FB : Fut wx34 (wx34.alloc (.cells #[.int .i64 0, .int .i64 2] 3)) := Fut.alloc _ _
  replace ha := ha.fut FB
  replace ho := ho.fut FB
  replace hq := hq.fut FB
  replace hs := hs.fut FB
  replace hm := hm.fut FB
  replace F0 := F0.trans FB
  clear FB
  refine (ex_id _ _).mono ?_
  rintro _ wx35 ⟨rfl, F⟩
  replace ha := ha.fut F
  replace ho := ho.fut F
  replace hq := hq.fut F
  replace hs := hs.fut F
  replace hm := hm.fut F
  replace hp := hp.fut F
  replace F0 := F0.trans F
  clear F
  go_wp2_with fail
  refine (ex_1 (valid_any 3 _ _ [0, 2] _ hp (by decide) (by decide)) 5 v_v2).mono ?_
  rintro _ wx36 ⟨rfl, F⟩
  replace ha := ha.fut F
  replace ho := ho.fut F
  replace hq := hq.fut F
  replace hs := hs.fut F
  replace hm := hm.fut F
  replace hp := hp.fut F
  replace F0 := F0.trans F
  clear F
  clear hp
  go_wp2_with fail
  go_ret
  exact ⟨rfl, F0⟩
end Go.Proofs.Ytjapconhehdcjaa
