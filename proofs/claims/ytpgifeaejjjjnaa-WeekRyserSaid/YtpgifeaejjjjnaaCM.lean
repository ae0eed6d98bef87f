/- what works answers. -/
import Derived.Test.YtpgifeaejjjjnaaCL
namespace Go.Proofs.Ytpgifeaejjjjnaa
open Go.RowKit Go.Sort
theorem ex_filBL : filL 3 [[0, 1], [1, 0]] = [] := by decide
theorem ex_e {f : FuncId} {args : Array Value} {w : World} {r : Int} (h : Calls Try.prog f args w fun e w' => e = .returned (.int .i64 r) ∧ Fut w w') (r0 : Int) (hr : r = r0) : Calls Try.prog f args w fun e w' => e = .returned (.int .i64 r0) ∧ Fut w w' := by
  subst hr; exact h
set_option maxRecDepth 100000 in
set_option maxHeartbeats 8000000 in
theorem works_any (w : World) : Calls Try.prog 17 #[] w fun e w' => e = .returned (.bool true) ∧ Fut w w' := by
  have F0 : Fut w w := Fut.rfl
  go_enter Try.func17, Try.ntmps17
  go_wp2_with fail
  refine (lawA _).mono ?_
  rintro _ wx1 ⟨p, rfl, hp, F⟩
  replace F0 := F0.trans F
  clear F
  go_wp2_with fail
  refine (ex_L (free_any 3 _ _ [[0, 1, 2]] _ hp (by decide) (by decide)) 3 0 [[1, 2], [0, 2], [0, 1]] rfl ex_chkA ex_free).mono ?_
  rintro _ wx2 ⟨la, ca, rfl, ha, F⟩
  replace hp := hp.fut F
  replace F0 := F0.trans F
  clear F
  clear hp
  go_wp2_with fail
  refine (lawA _).mono ?_
  rintro _ wx3 ⟨p, rfl, hp, F⟩
  replace ha := ha.fut F
  replace F0 := F0.trans F
  clear F
  go_wp2_with fail
  refine (ex_I (next_any 3 _ _ [[0, 1, 2]] _ hp (by decide) (by decide)) 3 0 [1, 2, 0] rfl ex_opnA ex_nxt).mono ?_
  rintro _ wx4 ⟨lb, cb, rfl, hb, F⟩
  replace ha := ha.fut F
  replace hp := hp.fut F
  replace F0 := F0.trans F
  clear F
  clear hp
  go_wp2_with fail
  refine (ex_R 4 (by omega) (by omega) R4 ex_R4 _).mono ?_
  rintro _ wx5 ⟨b1, o1, c1, rfl, hc1, hm1, hp, F⟩
  replace ha := ha.fut F
  replace hb := hb.fut F
  replace F0 := F0.trans F
  clear F
  have hcx : (2 : Int) ≤ c1 := by omega
  go_wp2_with fail
  refine (ex_N (count26_any 4 _ _ [[0, 1, 2, 3], [1, 2, 3, 0]] _ (hp.take 2) (by show 2 ≤ _; omega) hm1) 0 2 ex_cnt2.1 ex_cnt2.2).mono ?_
  rintro _ wx6 ⟨rfl, F⟩
  replace ha := ha.fut F
  replace hb := hb.fut F
  replace hp := hp.fut F
  replace F0 := F0.trans F
  clear F
  clear hcx hc1 hm1
  clear hp
  go_wp2_with fail
  refine (lawA _).mono ?_
  rintro _ wx7 ⟨p, rfl, hp, F⟩
  replace ha := ha.fut F
  replace hb := hb.fut F
  replace F0 := F0.trans F
  clear F
  go_wp2_with fail
  refine (ex_L (full_any 3 _ _ [[0, 1, 2]] _ hp (by decide) (by decide)) 3 0 R3 rfl ex_chkA (ex_full.trans ex_R3)).mono ?_
  rintro _ wx8 ⟨ld, cd, rfl, hd, F⟩
  replace ha := ha.fut F
  replace hb := hb.fut F
  replace hp := hp.fut F
  replace F0 := F0.trans F
  clear F
  clear hp
  go_wp2_with fail
  have hp := built1 wx8 [1, 2, 0] (by decide)
  have FB : Fut wx8 ((wx8.alloc (.cells #[.int .i64 1, .int .i64 2, .int .i64 0] 3)).alloc (.cells #[.slice (some ⟨wx8.heap.size, 0, none⟩) 3 3] 28)) := (Fut.alloc _ _).trans (Fut.alloc _ _)
  replace ha := ha.fut FB
  replace hb := hb.fut FB
  replace hd := hd.fut FB
  replace F0 := F0.trans FB
  clear FB
  refine (ex_L (turned_any 3 _ _ [[1, 2, 0]] _ hp (by decide) (by decide)) 1 0 [[2, 0, 1]] rfl ex_turnc ex_turn).mono ?_
  rintro _ wx9 ⟨ll, cl, rfl, hl, F⟩
  replace ha := ha.fut F
  replace hb := hb.fut F
  replace hd := hd.fut F
  replace hp := hp.fut F
  replace F0 := F0.trans F
  clear F
  clear hp
  go_wp2_with fail
  refine (lawB _).mono ?_
  rintro _ wx10 ⟨p, rfl, hp, F⟩
  replace ha := ha.fut F
  replace hb := hb.fut F
  replace hd := hd.fut F
  replace hl := hl.fut F
  replace F0 := F0.trans F
  clear F
  go_wp2_with fail
  refine (ex_N (why_any 3 _ _ [[0, 1], [1, 0]] _ hp (by decide) (by decide)) 0 2 ex_whyB.2 ex_whyB.1).mono ?_
  rintro _ wx11 ⟨rfl, F⟩
  replace ha := ha.fut F
  replace hb := hb.fut F
  replace hd := hd.fut F
  replace hl := hl.fut F
  replace hp := hp.fut F
  replace F0 := F0.trans F
  clear F
  clear hp
  go_wp2_with fail
  refine (lawC _).mono ?_
  rintro _ wx12 ⟨p, rfl, hp, F⟩
  replace ha := ha.fut F
  replace hb := hb.fut F
  replace hd := hd.fut F
  replace hl := hl.fut F
  replace F0 := F0.trans F
  clear F
  go_wp2_with fail
  refine (ex_L (fillC_any 3 _ _ [[0, 1], [1, 2]] _ hp (by decide) (by decide)) 3 0 R3 rfl ex_filC.1 (ex_filC.2.trans ex_R3)).mono ?_
  rintro _ wx13 ⟨ln, cn, rfl, hn, F⟩
  replace ha := ha.fut F
  replace hb := hb.fut F
  replace hd := hd.fut F
  replace hl := hl.fut F
  replace hp := hp.fut F
  replace F0 := F0.trans F
  clear F
  clear hp
  go_wp2_with fail
  refine (ex_round3 _).mono ?_
  rintro _ wx14 ⟨lo, co, rfl, ho, F⟩
  replace ha := ha.fut F
  replace hb := hb.fut F
  replace hd := hd.fut F
  replace hl := hl.fut F
  replace hn := hn.fut F
  replace F0 := F0.trans F
  clear F
  go_wp2_with fail
  refine (ex_R 3 (by omega) (by omega) R3 ex_R3 _).mono ?_
  rintro _ wx15 ⟨b1, o1, c1, rfl, hc1, hm1, hp, F⟩
  replace ha := ha.fut F
  replace hb := hb.fut F
  replace hd := hd.fut F
  replace hl := hl.fut F
  replace hn := hn.fut F
  replace ho := ho.fut F
  replace F0 := F0.trans F
  clear F
  go_wp2_with fail
  refine (ex_I (cross_any 3 _ _ R3 _ hp hc1 hm1) 3 0 [0, 1, 2] rfl ex_cr3.1 ex_cr3.2).mono ?_
  rintro _ wx16 ⟨lq, cq, rfl, hq, F⟩
  replace ha := ha.fut F
  replace hb := hb.fut F
  replace hd := hd.fut F
  replace hl := hl.fut F
  replace hn := hn.fut F
  replace ho := ho.fut F
  replace hp := hp.fut F
  replace F0 := F0.trans F
  clear F
  clear hc1 hm1
  clear hp
  go_wp2_with fail
  refine (ex_R 3 (by omega) (by omega) R3 ex_R3 _).mono ?_
  rintro _ wx17 ⟨b1, o1, c1, rfl, hc1, hm1, hp, F⟩
  replace ha := ha.fut F
  replace hb := hb.fut F
  replace hd := hd.fut F
  replace hl := hl.fut F
  replace hn := hn.fut F
  replace ho := ho.fut F
  replace hq := hq.fut F
  replace F0 := F0.trans F
  clear F
  go_wp2_with fail
  refine (ex_N (crosses_any 3 _ _ R3 _ hp hc1 hm1) 0 3 ex_crs3.1 ex_crs3.2).mono ?_
  rintro _ wx18 ⟨rfl, F⟩
  replace ha := ha.fut F
  replace hb := hb.fut F
  replace hd := hd.fut F
  replace hl := hl.fut F
  replace hn := hn.fut F
  replace ho := ho.fut F
  replace hq := hq.fut F
  replace hp := hp.fut F
  replace F0 := F0.trans F
  clear F
  clear hc1 hm1
  clear hp
  go_wp2_with fail
  refine (ex_R 4 (by omega) (by omega) R4 ex_R4 _).mono ?_
  rintro _ wx19 ⟨b1, o1, c1, rfl, hc1, hm1, hp, F⟩
  replace ha := ha.fut F
  replace hb := hb.fut F
  replace hd := hd.fut F
  replace hl := hl.fut F
  replace hn := hn.fut F
  replace ho := ho.fut F
  replace hq := hq.fut F
  replace F0 := F0.trans F
  clear F
  go_wp2_with fail
  refine (ex_I (cross_any 4 _ _ R4 _ hp hc1 hm1) 0 12 [] rfl ex_cr4.1 ex_cr4.2).mono ?_
  rintro _ wx20 ⟨lz, cz, rfl, _, F⟩
  replace ha := ha.fut F
  replace hb := hb.fut F
  replace hd := hd.fut F
  replace hl := hl.fut F
  replace hn := hn.fut F
  replace ho := ho.fut F
  replace hq := hq.fut F
  replace hp := hp.fut F
  replace F0 := F0.trans F
  clear F
  clear hc1 hm1
  clear hp
  go_wp2_with fail
  refine (lawB _).mono ?_
  rintro _ wx21 ⟨p, rfl, hp, F⟩
  replace ha := ha.fut F
  replace hb := hb.fut F
  replace hd := hd.fut F
  replace hl := hl.fut F
  replace hn := hn.fut F
  replace ho := ho.fut F
  replace hq := hq.fut F
  replace F0 := F0.trans F
  clear F
  go_wp2_with fail
  refine (ex_L (fillC_any 3 _ _ [[0, 1], [1, 0]] _ hp (by decide) (by decide)) 0 12 [] rfl ex_filB ex_filBL).mono ?_
  rintro _ wx22 ⟨ly, cy, rfl, _, F⟩
  replace ha := ha.fut F
  replace hb := hb.fut F
  replace hd := hd.fut F
  replace hl := hl.fut F
  replace hn := hn.fut F
  replace ho := ho.fut F
  replace hq := hq.fut F
  replace hp := hp.fut F
  replace F0 := F0.trans F
  clear F
  clear hp
  go_wp2_with fail
  refine (lawC _).mono ?_
  rintro _ wx23 ⟨p, rfl, hp, F⟩
  replace ha := ha.fut F
  replace hb := hb.fut F
  replace hd := hd.fut F
  replace hl := hl.fut F
  replace hn := hn.fut F
  replace ho := ho.fut F
  replace hq := hq.fut F
  replace F0 := F0.trans F
  clear F
  go_wp2_with fail
  refine (ex_N (why_any 3 _ _ [[0, 1], [1, 2]] _ hp (by decide) (by decide)) 13 _ ex_whyC rfl).mono ?_
  rintro _ wx24 ⟨rfl, F⟩
  replace ha := ha.fut F
  replace hb := hb.fut F
  replace hd := hd.fut F
  replace hl := hl.fut F
  replace hn := hn.fut F
  replace ho := ho.fut F
  replace hq := hq.fut F
  replace hp := hp.fut F
  replace F0 := F0.trans F
  clear F
  clear hp
  go_wp2_with fail
  refine (lawA _).mono ?_
  rintro _ wx25 ⟨p, rfl, hp, F⟩
  replace ha := ha.fut F
  replace hb := hb.fut F
  replace hd := hd.fut F
  replace hl := hl.fut F
  replace hn := hn.fut F
  replace ho := ho.fut F
  replace hq := hq.fut F
  replace F0 := F0.trans F
  clear F
  go_wp2_with fail
  refine (ex_I (cross_any 3 _ _ [[0, 1, 2]] _ hp (by decide) (by decide)) 0 21 [] rfl ex_crA.1 ex_crA.2).mono ?_
  rintro _ wx26 ⟨lx, cx, rfl, _, F⟩
  replace ha := ha.fut F
  replace hb := hb.fut F
  replace hd := hd.fut F
  replace hl := hl.fut F
  replace hn := hn.fut F
  replace ho := ho.fut F
  replace hq := hq.fut F
  replace hp := hp.fut F
  replace F0 := F0.trans F
  clear F
  clear hp
  go_wp2_with fail
  have hp := built3 wx26 [1, 2] [0, 2] [0, 1] (by decide) (by decide) (by decide)
  have FB : Fut wx26 ((((wx26.alloc (.cells #[.int .i64 1, .int .i64 2] 3)).alloc (.cells #[.int .i64 0, .int .i64 2] 3)).alloc (.cells #[.int .i64 0, .int .i64 1] 3)).alloc (.cells #[.slice (some ⟨wx26.heap.size, 0, none⟩) 2 2, .slice (some ⟨wx26.heap.size + 1, 0, none⟩) 2 2, .slice (some ⟨wx26.heap.size + 1 + 1, 0, none⟩) 2 2] 28)) := (((Fut.alloc _ _).trans (Fut.alloc _ _)).trans (Fut.alloc _ _)).trans (Fut.alloc _ _)
  replace ha := ha.fut FB
  replace hb := hb.fut FB
  replace hd := hd.fut FB
  replace hl := hl.fut FB
  replace hn := hn.fut FB
  replace ho := ho.fut FB
  replace hq := hq.fut FB
  replace F0 := F0.trans FB
  clear FB
  refine (ex_lists [[1, 2], [0, 2], [0, 1]] [[1, 2], [0, 2], [0, 1]] rfl rfl _ ha hp ⟨by decide, by decide, by decide, by decide⟩ true (by decide)).mono ?_
  rintro _ wx27 ⟨rfl, F⟩
  replace ha := ha.fut F
  replace hb := hb.fut F
  replace hd := hd.fut F
  replace hl := hl.fut F
  replace hn := hn.fut F
  replace ho := ho.fut F
  replace hq := hq.fut F
  replace hp := hp.fut F
  replace F0 := F0.trans F
  clear F
  clear hp
  clear ha
  go_wp2_with fail
  have hp := ints_new wx27 [1, 2, 0]
  have FB : Fut wx27 (wx27.alloc (.cells #[.int .i64 1, .int .i64 2, .int .i64 0] 3)) := Fut.alloc _ _
  replace hb := hb.fut FB
  replace hd := hd.fut FB
  replace hl := hl.fut FB
  replace hn := hn.fut FB
  replace ho := ho.fut FB
  replace hq := hq.fut FB
  replace F0 := F0.trans FB
  clear FB
  refine (ex_id _ _).mono ?_
  rintro _ wx28 ⟨rfl, F⟩
  replace hb := hb.fut F
  replace hd := hd.fut F
  replace hl := hl.fut F
  replace hn := hn.fut F
  replace ho := ho.fut F
  replace hq := hq.fut F
  replace hp := hp.fut F
  replace F0 := F0.trans F
  clear F
  go_wp2_with fail
  refine (ex_same [1, 2, 0] [1, 2, 0] rfl rfl ⟨by decide, by decide⟩ _ hb hp true (by decide)).mono ?_
  rintro _ wx29 ⟨rfl, F⟩
  replace hb := hb.fut F
  replace hd := hd.fut F
  replace hl := hl.fut F
  replace hn := hn.fut F
  replace ho := ho.fut F
  replace hq := hq.fut F
  replace hp := hp.fut F
  replace F0 := F0.trans F
  clear F
  clear hp
  clear hb
  go_wp2_with fail
  refine (ex_R 3 (by omega) (by omega) R3 ex_R3 _).mono ?_
  rintro _ wx30 ⟨b1, o1, c1, rfl, hc1, hm1, hp, F⟩
  replace hd := hd.fut F
  replace hl := hl.fut F
  replace hn := hn.fut F
  replace ho := ho.fut F
  replace hq := hq.fut F
  replace F0 := F0.trans F
  clear F
  clear hc1 hm1
  go_wp2_with fail
  refine (ex_lists R3 R3 rfl rfl _ hd hp ⟨by decide, by decide, by decide, by decide⟩ true (by decide)).mono ?_
  rintro _ wx31 ⟨rfl, F⟩
  replace hd := hd.fut F
  replace hl := hl.fut F
  replace hn := hn.fut F
  replace ho := ho.fut F
  replace hq := hq.fut F
  replace hp := hp.fut F
  replace F0 := F0.trans F
  clear F
  clear hp
  clear hd
  go_wp2_with fail
  have hp := built1 wx31 [2, 0, 1] (by decide)
  have FB : Fut wx31 ((wx31.alloc (.cells #[.int .i64 2, .int .i64 0, .int .i64 1] 3)).alloc (.cells #[.slice (some ⟨wx31.heap.size, 0, none⟩) 3 3] 28)) := (Fut.alloc _ _).trans (Fut.alloc _ _)
  replace hl := hl.fut FB
  replace hn := hn.fut FB
  replace ho := ho.fut FB
  replace hq := hq.fut FB
  replace F0 := F0.trans FB
  clear FB
  refine (ex_lists [[2, 0, 1]] [[2, 0, 1]] rfl rfl _ hl hp ⟨by decide, by decide, by decide, by decide⟩ true (by decide)).mono ?_
  rintro _ wx32 ⟨rfl, F⟩
  replace hl := hl.fut F
  replace hn := hn.fut F
  replace ho := ho.fut F
  replace hq := hq.fut F
  replace hp := hp.fut F
  replace F0 := F0.trans F
  clear F
  clear hp
  clear hl
  go_wp2_with fail
  refine (ex_R 3 (by omega) (by omega) R3 ex_R3 _).mono ?_
  rintro _ wx33 ⟨b1, o1, c1, rfl, hc1, hm1, hp, F⟩
  replace hn := hn.fut F
  replace ho := ho.fut F
  replace hq := hq.fut F
  replace F0 := F0.trans F
  clear F
  clear hc1 hm1
  go_wp2_with fail
  refine (ex_lists R3 R3 rfl rfl _ hn hp ⟨by decide, by decide, by decide, by decide⟩ true (by decide)).mono ?_
  rintro _ wx34 ⟨rfl, F⟩
  replace hn := hn.fut F
  replace ho := ho.fut F
  replace hq := hq.fut F
  replace hp := hp.fut F
  replace F0 := F0.trans F
  clear F
  clear hp
  clear hn
  go_wp2_with fail
  refine (ex_R 3 (by omega) (by omega) R3 ex_R3 _).mono ?_
  rintro _ wx35 ⟨b1, o1, c1, rfl, hc1, hm1, hp, F⟩
  replace ho := ho.fut F
  replace hq := hq.fut F
  replace F0 := F0.trans F
  clear F
  clear hc1 hm1
  go_wp2_with fail
  refine (ex_lists R3 R3 rfl rfl _ ho hp ⟨by decide, by decide, by decide, by decide⟩ true (by decide)).mono ?_
  rintro _ wx36 ⟨rfl, F⟩
  replace ho := ho.fut F
  replace hq := hq.fut F
  replace hp := hp.fut F
  replace F0 := F0.trans F
  clear F
  clear hp
  clear ho
  go_wp2_with fail
  have hp := ints_new wx36 [0, 1, 2]
  have FB : Fut wx36 (wx36.alloc (.cells #[.int .i64 0, .int .i64 1, .int .i64 2] 3)) := Fut.alloc _ _
  replace hq := hq.fut FB
  replace F0 := F0.trans FB
  clear FB
  refine (ex_id _ _).mono ?_
  rintro _ wx37 ⟨rfl, F⟩
  replace hq := hq.fut F
  replace hp := hp.fut F
  replace F0 := F0.trans F
  clear F
  go_wp2_with fail
  refine (ex_same [0, 1, 2] [0, 1, 2] rfl rfl ⟨by decide, by decide⟩ _ hq hp true (by decide)).mono ?_
  rintro _ wx38 ⟨rfl, F⟩
  replace hq := hq.fut F
  replace hp := hp.fut F
  replace F0 := F0.trans F
  clear F
  clear hp
  clear hq
  go_wp2_with fail
  refine (lawB _).mono ?_
  rintro _ wx39 ⟨p, rfl, hp, F⟩
  replace F0 := F0.trans F
  clear F
  go_wp2_with fail
  refine (ex_e (proves_any 3 _ _ [[0, 1], [1, 0]] 2 _ hp (by decide) (by decide)) 0 ex_prv2).mono ?_
  rintro _ wx40 ⟨rfl, F⟩
  replace hp := hp.fut F
  replace F0 := F0.trans F
  clear F
  clear hp
  go_wp2_with fail
  refine (lawB _).mono ?_
  rintro _ wx41 ⟨p, rfl, hp, F⟩
  replace F0 := F0.trans F
  clear F
  go_wp2_with fail
  refine (ex_e (proves_any 3 _ _ [[0, 1], [1, 0]] 0 _ hp (by decide) (by decide)) 14 ex_prv0).mono ?_
  rintro _ wx42 ⟨rfl, F⟩
  replace hp := hp.fut F
  replace F0 := F0.trans F
  clear F
  clear hp
  go_wp2
  go_ret
  exact ⟨rfl, F0⟩
end Go.Proofs.Ytpgifeaejjjjnaa
