/- Layer 2: what works answers. -/
import Derived.Test.YtimddkofcejijaaSA
namespace Go.Proofs.Ytimddkofcejijaa
open Go.RowKit Go.Sort
set_option maxRecDepth 100000 in
set_option maxHeartbeats 8000000 in
theorem works_any (w : World) : Calls Try.prog 14 #[] w fun e w' => e = .returned (.bool true) ∧ Fut w w' := by
  have F0 : Fut w w := Fut.rfl
  go_enter Try.func14, Try.ntmps14
  go_wp2_with fail
  refine (st_C _).mono ?_
  rintro _ wx1 ⟨p, cp, rfl, hp, F⟩
  replace F0 := F0.trans F
  clear F
  go_wp2_with fail
  refine (ex_odd (ss := CS) (c := 4) vC v1 _ _ _ hp).mono ?_
  rintro _ wx2 ⟨a, ca, rfl, ha, F⟩
  replace hp := hp.fut F
  replace F0 := F0.trans F
  clear F
  clear hp
  go_wp2_with fail
  refine (st_D _).mono ?_
  rintro _ wx3 ⟨p, cp, rfl, hp, F⟩
  replace ha := ha.fut F
  replace F0 := F0.trans F
  clear F
  go_wp2_with fail
  refine (ex_few (ss := DS) (c := 4) vD v2 _ _ _ hp).mono ?_
  rintro _ wx4 ⟨b, cb, rfl, hb, F⟩
  replace ha := ha.fut F
  replace hp := hp.fut F
  replace F0 := F0.trans F
  clear F
  clear hp
  go_wp2_with fail
  refine (st_D _).mono ?_
  rintro _ wx5 ⟨p, cp, rfl, hp, F⟩
  replace ha := ha.fut F
  replace hb := hb.fut F
  replace F0 := F0.trans F
  clear F
  go_wp2_with fail
  refine (ex_count (ss := DS) (c := 4) vD v3 _ _ _ hp).mono ?_
  rintro _ wx6 ⟨rfl, F⟩
  replace ha := ha.fut F
  replace hb := hb.fut F
  replace hp := hp.fut F
  replace F0 := F0.trans F
  clear F
  clear hp
  go_wp2_with fail
  refine (st_C _).mono ?_
  rintro _ wx7 ⟨p, cp, rfl, hp, F⟩
  replace ha := ha.fut F
  replace hb := hb.fut F
  replace F0 := F0.trans F
  clear F
  go_wp2_with fail
  refine (st_L [3] _).mono ?_
  rintro _ wx8 ⟨q, cq, rfl, hq, F⟩
  replace ha := ha.fut F
  replace hb := hb.fut F
  replace hp := hp.fut F
  replace F0 := F0.trans F
  clear F
  go_wp2_with fail
  refine (ex_round (ss := CS) (c := 4) (zs := [3]) v4' v4 (by decide) _ _ _ _ _ hp hq).mono ?_
  rintro _ wx9 ⟨d, cd, rfl, hd, F⟩
  replace ha := ha.fut F
  replace hb := hb.fut F
  replace hp := hp.fut F
  replace hq := hq.fut F
  replace F0 := F0.trans F
  clear F
  clear hp
  clear hq
  go_wp2_with fail
  refine (st_A _).mono ?_
  rintro _ wx10 ⟨p, cp, rfl, hp, F⟩
  replace ha := ha.fut F
  replace hb := hb.fut F
  replace hd := hd.fut F
  replace F0 := F0.trans F
  clear F
  go_wp2_with fail
  refine (st_L [0, 1, 2, 3] _).mono ?_
  rintro _ wx11 ⟨q, cq, rfl, hq, F⟩
  replace ha := ha.fut F
  replace hb := hb.fut F
  replace hd := hd.fut F
  replace hp := hp.fut F
  replace F0 := F0.trans F
  clear F
  go_wp2_with fail
  refine (ex_goes (ss := AS) (c := 4) (zs := [0, 1, 2, 3]) v5' v5 (by decide) _ _ _ _ _ hp hq).mono ?_
  rintro _ wx12 ⟨k, ck, rfl, hk, F⟩
  replace ha := ha.fut F
  replace hb := hb.fut F
  replace hd := hd.fut F
  replace hp := hp.fut F
  replace hq := hq.fut F
  replace F0 := F0.trans F
  clear F
  clear hp
  clear hq
  go_wp2_with fail
  refine (st_A _).mono ?_
  rintro _ wx13 ⟨p, cp, rfl, hp, F⟩
  replace ha := ha.fut F
  replace hb := hb.fut F
  replace hd := hd.fut F
  replace hk := hk.fut F
  replace F0 := F0.trans F
  clear F
  go_wp2_with fail
  refine (st_L [0, 1] _).mono ?_
  rintro _ wx14 ⟨q, cq, rfl, hq, F⟩
  replace ha := ha.fut F
  replace hb := hb.fut F
  replace hd := hd.fut F
  replace hk := hk.fut F
  replace hp := hp.fut F
  replace F0 := F0.trans F
  clear F
  go_wp2_with fail
  refine (ex_cut (ss := AS) (c := 4) (zs := [0, 1]) v6' v6 (by decide) _ _ _ _ _ hp hq).mono ?_
  rintro _ wx15 ⟨l, cl, rfl, hl, F⟩
  replace ha := ha.fut F
  replace hb := hb.fut F
  replace hd := hd.fut F
  replace hk := hk.fut F
  replace hp := hp.fut F
  replace hq := hq.fut F
  replace F0 := F0.trans F
  clear F
  clear hp
  clear hq
  go_wp2_with fail
  refine (st_C _).mono ?_
  rintro _ wx16 ⟨p, cp, rfl, hp, F⟩
  replace ha := ha.fut F
  replace hb := hb.fut F
  replace hd := hd.fut F
  replace hk := hk.fut F
  replace hl := hl.fut F
  replace F0 := F0.trans F
  clear F
  go_wp2_with fail
  refine (ex_cuts (ss := CS) (c := 4) vC v7 _ _ _ hp).mono ?_
  rintro _ wx17 ⟨m, cm, rfl, hm, F⟩
  replace ha := ha.fut F
  replace hb := hb.fut F
  replace hd := hd.fut F
  replace hk := hk.fut F
  replace hl := hl.fut F
  replace hp := hp.fut F
  replace F0 := F0.trans F
  clear F
  clear hp
  go_wp2_with fail
  refine (st_D _).mono ?_
  rintro _ wx18 ⟨p, cp, rfl, hp, F⟩
  replace ha := ha.fut F
  replace hb := hb.fut F
  replace hd := hd.fut F
  replace hk := hk.fut F
  replace hl := hl.fut F
  replace hm := hm.fut F
  replace F0 := F0.trans F
  clear F
  go_wp2_with fail
  refine (ex_cuts (ss := DS) (c := 4) vD v8 _ _ _ hp).mono ?_
  rintro _ wx19 ⟨n, cn, rfl, hn, F⟩
  replace ha := ha.fut F
  replace hb := hb.fut F
  replace hd := hd.fut F
  replace hk := hk.fut F
  replace hl := hl.fut F
  replace hm := hm.fut F
  replace hp := hp.fut F
  replace F0 := F0.trans F
  clear F
  clear hp
  go_wp2_with fail
  refine (st_B _).mono ?_
  rintro _ wx20 ⟨p, cp, rfl, hp, F⟩
  replace ha := ha.fut F
  replace hb := hb.fut F
  replace hd := hd.fut F
  replace hk := hk.fut F
  replace hl := hl.fut F
  replace hm := hm.fut F
  replace hn := hn.fut F
  replace F0 := F0.trans F
  clear F
  go_wp2_with fail
  refine (ex_even (ss := BS) (c := 4) vB v9 _ _ _ hp).mono ?_
  rintro _ wx21 ⟨rfl, F⟩
  replace ha := ha.fut F
  replace hb := hb.fut F
  replace hd := hd.fut F
  replace hk := hk.fut F
  replace hl := hl.fut F
  replace hm := hm.fut F
  replace hn := hn.fut F
  replace hp := hp.fut F
  replace F0 := F0.trans F
  clear F
  clear hp
  go_wp2_with fail
  refine (st_D _).mono ?_
  rintro _ wx22 ⟨p, cp, rfl, hp, F⟩
  replace ha := ha.fut F
  replace hb := hb.fut F
  replace hd := hd.fut F
  replace hk := hk.fut F
  replace hl := hl.fut F
  replace hm := hm.fut F
  replace hn := hn.fut F
  replace F0 := F0.trans F
  clear F
  go_wp2_with fail
  refine (ex_even (ss := DS) (c := 4) vD v10 _ _ _ hp).mono ?_
  rintro _ wx23 ⟨rfl, F⟩
  replace ha := ha.fut F
  replace hb := hb.fut F
  replace hd := hd.fut F
  replace hk := hk.fut F
  replace hl := hl.fut F
  replace hm := hm.fut F
  replace hn := hn.fut F
  replace hp := hp.fut F
  replace F0 := F0.trans F
  clear F
  clear hp
  go_wp2_with fail
  refine (st_A _).mono ?_
  rintro _ wx24 ⟨p, cp, rfl, hp, F⟩
  replace ha := ha.fut F
  replace hb := hb.fut F
  replace hd := hd.fut F
  replace hk := hk.fut F
  replace hl := hl.fut F
  replace hm := hm.fut F
  replace hn := hn.fut F
  replace F0 := F0.trans F
  clear F
  go_wp2_with fail
  refine (st_L [0, 2] _).mono ?_
  rintro _ wx25 ⟨q, cq, rfl, hq, F⟩
  replace ha := ha.fut F
  replace hb := hb.fut F
  replace hd := hd.fut F
  replace hk := hk.fut F
  replace hl := hl.fut F
  replace hm := hm.fut F
  replace hn := hn.fut F
  replace hp := hp.fut F
  replace F0 := F0.trans F
  clear F
  go_wp2_with fail
  refine (ex_goes (ss := AS) (c := 4) (zs := [0, 2]) v11 rfl (by decide) _ _ _ _ _ hp hq).mono ?_
  rintro _ wx26 ⟨g, cg, rfl, hg, F⟩
  replace ha := ha.fut F
  replace hb := hb.fut F
  replace hd := hd.fut F
  replace hk := hk.fut F
  replace hl := hl.fut F
  replace hm := hm.fut F
  replace hn := hn.fut F
  replace hp := hp.fut F
  replace hq := hq.fut F
  replace F0 := F0.trans F
  clear F
  clear hp
  clear hq
  clear hg
  go_wp2_with fail
  refine (st_L [2, 3] _).mono ?_
  rintro _ wx27 ⟨q, cq, rfl, hq, F⟩
  replace ha := ha.fut F
  replace hb := hb.fut F
  replace hd := hd.fut F
  replace hk := hk.fut F
  replace hl := hl.fut F
  replace hm := hm.fut F
  replace hn := hn.fut F
  replace F0 := F0.trans F
  clear F
  go_wp2_with fail
  refine (ex_same (xs := [2, 3]) (by decide) _ _ _ _ _ ha hq).mono ?_
  rintro _ wx28 ⟨rfl, F⟩
  replace ha := ha.fut F
  replace hb := hb.fut F
  replace hd := hd.fut F
  replace hk := hk.fut F
  replace hl := hl.fut F
  replace hm := hm.fut F
  replace hn := hn.fut F
  replace hq := hq.fut F
  replace F0 := F0.trans F
  clear F
  clear hq
  clear ha
  go_wp2_with fail
  refine (st_L [0, 5] _).mono ?_
  rintro _ wx29 ⟨q, cq, rfl, hq, F⟩
  replace hb := hb.fut F
  replace hd := hd.fut F
  replace hk := hk.fut F
  replace hl := hl.fut F
  replace hm := hm.fut F
  replace hn := hn.fut F
  replace F0 := F0.trans F
  clear F
  go_wp2_with fail
  refine (ex_same (xs := [0, 5]) (by decide) _ _ _ _ _ hb hq).mono ?_
  rintro _ wx30 ⟨rfl, F⟩
  replace hb := hb.fut F
  replace hd := hd.fut F
  replace hk := hk.fut F
  replace hl := hl.fut F
  replace hm := hm.fut F
  replace hn := hn.fut F
  replace hq := hq.fut F
  replace F0 := F0.trans F
  clear F
  clear hq
  clear hb
  go_wp2_with fail
  refine (st_L [0, 1, 3, 3, 2] _).mono ?_
  rintro _ wx31 ⟨q, cq, rfl, hq, F⟩
  replace hd := hd.fut F
  replace hk := hk.fut F
  replace hl := hl.fut F
  replace hm := hm.fut F
  replace hn := hn.fut F
  replace F0 := F0.trans F
  clear F
  go_wp2_with fail
  refine (ex_same (xs := [0, 1, 3, 3, 2]) (by decide) _ _ _ _ _ hd hq).mono ?_
  rintro _ wx32 ⟨rfl, F⟩
  replace hd := hd.fut F
  replace hk := hk.fut F
  replace hl := hl.fut F
  replace hm := hm.fut F
  replace hn := hn.fut F
  replace hq := hq.fut F
  replace F0 := F0.trans F
  clear F
  clear hq
  clear hd
  go_wp2_with fail
  refine (st_L [1, 1, 1, 1] _).mono ?_
  rintro _ wx33 ⟨q, cq, rfl, hq, F⟩
  replace hk := hk.fut F
  replace hl := hl.fut F
  replace hm := hm.fut F
  replace hn := hn.fut F
  replace F0 := F0.trans F
  clear F
  go_wp2_with fail
  refine (ex_same (xs := [1, 1, 1, 1]) (by decide) _ _ _ _ _ hk hq).mono ?_
  rintro _ wx34 ⟨rfl, F⟩
  replace hk := hk.fut F
  replace hl := hl.fut F
  replace hm := hm.fut F
  replace hn := hn.fut F
  replace hq := hq.fut F
  replace F0 := F0.trans F
  clear F
  clear hq
  clear hk
  go_wp2_with fail
  refine (st_L [1, 3] _).mono ?_
  rintro _ wx35 ⟨q, cq, rfl, hq, F⟩
  replace hl := hl.fut F
  replace hm := hm.fut F
  replace hn := hn.fut F
  replace F0 := F0.trans F
  clear F
  go_wp2_with fail
  refine (ex_same (xs := [1, 3]) (by decide) _ _ _ _ _ hl hq).mono ?_
  rintro _ wx36 ⟨rfl, F⟩
  replace hl := hl.fut F
  replace hm := hm.fut F
  replace hn := hn.fut F
  replace hq := hq.fut F
  replace F0 := F0.trans F
  clear F
  clear hq
  clear hl
  go_wp2_with fail
  refine (ex_lists1 (xs := [0, 1, 3]) (by decide) _ _ _ hm).mono ?_
  rintro _ wx37 ⟨rfl, F⟩
  replace hm := hm.fut F
  replace hn := hn.fut F
  replace F0 := F0.trans F
  clear F
  clear hm
  go_wp2_with fail
  refine (ex_lists1 (xs := [0, 1, 2]) (by decide) _ _ _ hn).mono ?_
  rintro _ wx38 ⟨rfl, F⟩
  replace hn := hn.fut F
  replace F0 := F0.trans F
  clear F
  clear hn
  go_wp2_with fail
  refine (st_C _).mono ?_
  rintro _ wx39 ⟨p, cp, rfl, hp, F⟩
  replace F0 := F0.trans F
  clear F
  go_wp2_with fail
  refine (st_L [3] _).mono ?_
  rintro _ wx40 ⟨q, cq, rfl, hq, F⟩
  replace hp := hp.fut F
  replace F0 := F0.trans F
  clear F
  go_wp2_with fail
  refine (ex_enough (ss := CS) (c := 4) (zs := [3]) v4' (by decide) _ _ _ _ _ hp hq).mono ?_
  rintro _ wx41 ⟨rfl, F⟩
  replace hp := hp.fut F
  replace hq := hq.fut F
  replace F0 := F0.trans F
  clear F
  clear hp
  clear hq
  go_wp2_with fail
  refine (st_B _).mono ?_
  rintro _ wx42 ⟨p, cp, rfl, hp, F⟩
  replace F0 := F0.trans F
  clear F
  go_wp2_with fail
  refine (st_L [0, 1] _).mono ?_
  rintro _ wx43 ⟨q, cq, rfl, hq, F⟩
  replace hp := hp.fut F
  replace F0 := F0.trans F
  clear F
  go_wp2_with fail
  refine (ex_enough (ss := BS) (c := 4) (zs := [0, 1]) v12 (by decide) _ _ _ _ _ hp hq).mono ?_
  rintro _ wx44 ⟨rfl, F⟩
  replace hp := hp.fut F
  replace hq := hq.fut F
  replace F0 := F0.trans F
  clear F
  clear hp
  clear hq
  go_wp2_with fail
  refine (st_B _).mono ?_
  rintro _ wx45 ⟨p, cp, rfl, hp, F⟩
  replace F0 := F0.trans F
  clear F
  go_wp2_with fail
  refine (ex_prov3 (ss := BS) (c := 4) (x := [1]) (y := [2]) (z := [3]) v13 (by decide) (by decide) (by decide) _ _ _ hp).mono ?_
  rintro _ wx46 ⟨rfl, F⟩
  replace hp := hp.fut F
  replace F0 := F0.trans F
  clear F
  clear hp
  go_wp2_with fail
  refine (st_B _).mono ?_
  rintro _ wx47 ⟨p, cp, rfl, hp, F⟩
  replace F0 := F0.trans F
  clear F
  go_wp2_with fail
  refine (ex_prov2 (ss := BS) (c := 4) (x := [0]) (y := [1]) v14 (by decide) (by decide) _ _ _ hp).mono ?_
  rintro _ wx48 ⟨rfl, F⟩
  replace hp := hp.fut F
  replace F0 := F0.trans F
  clear F
  clear hp
  go_wp2
  go_ret
  exact ⟨rfl, F0⟩
end Go.Proofs.Ytimddkofcejijaa
