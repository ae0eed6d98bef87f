/- Layer 1: what works answers. -/
import Derived.Test.YtdnbdaegahcoeaaV
namespace Go.Proofs.Ytdnbdaegahcoeaa
open Go.RowKit Go.Sort
set_option maxRecDepth 100000 in
set_option maxHeartbeats 4000000 in
theorem works_any (w : World) : Calls Try.prog 16 #[] w fun e w' => e = .returned (.bool true) ∧ Fut w w' := by
  have F0 : Fut w w := Fut.rfl
  go_enter Try.func16, Try.ntmps16
  go_wp2_with fail
  refine (st_two _).mono ?_
  rintro _ u1 ⟨rfl, rfl⟩
  go_wp2_with fail
  refine (st_C _).mono ?_
  rintro _ u2 ⟨c1, rfl, hc1, F⟩
  replace F0 := F0.trans F
  clear F
  go_wp2_with fail
  refine (st_div _ _ hc1).mono ?_
  rintro _ u3 ⟨d, cd, rfl, hd, F⟩
  replace F0 := F0.trans F
  replace hc1 := hc1.fut F
  clear F
  clear hc1
  go_wp2_with fail
  refine (st_C _).mono ?_
  rintro _ u4 ⟨c1, rfl, hc1, F⟩
  replace F0 := F0.trans F
  replace hd := hd.fut F
  clear F
  go_wp2_with fail
  refine (st_gain _ _ hc1).mono ?_
  rintro _ u5 ⟨g, cg, rfl, hg, F⟩
  replace F0 := F0.trans F
  replace hd := hd.fut F
  replace hc1 := hc1.fut F
  clear F
  clear hc1
  go_wp2_with fail
  refine (st_C _).mono ?_
  rintro _ u6 ⟨c1, rfl, hc1, F⟩
  replace F0 := F0.trans F
  replace hd := hd.fut F
  replace hg := hg.fut F
  clear F
  go_wp2_with fail
  refine (st_loss _ _ hc1).mono ?_
  rintro _ u7 ⟨l, cl, rfl, hl, F⟩
  replace F0 := F0.trans F
  replace hd := hd.fut F
  replace hg := hg.fut F
  replace hc1 := hc1.fut F
  clear F
  clear hc1
  go_wp2_with fail
  refine (st_C _).mono ?_
  rintro _ u8 ⟨c1, rfl, hc1, F⟩
  replace F0 := F0.trans F
  replace hd := hd.fut F
  replace hg := hg.fut F
  replace hl := hl.fut F
  clear F
  go_wp2_with fail
  refine (st_L _ _ _ _).mono ?_
  rintro _ u9 ⟨o1, rfl, ho1, F⟩
  replace F0 := F0.trans F
  replace hd := hd.fut F
  replace hg := hg.fut F
  replace hl := hl.fut F
  replace hc1 := hc1.fut F
  clear F
  go_wp2_with fail
  refine (st_ord _ _ _ hc1 ho1).mono ?_
  rintro _ u10 ⟨o, co, rfl, ho, F⟩
  replace F0 := F0.trans F
  replace hd := hd.fut F
  replace hg := hg.fut F
  replace hl := hl.fut F
  replace hc1 := hc1.fut F
  replace ho1 := ho1.fut F
  clear F
  clear hc1
  clear ho1
  go_wp2_with fail
  refine (st_C _).mono ?_
  rintro _ u11 ⟨c1, rfl, hc1, F⟩
  replace F0 := F0.trans F
  replace hd := hd.fut F
  replace hg := hg.fut F
  replace hl := hl.fut F
  replace ho := ho.fut F
  clear F
  go_wp2_with fail
  refine (st_avg _ _ hc1).mono ?_
  rintro _ u12 ⟨v, cv, rfl, hv, F⟩
  replace F0 := F0.trans F
  replace hd := hd.fut F
  replace hg := hg.fut F
  replace hl := hl.fut F
  replace ho := ho.fut F
  replace hc1 := hc1.fut F
  clear F
  clear hc1
  go_wp2_with fail
  refine (st_C _).mono ?_
  rintro _ u13 ⟨c1, rfl, hc1, F⟩
  replace F0 := F0.trans F
  replace hd := hd.fut F
  replace hg := hg.fut F
  replace hl := hl.fut F
  replace ho := ho.fut F
  replace hv := hv.fut F
  clear F
  go_wp2_with fail
  refine (st_L _ _ _ _).mono ?_
  rintro _ u14 ⟨o1, rfl, ho1, F⟩
  replace F0 := F0.trans F
  replace hd := hd.fut F
  replace hg := hg.fut F
  replace hl := hl.fut F
  replace ho := ho.fut F
  replace hv := hv.fut F
  replace hc1 := hc1.fut F
  clear F
  go_wp2_with fail
  refine (st_why1 _ _ _ _ hc1 ho1).mono ?_
  rintro _ u15 ⟨rfl, F⟩
  replace F0 := F0.trans F
  replace hd := hd.fut F
  replace hg := hg.fut F
  replace hl := hl.fut F
  replace ho := ho.fut F
  replace hv := hv.fut F
  replace hc1 := hc1.fut F
  replace ho1 := ho1.fut F
  clear F
  clear hc1
  clear ho1
  go_wp2_with fail
  refine (st_C _).mono ?_
  rintro _ u16 ⟨c1, rfl, hc1, F⟩
  replace F0 := F0.trans F
  replace hd := hd.fut F
  replace hg := hg.fut F
  replace hl := hl.fut F
  replace ho := ho.fut F
  replace hv := hv.fut F
  clear F
  go_wp2_with fail
  refine (st_why2 _ _ _ _ hc1 hd).mono ?_
  rintro _ u17 ⟨rfl, F⟩
  replace F0 := F0.trans F
  replace hd := hd.fut F
  replace hg := hg.fut F
  replace hl := hl.fut F
  replace ho := ho.fut F
  replace hv := hv.fut F
  replace hc1 := hc1.fut F
  clear F
  clear hc1
  go_wp2_with fail
  refine (st_L _ _ _ _).mono ?_
  rintro _ u18 ⟨x1, rfl, hx1, F⟩
  replace F0 := F0.trans F
  replace hd := hd.fut F
  replace hg := hg.fut F
  replace hl := hl.fut F
  replace ho := ho.fut F
  replace hv := hv.fut F
  clear F
  go_wp2_with fail
  refine (st_same _ _ _ _ _ rfl hd hx1).mono ?_
  rintro _ u19 ⟨rfl, F⟩
  replace F0 := F0.trans F
  replace hd := hd.fut F
  replace hg := hg.fut F
  replace hl := hl.fut F
  replace ho := ho.fut F
  replace hv := hv.fut F
  replace hx1 := hx1.fut F
  clear F
  clear hx1
  go_wp2_with fail
  refine (st_L _ _ _ _).mono ?_
  rintro _ u20 ⟨x1, rfl, hx1, F⟩
  replace F0 := F0.trans F
  replace hd := hd.fut F
  replace hg := hg.fut F
  replace hl := hl.fut F
  replace ho := ho.fut F
  replace hv := hv.fut F
  clear F
  go_wp2_with fail
  refine (st_same _ _ _ _ _ rfl hg hx1).mono ?_
  rintro _ u21 ⟨rfl, F⟩
  replace F0 := F0.trans F
  replace hd := hd.fut F
  replace hg := hg.fut F
  replace hl := hl.fut F
  replace ho := ho.fut F
  replace hv := hv.fut F
  replace hx1 := hx1.fut F
  clear F
  clear hx1
  go_wp2_with fail
  refine (st_L _ _ _ _).mono ?_
  rintro _ u22 ⟨x1, rfl, hx1, F⟩
  replace F0 := F0.trans F
  replace hd := hd.fut F
  replace hg := hg.fut F
  replace hl := hl.fut F
  replace ho := ho.fut F
  replace hv := hv.fut F
  clear F
  go_wp2_with fail
  refine (st_same _ _ _ _ _ rfl hl hx1).mono ?_
  rintro _ u23 ⟨rfl, F⟩
  replace F0 := F0.trans F
  replace hd := hd.fut F
  replace hg := hg.fut F
  replace hl := hl.fut F
  replace ho := ho.fut F
  replace hv := hv.fut F
  replace hx1 := hx1.fut F
  clear F
  clear hx1
  go_wp2_with fail
  refine (st_L _ _ _ _).mono ?_
  rintro _ u24 ⟨x1, rfl, hx1, F⟩
  replace F0 := F0.trans F
  replace hd := hd.fut F
  replace hg := hg.fut F
  replace hl := hl.fut F
  replace ho := ho.fut F
  replace hv := hv.fut F
  clear F
  go_wp2_with fail
  refine (st_same _ _ _ _ _ rfl ho hx1).mono ?_
  rintro _ u25 ⟨rfl, F⟩
  replace F0 := F0.trans F
  replace hd := hd.fut F
  replace hg := hg.fut F
  replace hl := hl.fut F
  replace ho := ho.fut F
  replace hv := hv.fut F
  replace hx1 := hx1.fut F
  clear F
  clear hx1
  go_wp2_with fail
  refine (st_L _ _ _ _).mono ?_
  rintro _ u26 ⟨x1, rfl, hx1, F⟩
  replace F0 := F0.trans F
  replace hd := hd.fut F
  replace hg := hg.fut F
  replace hl := hl.fut F
  replace ho := ho.fut F
  replace hv := hv.fut F
  clear F
  go_wp2_with fail
  refine (st_same _ _ _ _ _ rfl hv hx1).mono ?_
  rintro _ u27 ⟨rfl, F⟩
  replace F0 := F0.trans F
  replace hd := hd.fut F
  replace hg := hg.fut F
  replace hl := hl.fut F
  replace ho := ho.fut F
  replace hv := hv.fut F
  replace hx1 := hx1.fut F
  clear F
  clear hx1
  go_wp2_with fail
  refine (st_C _).mono ?_
  rintro _ u28 ⟨c1, rfl, hc1, F⟩
  replace F0 := F0.trans F
  replace hd := hd.fut F
  replace hg := hg.fut F
  replace hl := hl.fut F
  replace ho := ho.fut F
  replace hv := hv.fut F
  clear F
  go_wp2_with fail
  refine (st_valid _ _ _ _ hc1 hv).mono ?_
  rintro _ u29 ⟨rfl, F⟩
  replace F0 := F0.trans F
  replace hd := hd.fut F
  replace hg := hg.fut F
  replace hl := hl.fut F
  replace ho := ho.fut F
  replace hv := hv.fut F
  replace hc1 := hc1.fut F
  clear F
  clear hc1
  go_wp2_with fail
  refine (st_C _).mono ?_
  rintro _ u30 ⟨c1, rfl, hc1, F⟩
  replace F0 := F0.trans F
  replace hd := hd.fut F
  replace hg := hg.fut F
  replace hl := hl.fut F
  replace ho := ho.fut F
  replace hv := hv.fut F
  clear F
  go_wp2_with fail
  refine (st_prv0 _ _ _ _ hc1 hv).mono ?_
  rintro _ u31 ⟨rfl, F⟩
  replace F0 := F0.trans F
  replace hd := hd.fut F
  replace hg := hg.fut F
  replace hl := hl.fut F
  replace ho := ho.fut F
  replace hv := hv.fut F
  replace hc1 := hc1.fut F
  clear F
  clear hc1
  go_wp2_with fail
  refine (st_C _).mono ?_
  rintro _ u32 ⟨c1, rfl, hc1, F⟩
  replace F0 := F0.trans F
  replace hd := hd.fut F
  replace hg := hg.fut F
  replace hl := hl.fut F
  replace ho := ho.fut F
  replace hv := hv.fut F
  clear F
  go_wp2_with fail
  refine (st_prv1 _ _ _ _ hc1 hv).mono ?_
  rintro _ u33 ⟨rfl, F⟩
  replace F0 := F0.trans F
  replace hd := hd.fut F
  replace hg := hg.fut F
  replace hl := hl.fut F
  replace ho := ho.fut F
  replace hv := hv.fut F
  replace hc1 := hc1.fut F
  clear F
  clear hc1
  go_wp2_with fail
  go_ret
  exact ⟨rfl, F0⟩
end Go.Proofs.Ytdnbdaegahcoeaa
