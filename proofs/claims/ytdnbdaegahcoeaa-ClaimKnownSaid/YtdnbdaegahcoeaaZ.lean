/- Layer 1: what ClaimKnown answers. -/
import Derived.Test.YtdnbdaegahcoeaaY
namespace Go.Proofs.Ytdnbdaegahcoeaa
open Go.RowKit Go.Sort
set_option maxRecDepth 100000 in
set_option maxHeartbeats 4000000 in
theorem known_any (w : World) : Calls Try.prog 15 #[] w fun e w' => e = .returned (.bool true) ∧ Fut w w' := by
  have F0 : Fut w w := Fut.rfl
  have hmk : ∀ w, (Instr.makeSlice 22 (.int .i64 6) (.int .i64 6)).run Try.prog w = .ok (.slice (some ⟨w.heap.size, 0, none⟩) 6 6) (w.alloc (.cells #[.int .i64 0, .int .i64 0, .int .i64 0, .int .i64 0, .int .i64 0, .int .i64 0] 3)) := fun _ => by kernel_rfl
  go_enter Try.func15, Try.ntmps15
  go_wp2_with fail
  refine (kn_t1 _).mono ?_
  rintro _ u1 ⟨rfl, rfl⟩
  go_wp2_with fail
  refine (kn_t2 _).mono ?_
  rintro _ u2 ⟨rfl, rfl⟩
  go_wp2_with fail
  refine (st_C _).mono ?_
  rintro _ u3 ⟨c1, rfl, hc1, F⟩
  replace F0 := F0.trans F
  clear F
  go_wp2_with fail
  refine (kn_d1 _ _ hc1).mono ?_
  rintro _ u4 ⟨da, cda, rfl, hda, F⟩
  replace F0 := F0.trans F
  replace hc1 := hc1.fut F
  clear F
  clear hc1
  go_wp2_with fail
  refine (st_C _).mono ?_
  rintro _ u5 ⟨c1, rfl, hc1, F⟩
  replace F0 := F0.trans F
  replace hda := hda.fut F
  clear F
  go_wp2_with fail
  refine (kn_d3 _ _ hc1).mono ?_
  rintro _ u6 ⟨db, cdb, rfl, hdb, F⟩
  replace F0 := F0.trans F
  replace hda := hda.fut F
  replace hc1 := hc1.fut F
  clear F
  clear hc1
  go_wp2_with fail
  refine (st_C _).mono ?_
  rintro _ u7 ⟨c1, rfl, hc1, F⟩
  replace F0 := F0.trans F
  replace hda := hda.fut F
  replace hdb := hdb.fut F
  clear F
  go_wp2_with fail
  refine (kn_d5 _ _ hc1).mono ?_
  rintro _ u8 ⟨dd, cdd, rfl, hdd, F⟩
  replace F0 := F0.trans F
  replace hda := hda.fut F
  replace hdb := hdb.fut F
  replace hc1 := hc1.fut F
  clear F
  clear hc1
  go_wp2_with fail
  refine (st_C _).mono ?_
  rintro _ u9 ⟨c1, rfl, hc1, F⟩
  replace F0 := F0.trans F
  replace hda := hda.fut F
  replace hdb := hdb.fut F
  replace hdd := hdd.fut F
  clear F
  go_wp2_with fail
  refine (kn_g _ _ hc1).mono ?_
  rintro _ u10 ⟨g, cg, rfl, hg, F⟩
  replace F0 := F0.trans F
  replace hda := hda.fut F
  replace hdb := hdb.fut F
  replace hdd := hdd.fut F
  replace hc1 := hc1.fut F
  clear F
  clear hc1
  go_wp2_with fail
  refine (st_C _).mono ?_
  rintro _ u11 ⟨c1, rfl, hc1, F⟩
  replace F0 := F0.trans F
  replace hda := hda.fut F
  replace hdb := hdb.fut F
  replace hdd := hdd.fut F
  replace hg := hg.fut F
  clear F
  go_wp2_with fail
  refine (kn_l _ _ hc1).mono ?_
  rintro _ u12 ⟨l, cl, rfl, hl, F⟩
  replace F0 := F0.trans F
  replace hda := hda.fut F
  replace hdb := hdb.fut F
  replace hdd := hdd.fut F
  replace hg := hg.fut F
  replace hc1 := hc1.fut F
  clear F
  clear hc1
  go_wp2_with fail
  refine (st_C _).mono ?_
  rintro _ u13 ⟨c1, rfl, hc1, F⟩
  replace F0 := F0.trans F
  replace hda := hda.fut F
  replace hdb := hdb.fut F
  replace hdd := hdd.fut F
  replace hg := hg.fut F
  replace hl := hl.fut F
  clear F
  go_wp2_with fail
  refine (st_L _ _ _ _).mono ?_
  rintro _ u14 ⟨o1, rfl, ho1, F⟩
  replace F0 := F0.trans F
  replace hda := hda.fut F
  replace hdb := hdb.fut F
  replace hdd := hdd.fut F
  replace hg := hg.fut F
  replace hl := hl.fut F
  replace hc1 := hc1.fut F
  clear F
  go_wp2_with fail
  refine (kn_o _ _ _ hc1 ho1).mono ?_
  rintro _ u15 ⟨o, co, rfl, ho, F⟩
  replace F0 := F0.trans F
  replace hda := hda.fut F
  replace hdb := hdb.fut F
  replace hdd := hdd.fut F
  replace hg := hg.fut F
  replace hl := hl.fut F
  replace hc1 := hc1.fut F
  replace ho1 := ho1.fut F
  clear F
  clear hc1
  clear ho1
  go_wp2_with fail
  refine (st_C _).mono ?_
  rintro _ u16 ⟨c1, rfl, hc1, F⟩
  replace F0 := F0.trans F
  replace hda := hda.fut F
  replace hdb := hdb.fut F
  replace hdd := hdd.fut F
  replace hg := hg.fut F
  replace hl := hl.fut F
  replace ho := ho.fut F
  clear F
  go_wp2_with fail
  refine (st_L _ _ _ _).mono ?_
  rintro _ u17 ⟨o1, rfl, ho1, F⟩
  replace F0 := F0.trans F
  replace hda := hda.fut F
  replace hdb := hdb.fut F
  replace hdd := hdd.fut F
  replace hg := hg.fut F
  replace hl := hl.fut F
  replace ho := ho.fut F
  replace hc1 := hc1.fut F
  clear F
  go_wp2_with fail
  refine (kn_o6 _ _ _ hc1 ho1).mono ?_
  rintro _ u18 ⟨rfl, F⟩
  replace F0 := F0.trans F
  replace hda := hda.fut F
  replace hdb := hdb.fut F
  replace hdd := hdd.fut F
  replace hg := hg.fut F
  replace hl := hl.fut F
  replace ho := ho.fut F
  replace hc1 := hc1.fut F
  replace ho1 := ho1.fut F
  clear F
  clear hc1
  clear ho1
  go_wp2_with fail
  refine (st_C _).mono ?_
  rintro _ u19 ⟨c1, rfl, hc1, F⟩
  replace F0 := F0.trans F
  replace hda := hda.fut F
  replace hdb := hdb.fut F
  replace hdd := hdd.fut F
  replace hg := hg.fut F
  replace hl := hl.fut F
  replace ho := ho.fut F
  clear F
  go_wp2_with fail
  refine (st_L2 _ _ _).mono ?_
  rintro _ u20 ⟨o1, rfl, ho1, F⟩
  replace F0 := F0.trans F
  replace hda := hda.fut F
  replace hdb := hdb.fut F
  replace hdd := hdd.fut F
  replace hg := hg.fut F
  replace hl := hl.fut F
  replace ho := ho.fut F
  replace hc1 := hc1.fut F
  clear F
  go_wp2_with fail
  refine (kn_o5 _ _ _ hc1 ho1).mono ?_
  rintro _ u21 ⟨rfl, F⟩
  replace F0 := F0.trans F
  replace hda := hda.fut F
  replace hdb := hdb.fut F
  replace hdd := hdd.fut F
  replace hg := hg.fut F
  replace hl := hl.fut F
  replace ho := ho.fut F
  replace hc1 := hc1.fut F
  replace ho1 := ho1.fut F
  clear F
  clear hc1
  clear ho1
  go_wp2_with fail
  refine (st_C _).mono ?_
  rintro _ u22 ⟨c1, rfl, hc1, F⟩
  replace F0 := F0.trans F
  replace hda := hda.fut F
  replace hdb := hdb.fut F
  replace hdd := hdd.fut F
  replace hg := hg.fut F
  replace hl := hl.fut F
  replace ho := ho.fut F
  clear F
  go_wp2_with fail
  refine (kn_a _ _ hc1).mono ?_
  rintro _ u23 ⟨v, cv, rfl, hv, F⟩
  replace F0 := F0.trans F
  replace hda := hda.fut F
  replace hdb := hdb.fut F
  replace hdd := hdd.fut F
  replace hg := hg.fut F
  replace hl := hl.fut F
  replace ho := ho.fut F
  replace hc1 := hc1.fut F
  clear F
  clear hc1
  go_wp2_with fail
  refine (st_L _ _ _ _).mono ?_
  rintro _ u24 ⟨g2, rfl, hg2, F⟩
  replace F0 := F0.trans F
  replace hda := hda.fut F
  replace hdb := hdb.fut F
  replace hdd := hdd.fut F
  replace hg := hg.fut F
  replace hl := hl.fut F
  replace ho := ho.fut F
  replace hv := hv.fut F
  clear F
  go_wp2_with fail
  refine (st_L _ _ _ _).mono ?_
  rintro _ u25 ⟨x1, rfl, hx1, F⟩
  replace F0 := F0.trans F
  replace hda := hda.fut F
  replace hdb := hdb.fut F
  replace hdd := hdd.fut F
  replace hg := hg.fut F
  replace hl := hl.fut F
  replace ho := ho.fut F
  replace hv := hv.fut F
  replace hg2 := hg2.fut F
  clear F
  go_wp2_with fail
  refine (kn_s _ _ _ _ _ _ rfl hda hx1).mono ?_
  rintro _ u26 ⟨rfl, F⟩
  replace F0 := F0.trans F
  replace hda := hda.fut F
  replace hdb := hdb.fut F
  replace hdd := hdd.fut F
  replace hg := hg.fut F
  replace hl := hl.fut F
  replace ho := ho.fut F
  replace hv := hv.fut F
  replace hg2 := hg2.fut F
  replace hx1 := hx1.fut F
  clear F
  clear hx1
  clear hda
  go_wp2_with fail
  refine (st_L _ _ _ _).mono ?_
  rintro _ u27 ⟨x1, rfl, hx1, F⟩
  replace F0 := F0.trans F
  replace hdb := hdb.fut F
  replace hdd := hdd.fut F
  replace hg := hg.fut F
  replace hl := hl.fut F
  replace ho := ho.fut F
  replace hv := hv.fut F
  replace hg2 := hg2.fut F
  clear F
  go_wp2_with fail
  refine (kn_s _ _ _ _ _ _ rfl hdb hx1).mono ?_
  rintro _ u28 ⟨rfl, F⟩
  replace F0 := F0.trans F
  replace hdb := hdb.fut F
  replace hdd := hdd.fut F
  replace hg := hg.fut F
  replace hl := hl.fut F
  replace ho := ho.fut F
  replace hv := hv.fut F
  replace hg2 := hg2.fut F
  replace hx1 := hx1.fut F
  clear F
  clear hx1
  go_wp2_with fail
  refine (st_L _ _ _ _).mono ?_
  rintro _ u29 ⟨x1, rfl, hx1, F⟩
  replace F0 := F0.trans F
  replace hdb := hdb.fut F
  replace hdd := hdd.fut F
  replace hg := hg.fut F
  replace hl := hl.fut F
  replace ho := ho.fut F
  replace hv := hv.fut F
  replace hg2 := hg2.fut F
  clear F
  go_wp2_with fail
  refine (kn_s _ _ _ _ _ _ rfl hdd hx1).mono ?_
  rintro _ u30 ⟨rfl, F⟩
  replace F0 := F0.trans F
  replace hdb := hdb.fut F
  replace hdd := hdd.fut F
  replace hg := hg.fut F
  replace hl := hl.fut F
  replace ho := ho.fut F
  replace hv := hv.fut F
  replace hg2 := hg2.fut F
  replace hx1 := hx1.fut F
  clear F
  clear hx1
  clear hdd
  go_wp2_with fail
  refine (st_L _ _ _ _).mono ?_
  rintro _ u31 ⟨x1, rfl, hx1, F⟩
  replace F0 := F0.trans F
  replace hdb := hdb.fut F
  replace hg := hg.fut F
  replace hl := hl.fut F
  replace ho := ho.fut F
  replace hv := hv.fut F
  replace hg2 := hg2.fut F
  clear F
  go_wp2_with fail
  refine (kn_s _ _ _ _ _ _ rfl hg hx1).mono ?_
  rintro _ u32 ⟨rfl, F⟩
  replace F0 := F0.trans F
  replace hdb := hdb.fut F
  replace hg := hg.fut F
  replace hl := hl.fut F
  replace ho := ho.fut F
  replace hv := hv.fut F
  replace hg2 := hg2.fut F
  replace hx1 := hx1.fut F
  clear F
  clear hx1
  clear hg
  go_wp2_with fail
  refine (st_L _ _ _ _).mono ?_
  rintro _ u33 ⟨x1, rfl, hx1, F⟩
  replace F0 := F0.trans F
  replace hdb := hdb.fut F
  replace hl := hl.fut F
  replace ho := ho.fut F
  replace hv := hv.fut F
  replace hg2 := hg2.fut F
  clear F
  go_wp2_with fail
  refine (kn_s _ _ _ _ _ _ rfl hl hx1).mono ?_
  rintro _ u34 ⟨rfl, F⟩
  replace F0 := F0.trans F
  replace hdb := hdb.fut F
  replace hl := hl.fut F
  replace ho := ho.fut F
  replace hv := hv.fut F
  replace hg2 := hg2.fut F
  replace hx1 := hx1.fut F
  clear F
  clear hx1
  clear hl
  go_wp2_with fail
  refine (st_L _ _ _ _).mono ?_
  rintro _ u35 ⟨x1, rfl, hx1, F⟩
  replace F0 := F0.trans F
  replace hdb := hdb.fut F
  replace ho := ho.fut F
  replace hv := hv.fut F
  replace hg2 := hg2.fut F
  clear F
  go_wp2_with fail
  refine (kn_s _ _ _ _ _ _ rfl ho hx1).mono ?_
  rintro _ u36 ⟨rfl, F⟩
  replace F0 := F0.trans F
  replace hdb := hdb.fut F
  replace ho := ho.fut F
  replace hv := hv.fut F
  replace hg2 := hg2.fut F
  replace hx1 := hx1.fut F
  clear F
  clear hx1
  clear ho
  go_wp2_with fail
  refine (kn_s _ _ _ _ _ _ rfl hv hdb).mono ?_
  rintro _ u37 ⟨rfl, F⟩
  replace F0 := F0.trans F
  replace hdb := hdb.fut F
  replace hv := hv.fut F
  replace hg2 := hg2.fut F
  clear F
  clear hv
  clear hdb
  go_wp2_with fail
  refine (st_C _).mono ?_
  rintro _ u38 ⟨c1, rfl, hc1, F⟩
  replace F0 := F0.trans F
  replace hg2 := hg2.fut F
  clear F
  go_wp2_with fail
  refine (st_L _ _ _ _).mono ?_
  rintro _ u39 ⟨o1, rfl, ho1, F⟩
  replace F0 := F0.trans F
  replace hg2 := hg2.fut F
  replace hc1 := hc1.fut F
  clear F
  go_wp2_with fail
  refine (kn_v1 _ _ _ hc1 ho1).mono ?_
  rintro _ u40 ⟨rfl, F⟩
  replace F0 := F0.trans F
  replace hg2 := hg2.fut F
  replace hc1 := hc1.fut F
  replace ho1 := ho1.fut F
  clear F
  clear hc1
  clear ho1
  go_wp2_with fail
  refine (st_C _).mono ?_
  rintro _ u41 ⟨c1, rfl, hc1, F⟩
  replace F0 := F0.trans F
  replace hg2 := hg2.fut F
  clear F
  go_wp2_with fail
  refine (st_L _ _ _ _).mono ?_
  rintro _ u42 ⟨o1, rfl, ho1, F⟩
  replace F0 := F0.trans F
  replace hg2 := hg2.fut F
  replace hc1 := hc1.fut F
  clear F
  go_wp2_with fail
  refine (kn_v2 _ _ _ hc1 ho1).mono ?_
  rintro _ u43 ⟨rfl, F⟩
  replace F0 := F0.trans F
  replace hg2 := hg2.fut F
  replace hc1 := hc1.fut F
  replace ho1 := ho1.fut F
  clear F
  clear hc1
  clear ho1
  go_wp2_with fail
  refine (st_C _).mono ?_
  rintro _ u44 ⟨c1, rfl, hc1, F⟩
  replace F0 := F0.trans F
  replace hg2 := hg2.fut F
  clear F
  go_wp2_with fail
  refine (st_L2 _ _ _).mono ?_
  rintro _ u45 ⟨o1, rfl, ho1, F⟩
  replace F0 := F0.trans F
  replace hg2 := hg2.fut F
  replace hc1 := hc1.fut F
  clear F
  go_wp2_with fail
  refine (kn_v3 _ _ _ hc1 ho1).mono ?_
  rintro _ u46 ⟨rfl, F⟩
  replace F0 := F0.trans F
  replace hg2 := hg2.fut F
  replace hc1 := hc1.fut F
  replace ho1 := ho1.fut F
  clear F
  clear hc1
  clear ho1
  go_wp2_with fail
  refine (st_C _).mono ?_
  rintro _ u47 ⟨c1, rfl, hc1, F⟩
  replace F0 := F0.trans F
  replace hg2 := hg2.fut F
  clear F
  go_wp2_with fail
  refine (kn_p1 _ _ _ hc1 hg2).mono ?_
  rintro _ u48 ⟨rfl, F⟩
  replace F0 := F0.trans F
  replace hg2 := hg2.fut F
  replace hc1 := hc1.fut F
  clear F
  clear hc1
  go_wp2_with fail
  refine (st_C _).mono ?_
  rintro _ u49 ⟨c1, rfl, hc1, F⟩
  replace F0 := F0.trans F
  replace hg2 := hg2.fut F
  clear F
  go_wp2_with fail
  refine (kn_p2 _ _ _ hc1 hg2).mono ?_
  rintro _ u50 ⟨rfl, F⟩
  replace F0 := F0.trans F
  replace hg2 := hg2.fut F
  replace hc1 := hc1.fut F
  clear F
  clear hc1
  clear hg2
  go_wp2_with fail
  refine (kn_c0 _).mono ?_
  rintro _ u51 ⟨rfl, rfl⟩
  go_wp2_with fail
  refine (st_L2 _ _ _).mono ?_
  rintro _ u52 ⟨o1, rfl, ho1, F⟩
  replace F0 := F0.trans F
  clear F
  go_wp2_with fail
  refine (kn_c1 _ _ ho1).mono ?_
  rintro _ u53 ⟨rfl, rfl⟩
  clear ho1
  go_wp2_with fail
  refine (st_L1 _ _).mono ?_
  rintro _ u54 ⟨o1, rfl, ho1, F⟩
  replace F0 := F0.trans F
  clear F
  go_wp2_with fail
  refine (kn_c2 _ _ ho1).mono ?_
  rintro _ u55 ⟨rfl, rfl⟩
  clear ho1
  go_wp2_with fail
  refine (kn_c3 _).mono ?_
  rintro _ u56 ⟨rfl, F⟩
  replace F0 := F0.trans F
  clear F
  go_wp2_with fail
  refine (works_any _).mono ?_
  rintro _ u57 ⟨rfl, F⟩
  replace F0 := F0.trans F
  clear F
  go_wp2_with fail
  go_ret
  exact ⟨rfl, F0⟩
end Go.Proofs.Ytdnbdaegahcoeaa
