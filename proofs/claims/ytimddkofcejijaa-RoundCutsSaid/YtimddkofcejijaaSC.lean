/- Layer 2: what RoundKnown answers. -/
import Derived.Test.YtimddkofcejijaaSB
namespace Go.Proofs.Ytimddkofcejijaa
open Go.RowKit Go.Sort
theorem st_dn (c : Int) (w : World) : Calls Try.prog 48 #[.int .i64 c, .slice none 0 0] w fun e w' => ∃ l lc, e = .returned (mapV c l 0 lc) ∧ StrAt w' l [] ∧ Fut w w' := by
  refine (drawn_any c none 0 [] w (nil_ints _ _) (by decide)).mono ?_
  rintro e w' ⟨l, lc, rfl, h, F, _⟩
  exact ⟨l, lc, rfl, h, F⟩
theorem st_dl (c x y : Int) (w : World) : Calls Try.prog 48 #[.int .i64 c, .slice (some ⟨w.heap.size, 0, none⟩) 2 2] (w.alloc (.cells #[.int .i64 x, .int .i64 y] 3)) fun e w' => ∃ l lc, e = .returned (mapV c l 1 lc) ∧ StrAt w' l [(x, y)] ∧ Fut w w' := by
  refine (drawn_any c (some ⟨w.heap.size, 0, none⟩) 2 [x, y] _ (ints_new w [x, y]) (by simp)).mono ?_
  rintro e w' ⟨l, lc, rfl, h, F, _⟩
  exact ⟨l, lc, rfl, h, (Fut.alloc _ _).trans F⟩
theorem ex_check {ss : List (Int × Int)} {c e0 : Int} (hv : chkM c ss = e0) (l : Option Addr) (lc : Nat) (w : World) (h : StrAt w l ss) : Calls Try.prog 18 #[mapV c l ss.length lc] w fun e w' => e = .returned (.int .i64 e0) ∧ Fut w w' := by
  have := check_any' c l lc ss w h; rw [hv] at this; exact this
theorem ex_lists3 {x y z : List Int} (hx : x.length ≤ 1000) (hy : y.length ≤ 1000) (hz : z.length ≤ 1000) (a : Option Addr) (cap : Nat) (w : World) (hA : LstAt w a [x, y, z]) :
    Calls Try.prog 36 #[.slice a 3 cap, .slice (some ⟨w.heap.size + 1 + 1 + 1, 0, none⟩) 3 3] ((((w.alloc (litI x)).alloc (litI y)).alloc (litI z)).alloc (.cells #[.slice (some ⟨w.heap.size, 0, none⟩) x.length x.length, .slice (some ⟨w.heap.size + 1, 0, none⟩) y.length y.length, .slice (some ⟨w.heap.size + 1 + 1, 0, none⟩) z.length z.length] 25)) fun e w' => e = .returned (.bool true) ∧ Fut w w' := by
  have h1 := lst_new (Vals.cons (lc := x.length) (((ints_new w x).fut (Fut.alloc _ (litI y))).fut (Fut.alloc _ (litI z))) (Vals.cons (lc := y.length) ((ints_new' w (litI x) y).fut (Fut.alloc _ (litI z))) (Vals.cons (lc := z.length) (ints_new'' w (litI x) (litI y) z) (Vals.nil _))))
  rw [World.size_alloc, World.size_alloc, World.size_alloc] at h1
  have F := (((Fut.alloc w (litI x)).trans (Fut.alloc _ (litI y))).trans (Fut.alloc _ (litI z))).trans (Fut.alloc _ (.cells #[.slice (some ⟨w.heap.size, 0, none⟩) x.length x.length, .slice (some ⟨w.heap.size + 1, 0, none⟩) y.length y.length, .slice (some ⟨w.heap.size + 1 + 1, 0, none⟩) z.length z.length] 25))
  refine (ex_lists (xs := [x, y, z]) (by simp) (by simpa using ⟨hx, hy, hz⟩) a _ cap 3 _ (hA.fut F) h1).mono ?_
  rintro e w' ⟨rfl, F'⟩
  exact ⟨rfl, F.trans F'⟩
def Z10 : List (Int × Int) := [(0, 0), (0, 0), (0, 0), (0, 0), (0, 0), (0, 0), (0, 0), (0, 0), (0, 0), (0, 0)]
theorem made10 : madeCells (Value.agg #[.int .i64 0, .int .i64 0]).cells 20 = (flatP Z10).toArray := by kernel_rfl
theorem mk10 (w : World) : (Instr.makeSlice 22 (.int .i64 10) (.int .i64 10)).run Try.prog w = .ok (.slice (some ⟨w.heap.size, 0, none⟩) 10 10) (w.alloc (.cells (flatP Z10).toArray 65)) := by
  obtain ⟨i0, hi0, hz0, hz1, hz2⟩ := info_parts info65
  have h := run_make (P := Try.prog) w 22 65 i0 _ Try.underlying22 hi0 hz0 .i64 .i64 10 10 (by decide) (by decide) (by rw [hz2]; decide) (by decide)
  rw [hz1] at h
  rw [← made10]
  exact h
theorem kz : chkM 2 Z10 = 3 := by decide +kernel
theorem str_z10 (w : World) : StrAt (w.alloc (.cells (flatP Z10).toArray 65)) (some ⟨w.heap.size, 0, none⟩) Z10 := fun j hj => by
  refine ⟨w.heap.size, 0, rfl, by simp, ?_, ?_⟩ <;> (rw [World.cell?_alloc_at _ _ _ _ rfl, Nat.zero_add])
  · simpa using (flatP_get Z10 j hj).1
  · simpa using (flatP_get Z10 j hj).2
theorem ex_check10 (w : World) : Calls Try.prog 18 #[mapV 2 (some ⟨w.heap.size, 0, none⟩) 10 10] (w.alloc (.cells (flatP Z10).toArray 65)) fun e w' => e = .returned (.int .i64 3) ∧ Fut w w' := by
  refine (ex_check (ss := Z10) kz _ 10 _ (str_z10 w)).mono ?_
  rintro e w' ⟨rfl, F⟩
  exact ⟨rfl, (Fut.alloc _ _).trans F⟩
set_option maxRecDepth 100000 in
set_option maxHeartbeats 16000000 in
theorem known_any (w : World) : Calls Try.prog 10 #[] w fun e w' => e = .returned (.bool true) ∧ Fut w w' := by
  have hmk := mk10
  have F0 : Fut w w := Fut.rfl
  go_enter Try.func10, Try.ntmps10
  go_wp2_with fail
  refine (st_A _).mono ?_
  rintro _ wx1 ⟨p, cp, rfl, hp, F⟩
  replace F0 := F0.trans F
  clear F
  go_wp2_with fail
  refine (ex_odd (ss := AS) (c := 4) vA k1 _ _ _ hp).mono ?_
  rintro _ wx2 ⟨a, ca, rfl, ha, F⟩
  replace hp := hp.fut F
  replace F0 := F0.trans F
  clear F
  clear hp
  clear ha
  go_wp2_with fail
  refine (st_B _).mono ?_
  rintro _ wx3 ⟨p, cp, rfl, hp, F⟩
  replace F0 := F0.trans F
  clear F
  go_wp2_with fail
  refine (ex_odd (ss := BS) (c := 4) vB k2 _ _ _ hp).mono ?_
  rintro _ wx4 ⟨b, cb, rfl, hb, F⟩
  replace hp := hp.fut F
  replace F0 := F0.trans F
  clear F
  clear hp
  go_wp2_with fail
  refine (st_B _).mono ?_
  rintro _ wx5 ⟨p, cp, rfl, hp, F⟩
  replace hb := hb.fut F
  replace F0 := F0.trans F
  clear F
  go_wp2_with fail
  refine (ex_few (ss := BS) (c := 4) vB k3 _ _ _ hp).mono ?_
  rintro _ wx6 ⟨c, cc, rfl, hc, F⟩
  replace hb := hb.fut F
  replace hp := hp.fut F
  replace F0 := F0.trans F
  clear F
  clear hp
  go_wp2_with fail
  refine (st_C _).mono ?_
  rintro _ wx7 ⟨p, cp, rfl, hp, F⟩
  replace hb := hb.fut F
  replace hc := hc.fut F
  replace F0 := F0.trans F
  clear F
  go_wp2_with fail
  refine (ex_few (ss := CS) (c := 4) vC k4 _ _ _ hp).mono ?_
  rintro _ wx8 ⟨d, cd, rfl, hd, F⟩
  replace hb := hb.fut F
  replace hc := hc.fut F
  replace hp := hp.fut F
  replace F0 := F0.trans F
  clear F
  clear hp
  go_wp2_with fail
  refine (st_A _).mono ?_
  rintro _ wx9 ⟨p, cp, rfl, hp, F⟩
  replace hb := hb.fut F
  replace hc := hc.fut F
  replace hd := hd.fut F
  replace F0 := F0.trans F
  clear F
  go_wp2_with fail
  refine (ex_count (ss := AS) (c := 4) vA k5 _ _ _ hp).mono ?_
  rintro _ wx10 ⟨rfl, F⟩
  replace hb := hb.fut F
  replace hc := hc.fut F
  replace hd := hd.fut F
  replace hp := hp.fut F
  replace F0 := F0.trans F
  clear F
  clear hp
  go_wp2_with fail
  refine (st_B _).mono ?_
  rintro _ wx11 ⟨p, cp, rfl, hp, F⟩
  replace hb := hb.fut F
  replace hc := hc.fut F
  replace hd := hd.fut F
  replace F0 := F0.trans F
  clear F
  go_wp2_with fail
  refine (ex_count (ss := BS) (c := 4) vB k6 _ _ _ hp).mono ?_
  rintro _ wx12 ⟨rfl, F⟩
  replace hb := hb.fut F
  replace hc := hc.fut F
  replace hd := hd.fut F
  replace hp := hp.fut F
  replace F0 := F0.trans F
  clear F
  clear hp
  go_wp2_with fail
  refine (st_L [0, 1, 2, 3] _).mono ?_
  rintro _ wx13 ⟨q, cq, rfl, hq, F⟩
  replace hb := hb.fut F
  replace hc := hc.fut F
  replace hd := hd.fut F
  replace F0 := F0.trans F
  clear F
  go_wp2_with fail
  refine (ex_same (xs := [0, 1, 2, 3]) (by decide) _ _ _ _ _ hb hq).mono ?_
  rintro _ wx14 ⟨rfl, F⟩
  replace hb := hb.fut F
  replace hc := hc.fut F
  replace hd := hd.fut F
  replace hq := hq.fut F
  replace F0 := F0.trans F
  clear F
  clear hq
  clear hb
  go_wp2_with fail
  refine (st_L [0, 1, 2] _).mono ?_
  rintro _ wx15 ⟨q, cq, rfl, hq, F⟩
  replace hc := hc.fut F
  replace hd := hd.fut F
  replace F0 := F0.trans F
  clear F
  go_wp2_with fail
  refine (ex_same (xs := [0, 1, 2]) (by decide) _ _ _ _ _ hc hq).mono ?_
  rintro _ wx16 ⟨rfl, F⟩
  replace hc := hc.fut F
  replace hd := hd.fut F
  replace hq := hq.fut F
  replace F0 := F0.trans F
  clear F
  clear hq
  clear hc
  go_wp2_with fail
  refine (st_L [3] _).mono ?_
  rintro _ wx17 ⟨q, cq, rfl, hq, F⟩
  replace hd := hd.fut F
  replace F0 := F0.trans F
  clear F
  go_wp2_with fail
  refine (ex_same (xs := [3]) (by decide) _ _ _ _ _ hd hq).mono ?_
  rintro _ wx18 ⟨rfl, F⟩
  replace hd := hd.fut F
  replace hq := hq.fut F
  replace F0 := F0.trans F
  clear F
  clear hq
  clear hd
  go_wp2_with fail
  refine (st_C _).mono ?_
  rintro _ wx19 ⟨p, cp, rfl, hp, F⟩
  replace F0 := F0.trans F
  clear F
  go_wp2_with fail
  refine (ex_count (ss := CS) (c := 4) vC k7 _ _ _ hp).mono ?_
  rintro _ wx20 ⟨rfl, F⟩
  replace hp := hp.fut F
  replace F0 := F0.trans F
  clear F
  clear hp
  go_wp2_with fail
  refine (st_A _).mono ?_
  rintro _ wx21 ⟨p, cp, rfl, hp, F⟩
  replace F0 := F0.trans F
  clear F
  go_wp2_with fail
  refine (ex_round (ss := AS) (c := 4) (zs := []) k8' k8 (by decide) _ none _ 0 _ hp (nil_ints _ _)).mono ?_
  rintro _ wx22 ⟨n, cn, rfl, hn, F⟩
  replace hp := hp.fut F
  replace F0 := F0.trans F
  clear F
  clear hp
  go_wp2_with fail
  refine (st_B _).mono ?_
  rintro _ wx23 ⟨p, cp, rfl, hp, F⟩
  replace hn := hn.fut F
  replace F0 := F0.trans F
  clear F
  go_wp2_with fail
  refine (st_L [0, 1, 2] _).mono ?_
  rintro _ wx24 ⟨q, cq, rfl, hq, F⟩
  replace hn := hn.fut F
  replace hp := hp.fut F
  replace F0 := F0.trans F
  clear F
  go_wp2_with fail
  refine (ex_round (ss := BS) (c := 4) (zs := [0, 1, 2]) k9' k9 (by decide) _ _ _ _ _ hp hq).mono ?_
  rintro _ wx25 ⟨o, co, rfl, ho, F⟩
  replace hn := hn.fut F
  replace hp := hp.fut F
  replace hq := hq.fut F
  replace F0 := F0.trans F
  clear F
  clear hp
  clear hq
  go_wp2_with fail
  refine (st_C _).mono ?_
  rintro _ wx26 ⟨p, cp, rfl, hp, F⟩
  replace hn := hn.fut F
  replace ho := ho.fut F
  replace F0 := F0.trans F
  clear F
  go_wp2_with fail
  refine (st_L [0] _).mono ?_
  rintro _ wx27 ⟨q, cq, rfl, hq, F⟩
  replace hn := hn.fut F
  replace ho := ho.fut F
  replace hp := hp.fut F
  replace F0 := F0.trans F
  clear F
  go_wp2_with fail
  refine (ex_round (ss := CS) (c := 4) (zs := [0]) k10 rfl (by decide) _ _ _ _ _ hp hq).mono ?_
  rintro _ wx28 ⟨g, cg, rfl, hg, F⟩
  replace hn := hn.fut F
  replace ho := ho.fut F
  replace hp := hp.fut F
  replace hq := hq.fut F
  replace F0 := F0.trans F
  clear F
  clear hp
  clear hq
  clear hg
  go_wp2_with fail
  refine (st_A _).mono ?_
  rintro _ wx29 ⟨p, cp, rfl, hp, F⟩
  replace hn := hn.fut F
  replace ho := ho.fut F
  replace F0 := F0.trans F
  clear F
  go_wp2_with fail
  refine (st_L [0, 1] _).mono ?_
  rintro _ wx30 ⟨q, cq, rfl, hq, F⟩
  replace hn := hn.fut F
  replace ho := ho.fut F
  replace hp := hp.fut F
  replace F0 := F0.trans F
  clear F
  go_wp2_with fail
  refine (ex_goes (ss := AS) (c := 4) (zs := [0, 1]) k11 rfl (by decide) _ _ _ _ _ hp hq).mono ?_
  rintro _ wx31 ⟨g, cg, rfl, hg, F⟩
  replace hn := hn.fut F
  replace ho := ho.fut F
  replace hp := hp.fut F
  replace hq := hq.fut F
  replace F0 := F0.trans F
  clear F
  clear hp
  clear hq
  clear hg
  go_wp2_with fail
  refine (st_A _).mono ?_
  rintro _ wx32 ⟨p, cp, rfl, hp, F⟩
  replace hn := hn.fut F
  replace ho := ho.fut F
  replace F0 := F0.trans F
  clear F
  go_wp2_with fail
  refine (st_L [0, 0] _).mono ?_
  rintro _ wx33 ⟨q, cq, rfl, hq, F⟩
  replace hn := hn.fut F
  replace ho := ho.fut F
  replace hp := hp.fut F
  replace F0 := F0.trans F
  clear F
  go_wp2_with fail
  refine (ex_goes (ss := AS) (c := 4) (zs := [0, 0]) k12 rfl (by decide) _ _ _ _ _ hp hq).mono ?_
  rintro _ wx34 ⟨g, cg, rfl, hg, F⟩
  replace hn := hn.fut F
  replace ho := ho.fut F
  replace hp := hp.fut F
  replace hq := hq.fut F
  replace F0 := F0.trans F
  clear F
  clear hp
  clear hq
  clear hg
  go_wp2_with fail
  refine (st_B _).mono ?_
  rintro _ wx35 ⟨p, cp, rfl, hp, F⟩
  replace hn := hn.fut F
  replace ho := ho.fut F
  replace F0 := F0.trans F
  clear F
  go_wp2_with fail
  refine (ex_cuts (ss := BS) (c := 4) vB k13 _ _ _ hp).mono ?_
  rintro _ wx36 ⟨m, cm, rfl, hm, F⟩
  replace hn := hn.fut F
  replace ho := ho.fut F
  replace hp := hp.fut F
  replace F0 := F0.trans F
  clear F
  clear hp
  go_wp2_with fail
  refine (st_A _).mono ?_
  rintro _ wx37 ⟨p, cp, rfl, hp, F⟩
  replace hn := hn.fut F
  replace ho := ho.fut F
  replace hm := hm.fut F
  replace F0 := F0.trans F
  clear F
  go_wp2_with fail
  refine (ex_cuts (ss := AS) (c := 4) vA k14 _ _ _ hp).mono ?_
  rintro _ wx38 ⟨r, cr, rfl, hr, F⟩
  replace hn := hn.fut F
  replace ho := ho.fut F
  replace hm := hm.fut F
  replace hp := hp.fut F
  replace F0 := F0.trans F
  clear F
  clear hp
  clear hr
  go_wp2_with fail
  refine (st_A _).mono ?_
  rintro _ wx39 ⟨p, cp, rfl, hp, F⟩
  replace hn := hn.fut F
  replace ho := ho.fut F
  replace hm := hm.fut F
  replace F0 := F0.trans F
  clear F
  go_wp2_with fail
  refine (ex_cut (ss := AS) (c := 4) (zs := []) k15 rfl (by decide) _ none _ 0 _ hp (nil_ints _ _)).mono ?_
  rintro _ wx40 ⟨g, cg, rfl, hg, F⟩
  replace hn := hn.fut F
  replace ho := ho.fut F
  replace hm := hm.fut F
  replace hp := hp.fut F
  replace F0 := F0.trans F
  clear F
  clear hp
  clear hg
  go_wp2_with fail
  refine (st_L [0, 1, 2, 3] _).mono ?_
  rintro _ wx41 ⟨q, cq, rfl, hq, F⟩
  replace hn := hn.fut F
  replace ho := ho.fut F
  replace hm := hm.fut F
  replace F0 := F0.trans F
  clear F
  go_wp2_with fail
  refine (ex_same (xs := [0, 1, 2, 3]) (by decide) _ _ _ _ _ hn hq).mono ?_
  rintro _ wx42 ⟨rfl, F⟩
  replace hn := hn.fut F
  replace ho := ho.fut F
  replace hm := hm.fut F
  replace hq := hq.fut F
  replace F0 := F0.trans F
  clear F
  clear hq
  clear hn
  go_wp2_with fail
  refine (st_L [0, 0, 1, 1, 2, 2] _).mono ?_
  rintro _ wx43 ⟨q, cq, rfl, hq, F⟩
  replace ho := ho.fut F
  replace hm := hm.fut F
  replace F0 := F0.trans F
  clear F
  go_wp2_with fail
  refine (ex_same (xs := [0, 0, 1, 1, 2, 2]) (by decide) _ _ _ _ _ ho hq).mono ?_
  rintro _ wx44 ⟨rfl, F⟩
  replace ho := ho.fut F
  replace hm := hm.fut F
  replace hq := hq.fut F
  replace F0 := F0.trans F
  clear F
  clear hq
  clear ho
  go_wp2_with fail
  refine (ex_lists3 (x := [0]) (y := [1]) (z := [2]) (by decide) (by decide) (by decide) _ _ _ hm).mono ?_
  rintro _ wx45 ⟨rfl, F⟩
  replace hm := hm.fut F
  replace F0 := F0.trans F
  clear F
  clear hm
  go_wp2_with fail
  refine (st_A _).mono ?_
  rintro _ wx46 ⟨p, cp, rfl, hp, F⟩
  replace F0 := F0.trans F
  clear F
  go_wp2_with fail
  refine (ex_enough (ss := AS) (c := 4) (zs := []) k8' (by decide) _ none _ 0 _ hp (nil_ints _ _)).mono ?_
  rintro _ wx47 ⟨rfl, F⟩
  replace hp := hp.fut F
  replace F0 := F0.trans F
  clear F
  clear hp
  go_wp2_with fail
  refine (st_C _).mono ?_
  rintro _ wx48 ⟨p, cp, rfl, hp, F⟩
  replace F0 := F0.trans F
  clear F
  go_wp2_with fail
  refine (st_L [3, 3] _).mono ?_
  rintro _ wx49 ⟨q, cq, rfl, hq, F⟩
  replace hp := hp.fut F
  replace F0 := F0.trans F
  clear F
  go_wp2_with fail
  refine (ex_enough (ss := CS) (c := 4) (zs := [3, 3]) k17 (by decide) _ _ _ _ _ hp hq).mono ?_
  rintro _ wx50 ⟨rfl, F⟩
  replace hp := hp.fut F
  replace hq := hq.fut F
  replace F0 := F0.trans F
  clear F
  clear hp
  clear hq
  go_wp2_with fail
  refine (st_B _).mono ?_
  rintro _ wx51 ⟨p, cp, rfl, hp, F⟩
  replace F0 := F0.trans F
  clear F
  go_wp2_with fail
  refine (ex_prov1 (ss := BS) (c := 4) (x := [0, 1]) k18 (by decide) _ _ _ hp).mono ?_
  rintro _ wx52 ⟨rfl, F⟩
  replace hp := hp.fut F
  replace F0 := F0.trans F
  clear F
  clear hp
  go_wp2_with fail
  refine (st_B _).mono ?_
  rintro _ wx53 ⟨p, cp, rfl, hp, F⟩
  replace F0 := F0.trans F
  clear F
  go_wp2_with fail
  refine (ex_prov1 (ss := BS) (c := 4) (x := [0, 1, 2, 3]) k19 (by decide) _ _ _ hp).mono ?_
  rintro _ wx54 ⟨rfl, F⟩
  replace hp := hp.fut F
  replace F0 := F0.trans F
  clear F
  clear hp
  go_wp2_with fail
  refine (st_dn 7 _).mono ?_
  rintro _ wx55 ⟨p, cp, rfl, hp, F⟩
  replace F0 := F0.trans F
  clear F
  go_wp2_with fail
  refine (ex_check (ss := []) (c := 7) k20 _ _ _ hp).mono ?_
  rintro _ wx56 ⟨rfl, F⟩
  replace hp := hp.fut F
  replace F0 := F0.trans F
  clear F
  clear hp
  go_wp2_with fail
  refine (st_dn 2 _).mono ?_
  rintro _ wx57 ⟨p, cp, rfl, hp, F⟩
  replace F0 := F0.trans F
  clear F
  go_wp2_with fail
  refine (ex_check (ss := []) (c := 2) k21 _ _ _ hp).mono ?_
  rintro _ wx58 ⟨rfl, F⟩
  replace hp := hp.fut F
  replace F0 := F0.trans F
  clear F
  clear hp
  go_wp2_with fail
  refine (st_dl 2 1 0 _).mono ?_
  rintro _ wx59 ⟨p, cp, rfl, hp, F⟩
  replace F0 := F0.trans F
  clear F
  go_wp2_with fail
  refine (ex_check (ss := [(1, 0)]) (c := 2) k22 _ _ _ hp).mono ?_
  rintro _ wx60 ⟨rfl, F⟩
  replace hp := hp.fut F
  replace F0 := F0.trans F
  clear F
  clear hp
  go_wp2_with fail
  refine (st_dl 2 0 2 _).mono ?_
  rintro _ wx61 ⟨p, cp, rfl, hp, F⟩
  replace F0 := F0.trans F
  clear F
  go_wp2_with fail
  refine (ex_check (ss := [(0, 2)]) (c := 2) k23 _ _ _ hp).mono ?_
  rintro _ wx62 ⟨rfl, F⟩
  replace hp := hp.fut F
  replace F0 := F0.trans F
  clear F
  clear hp
  go_wp2_with fail
  refine (ex_check10 _).mono ?_
  rintro _ wx63 ⟨rfl, F⟩
  replace F0 := F0.trans F
  clear F
  go_wp2_with fail
  refine (works_any _).mono ?_
  rintro _ wx64 ⟨rfl, F⟩
  replace F0 := F0.trans F
  clear F
  go_wp2
  go_ret
  exact ⟨rfl, F0⟩
end Go.Proofs.Ytimddkofcejijaa
