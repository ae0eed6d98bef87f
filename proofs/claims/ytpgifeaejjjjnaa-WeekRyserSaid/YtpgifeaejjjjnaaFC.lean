/- the code's full plan is the reference's; law 4: law4_any -/
import Derived.Test.YtpgifeaejjjjnaaFB
import Derived.Test.YtpgifeaejjjjnaaEH
import Derived.Test.YtpgifeaejjjjnaaEL
namespace Go.Proofs.Ytpgifeaejjjjnaa
open Go.RowKit Go.Sort
/-- the code's full plan is the reference's. -/
theorem full_ref (c : Int) (zss : List (List Int)) : fullE c zss = fulR c zss := by
  unfold fullE fulR
  by_cases h : chkE c zss = 0
  · rw [if_pos h, if_pos h]
    obtain ⟨h1, h5, _, _⟩ := chk_rows h
    obtain ⟨n, rfl⟩ := Int.eq_ofNat_of_zero_le (show 0 ≤ c by omega)
    have hp : Plan n zss := plan_chk h
    rw [Int.toNat_natCast, full_knF hp]
    obtain ⟨a, b⟩ := grd_plan (n - zss.length) zss hp (by have := hp.len; omega)
    exact grid_kn a b
  · rw [if_neg h, if_neg h]
/-- what Round answers. -/
def rndL (c : Int) : List (List Int) := if sizeE c 0 = 0 then gridL c.toNat c.toNat (rndF c.toNat) else []
theorem round_tup (c : Int) (w : World) : Calls Try.prog 32 #[.int .i64 c] w (TupLC (sizeE c 0) (rndL c) w) := by
  unfold rndL
  by_cases h : sizeE c 0 = 0
  · obtain ⟨h1, h5, _⟩ := size_good h
    obtain ⟨n, rfl⟩ := Int.eq_ofNat_of_zero_le (show 0 ≤ c by omega)
    rw [if_pos h, h, Int.toNat_natCast]
    refine (round_any n (by omega) (by omega) w).mono fun e w' ⟨v, he, hO, F⟩ => ?_
    subst he
    exact hO.tup (by omega) F 0
  · rw [if_neg h]
    refine (round_no c h w).mono fun e w' ⟨he, hw⟩ => ?_
    subst he; subst hw
    exact TupLC.nil _ Fut.rfl
theorem rround_tup (c : Int) (w : World) : Calls Try.prog 33 #[.int .i64 c] w (TupLC (sizeE c 0) (rndL c) w) := by
  unfold rndL
  by_cases h : sizeE c 0 = 0
  · obtain ⟨h1, h5, _⟩ := size_good h
    obtain ⟨n, rfl⟩ := Int.eq_ofNat_of_zero_le (show 0 ≤ c by omega)
    rw [if_pos h, h, Int.toNat_natCast]
    exact rround_any n (by omega) (by omega) w
  · rw [if_neg h]
    refine (rround_no c h w).mono fun e w' ⟨he, hw⟩ => ?_
    subst he; subst hw
    exact TupLC.nil _ Fut.rfl
set_option maxRecDepth 100000 in
set_option maxHeartbeats 8000000 in
theorem law4_any (c : Int) (a : Option Addr) (cap : Nat) (zss : List (List Int)) (w : World) (hL : LstC w a zss) (hcap : zss.length ≤ cap) (hcm : cap ≤ 9223372036854775807) :
    Calls Try.prog 4 #[.int .i64 c, .slice a zss.length cap] w fun e w' => e = .returned (.bool true) ∧ Fut w w' := by
  have HLG := Lib.hid (large_fut a cap zss w hL hcap hcm)
  have H30 := Lib.hid (fun W (F : Fut w W) => full_any c a cap zss W (hL.fut F) hcap hcm)
  have H31 := Lib.hid (fun W (F : Fut w W) => rfull_any c a cap zss W (hL.fut F) hcap hcm)
  have H34 := Lib.hid (fun W (F : Fut w W) => cross_any c a cap zss W (hL.fut F) hcap hcm)
  have H35 := Lib.hid (fun W (F : Fut w W) => rcross_any c a cap zss W (hL.fut F) hcap hcm)
  have H36 := Lib.hid (fun W (F : Fut w W) => crosses_any c a cap zss W (hL.fut F) hcap hcm)
  have H37 := Lib.hid (fun W (F : Fut w W) => rcrosses_any c a cap zss W (hL.fut F) hcap hcm)
  rw [← full_ref] at H31
  rw [crsRN_same] at H37
  have H32 := Lib.hid (fun W => round_tup c W)
  have H33 := Lib.hid (fun W => rround_tup c W)
  generalize fullE c zss = FL at *
  generalize chkE c zss = CE at *
  generalize rndL c = RL at *
  generalize sizeE c 0 = SE at *
  generalize crE c zss = XE at *
  generalize crL c zss = XL at *
  generalize fulE c zss = UE at *
  generalize crsN c zss = XN at *
  generalize hLB : decide (30 < zss.length ∨ ∃ k, k < zss.length ∧ 30 < (lth zss k).length) = LB at *
  clear hLB hL hcap hcm
  have HF0 : Hid (Fut w w) := Lib.hid Fut.rfl
  go_enter Try.func4, Try.ntmps4
  go_wp2_with fail
  refine (HLG.out).mono ?_
  rintro _ wx1 ⟨rfl, F⟩
  replace HF0 := Lib.hid (HF0.out.trans F)
  clear F
  clear HLG
  cases LB
  · go_wp2_with fail
    refine (H30.out _ HF0.out).mono ?_
    rintro _ wx3 ⟨la, ca, rfl, ha1, ha2, ha, F⟩
    replace HF0 := Lib.hid (HF0.out.trans F)
    clear F
    replace ha := Lib.hid ha
    have ha3 := Lib.hid (Nat.le_trans ha1 ha2)
    clear ha1 ha2
    go_wp2_with fail
    refine (H31.out _ HF0.out).mono ?_
    rintro _ wx4 ⟨lb, cb, rfl, _, _, hb, F⟩
    replace ha := Lib.hid (ha.out.fut F)
    replace HF0 := Lib.hid (HF0.out.trans F)
    clear F
    replace hb := Lib.hid hb
    go_wp2_with fail
    refine (H32.out _).mono ?_
    rintro _ wx5 ⟨lc, cc, rfl, hc1, hc2, hc, F⟩
    replace ha := Lib.hid (ha.out.fut F)
    replace hb := Lib.hid (hb.out.fut F)
    replace HF0 := Lib.hid (HF0.out.trans F)
    clear F
    replace hc := Lib.hid hc
    have hc3 := Lib.hid (Nat.le_trans hc1 hc2)
    clear hc1 hc2
    go_wp2_with fail
    refine (H33.out _).mono ?_
    rintro _ wx6 ⟨ld, cd, rfl, _, _, hd, F⟩
    replace ha := Lib.hid (ha.out.fut F)
    replace hb := Lib.hid (hb.out.fut F)
    replace hc := Lib.hid (hc.out.fut F)
    replace HF0 := Lib.hid (HF0.out.trans F)
    clear F
    replace hd := Lib.hid hd
    clear H30 H31 H32 H33
    go_wp2_with fail
    refine (lists_self FL _ ha.out hb.out ha3.out).mono ?_
    rintro _ wx7 ⟨rfl, F⟩
    replace ha := Lib.hid (ha.out.fut F)
    replace hb := Lib.hid (hb.out.fut F)
    replace hc := Lib.hid (hc.out.fut F)
    replace hd := Lib.hid (hd.out.fut F)
    replace HF0 := Lib.hid (HF0.out.trans F)
    clear F
    clear ha
    clear hb
    go_wp2_with fail
    refine (lists_self RL _ hc.out hd.out hc3.out).mono ?_
    rintro _ wx8 ⟨rfl, F⟩
    replace hc := Lib.hid (hc.out.fut F)
    replace hd := Lib.hid (hd.out.fut F)
    replace HF0 := Lib.hid (HF0.out.trans F)
    clear F
    clear hc
    clear hd
    go_wp2_with fail
    refine (H34.out _ HF0.out).mono ?_
    rintro _ wx9 ⟨le, ce, rfl, he1, he2, he, F⟩
    replace HF0 := Lib.hid (HF0.out.trans F)
    clear F
    replace he := Lib.hid he
    have he3 := Lib.hid (Nat.le_trans he1 he2)
    clear he1 he2
    go_wp2_with fail
    refine (H35.out _ HF0.out).mono ?_
    rintro _ wx10 ⟨lf, cf, rfl, _, _, hf, F⟩
    replace he := Lib.hid (he.out.fut F)
    replace HF0 := Lib.hid (HF0.out.trans F)
    clear F
    replace hf := Lib.hid hf
    go_wp2_with fail
    refine (H36.out _ HF0.out).mono ?_
    rintro _ wx11 ⟨rfl, F⟩
    replace he := Lib.hid (he.out.fut F)
    replace hf := Lib.hid (hf.out.fut F)
    replace HF0 := Lib.hid (HF0.out.trans F)
    clear F
    go_wp2_with fail
    refine (H37.out _ HF0.out).mono ?_
    rintro _ wx12 ⟨rfl, F⟩
    replace he := Lib.hid (he.out.fut F)
    replace hf := Lib.hid (hf.out.fut F)
    replace HF0 := Lib.hid (HF0.out.trans F)
    clear F
    clear H34 H35 H36 H37
    go_wp2_with fail
    refine (same_self XL _ he.out hf.out he3.out).mono ?_
    rintro _ wx13 ⟨rfl, F⟩
    replace he := Lib.hid (he.out.fut F)
    replace hf := Lib.hid (hf.out.fut F)
    replace HF0 := Lib.hid (HF0.out.trans F)
    clear F
    clear he
    clear hf
    go_wp2_with fail
    refine (works_any _).mono ?_
    rintro _ wx14 ⟨rfl, F⟩
    replace HF0 := Lib.hid (HF0.out.trans F)
    clear F
    go_wp2
    go_ret
    exact ⟨rfl, HF0.out⟩
  · go_wp2_with fail
    refine (works_any _).mono ?_
    rintro _ wx2 ⟨rfl, F⟩
    replace HF0 := Lib.hid (HF0.out.trans F)
    clear F
    go_wp2
    go_ret
    exact ⟨rfl, HF0.out⟩
end Go.Proofs.Ytpgifeaejjjjnaa
