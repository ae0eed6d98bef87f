/- the law Rows. -/
import Derived.Test.YtpgifeaejjjjnaaCT
namespace Go.Proofs.Ytpgifeaejjjjnaa
open Go.RowKit Go.Sort
theorem lists_self {a c : Option Addr} {cap dap : Nat} (zss : List (List Int)) (w : World) (hA : LstC w a zss) (hC : LstC w c zss) (hz : zss.length ≤ 9223372036854775807) :
    Calls Try.prog 22 #[.slice a zss.length cap, .slice c zss.length dap] w fun e w' => e = .returned (.bool true) ∧ Fut w w' := by
  have h1 : ∀ k, k < zss.length → (lth zss k).length ≤ 9223372036854775807 := fun k hk => by
    obtain ⟨_, _, _, lc, _, _, _, h1, h2, _⟩ := hA k hk
    omega
  have := lists_any a c cap dap zss zss w hA.lst hC.lst hz hz h1 h1
  rwa [decide_eq_true rfl] at this
theorem same_self {a c : Option Addr} {cap dap : Nat} (zs : List Int) (w : World) (hA : IntsAt w a zs) (hC : IntsAt w c zs) (hz : zs.length ≤ 9223372036854775807) :
    Calls Try.prog 23 #[.slice a zs.length cap, .slice c zs.length dap] w fun e w' => e = .returned (.bool true) ∧ Fut w w' :=
  (same_any a c cap dap zs zs w hz hz hA hC).mono fun _ _ ⟨e, q, hq⟩ => ⟨by rw [e]; unfold sameB; rw [decide_eq_true rfl], hq ▸ Fut.drewN _ _⟩
theorem large_fut (a : Option Addr) (cap : Nat) (zss : List (List Int)) (w : World) (hL : LstC w a zss) (hcap : zss.length ≤ cap) (hcm : cap ≤ 9223372036854775807) :
    Calls Try.prog 16 #[.slice a zss.length cap] w fun e w' => e = .returned (.bool (decide (30 < zss.length ∨ ∃ k, k < zss.length ∧ 30 < (lth zss k).length))) ∧ Fut w w' := by
  refine (large_any a cap zss w hL.lst (by omega) fun k hk => ?_).mono fun _ _ ⟨e, h⟩ => ⟨e, h ▸ Fut.rfl⟩
  obtain ⟨_, _, _, lc, _, _, _, h1, h2, _⟩ := hL k hk
  omega

set_option maxRecDepth 100000 in
set_option maxHeartbeats 8000000 in
theorem law3_any (c : Int) (a : Option Addr) (cap : Nat) (zss : List (List Int)) (w : World) (hL : LstC w a zss) (hcap : zss.length ≤ cap) (hcm : cap ≤ 9223372036854775807) :
    Calls Try.prog 3 #[.int .i64 c, .slice a zss.length cap] w fun e w' => e = .returned (.bool true) ∧ Fut w w' := by
  have HLG := Lib.hid (large_fut a cap zss w hL hcap hcm)
  have H18 := Lib.hid (fun W (F : Fut w W) => free_any c a cap zss W (hL.fut F) hcap hcm)
  have H19 := Lib.hid (fun W (F : Fut w W) => rfree_any c a cap zss W (hL.fut F) hcap hcm)
  have H20 := Lib.hid (fun W (F : Fut w W) => next_any c a cap zss W (hL.fut F) hcap hcm)
  have H21 := Lib.hid (fun W (F : Fut w W) => rnext_any c a cap zss W (hL.fut F) hcap hcm)
  have H24 := Lib.hid (fun W (F : Fut w W) => check_any c a cap zss W (hL.fut F) hcap hcm)
  have H25 := Lib.hid (fun W (F : Fut w W) => rcheck_any c a cap zss W (hL.fut F) hcap hcm)
  have H26 := Lib.hid (fun W (F : Fut w W) => count26_any c a cap zss W (hL.fut F) hcap hcm)
  have H27 := Lib.hid (fun W (F : Fut w W) => rcount_any c a cap zss W (hL.fut F) hcap hcm)
  have H28 := Lib.hid (fun W (F : Fut w W) => turned_any c a cap zss W (hL.fut F) hcap hcm)
  have H29 := Lib.hid (fun W (F : Fut w W) => rturned_any c a cap zss W (hL.fut F) hcap hcm)
  generalize freeE c zss = FR at *
  generalize nxtL c zss = NX at *
  generalize opnE c zss = OE at *
  generalize chkE c zss = CE at *
  generalize cntN c zss = CN at *
  generalize turnE c zss = TR at *
  generalize hLB : decide (30 < zss.length ∨ ∃ k, k < zss.length ∧ 30 < (lth zss k).length) = LB at *
  clear hLB hL hcap hcm
  have HF0 : Hid (Fut w w) := Lib.hid Fut.rfl
  go_enter Try.func3, Try.ntmps3
  go_wp2_with fail
  refine (HLG.out).mono ?_
  rintro _ wx1 ⟨rfl, F⟩
  replace HF0 := Lib.hid (HF0.out.trans F)
  clear F
  clear HLG
  cases LB
  · go_wp2_with fail
    refine (H18.out _ HF0.out).mono ?_
    rintro _ wx3 ⟨la, ca, rfl, ha1, ha2, ha, F⟩
    replace HF0 := Lib.hid (HF0.out.trans F)
    clear F
    replace ha := Lib.hid ha
    have ha3 := Lib.hid (Nat.le_trans ha1 ha2)
    clear ha1 ha2
    go_wp2_with fail
    refine (H19.out _ HF0.out).mono ?_
    rintro _ wx4 ⟨lb, cb, rfl, _, _, hb, F⟩
    replace ha := Lib.hid (ha.out.fut F)
    replace HF0 := Lib.hid (HF0.out.trans F)
    clear F
    replace hb := Lib.hid hb
    go_wp2_with fail
    refine (H20.out _ HF0.out).mono ?_
    rintro _ wx5 ⟨lc, cc, rfl, hc1, hc2, hc, F⟩
    replace ha := Lib.hid (ha.out.fut F)
    replace hb := Lib.hid (hb.out.fut F)
    replace HF0 := Lib.hid (HF0.out.trans F)
    clear F
    replace hc := Lib.hid hc
    have hc3 := Lib.hid (Nat.le_trans hc1 hc2)
    clear hc1 hc2
    go_wp2_with fail
    refine (H21.out _ HF0.out).mono ?_
    rintro _ wx6 ⟨ld, cd, rfl, _, _, hd, F⟩
    replace ha := Lib.hid (ha.out.fut F)
    replace hb := Lib.hid (hb.out.fut F)
    replace hc := Lib.hid (hc.out.fut F)
    replace HF0 := Lib.hid (HF0.out.trans F)
    clear F
    replace hd := Lib.hid hd
    clear H18 H19 H20 H21
    go_wp2_with fail
    refine (lists_self FR _ ha.out hb.out ha3.out).mono ?_
    rintro _ wx7 ⟨rfl, F⟩
    replace ha := Lib.hid (ha.out.fut F)
    replace hb := Lib.hid (hb.out.fut F)
    replace hc := Lib.hid (hc.out.fut F)
    replace hd := Lib.hid (hd.out.fut F)
    replace HF0 := Lib.hid (HF0.out.trans F)
    clear F
    clear ha
    clear hb
    go_wp2_with fail
    refine (same_self NX _ hc.out hd.out hc3.out).mono ?_
    rintro _ wx8 ⟨rfl, F⟩
    replace hc := Lib.hid (hc.out.fut F)
    replace hd := Lib.hid (hd.out.fut F)
    replace HF0 := Lib.hid (HF0.out.trans F)
    clear F
    clear hc
    clear hd
    go_wp2_with fail
    refine (H24.out _ HF0.out).mono ?_
    rintro _ wx9 ⟨rfl, F⟩
    replace HF0 := Lib.hid (HF0.out.trans F)
    clear F
    go_wp2_with fail
    refine (H25.out _ HF0.out).mono ?_
    rintro _ wx10 ⟨rfl, F⟩
    replace HF0 := Lib.hid (HF0.out.trans F)
    clear F
    go_wp2_with fail
    refine (H26.out _ HF0.out).mono ?_
    rintro _ wx11 ⟨rfl, F⟩
    replace HF0 := Lib.hid (HF0.out.trans F)
    clear F
    go_wp2_with fail
    refine (H27.out _ HF0.out).mono ?_
    rintro _ wx12 ⟨rfl, F⟩
    replace HF0 := Lib.hid (HF0.out.trans F)
    clear F
    go_wp2_with fail
    refine (H28.out _ HF0.out).mono ?_
    rintro _ wx13 ⟨le, ce, rfl, he1, he2, he, F⟩
    replace HF0 := Lib.hid (HF0.out.trans F)
    clear F
    replace he := Lib.hid he
    have he3 := Lib.hid (Nat.le_trans he1 he2)
    clear he1 he2
    go_wp2_with fail
    refine (H29.out _ HF0.out).mono ?_
    rintro _ wx14 ⟨lf, cf, rfl, _, _, hf, F⟩
    replace he := Lib.hid (he.out.fut F)
    replace HF0 := Lib.hid (HF0.out.trans F)
    clear F
    replace hf := Lib.hid hf
    clear H24 H25 H26 H27 H28 H29
    go_wp2_with fail
    refine (lists_self TR _ he.out hf.out he3.out).mono ?_
    rintro _ wx15 ⟨rfl, F⟩
    replace he := Lib.hid (he.out.fut F)
    replace hf := Lib.hid (hf.out.fut F)
    replace HF0 := Lib.hid (HF0.out.trans F)
    clear F
    clear he
    clear hf
    go_wp2_with fail
    refine (works_any _).mono ?_
    rintro _ wx16 ⟨rfl, F⟩
    replace HF0 := Lib.hid (HF0.out.trans F)
    clear F
    go_wp2
    go_ret
    exact ⟨rfl, HF0.out⟩
  · go_wp2_with fail
    refine (works_any _).mono ?_
    rintro _ wx2 ⟨rfl, F⟩
    replace HF0 := Lib.hid (HF0.out.trans F)
    clear F
    go_wp2
    go_ret
    exact ⟨rfl, HF0.out⟩
end Go.Proofs.Ytpgifeaejjjjnaa
