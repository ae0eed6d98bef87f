/- law 5: law5_any -/
import Derived.Test.YtpgifeaejjjjnaaFG
import Derived.Test.YtpgifeaejjjjnaaFC
namespace Go.Proofs.Ytpgifeaejjjjnaa
open Go.RowKit Go.Sort
set_option maxRecDepth 100000 in
set_option maxHeartbeats 8000000 in
theorem law5_any (c : Int) (a : Option Addr) (cap : Nat) (zss : List (List Int)) (s : Int) (w : World) (hL : LstC w a zss) (hcap : zss.length ≤ cap) (hcm : cap ≤ 9223372036854775807) :
    Calls Try.prog 5 #[.int .i64 c, .slice a zss.length cap, .int .i64 s] w fun e w' => e = .returned (.bool true) ∧ Fut w w' := by
  have HLG := Lib.hid (large_fut a cap zss w hL hcap hcm)
  have H38 := Lib.hid (fun W (F : Fut w W) => why_any c a cap zss W (hL.fut F) hcap hcm)
  have H39 := Lib.hid (fun W (F : Fut w W) => rwhy_any c a cap zss W (hL.fut F) hcap hcm)
  have H40 := Lib.hid (fun W (F : Fut w W) => fillC_any c a cap zss W (hL.fut F) hcap hcm)
  have H41 := Lib.hid (fun W (F : Fut w W) => rfillC_any c a cap zss W (hL.fut F) hcap hcm)
  have H42 := Lib.hid (fun W (F : Fut w W) => corner_any c a cap zss W (hL.fut F) hcap hcm)
  have H43 := Lib.hid (fun W (F : Fut w W) => rcorner_any c a cap zss W (hL.fut F) hcap hcm)
  have H44 := Lib.hid (fun W (F : Fut w W) => proves_any c a cap zss s W (hL.fut F) hcap hcm)
  have H45 := Lib.hid (fun W (F : Fut w W) => rproves_any c a cap zss s W (hL.fut F) hcap hcm)
  rw [← (fil_ref c zss).1, ← (fil_ref c zss).2] at H41
  generalize whyS c zss = WS at *
  generalize whyE c zss = WE at *
  generalize filL c zss = FL at *
  generalize filE c zss = FE at *
  generalize corE c zss = CE at *
  generalize prvE c zss s = PE at *
  generalize hLB : decide (30 < zss.length ∨ ∃ k, k < zss.length ∧ 30 < (lth zss k).length) = LB at *
  clear hLB hL hcap hcm
  have HF0 : Hid (Fut w w) := Lib.hid Fut.rfl
  go_enter Try.func5, Try.ntmps5
  go_wp2_with fail
  refine (HLG.out).mono ?_
  rintro _ wx1 ⟨rfl, F⟩
  replace HF0 := Lib.hid (HF0.out.trans F)
  clear F
  clear HLG
  cases LB
  · go_wp2_with fail
    refine (H38.out _ HF0.out).mono ?_
    rintro _ wx3 ⟨rfl, F⟩
    replace HF0 := Lib.hid (HF0.out.trans F)
    clear F
    go_wp2_with fail
    refine (H39.out _ HF0.out).mono ?_
    rintro _ wx4 ⟨rfl, F⟩
    replace HF0 := Lib.hid (HF0.out.trans F)
    clear F
    go_wp2_with fail
    refine (H40.out _ HF0.out).mono ?_
    rintro _ wx5 ⟨lc, cc, rfl, hc1, hc2, hc, F⟩
    replace HF0 := Lib.hid (HF0.out.trans F)
    clear F
    replace hc := Lib.hid hc
    have hc3 := Lib.hid (Nat.le_trans hc1 hc2)
    clear hc1 hc2
    go_wp2_with fail
    refine (H41.out _ HF0.out).mono ?_
    rintro _ wx6 ⟨ld, cd, rfl, _, _, hd, F⟩
    replace hc := Lib.hid (hc.out.fut F)
    replace HF0 := Lib.hid (HF0.out.trans F)
    clear F
    replace hd := Lib.hid hd
    clear H38 H39 H40 H41
    go_wp2_with fail
    refine (lists_self FL _ hc.out hd.out hc3.out).mono ?_
    rintro _ wx7 ⟨rfl, F⟩
    replace hc := Lib.hid (hc.out.fut F)
    replace hd := Lib.hid (hd.out.fut F)
    replace HF0 := Lib.hid (HF0.out.trans F)
    clear F
    clear hc
    clear hd
    go_wp2_with fail
    refine (H42.out _ HF0.out).mono ?_
    rintro _ wx8 ⟨rfl, F⟩
    replace HF0 := Lib.hid (HF0.out.trans F)
    clear F
    go_wp2_with fail
    refine (H43.out _ HF0.out).mono ?_
    rintro _ wx9 ⟨rfl, F⟩
    replace HF0 := Lib.hid (HF0.out.trans F)
    clear F
    go_wp2_with fail
    refine (H44.out _ HF0.out).mono ?_
    rintro _ wx10 ⟨rfl, F⟩
    replace HF0 := Lib.hid (HF0.out.trans F)
    clear F
    go_wp2_with fail
    refine (H45.out _ HF0.out).mono ?_
    rintro _ wx11 ⟨rfl, F⟩
    replace HF0 := Lib.hid (HF0.out.trans F)
    clear F
    clear H42 H43 H44 H45
    go_wp2_with fail
    refine (works_any _).mono ?_
    rintro _ wx12 ⟨rfl, F⟩
    replace HF0 := Lib.hid (HF0.out.trans F)
    clear F
    go_wp2
    go_ret
    exact ⟨rfl, HF0.out⟩
  · go_wp2_with fail
    refine (works_any _).mono ?_
    rintro _ wx2 ⟨rfl, F⟩
    replace HF0 := Lib.hid (HF0.out.trans F)
    clear F
    go_wp2
    go_ret
    exact ⟨rfl, HF0.out⟩
end Go.Proofs.Ytpgifeaejjjjnaa
