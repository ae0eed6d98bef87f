/- the reference's Next and Count. -/
import Derived.Test.YtpgifeaejjjjnaaCR
namespace Go.Proofs.Ytpgifeaejjjjnaa
open Go.RowKit Go.Sort
theorem opn_plan {n : Nat} {zss : List (List Int)} (h : opnE n zss = 0) : Plan n zss ∧ zss.length < n := by
  obtain ⟨_, _, h3, h4⟩ := opn_rows h
  exact ⟨plan_of h4 (by omega), by omega⟩
set_option maxRecDepth 100000 in
theorem rnext_any (c : Int) (a : Option Addr) (cap : Nat) (zss : List (List Int)) (w : World) (hL : LstC w a zss) (hcap : zss.length ≤ cap) (hcm : cap ≤ 9223372036854775807) :
    Calls Try.prog 21 #[.int .i64 c, .slice a zss.length cap] w (TupI (opnE c zss) (nxtL c zss) w) := by
  have HC := Lib.hid (ropen_any c a cap zss w hL hcap hcm)
  unfold nxtL
  by_cases hs : opnE c zss = 0
  · rw [if_pos hs]
    rw [hs] at HC ⊢
    obtain ⟨c1, c5, hn, hrow⟩ := opn_rows hs
    obtain ⟨n, rfl⟩ := Int.eq_ofNat_of_zero_le (show 0 ≤ c by omega)
    rw [show ((n : Int)).toNat = n by simp]
    have hp := opn_plan hs
    have HP := Lib.hid (fit_pos hp.1 hp.2)
    have HCC := Lib.hid (fun W (F : Fut w W) => rfitting_any n (by omega) a cap zss W (hL.lst.fut F) (by omega) (fun k hk => by have := (hrow k hk).1; omega))
    rw [fit_ref (fun i hi => by have := (hrow i hi).1; omega)] at HCC
    clear hL hs hrow hcap hcm hp
    generalize fitL n zss = fl at *
    go_enter Try.func21, Try.ntmps21
    go_wp2_with fail
    refine HC.out.mono ?_
    rintro _ w1 ⟨rfl, F1⟩
    have HF1 := Lib.hid F1
    have H2 := Lib.hid (HCC.out w1 F1)
    clear F1 HCC HC
    go_wp2_with fail
    refine H2.out.mono ?_
    rintro _ w2 ⟨v, rfl, hX, F2⟩
    obtain ⟨g, cc, vals, rfl, _⟩ := hX.take HP.out
    obtain ⟨al, ac, hgs, hcell, hOr⟩ := hX.at 0 HP.out
    have HOR := Lib.hid hOr
    have HF2 := Lib.hid (HF1.out.trans F2)
    have hpx : (0 : Int) < fl.length := by have := HP.out; omega
    generalize lth fl 0 = row at *
    clear hX F2 hOr H2
    go_wp2
    go_ret2
    obtain ⟨a', c', e, q1, q2, hI⟩ := HOR.out.form
    simp only [Value.slice.injEq, true_and] at e
    obtain ⟨rfl, rfl⟩ := e
    exact ⟨al, ac, rfl, q1, by unfold maxLen at q2; omega, hI, HF2.out⟩
  · rw [if_neg hs]
    clear hL
    generalize opnE c zss = E at *
    go_enter Try.func21, Try.ntmps21
    go_wp2_with fail
    refine HC.out.mono ?_
    rintro _ w1 ⟨rfl, F⟩
    have HF := Lib.hid F
    clear F
    go_wp2
    go_ret2
    exact TupI.nil E HF.out
set_option maxRecDepth 100000 in
theorem rcount_any (c : Int) (a : Option Addr) (cap : Nat) (zss : List (List Int)) (w : World) (hL : LstC w a zss) (hcap : zss.length ≤ cap) (hcm : cap ≤ 9223372036854775807) :
    Calls Try.prog 27 #[.int .i64 c, .slice a zss.length cap] w (TupN (opnE c zss) (cntN c zss) w) := by
  have HC := Lib.hid (ropen_any c a cap zss w hL hcap hcm)
  unfold cntN
  by_cases hs : opnE c zss = 0
  · rw [if_pos hs]
    rw [hs] at HC ⊢
    obtain ⟨c1, c5, hn, hrow⟩ := opn_rows hs
    obtain ⟨n, rfl⟩ := Int.eq_ofNat_of_zero_le (show 0 ≤ c by omega)
    rw [show ((n : Int)).toNat = n by simp]
    have hp := opn_plan hs
    have HP := Lib.hid (fit_pos hp.1 hp.2)
    have HCC := Lib.hid (fun W (F : Fut w W) => rfitting_any n (by omega) a cap zss W (hL.lst.fut F) (by omega) (fun k hk => by have := (hrow k hk).1; omega))
    rw [fit_ref (fun i hi => by have := (hrow i hi).1; omega)] at HCC
    clear hL hs hrow hcap hcm hp
    generalize fitL n zss = fl at *
    go_enter Try.func27, Try.ntmps27
    go_wp2_with fail
    refine HC.out.mono ?_
    rintro _ w1 ⟨rfl, F1⟩
    have HF1 := Lib.hid F1
    have H2 := Lib.hid (HCC.out w1 F1)
    clear F1 HCC HC
    go_wp2_with fail
    refine H2.out.mono ?_
    rintro _ w2 ⟨v, rfl, hX, F2⟩
    obtain ⟨g, cc, vals, rfl, _⟩ := hX.take HP.out
    have HF2 := Lib.hid (HF1.out.trans F2)
    clear hX F2 H2
    go_wp2
    go_ret2
    exact ⟨rfl, HF2.out⟩
  · rw [if_neg hs]
    clear hL
    generalize opnE c zss = E at *
    go_enter Try.func27, Try.ntmps27
    go_wp2_with fail
    refine HC.out.mono ?_
    rintro _ w1 ⟨rfl, F⟩
    have HF := Lib.hid F
    clear F
    go_wp2
    go_ret2
    exact ⟨rfl, HF.out⟩
end Go.Proofs.Ytpgifeaejjjjnaa
