/- The reference's Full 31: rfull_any (fulR) -/
import Derived.Test.YtpgifeaejjjjnaaEG
namespace Go.Proofs.Ytpgifeaejjjjnaa
open Go.RowKit Go.Sort
/-- the lists that the reference's Full answers. -/
def fulR (c : Int) (zss : List (List Int)) : List (List Int) := if chkE c zss = 0 then grdF c.toNat (c.toNat - zss.length) zss else []
set_option maxRecDepth 100000 in
theorem rfull_any (c : Int) (a : Option Addr) (cap : Nat) (zss : List (List Int)) (w : World) (hL : LstC w a zss) (hcap : zss.length ≤ cap) (hcm : cap ≤ 9223372036854775807) :
    Calls Try.prog 31 #[.int .i64 c, .slice a zss.length cap] w (TupLC (chkE c zss) (fulR c zss) w) := by
  have HC := Lib.hid (rcheck_any c a cap zss w hL hcap hcm)
  unfold fulR
  by_cases hs : chkE c zss = 0
  · rw [if_pos hs]
    have hP := hs
    rw [hs] at HC ⊢
    obtain ⟨c1, c5, hn, hrow⟩ := chk_rows hs
    obtain ⟨n, rfl⟩ := Int.eq_ofNat_of_zero_le (show 0 ≤ c by omega)
    rw [show ((n : Int)).toNat = n by simp]
    have HCC := Lib.hid (fun W (F : Fut w W) => rfill_any n (by omega) a cap zss W (hL.fut F) (plan_chk hP) (by omega))
    clear hL hs hrow hcap hcm hP
    generalize grdF n (n - zss.length) zss = gl at *
    go_enter Try.func31, Try.ntmps31
    go_wp2_with fail
    refine HC.out.mono ?_
    rintro _ w1 ⟨rfl, F1⟩
    have HF1 := Lib.hid F1
    have H2 := Lib.hid (HCC.out w1 F1)
    clear F1
    go_wp2_with fail
    refine H2.out.mono ?_
    rintro _ w2 ⟨v, rfl, hX, F2⟩
    obtain ⟨l, lc, rfl, q1, q2, hC⟩ := hX.listsC
    have HQ := Lib.hid hC
    have HF2 := Lib.hid (HF1.out.trans F2)
    clear hX F2 hC
    go_wp2
    go_ret2
    exact ⟨l, lc, rfl, q1, q2, HQ.out, HF2.out⟩
  · rw [if_neg hs]
    clear hL
    generalize chkE c zss = E at *
    go_enter Try.func31, Try.ntmps31
    go_wp2_with fail
    refine HC.out.mono ?_
    rintro _ w1 ⟨rfl, F⟩
    have HF := Lib.hid F
    clear F
    go_wp2
    go_ret2
    exact TupLC.nil _ HF.out
end Go.Proofs.Ytpgifeaejjjjnaa
