/- The reference's Crosses 37: rcrosses_any (crsRN) -/
import Derived.Test.YtpgifeaejjjjnaaEJ
import Derived.Test.YtpgifeaejjjjnaaEE
namespace Go.Proofs.Ytpgifeaejjjjnaa
open Go.RowKit Go.Sort
/-- how many crossings the reference's Crosses answers. -/
def crsRN (c : Int) (zss : List (List Int)) : Int := if fulE c zss = 0 then (crsR c.toNat zss).length else 0
theorem crsR_len {n : Nat} (zss : List (List Int)) (hn : n ≤ 5) : (crsR n zss).length ≤ 5000 := Nat.le_trans (List.length_filter_le _ _) (ord_le hn)
set_option maxRecDepth 100000 in
theorem rcrosses_any (c : Int) (a : Option Addr) (cap : Nat) (zss : List (List Int)) (w : World) (hL : LstC w a zss) (hcap : zss.length ≤ cap) (hcm : cap ≤ 9223372036854775807) :
    Calls Try.prog 37 #[.int .i64 c, .slice a zss.length cap] w (TupN (fulE c zss) (crsRN c zss) w) := by
  have HC := Lib.hid (rwhole_any c a cap zss w hL hcap hcm)
  unfold crsRN
  by_cases hs : fulE c zss = 0
  · rw [if_pos hs]
    rw [hs] at HC ⊢
    obtain ⟨c1, c5, hn, hrow⟩ := ful_rows hs
    obtain ⟨n, rfl⟩ := Int.eq_ofNat_of_zero_le (show 0 ≤ c by omega)
    rw [show ((n : Int)).toNat = n by simp]
    obtain rfl : zss.length = n := by omega
    have HCC := Lib.hid (fun W (F : Fut w W) => rcrossings_any zss.length (by omega) a cap zss W (hL.fut F) rfl (fun k hk => by have := (hrow k hk).1; omega))
    have hcx : ((crsR zss.length zss).length : Int) ≤ 5000 := by have := crsR_len zss (n := zss.length) (by omega); omega
    clear hL hs hrow hcap hcm
    generalize crsR zss.length zss = cr at *
    go_enter Try.func37, Try.ntmps37
    go_wp2_with fail
    refine HC.out.mono ?_
    rintro _ w1 ⟨rfl, F1⟩
    have HF1 := Lib.hid F1
    have H2 := Lib.hid (HCC.out w1 F1)
    clear F1 HCC HC
    go_wp2_with fail
    refine H2.out.mono ?_
    rintro _ w2 ⟨v, rfl, hX, F2⟩
    obtain ⟨l, lc, rfl, _, _, _⟩ := hX.listsC
    have HF2 := Lib.hid (HF1.out.trans F2)
    clear hX F2
    go_wp2
    go_ret2
    exact ⟨rfl, HF2.out⟩
  · rw [if_neg hs]
    clear hL
    generalize fulE c zss = E at *
    go_enter Try.func37, Try.ntmps37
    go_wp2_with fail
    refine HC.out.mono ?_
    rintro _ w1 ⟨rfl, F⟩
    have HF := Lib.hid F
    clear F
    go_wp2
    go_ret2
    exact ⟨rfl, HF.out⟩
end Go.Proofs.Ytpgifeaejjjjnaa
