/- The reference's whole 85: rwhole_any (fulE) -/
import Derived.Test.YtpgifeaejjjjnaaED
import Derived.Test.YtpgifeaejjjjnaaMA
import Derived.Test.YtpgifeaejjjjnaaMB
namespace Go.Proofs.Ytpgifeaejjjjnaa
open Go.RowKit Go.Sort
set_option maxRecDepth 100000 in
theorem rwhole_any (c : Int) (a : Option Addr) (cap : Nat) (zss : List (List Int)) (w : World) (hL : LstC w a zss) (hcap : zss.length ≤ cap) (hcm : cap ≤ 9223372036854775807) :
    Calls Try.prog 85 #[.int .i64 c, .slice a zss.length cap] w fun e w' => e = .returned (.int .i64 (fulE c zss)) ∧ Fut w w' := by
  have HC := Lib.hid (rcheck_any c a cap zss w hL hcap hcm)
  unfold fulE
  by_cases hs : chkE c zss = 0
  · rw [if_pos hs]
    rw [hs] at HC
    clear hL hs
    by_cases hq : (zss.length : Int) < c
    · rw [if_pos hq]
      go_enter Try.func85, Try.ntmps85
      go_wp2_with fail
      refine HC.out.mono ?_
      rintro _ w1 ⟨rfl, F⟩
      have HF := Lib.hid F
      clear F
      go_wp2
      go_ret
      exact ⟨rfl, HF.out⟩
    · rw [if_neg hq]
      go_enter Try.func85, Try.ntmps85
      go_wp2_with fail
      refine HC.out.mono ?_
      rintro _ w1 ⟨rfl, F⟩
      have HF := Lib.hid F
      clear F
      go_wp2
      go_ret
      exact ⟨rfl, HF.out⟩
  · rw [if_neg hs]
    clear hL
    generalize chkE c zss = E at *
    go_enter Try.func85, Try.ntmps85
    go_wp2_with fail
    refine HC.out.mono ?_
    rintro _ w1 ⟨rfl, F⟩
    have HF := Lib.hid F
    clear F
    go_wp2
    go_ret
    exact ⟨rfl, HF.out⟩
end Go.Proofs.Ytpgifeaejjjjnaa
