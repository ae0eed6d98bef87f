/- Layer 3: checkOpen, checkFull. -/
import Derived.Test.YtpgifeaejjjjnaaBN
namespace Go.Proofs.Ytpgifeaejjjjnaa
open Go.RowKit Go.Sort
def opnE (c : Int) (zss : List (List Int)) : Int := if chkE c zss = 0 then (if (zss.length : Int) = c then 16 else 0) else chkE c zss
theorem open_any (c : Int) (a : Option Addr) (cap : Nat) (zss : List (List Int)) (w : World) (hL : LstC w a zss) (hcap : zss.length ≤ cap) (hcm : cap ≤ 9223372036854775807) :
    Calls Try.prog 71 #[.int .i64 c, .slice a zss.length cap] w fun e w' => e = .returned (.int .i64 (opnE c zss)) ∧ Fut w w' := by
  have HC := Lib.hid (check_any c a cap zss w hL hcap hcm)
  unfold opnE
  by_cases hs : chkE c zss = 0
  · rw [if_pos hs]
    rw [hs] at HC
    clear hL hs
    by_cases hq : (zss.length : Int) = c
    · rw [if_pos hq]
      go_enter Try.func71, Try.ntmps71
      go_wp2_with fail
      refine HC.out.mono ?_
      rintro _ w1 ⟨rfl, F⟩
      have HF := Lib.hid F
      clear F
      go_wp2
      go_ret
      exact ⟨rfl, HF.out⟩
    · rw [if_neg hq]
      go_enter Try.func71, Try.ntmps71
      go_wp2_with fail
      refine HC.out.mono ?_
      rintro _ w1 ⟨rfl, F⟩
      have HF := Lib.hid F
      clear F
      go_wp2
      go_ret
      exact ⟨rfl, HF.out⟩
  · rw [if_neg hs]
    clear hL
    generalize chkE c zss = E at *
    go_enter Try.func71, Try.ntmps71
    go_wp2_with fail
    refine HC.out.mono ?_
    rintro _ w1 ⟨rfl, F⟩
    have HF := Lib.hid F
    clear F
    go_wp2
    go_ret
    exact ⟨rfl, HF.out⟩
def fulE (c : Int) (zss : List (List Int)) : Int := if chkE c zss = 0 then (if (zss.length : Int) < c then 21 else 0) else chkE c zss
theorem isfull_any (c : Int) (a : Option Addr) (cap : Nat) (zss : List (List Int)) (w : World) (hL : LstC w a zss) (hcap : zss.length ≤ cap) (hcm : cap ≤ 9223372036854775807) :
    Calls Try.prog 83 #[.int .i64 c, .slice a zss.length cap] w fun e w' => e = .returned (.int .i64 (fulE c zss)) ∧ Fut w w' := by
  have HC := Lib.hid (check_any c a cap zss w hL hcap hcm)
  unfold fulE
  by_cases hs : chkE c zss = 0
  · rw [if_pos hs]
    rw [hs] at HC
    clear hL hs
    by_cases hq : (zss.length : Int) < c
    · rw [if_pos hq]
      go_enter Try.func83, Try.ntmps83
      go_wp2_with fail
      refine HC.out.mono ?_
      rintro _ w1 ⟨rfl, F⟩
      have HF := Lib.hid F
      clear F
      go_wp2
      go_ret
      exact ⟨rfl, HF.out⟩
    · rw [if_neg hq]
      go_enter Try.func83, Try.ntmps83
      go_wp2_with fail
      refine HC.out.mono ?_
      rintro _ w1 ⟨rfl, F⟩
      have HF := Lib.hid F
      clear F
      go_wp2
      go_ret
      exact ⟨rfl, HF.out⟩
  · rw [if_neg hs]
    clear hL
    generalize chkE c zss = E at *
    go_enter Try.func83, Try.ntmps83
    go_wp2_with fail
    refine HC.out.mono ?_
    rintro _ w1 ⟨rfl, F⟩
    have HF := Lib.hid F
    clear F
    go_wp2
    go_ret
    exact ⟨rfl, HF.out⟩
end Go.Proofs.Ytpgifeaejjjjnaa
