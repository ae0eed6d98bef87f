/- large 14: large_any, larB_off -/
import Derived.Test.YtflllkamdihfaaaLAC
namespace Go.Proofs.Ytflllkamdihfaaa
open Go.RowKit Go.Sort
/-- is what came in too large? -/
def larB (S Y T : List Int) : Bool := decide (40 < S.length) || decide (40 < Y.length) || decide (40 < T.length)
theorem larB_off {S Y T : List Int} (h : larB S Y T = false) : S.length ≤ 40 ∧ Y.length ≤ 40 ∧ T.length ≤ 40 := by
  unfold larB at h
  simp only [Bool.or_eq_false_iff, decide_eq_false_iff_not] at h
  omega
set_option maxRecDepth 100000 in
set_option maxHeartbeats 2000000 in
theorem large_any (r c : Int) (a : Option Addr) (cap : Nat) (S : List Int) (ya : Option Addr) (yc : Nat) (Y : List Int) (ta : Option Addr) (tc : Nat) (T : List Int) (w : World) :
    Calls Try.prog 14 #[parV r c a S.length cap, plaV ya Y.length yc ta T.length tc] w fun e w' => e = .returned (.bool (larB S Y T)) ∧ Fut w w' := by
  have hA : Fut w ((w.alloc (.cells #[.int .i64 r, .int .i64 c, .slice a S.length cap] 24)).alloc (.cells #[.slice ya Y.length yc, .slice ta T.length tc] 26)) := (Fut.alloc _ _).trans (Fut.alloc _ _)
  have hBP := (BoxP.new w r c a S.length cap).fut (Fut.alloc _ (.cells #[.slice ya Y.length yc, .slice ta T.length tc] 26))
  have hBQ := BoxQ.new (w.alloc (.cells #[.int .i64 r, .int .i64 c, .slice a S.length cap] 24)) ya Y.length yc ta T.length tc
  rw [World.size_alloc] at hBQ
  have HA := Lib.hid hA
  obtain ⟨_, p0, p1, p2⟩ := hBP
  obtain ⟨_, q0, q1⟩ := hBQ
  obtain ⟨E, HE⟩ : ∃ E, Hid (larB S Y T = E) := ⟨_, Lib.hid rfl⟩
  rw [HE.out]
  unfold larB at HE
  generalize S.length = sn at *
  generalize Y.length = yn at *
  generalize T.length = tn at *
  clear hA
  by_cases h1 : 40 < sn
  · have h1x : (40 : Int) < (sn : Int) := by omega
    have hE : E = true := by rw [← HE.out]; simp [h1]
    clear HE
    go_enter Try.func14, Try.ntmps14
    go_wp2_with fail
    go_ret
    exact ⟨by first | rfl | (rw [hE]; rfl), HA.out⟩
  · have h1x : ¬ (40 : Int) < (sn : Int) := by omega
    by_cases h2 : 40 < yn
    · have h2x : (40 : Int) < (yn : Int) := by omega
      have hE : E = true := by rw [← HE.out]; simp [h2]
      clear HE
      go_enter Try.func14, Try.ntmps14
      go_wp2_with fail
      go_ret
      exact ⟨by first | rfl | (rw [hE]; rfl), HA.out⟩
    · have h2x : ¬ (40 : Int) < (yn : Int) := by omega
      by_cases h3 : 40 < tn
      · have h3x : (40 : Int) < (tn : Int) := by omega
        have hE : E = true := by rw [← HE.out]; simp [h3]
        clear HE
        go_enter Try.func14, Try.ntmps14
        go_wp2_with fail
        go_ret
        exact ⟨by first | rfl | (rw [hE]; rfl), HA.out⟩
      · have h3x : ¬ (40 : Int) < (tn : Int) := by omega
        have hE : E = false := by rw [← HE.out]; simp [h1, h2, h3]
        clear HE
        go_enter Try.func14, Try.ntmps14
        go_wp2_with fail
        go_ret
        exact ⟨by first | rfl | (rw [hE]; rfl), HA.out⟩
end Go.Proofs.Ytflllkamdihfaaa
