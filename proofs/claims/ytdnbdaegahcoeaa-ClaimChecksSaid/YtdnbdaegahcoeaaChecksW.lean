/- Layer 1: what ClaimChecks answers. -/
import Derived.Test.YtdnbdaegahcoeaaRefB
namespace Go.Proofs.Ytdnbdaegahcoeaa
open Go.RowKit Go.Sort
set_option maxRecDepth 100000 in
set_option maxHeartbeats 1000000 in
theorem checks_any (x i j : Int) (a c : Option Addr) (cap dap : Nat) (zs gs : List Int) (w : World) (hl : zs.length ≤ 9223372036854775807) (hlg : gs.length ≤ 9223372036854775807) (hA : IntsAt w a zs) (hG : IntsAt w c gs) :
    Calls Try.prog 5 #[.int .i64 x, .slice a zs.length cap, .slice c gs.length dap, .int .i64 i, .int .i64 j] w fun e w' => e = .returned (.bool true) ∧ Fut w w' := by
  by_cases h1 : 60 < zs.length
  · have h1' : (60 : Int) < zs.length := by omega
    clear hA hG
    go_enter Try.func5, Try.ntmps5
    go_wp2_with fail
    refine (works_any _).mono ?_
    rintro _ v4 ⟨rfl, F⟩
    go_wp2_with fail
    go_ret
    exact ⟨rfl, F⟩
  by_cases h2 : 60 < gs.length
  · have h1' : ¬ (60 : Int) < zs.length := by omega
    have h2' : (60 : Int) < gs.length := by omega
    clear hA hG
    go_enter Try.func5, Try.ntmps5
    go_wp2_with fail
    refine (works_any _).mono ?_
    rintro _ v4 ⟨rfl, F⟩
    go_wp2_with fail
    go_ret
    exact ⟨rfl, F⟩
  have h1' : ¬ (60 : Int) < zs.length := by omega
  have h2' : ¬ (60 : Int) < gs.length := by omega
  have HV : Hid (∀ W, Fut w W → Calls Try.prog 34 #[.int .i64 x, .slice a zs.length cap, .slice c gs.length dap] W fun e w' => e = .returned (.int .i64 (vld x zs gs)) ∧ Fut W w') := Lib.hid fun W h => valid_any x a c cap dap zs gs W hl hlg (hA.fut h) (hG.fut h)
  have HRV : Hid (∀ W, Fut w W → Calls Try.prog 35 #[.int .i64 x, .slice a zs.length cap, .slice c gs.length dap] W fun e w' => e = .returned (.int .i64 (vld x zs gs)) ∧ ∃ q, w' = W.drewN q) := Lib.hid fun W h => rvalid_any x a c cap dap zs gs W hl hlg (hA.fut h) (hG.fut h)
  have HP : Hid (∀ W, Fut w W → Calls Try.prog 36 #[.int .i64 x, .slice a zs.length cap, .slice c gs.length dap, .int .i64 i, .int .i64 j] W fun e w' => e = .returned (.int .i64 (prv x zs gs i j)) ∧ Fut W w') := Lib.hid fun W h => proves_any x i j a c cap dap zs gs W hl hlg (hA.fut h) (hG.fut h)
  have HRP : Hid (∀ W, Fut w W → Calls Try.prog 37 #[.int .i64 x, .slice a zs.length cap, .slice c gs.length dap, .int .i64 i, .int .i64 j] W fun e w' => e = .returned (.int .i64 (prv x zs gs i j)) ∧ ∃ q, w' = W.drewN q) := Lib.hid fun W h => rprv_any x i j a c cap dap zs gs W hl hlg (hA.fut h) (hG.fut h)
  have HW : Hid (∃ p q r, (∀ W, Fut w W → Calls Try.prog 32 #[.int .i64 x, .slice a zs.length cap, .slice c gs.length dap] W fun e w' => e = .returned (.tuple #[.int .i64 p, .int .i64 q, .int .i64 r]) ∧ Fut W w') ∧
      ∀ W, Fut w W → Calls Try.prog 33 #[.int .i64 x, .slice a zs.length cap, .slice c gs.length dap] W fun e w' => e = .returned (.tuple #[.int .i64 p, .int .i64 q, .int .i64 r]) ∧ ∃ n, w' = W.drewN n) := by
    refine Lib.hid ?_
    by_cases hv : vld x zs gs = 0
    · have h3 := fun W (h : Fut w W) => why_ok x a c cap dap zs gs W hl hlg (hA.fut h) (hG.fut h) hv
      have h4 := fun W (h : Fut w W) => rwhy_any x a c cap dap zs gs W hl hlg (hA.fut h) (hG.fut h)
      rw [if_neg (by simpa using hv)] at h4
      cases hw : whyL zs gs with
      | none => rw [hw] at h3 h4; exact ⟨0, 0, 13, h3, h4⟩
      | some p => rw [hw] at h3 h4; exact ⟨p.1, p.2, 0, h3, h4⟩
    · have h3 := fun W (h : Fut w W) => why_err x a c cap dap zs gs W hl hlg (hA.fut h) (hG.fut h) hv
      have h4 := fun W (h : Fut w W) => rwhy_any x a c cap dap zs gs W hl hlg (hA.fut h) (hG.fut h)
      rw [if_pos hv] at h4
      exact ⟨0, 0, _, h3, h4⟩
  obtain ⟨p, q, r, hw1, hw2⟩ := HW.out
  have HW1 := Lib.hid hw1
  have HW2 := Lib.hid hw2
  clear HW hw1 hw2 hA hG
  generalize vld x zs gs = vv at *
  generalize prv x zs gs i j = pp at *
  go_enter Try.func5, Try.ntmps5
  go_wp2_with fail
  refine (HW1.out _ Fut.rfl).mono ?_
  rintro _ v1 ⟨rfl, F1⟩
  go_wp2_with fail
  refine (HW2.out _ F1).mono ?_
  rintro _ _ ⟨rfl, n1, rfl⟩
  replace F1 := F1.trans (Fut.drewN _ n1)
  go_wp2_with fail
  refine (HV.out _ F1).mono ?_
  rintro _ v2 ⟨rfl, F⟩
  replace F1 := F1.trans F
  clear F
  go_wp2_with fail
  refine (HRV.out _ F1).mono ?_
  rintro _ _ ⟨rfl, n2, rfl⟩
  replace F1 := F1.trans (Fut.drewN _ n2)
  go_wp2_with fail
  refine (HP.out _ F1).mono ?_
  rintro _ v3 ⟨rfl, F⟩
  replace F1 := F1.trans F
  clear F
  go_wp2_with fail
  refine (HRP.out _ F1).mono ?_
  rintro _ _ ⟨rfl, n3, rfl⟩
  replace F1 := F1.trans (Fut.drewN _ n3)
  go_wp2_with fail
  refine (works_any _).mono ?_
  rintro _ v4 ⟨rfl, F⟩
  go_wp2_with fail
  go_ret
  exact ⟨rfl, F1.trans F⟩
end Go.Proofs.Ytdnbdaegahcoeaa
