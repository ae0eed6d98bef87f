/- Layer 1: what ClaimRule answers. -/
import Derived.Test.YtdnbdaegahcoeaaRuleD
namespace Go.Proofs.Ytdnbdaegahcoeaa
open Go.RowKit Go.Sort
theorem same_self (L : List Int) : sameB L L = true := by simp [sameB]
set_option maxRecDepth 100000 in
set_option maxHeartbeats 2000000 in
theorem rule_any (x : Int) (a : Option Addr) (cap : Nat) (zs : List Int) (w : World) (hl : zs.length ≤ 9223372036854775807) (hA : IntsAt w a zs) :
    Calls Try.prog 3 #[.int .i64 x, .slice a zs.length cap] w fun e w' => e = .returned (.bool true) ∧ Fut w w' := by
  by_cases h1 : 60 < zs.length
  · have h1' : (60 : Int) < zs.length := by omega
    clear hA
    go_enter Try.func3, Try.ntmps3
    go_wp2_with fail
    refine (works_any _).mono ?_
    rintro _ v4 ⟨rfl, F⟩
    go_wp2_with fail
    go_ret
    exact ⟨rfl, F⟩
  have h1' : ¬ (60 : Int) < zs.length := by omega
  obtain ⟨L1, L2, L3, b1, b2, b3⟩ := rule_both x a cap zs w hl hA
  have HC1 : Hid (∀ W, Fut w W → Calls Try.prog 24 #[.int .i64 x, .slice a zs.length cap] W fun e w' => e = .returned (.int .i64 (chk x zs)) ∧ W = w') := Lib.hid fun W h => check_any x a cap zs W hl (hA.fut h)
  have HC2 : Hid (∀ W, Fut w W → Calls Try.prog 25 #[.int .i64 x, .slice a zs.length cap] W fun e w' => e = .returned (.int .i64 (chk x zs)) ∧ W = w') := Lib.hid fun W h => rchk_any x a cap zs W hl (hA.fut h)
  have B1 := Lib.hid b1
  have B2 := Lib.hid b2
  have B3 := Lib.hid b3
  clear b1 b2 b3 hA
  generalize chk x zs = r at *
  go_enter Try.func3, Try.ntmps3
  have F1 : Fut w w := Fut.rfl
  go_wp2_with fail
  refine (B1.out.2.1 _ F1).mono ?_
  rintro _ ua1 ⟨la1, ca1, rfl, ha1, F⟩
  replace F1 := F1.trans F
  clear F
  go_wp2_with fail
  refine (B1.out.2.2 _ F1).mono ?_
  rintro _ ub1 ⟨lb1, cb1, rfl, hb1, F⟩
  replace ha1 := ha1.fut F
  replace F1 := F1.trans F
  clear F
  go_wp2_with fail
  refine (B2.out.2.1 _ F1).mono ?_
  rintro _ ua2 ⟨la2, ca2, rfl, ha2, F⟩
  replace ha1 := ha1.fut F
  replace hb1 := hb1.fut F
  replace F1 := F1.trans F
  clear F
  go_wp2_with fail
  refine (B2.out.2.2 _ F1).mono ?_
  rintro _ ub2 ⟨lb2, cb2, rfl, hb2, F⟩
  replace ha1 := ha1.fut F
  replace hb1 := hb1.fut F
  replace ha2 := ha2.fut F
  replace F1 := F1.trans F
  clear F
  go_wp2_with fail
  refine (B3.out.2.1 _ F1).mono ?_
  rintro _ ua3 ⟨la3, ca3, rfl, ha3, F⟩
  replace ha1 := ha1.fut F
  replace hb1 := hb1.fut F
  replace ha2 := ha2.fut F
  replace hb2 := hb2.fut F
  replace F1 := F1.trans F
  clear F
  go_wp2_with fail
  refine (B3.out.2.2 _ F1).mono ?_
  rintro _ ub3 ⟨lb3, cb3, rfl, hb3, F⟩
  replace ha1 := ha1.fut F
  replace hb1 := hb1.fut F
  replace ha2 := ha2.fut F
  replace hb2 := hb2.fut F
  replace ha3 := ha3.fut F
  replace F1 := F1.trans F
  clear F
  go_wp2_with fail
  refine (same_len la1 lb1 ca1 cb1 L1.length L1 L1 _ B1.out.1 rfl rfl ha1 hb1).mono ?_
  rw [same_self]
  rintro _ us1 ⟨rfl, F⟩
  replace ha1 := ha1.fut F
  replace hb1 := hb1.fut F
  replace ha2 := ha2.fut F
  replace hb2 := hb2.fut F
  replace ha3 := ha3.fut F
  replace hb3 := hb3.fut F
  replace F1 := F1.trans F
  clear F
  go_wp2_with fail
  refine (same_len la2 lb2 ca2 cb2 L2.length L2 L2 _ B2.out.1 rfl rfl ha2 hb2).mono ?_
  rw [same_self]
  rintro _ us2 ⟨rfl, F⟩
  replace ha1 := ha1.fut F
  replace hb1 := hb1.fut F
  replace ha2 := ha2.fut F
  replace hb2 := hb2.fut F
  replace ha3 := ha3.fut F
  replace hb3 := hb3.fut F
  replace F1 := F1.trans F
  clear F
  go_wp2_with fail
  refine (same_len la3 lb3 ca3 cb3 L3.length L3 L3 _ B3.out.1 rfl rfl ha3 hb3).mono ?_
  rw [same_self]
  rintro _ us3 ⟨rfl, F⟩
  replace ha1 := ha1.fut F
  replace hb1 := hb1.fut F
  replace ha2 := ha2.fut F
  replace hb2 := hb2.fut F
  replace ha3 := ha3.fut F
  replace hb3 := hb3.fut F
  replace F1 := F1.trans F
  clear F
  go_wp2_with fail
  refine (HC1.out _ F1).mono ?_
  rintro _ _ ⟨rfl, rfl⟩
  go_wp2_with fail
  refine (HC2.out _ F1).mono ?_
  rintro _ _ ⟨rfl, rfl⟩
  go_wp2_with fail
  refine (works_any _).mono ?_
  rintro _ v4 ⟨rfl, F⟩
  go_wp2_with fail
  go_ret
  exact ⟨rfl, F1.trans F⟩
end Go.Proofs.Ytdnbdaegahcoeaa
