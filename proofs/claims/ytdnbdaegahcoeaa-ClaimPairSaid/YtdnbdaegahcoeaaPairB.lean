/- Layer 1: what ClaimPair answers. -/
import Derived.Test.YtdnbdaegahcoeaaPairA
namespace Go.Proofs.Ytdnbdaegahcoeaa
open Go.RowKit Go.Sort
set_option maxRecDepth 100000 in
set_option maxHeartbeats 4000000 in
theorem pair_any (p q r : Int) (hp : 0 ≤ p ∧ p ≤ 65535) (hq : 0 ≤ q ∧ q ≤ 65535) (hr : 0 ≤ r ∧ r ≤ 65535) (w : World) : Calls Try.prog 11 #[.int .u16 p, .int .u16 q, .int .u16 r] w fun e w' => e = .returned (.bool true) ∧ Fut w w' := by
  have F0 : Fut w w := Fut.rfl
  go_enter Try.func11, Try.ntmps11
  go_wp2_with fail
  have ha : 1 ≤ 1 + p % 1000 ∧ 1 + p % 1000 ≤ 1000 := by omega
  have hb : 1 ≤ 1 + q % 1000 ∧ 1 + q % 1000 ≤ 1000 := by omega
  have hx : 0 ≤ r % (1 + p % 1000 + (1 + q % 1000) + 1) ∧ r % (1 + p % 1000 + (1 + q % 1000) + 1) ≤ 1 + p % 1000 + (1 + q % 1000) := by
    have h1 := Int.emod_nonneg r (show (1 + p % 1000 + (1 + q % 1000) + 1) ≠ 0 by omega)
    have h2 := Int.emod_lt_of_pos r (show 0 < (1 + p % 1000 + (1 + q % 1000) + 1) by omega)
    omega
  generalize 1 + p % 1000 = a at *
  generalize 1 + q % 1000 = b at *
  generalize r % (a + b + 1) = x at *
  have hs := pr_sum x a b
  have hu : 0 ≤ e1 x a b ∧ e1 x a b ≤ 300000 := by unfold e1 tw1; omega
  have hv : 0 ≤ e1 x b a ∧ e1 x b a ≤ 300000 := by unfold e1 tw1; omega
  refine (pr_two x a b _ ha hb hx).mono ?_
  rintro _ u1 ⟨rfl, rfl⟩
  go_wp2_with fail
  refine (st_L2 _ _ _).mono ?_
  rintro _ u2 ⟨o1, rfl, ho1, F⟩
  replace F0 := F0.trans F
  clear F
  go_wp2_with fail
  refine (pr_div x a b _ _ ha hb hx ho1).mono ?_
  rintro _ u3 ⟨d, cd, rfl, hd, F⟩
  replace F0 := F0.trans F
  replace ho1 := ho1.fut F
  clear F
  clear ho1
  go_wp2_with fail
  refine (st_L2 _ _ _).mono ?_
  rintro _ u4 ⟨o1, rfl, ho1, F⟩
  replace F0 := F0.trans F
  replace hd := hd.fut F
  clear F
  go_wp2_with fail
  refine (pr_av x a b _ _ ha hb hx ho1).mono ?_
  rintro _ u5 ⟨v1, cv1, rfl, hv1, F⟩
  replace F0 := F0.trans F
  replace hd := hd.fut F
  replace ho1 := ho1.fut F
  clear F
  clear ho1
  go_wp2_with fail
  refine (pr_two1 a b _).mono ?_
  rintro _ u6 ⟨rfl, rfl⟩
  go_wp2_with fail
  refine (pr_ref x a b _ ha hb hx).mono ?_
  rintro _ u7 ⟨rfl, rfl⟩
  go_wp2_with fail
  refine (st_L2 _ _ _).mono ?_
  rintro _ u8 ⟨o1, rfl, ho1, F⟩
  replace F0 := F0.trans F
  replace hd := hd.fut F
  replace hv1 := hv1.fut F
  clear F
  go_wp2_with fail
  refine (pr_same _ _ _ _ _ rfl hd ho1).mono ?_
  rintro _ u9 ⟨rfl, F⟩
  replace F0 := F0.trans F
  replace hd := hd.fut F
  replace hv1 := hv1.fut F
  replace ho1 := ho1.fut F
  clear F
  clear ho1
  clear hd
  go_wp2_with fail
  refine (st_L2 _ _ _).mono ?_
  rintro _ u10 ⟨o1, rfl, ho1, F⟩
  replace F0 := F0.trans F
  replace hv1 := hv1.fut F
  clear F
  go_wp2_with fail
  refine (pr_same _ _ _ _ _ rfl hv1 ho1).mono ?_
  rintro _ u11 ⟨rfl, F⟩
  replace F0 := F0.trans F
  replace hv1 := hv1.fut F
  replace ho1 := ho1.fut F
  clear F
  clear ho1
  clear hv1
  go_wp2_with fail
  refine (works_any _).mono ?_
  rintro _ u12 ⟨rfl, F⟩
  replace F0 := F0.trans F
  clear F
  go_wp2_with fail
  go_ret
  exact ⟨rfl, F0⟩
end Go.Proofs.Ytdnbdaegahcoeaa
