/- Layer 1: what ClaimGarment answers. -/
import Derived.Test.YtdnbdaegahcoeaaGarmB
namespace Go.Proofs.Ytdnbdaegahcoeaa
open Go.RowKit Go.Sort
set_option maxRecDepth 100000 in
set_option maxHeartbeats 2000000 in
theorem garm_any (n a b c d e x p0 p1 p2 p3 p4 : Int) (w : World) (hn : 0 ≤ n ∧ n ≤ 255) (ha : 0 ≤ a ∧ a ≤ 65535) (hb : 0 ≤ b ∧ b ≤ 65535) (hc : 0 ≤ c ∧ c ≤ 65535) (hd : 0 ≤ d ∧ d ≤ 65535) (he : 0 ≤ e ∧ e ≤ 65535) (hx : 0 ≤ x ∧ x ≤ 65535)
    (hy : ∀ j, 0 ≤ nth [p0, p1, p2, p3, p4] j ∧ nth [p0, p1, p2, p3, p4] j ≤ 4294967295) :
    Calls Try.prog 6 #[qv n a b c d e x, ag32 p0 p1 p2 p3 p4] w fun e w' => e = .returned (.bool true) ∧ Fut w w' := by
  have hkk : 1 + n % 5 = (((1 + n % 5).toNat : Nat) : Int) := by omega
  have hcs : ∀ j, 0 ≤ nth [a, b, c, d, e] j ∧ nth [a, b, c, d, e] j ≤ 65535 := by
    intro j
    match j with
    | 0 => exact ha
    | 1 => exact hb
    | 2 => exact hc
    | 3 => exact hd
    | 4 => exact he
    | j + 5 => simp [nth_eq]
  obtain ⟨hk1, hk2, _⟩ := drawn_full 1000 (by decide) n x [a, b, c, d, e] _ rfl hkk
  have HM := Lib.hid (fun w => made_any n a b c d e x 1000 [a, b, c, d, e] _ w rfl hn (by decide) hkk hcs hx)
  generalize hk : (1 + n % 5).toNat = k at *
  generalize ([a, b, c, d, e].map (dr 1000)).take k = zs at *
  generalize x % (zs.sum + 1) = x' at *
  clear hk hcs hkk
  subst hk1
  have HY := Lib.hid hy
  have HK := Lib.hid hk2
  have HD := Lib.hid (out_isDiv zs [p0, p1, p2, p3, p4] x' hk2)
  have hz := hk2.1
  have hz5 := hk2.2.1
  have hsum := full_sum hk2
  have hxs := hk2.2.2.2
  clear hk2 hy ha hb hc hd he hx hn
  have hbox : ∀ (w : World) (u v : Obj), Fut w ((w.alloc u).alloc v) := fun w u v => (Fut.alloc w u).trans (Fut.alloc _ v)
  go_enter Try.func6, Try.ntmps6
  have HO1 : Hid (whyL zs (gD x' zs) = none) := Lib.hid (rule_none HK.out)
  have HQ : ∀ r, whyL zs (outF zs [p0, p1, p2, p3, p4] x' zs.length) = r → sameB (outF zs [p0, p1, p2, p3, p4] x' zs.length) (gD x' zs) = r.isNone := by
    intro r hr
    cases r with
    | none => unfold sameB; rw [none_rule HK.out HD.out hr]; simp
    | some p => unfold sameB; have := some_rule HK.out hr; simp [this]
  have HQ := Lib.hid HQ
  have HG1 := Lib.hid (fd_isDiv HK.out).1
  have HV1 := Lib.hid (div_vld HK.out HG1.out)
  have HV2 := Lib.hid (div_vld HK.out HD.out)
  have HC := Lib.hid (full_chk HK.out)
  generalize hO : outF zs [p0, p1, p2, p3, p4] x' zs.length = O at *
  have HOO := Lib.hid hO
  clear hO
  generalize hgd : gD x' zs = G at *
  have HGD := Lib.hid hgd
  clear hgd
  go_wp2_with fail
  refine (HM.out _).mono ?_
  rintro _ u1 ⟨l, cap, rfl, hA, F⟩
  have F1 : Fut w u1 := (hbox w _ _).trans F
  have hbx := box5_new _ _ _ p0 p1 p2 p3 p4 F
  clear HM F
  have HBX := Lib.hid hbx
  clear hbx
  go_wp2_with fail
  have hdd : Calls Try.prog 17 #[.int .i64 x', .slice l zs.length cap] u1 (SlN zs.length u1 G) := by rw [← HGD.out]; exact du_div x' zs l cap _ HK.out hA
  refine hdd.mono ?_
  clear hdd
  rintro _ u2 ⟨d1, cd1, rfl, hd1, F⟩
  replace hA := hA.fut F
  replace F1 := F1.trans F
  have FU : Fut u1 u2 := F
  clear F
  go_wp2_with fail
  refine (st_dvn x' zs G l d1 cap cd1 _ HK.out HG1.out hA hd1).mono ?_
  rintro _ _ ⟨rfl, rfl⟩
  go_wp2_with fail
  refine (check_any x' l cap zs _ (by omega) hA).mono ?_
  rw [HC.out]
  rintro _ _ ⟨rfl, rfl⟩
  go_wp2_with fail
  refine (one_any l d1 cap cd1 zs G _ hA hd1 (by omega) hz5 HG1.out.1 (full_nth HK.out) (div_gt HK.out HG1.out)).mono ?_
  rw [HO1.out]
  rintro _ _ ⟨rfl, q1, rfl⟩
  replace hA := hA.fut (Fut.drewN _ q1)
  replace hd1 := hd1.fut (Fut.drewN _ q1)
  replace F1 := F1.trans (Fut.drewN _ q1)
  replace FU := FU.trans (Fut.drewN _ q1)
  generalize u2.drewN q1 = u3 at *
  obtain ⟨k0, k1, k2, k3, k4⟩ := HBX.out
  obtain ⟨k0, k1, k2, k3, k4⟩ := box5_fut ⟨k0, k1, k2, k3, k4⟩ FU
  clear FU HBX
  simp only [oneV]
  go_wp2_with fail
  refine (spread_any x' l cap zs [p0, p1, p2, p3, p4] p0 p1 p2 p3 p4 _ HK.out rfl HY.out hA).mono ?_
  rintro _ u4 ⟨v, rfl, hO, hB⟩
  rw [HOO.out] at hO
  obtain ⟨o1, co1, rfl, ho1, F⟩ := own_out HD.out.1 hO hB
  clear hO hB k0 k1 k2 k3 k4
  replace hA := hA.fut F
  replace hd1 := hd1.fut F
  replace F1 := F1.trans F
  clear F
  go_wp2_with fail
  refine (one_any l o1 cap co1 zs O _ hA ho1 (by omega) hz5 HD.out.1 (full_nth HK.out) (div_gt HK.out HD.out)).mono ?_
  rintro _ _ ⟨rfl, q2, rfl⟩
  replace hA := hA.fut (Fut.drewN _ q2)
  replace hd1 := hd1.fut (Fut.drewN _ q2)
  replace ho1 := ho1.fut (Fut.drewN _ q2)
  replace F1 := F1.trans (Fut.drewN _ q2)
  generalize u4.drewN q2 = u5 at *
  have HW1 := Lib.hid (why_len x' l o1 cap co1 zs O u5 hz5 HD.out.1 hA ho1 HV2.out)
  generalize hr : whyL zs O = r at *
  have HS := Lib.hid (HQ.out r rfl)
  clear hr HQ
  rcases r with _ | p
  all_goals
    simp only [oneV]
    go_wp2_with fail
    refine HW1.out.mono ?_
    clear HW1
    simp only [whyV]
    rintro _ u6 ⟨rfl, F⟩
    replace hA := hA.fut F
    replace hd1 := hd1.fut F
    replace ho1 := ho1.fut F
    replace F1 := F1.trans F
    clear F
    go_wp2_with fail
    refine (why_len x' l d1 cap cd1 zs G _ hz5 HG1.out.1 hA hd1 HV1.out).mono ?_
    rw [HO1.out]
    simp only [whyV]
    rintro _ u7 ⟨rfl, F⟩
    replace hA := hA.fut F
    replace hd1 := hd1.fut F
    replace ho1 := ho1.fut F
    replace F1 := F1.trans F
    clear F
    go_wp2_with fail
    refine (vld_len x' l o1 cap co1 zs O _ hz5 HD.out.1 hA ho1).mono ?_
    rw [HV2.out]
    rintro _ u8 ⟨rfl, F⟩
    replace hA := hA.fut F
    replace hd1 := hd1.fut F
    replace ho1 := ho1.fut F
    replace F1 := F1.trans F
    clear F
    go_wp2_with fail
    refine (vld_len x' l d1 cap cd1 zs G _ hz5 HG1.out.1 hA hd1).mono ?_
    rw [HV1.out]
    rintro _ u9 ⟨rfl, F⟩
    replace hd1 := hd1.fut F
    replace ho1 := ho1.fut F
    replace F1 := F1.trans F
    clear F hA
    go_wp2_with fail
    refine (same_len o1 d1 co1 cd1 zs.length O G _ hz5 HD.out.1 HG1.out.1 ho1 hd1).mono ?_
    rw [HS.out]
    simp only [Option.isNone]
    rintro _ u10 ⟨rfl, F⟩
    replace F1 := F1.trans F
    clear F hd1 ho1
    go_wp2_with fail
    refine (works_any _).mono ?_
    rintro _ u11 ⟨rfl, F⟩
    go_wp2_with fail
    go_ret
    exact ⟨rfl, F1.trans F⟩
end Go.Proofs.Ytdnbdaegahcoeaa
