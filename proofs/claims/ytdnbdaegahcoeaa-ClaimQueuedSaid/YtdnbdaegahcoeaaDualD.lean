/- Layer 1: what ClaimDual answers. -/
import Derived.Test.YtdnbdaegahcoeaaDualC
namespace Go.Proofs.Ytdnbdaegahcoeaa
open Go.RowKit Go.Sort
set_option maxRecDepth 100000 in
set_option maxHeartbeats 1000000 in
theorem dual_any (n a b c d e x : Int) (w : World) (hn : 0 ≤ n ∧ n ≤ 255) (ha : 0 ≤ a ∧ a ≤ 65535) (hb : 0 ≤ b ∧ b ≤ 65535) (hc : 0 ≤ c ∧ c ≤ 65535) (hd : 0 ≤ d ∧ d ≤ 65535) (he : 0 ≤ e ∧ e ≤ 65535) (hx : 0 ≤ x ∧ x ≤ 65535) :
    Calls Try.prog 8 #[qv n a b c d e x] w fun e w' => e = .returned (.bool true) ∧ Fut w w' := by
  have hkk : 1 + n % 5 = (((1 + n % 5).toNat : Nat) : Int) := by omega
  have hcs : ∀ j, 0 ≤ nth [a, b, c, d, e] j ∧ nth [a, b, c, d, e] j ≤ 65535 := by
    intro j
    match j with
    | 0 => exact ha
    | 1 => exact hb
    | 2 => exact hc
    | 3 => exact hd
    | 4 => exact he
    | j + 5 => simp [nth_eq]
  obtain ⟨hk1, hk2, _⟩ := drawn_full 1000 (by decide) n x [a, b, c, d, e] _ rfl hkk
  have HM := Lib.hid (fun w => made_any n a b c d e x 1000 [a, b, c, d, e] _ w rfl hn (by decide) hkk hcs hx)
  generalize hk : (1 + n % 5).toNat = k at *
  generalize ([a, b, c, d, e].map (dr 1000)).take k = zs at *
  generalize x % (zs.sum + 1) = x' at *
  clear hk hcs hkk
  subst hk1
  go_enter Try.func8, Try.ntmps8
  go_wp2_with fail
  refine (HM.out _).mono ?_
  rintro _ u1 ⟨l, cap, rfl, hA, F⟩
  have F1 : Fut w u1 := (Fut.alloc w _).trans F
  clear F HM ha hb hc hd he hx hn
  have hz := hk2.1
  have hz5 := hk2.2.1
  have hsum := full_sum hk2
  have hxs := hk2.2.2.2
  have HK := Lib.hid hk2
  have HR := Lib.hid (full_rest hk2)
  clear hk2
  go_wp2_with fail
  refine (refsum_any l cap zs _ (full_small HK.out) hA).mono ?_
  rintro _ _ ⟨rfl, rfl⟩
  go_wp2_with fail
  refine (du_div x' zs l cap _ HK.out hA).mono ?_
  rintro _ v2 ⟨a1, ca1, rfl, ha1, F⟩
  replace hA := hA.fut F
  replace F1 := F1.trans F
  clear F
  go_wp2_with fail
  refine (du_div (zs.sum - x') zs l cap _ HR.out hA).mono ?_
  rintro _ v3 ⟨b1, cb1, rfl, hb1, F⟩
  replace hA := hA.fut F
  replace ha1 := ha1.fut F
  replace F1 := F1.trans F
  clear F
  go_wp2_with fail
  refine (du_avg x' zs l cap _ HK.out hA).mono ?_
  rintro _ v4 ⟨c1, cc1, rfl, hc1, F⟩
  replace hA := hA.fut F
  replace ha1 := ha1.fut F
  replace hb1 := hb1.fut F
  replace F1 := F1.trans F
  clear F
  go_wp2_with fail
  refine (du_avg (zs.sum - x') zs l cap _ HR.out hA).mono ?_
  rintro _ v5 ⟨d1, cd1, rfl, hd1, F⟩
  replace hA := hA.fut F
  replace ha1 := ha1.fut F
  replace hb1 := hb1.fut F
  replace hc1 := hc1.fut F
  replace F1 := F1.trans F
  clear F
  go_wp2_with fail
  refine (du_gain x' zs l cap _ HK.out hA).mono ?_
  rintro _ v6 ⟨l1, cl1, rfl, hl1, F⟩
  replace hA := hA.fut F
  replace ha1 := ha1.fut F
  replace hb1 := hb1.fut F
  replace hc1 := hc1.fut F
  replace hd1 := hd1.fut F
  replace F1 := F1.trans F
  clear F
  go_wp2_with fail
  refine (du_loss (zs.sum - x') zs l cap _ HR.out hA).mono ?_
  rintro _ v7 ⟨m1, cm1, rfl, hm1, F⟩
  replace hA := hA.fut F
  replace ha1 := ha1.fut F
  replace hb1 := hb1.fut F
  replace hc1 := hc1.fut F
  replace hd1 := hd1.fut F
  replace hl1 := hl1.fut F
  replace F1 := F1.trans F
  clear F
  go_wp2_with fail
  refine (st_dvn x' zs _ l a1 cap ca1 _ HK.out (fd_isDiv HK.out).1 hA ha1).mono ?_
  rintro _ _ ⟨rfl, rfl⟩
  go_wp2_with fail
  refine (st_dvn (zs.sum - x') zs _ l b1 cap cb1 _ HR.out (fd_isDiv HR.out).1 hA hb1).mono ?_
  rintro _ _ ⟨rfl, rfl⟩
  go_wp2_with fail
  refine (st_dvn x' zs _ l c1 cap cc1 _ HK.out (fd_isDiv HK.out).2.2.2 hA hc1).mono ?_
  rintro _ _ ⟨rfl, rfl⟩
  go_wp2_with fail
  refine (st_dvn (zs.sum - x') zs _ l d1 cap cd1 _ HR.out (fd_isDiv HR.out).2.2.2 hA hd1).mono ?_
  rintro _ _ ⟨rfl, rfl⟩
  go_wp2_with fail
  refine (st_dvn x' zs _ l l1 cap cl1 _ HK.out (fd_isDiv HK.out).2.1 hA hl1).mono ?_
  rintro _ _ ⟨rfl, rfl⟩
  go_wp2_with fail
  refine (st_dvn (zs.sum - x') zs _ l m1 cap cm1 _ HR.out (fd_isDiv HR.out).2.2.1 hA hm1).mono ?_
  rintro _ _ ⟨rfl, rfl⟩
  obtain ⟨bl, off, rfl, hbl, hcl⟩ := hA.addr (by omega)
  obtain ⟨ba, oa, rfl, hba, hca⟩ := ha1.addr (by rw [show (gD x' zs).length = zs.length from list5_len _ _ hz5]; omega)
  obtain ⟨bb, ob, rfl, hbb, hcb⟩ := hb1.addr (by rw [show (gD (zs.sum - x') zs).length = zs.length from list5_len _ _ hz5]; omega)
  obtain ⟨bc, oc, rfl, hbc, hcc⟩ := hc1.addr (by rw [show (gA x' zs).length = zs.length from list5_len _ _ hz5]; omega)
  obtain ⟨bd, od, rfl, hbd, hcd⟩ := hd1.addr (by rw [show (gA (zs.sum - x') zs).length = zs.length from list5_len _ _ hz5]; omega)
  obtain ⟨be, oe, rfl, hbe, hce⟩ := hl1.addr (by rw [show (spG x' zs).length = zs.length from list5_len _ _ hz5]; omega)
  obtain ⟨bm, om, rfl, hbm, hcm⟩ := hm1.addr (by rw [show (spL (zs.sum - x') zs).length = zs.length from list5_len _ _ hz5]; omega)
  have H0 := Lib.hid hcl
  have H1 := Lib.hid hca
  have H2 := Lib.hid hcb
  have H3 := Lib.hid hcc
  have H4 := Lib.hid hcd
  have H5 := Lib.hid hce
  have H6 := Lib.hid hcm
  have HF1 := Lib.hid F1
  clear hcl hca hcb hcc hcd hce hcm hA ha1 hb1 hc1 hd1 hl1 hm1 F1
  have HDN := Lib.hid (fun i hi => dual_nth HK.out i hi)
  have HN := Lib.hid (fun i => full_nth HK.out i)
  have HB := Lib.hid (fd_isDiv HK.out)
  have HBR := Lib.hid (fd_isDiv HR.out)
  go_wp2_with fail
  go_loopw [131] (fun iv wr => ∃ (j q : Nat), j ≤ zs.length ∧ iv = .int .i64 j ∧ wr = v7.drewN q) (fun iv _ => zs.length - (intOf iv).toNat)
  case atStart => exact ⟨0, 0, Nat.zero_le _, rfl, rfl⟩
  case round =>
    obtain ⟨j, q, hj, rfl, rfl⟩ := hrel
    by_cases hlt : j < zs.length
    · have c0 : (v7.drewN q).cell? ⟨bl, off + j, none⟩ = some (.int .i64 (nth zs j)) := H0.out j hlt
      have c1 : (v7.drewN q).cell? ⟨ba, oa + j, none⟩ = some (.int .i64 (nth (gD x' zs) j)) := H1.out j (by rw [HB.out.1.1]; exact hlt)
      have c2 : (v7.drewN q).cell? ⟨bb, ob + j, none⟩ = some (.int .i64 (nth (gD (zs.sum - x') zs) j)) := H2.out j (by rw [HBR.out.1.1]; exact hlt)
      have c3 : (v7.drewN q).cell? ⟨bc, oc + j, none⟩ = some (.int .i64 (nth (gA x' zs) j)) := H3.out j (by rw [HB.out.2.2.2.1]; exact hlt)
      have c4 : (v7.drewN q).cell? ⟨bd, od + j, none⟩ = some (.int .i64 (nth (gA (zs.sum - x') zs) j)) := H4.out j (by rw [HBR.out.2.2.2.1]; exact hlt)
      have c5 : (v7.drewN q).cell? ⟨be, oe + j, none⟩ = some (.int .i64 (nth (spG x' zs) j)) := H5.out j (by rw [HB.out.2.1.1]; exact hlt)
      have c6 : (v7.drewN q).cell? ⟨bm, om + j, none⟩ = some (.int .i64 (nth (spL (zs.sum - x') zs) j)) := H6.out j (by rw [HBR.out.2.2.1.1]; exact hlt)
      obtain ⟨s1, s2, s3⟩ := HDN.out j hlt
      obtain ⟨n1, n2⟩ := HN.out j
      have hjx : (j : Int) < zs.length := by omega
      generalize nth (gD x' zs) j = y1 at *
      generalize nth (gD (zs.sum - x') zs) j = y2 at *
      generalize nth (gA x' zs) j = y3 at *
      generalize nth (gA (zs.sum - x') zs) j = y4 at *
      generalize nth (spG x' zs) j = y5 at *
      generalize nth (spL (zs.sum - x') zs) j = y6 at *
      generalize nth zs j = y at *
      have w1 : IntKind.i64.wrap (y1 + y2) = 120 * y := by rw [s1]; exact IntWalk.i64_in _ ⟨by omega, by omega⟩
      have w2 : IntKind.i64.wrap (y3 + y4) = 120 * y := by rw [s2]; exact IntWalk.i64_in _ ⟨by omega, by omega⟩
      have w3 : IntKind.i64.wrap (y5 + y6) = 120 * y := by rw [s3]; exact IntWalk.i64_in _ ⟨by omega, by omega⟩
      have w4 : IntKind.i64.wrap (120 * y) = 120 * y := IntWalk.i64_in _ ⟨by omega, by omega⟩
      clear s1 s2 s3
      generalize hw : v7.drewN q = wq at c0 c1 c2 c3 c4 c5 c6
      have HW := Lib.hid hw
      clear hw
      go_wp2_with fail
      go_quiet (fail)
      clear w1 w2 w3 w4
      go_wp2
      go_roundw
      case rel => exact ⟨j + 1, q + nq, by omega, by go_num, by rw [← HW.out, World.drewN_drewN]⟩
      case measure => simp [intOf]; omega
    · have hF : Fut w (v7.drewN q) := HF1.out.trans (Fut.drewN _ _)
      go_wp2_with fail
      refine (works_any _).mono ?_
      rintro _ u8 ⟨rfl, F⟩
      go_wp2_with fail
      go_ret
      exact ⟨rfl, hF.trans F⟩
end Go.Proofs.Ytdnbdaegahcoeaa
