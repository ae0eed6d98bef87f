/- Layer 1: the reference's checks. -/
import Derived.Test.YtdnbdaegahcoeaaGarmB
namespace Go.Proofs.Ytdnbdaegahcoeaa
open Go.RowKit Go.Sort
theorem in_any (n lo hi : Int) (w : World) : Calls Try.prog 66 #[.int .i64 n, .int .i64 lo, .int .i64 hi] w fun e w' => e = .returned (.bool (decide (lo ≤ n) && decide (n ≤ hi))) ∧ w = w' := by
  go_enter Try.func66, Try.ntmps66
  go_wp2
  all_goals
    go_ret
    exact ⟨ret_bool (by simp; omega), rfl⟩
theorem rsum_any (a : Option Addr) (cap : Nat) (zs : List Int) (w : World) (hl : zs.length ≤ 60) (hz : ∀ k, k < zs.length → 0 ≤ nth zs k ∧ nth zs k ≤ 1000000) (hA : IntsAt w a zs) : Calls Try.prog 62 #[.slice a zs.length cap] w fun e w' => e = .returned (.int .i64 zs.sum) ∧ w = w' := by
  have HT := Lib.hid (take_sumB 1000000 (by decide) zs hz)
  go_enter Try.func62, Try.ntmps62
  go_wp2
  go_loop [3, 4] (fun s i => ∃ k : Nat, k ≤ zs.length ∧ i = .int .i64 k ∧ s = .int .i64 (zs.take k).sum) (fun _ i => zs.length - (intOf i).toNat)
  case atStart => exact ⟨0, Nat.zero_le _, rfl, rfl⟩
  case round =>
    obtain ⟨k, hk, rfl, rfl⟩ := hrel
    have hs := HT.out k hk
    by_cases hlt : k < zs.length
    · obtain ⟨b, off, rfl, hb, hcell⟩ := hA k hlt
      have H2 := Lib.hid (take_succ' zs k hlt)
      have hzk := hz k hlt
      have hkx : (k : Int) < zs.length := by omega
      clear hA hz
      go_wp2
      go_round
      case rel => exact ⟨k + 1, by omega, by go_num, by rw [H2.out, sum_snoc]⟩
      case measure => simp [intOf]; omega
    · obtain rfl : k = zs.length := by omega
      rw [List.take_length] at hs ⊢
      clear hA hz
      go_wp2
      go_ret
      exact ⟨rfl, rfl⟩
theorem rchk_any (x : Int) (a : Option Addr) (cap : Nat) (zs : List Int) (w : World) (hl : zs.length ≤ 9223372036854775807) (hA : IntsAt w a zs) : Calls Try.prog 25 #[.int .i64 x, .slice a zs.length cap] w fun e w' => e = .returned (.int .i64 (chk x zs)) ∧ w = w' := by
  by_cases h0 : zs.length = 0
  · have e : chk x zs = 4 := by simp [chk, h0]
    rw [e]; rw [h0]; clear e
    go_enter Try.func25, Try.ntmps25
    go_wp2
    go_ret
    exact ⟨rfl, rfl⟩
  by_cases h5 : 5 < zs.length
  · have e : chk x zs = 3 := by simp [chk, h0, h5]
    rw [e]; clear e
    go_enter Try.func25, Try.ntmps25
    go_wp2
    go_ret
    exact ⟨rfl, rfl⟩
  have H : Hid (∀ b, ((zs.all isClaimB && decide (0 ≤ x) && decide (x ≤ zs.sum)) = b) → chk x zs = if b then 0 else 1) := fun b hb => by rw [← hb]; simp only [chk, h0, h5, if_false]
  have hz : ((zs.length : Int) == 0) = false := by rw [beq_eq_false_iff_ne]; omega
  have HRS : Hid (zs.all isClaimB = true → Calls Try.prog 62 #[.slice a zs.length cap] w fun e w' => e = .returned (.int .i64 zs.sum) ∧ w = w') := Lib.hid fun h => rsum_any a cap zs w (by omega) (fun k _ => by have := nth_bd h k; omega) hA
  have h5' : (zs.length : Int) ≤ 5 := by omega
  go_enter Try.func25, Try.ntmps25
  go_wp2
  go_loop [5] (fun i => ∃ k : Nat, k ≤ zs.length ∧ i = .int .i64 k ∧ (zs.take k).all isClaimB = true) (fun i => zs.length - (intOf i).toNat)
  case atStart => exact ⟨0, Nat.zero_le _, rfl, by simp⟩
  case round =>
    obtain ⟨k, hk, rfl, hall⟩ := hrel
    by_cases hlt : k < zs.length
    · obtain ⟨b, off, rfl, hb, hcell⟩ := hA k hlt
      have hkx : (k : Int) < zs.length := by omega
      by_cases hc : isClaimB (nth zs k) = true
      · have hn : (zs.take (k + 1)).all isClaimB = true := by rw [take_succ' zs k hlt]; simp [hall, hc]
        have H2 := Lib.hid hn
        clear hn
        have hcb : (decide (1 ≤ nth zs k) && decide (nth zs k ≤ 1000)) = true := by simpa [isClaimB] using hc
        have HI : Hid (∀ W, Calls Try.prog 66 #[.int .i64 (nth zs k), .int .i64 1, .int .i64 1000] W fun e w' => e = .returned (.bool true) ∧ W = w') := Lib.hid fun W => by rw [← hcb]; exact in_any _ _ _ W
        clear hA hall hcb hc
        go_wp2_with (go_at_call 66; refine (HI.out _).mono ?_; rintro e w' ⟨rfl, rfl⟩)
        go_round
        case rel => exact ⟨k + 1, by omega, by go_num, H2.out⟩
        case measure => simp [intOf]; omega
      · have hcf : isClaimB (nth zs k) = false := by simpa using hc
        have e : chk x zs = 1 := by
          refine H.out false ?_
          have : zs.all isClaimB = false := by
            rw [List.all_eq_false]
            exact ⟨nth zs k, by rw [nth_eq, List.getElem?_eq_getElem hlt]; simp, by simp [hcf]⟩
          simp [this]
        have E := Lib.hid e
        have hcb : (decide (1 ≤ nth zs k) && decide (nth zs k ≤ 1000)) = false := by rw [← hcf]; simp [isClaimB]
        have HI : Hid (∀ W, Calls Try.prog 66 #[.int .i64 (nth zs k), .int .i64 1, .int .i64 1000] W fun e w' => e = .returned (.bool false) ∧ W = w') := Lib.hid fun W => by rw [← hcb]; exact in_any _ _ _ W
        clear e hc hcf H hA hall hcb
        go_wp2_with (go_at_call 66; refine (HI.out _).mono ?_; rintro e w' ⟨rfl, rfl⟩)
        go_ret
        exact ⟨ret_int E.out.symm, rfl⟩
    · obtain rfl : k = zs.length := by omega
      rw [List.take_length] at hall
      have HS := Lib.hid (HRS.out hall)
      by_cases hb : (decide (0 ≤ x) && decide (x ≤ zs.sum)) = true
      · have E : Hid (chk x zs = 0) := Lib.hid (by rw [H.out true (by rw [hall]; simpa using hb)]; rfl)
        have HI : Hid (∀ W, Calls Try.prog 66 #[.int .i64 x, .int .i64 0, .int .i64 zs.sum] W fun e w' => e = .returned (.bool true) ∧ W = w') := Lib.hid fun W => by rw [← hb]; exact in_any _ _ _ W
        clear H hA hall hb HRS
        go_wp2_with fail
        refine HS.out.mono ?_
        rintro _ _ ⟨rfl, rfl⟩
        go_wp2_with (go_at_call 66; refine (HI.out _).mono ?_; rintro e w' ⟨rfl, rfl⟩)
        go_ret
        exact ⟨ret_int E.out.symm, rfl⟩
      · have hb : (decide (0 ≤ x) && decide (x ≤ zs.sum)) = false := by simpa using hb
        have E : Hid (chk x zs = 1) := Lib.hid (by rw [H.out false (by rw [hall]; simpa using hb)]; rfl)
        have HI : Hid (∀ W, Calls Try.prog 66 #[.int .i64 x, .int .i64 0, .int .i64 zs.sum] W fun e w' => e = .returned (.bool false) ∧ W = w') := Lib.hid fun W => by rw [← hb]; exact in_any _ _ _ W
        clear H hA hall hb HRS
        go_wp2_with fail
        refine HS.out.mono ?_
        rintro _ _ ⟨rfl, rfl⟩
        go_wp2_with (go_at_call 66; refine (HI.out _).mono ?_; rintro e w' ⟨rfl, rfl⟩)
        go_ret
        exact ⟨ret_int E.out.symm, rfl⟩
theorem rpair_any (x a b : Int) (w : World) (ha : 0 ≤ a ∧ a ≤ 10000000) (hb : 0 ≤ b ∧ b ≤ 10000000) (hx : 0 ≤ x ∧ x ≤ 10000000) :
    Calls Try.prog 68 #[.int .i64 x, .int .i64 a, .int .i64 b] w fun e w' => e = .returned (.int .i64 (garF x a b)) ∧ w = w' := by
  unfold garF
  go_enter Try.func68, Try.ntmps68
  go_wp2
  all_goals
    go_ret
    exact ⟨ret_int (by omega), rfl⟩
set_option maxRecDepth 100000 in
theorem rone_any (a c : Option Addr) (cap dap : Nat) (zs gs : List Int) (i j : Nat) (w : World) (hA : IntsAt w a zs) (hG : IntsAt w c gs) (hi : i < zs.length) (hj : j < zs.length) (he : gs.length = zs.length) (h5 : zs.length ≤ 5)
    (hz : ∀ k, 0 ≤ nth zs k ∧ nth zs k ≤ 1000) (hg : ∀ k, k < gs.length → Gt (nth gs k)) :
    Calls Try.prog 78 #[.slice a zs.length cap, .slice c zs.length dap, .int .i64 i, .int .i64 j] w fun e w' => e = .returned (.bool (oneB zs gs i j)) ∧ ∃ q, w' = w.drewN q := by
  obtain ⟨b, off, rfl, hb, hc⟩ := hA.addr (by omega)
  obtain ⟨b', off', rfl, hb', hc'⟩ := hG.addr (by omega)
  have z1 := hc i hi; have z2 := hc j hj; have g1 := hc' i (by omega); have g2 := hc' j (by omega)
  obtain ⟨zi0, zi1⟩ := hz i; obtain ⟨zj0, zj1⟩ := hz j
  obtain ⟨gi0, gi1⟩ := hg i (by omega); obtain ⟨gj0, gj1⟩ := hg j (by omega)
  have hi' : (i : Int) < zs.length := by omega
  have hj' : (j : Int) < zs.length := by omega
  have HO : Hid (oneB zs gs i j = decide (2 * nth gs i = garF (nth gs i + nth gs j) (120 * nth zs i) (120 * nth zs j))) := Lib.hid rfl
  clear hA hG hc hc' hz hg he hi hj
  generalize oneB zs gs i j = r at *
  generalize nth zs i = zi at *
  generalize nth zs j = zj at *
  generalize nth gs i = gi at *
  generalize nth gs j = gj at *
  have w1 : IntKind.i64.wrap (gi + gj) = gi + gj := IntWalk.i64_in _ ⟨by omega, by omega⟩
  have w2 : IntKind.i64.wrap (120 * zi) = 120 * zi := IntWalk.i64_in _ ⟨by omega, by omega⟩
  have w3 : IntKind.i64.wrap (120 * zj) = 120 * zj := IntWalk.i64_in _ ⟨by omega, by omega⟩
  have w4 : IntKind.i64.wrap (2 * gi) = 2 * gi := IntWalk.i64_in _ ⟨by omega, by omega⟩
  have HT := Lib.hid (fun W => rpair_any (gi + gj) (120 * zi) (120 * zj) W ⟨by omega, by omega⟩ ⟨by omega, by omega⟩ ⟨by omega, by omega⟩)
  generalize garF (gi + gj) (120 * zi) (120 * zj) = G at *
  go_enter Try.func78, Try.ntmps78
  go_wp2
  go_quiet ((go_at_call 68; exact Calls.quiet_of_same ((HT.out _).mono fun _ _ h => ⟨h.1, h.2.symm⟩)))
  clear w1 w2 w3 w4
  go_wp2
  go_ret
  rw [HO.out]
  exact ⟨ret_bool (by rw [Bool.eq_iff_iff]; simp), _, rfl⟩
theorem vld_le {x : Int} {zs gs : List Int} (h1 : chk x zs = 0) (h2 : gs.length = zs.length) (k : Nat) (hk : k < gs.length) (h : partB zs gs k = false) : vld x zs gs = 1 := by
  rw [vld_of h1 h2]
  have : (List.range gs.length).all (partB zs gs) = false := by
    rw [List.all_eq_false]; exact ⟨k, List.mem_range.2 hk, by simp [h]⟩
  rw [this]; rfl
set_option maxRecDepth 100000 in
set_option maxHeartbeats 400000 in
theorem rvalid_any (x : Int) (a c : Option Addr) (cap dap : Nat) (zs gs : List Int) (w : World) (hl : zs.length ≤ 9223372036854775807) (hlg : gs.length ≤ 9223372036854775807) (hA : IntsAt w a zs) (hG : IntsAt w c gs) :
    Calls Try.prog 35 #[.int .i64 x, .slice a zs.length cap, .slice c gs.length dap] w fun e w' => e = .returned (.int .i64 (vld x zs gs)) ∧ ∃ q, w' = w.drewN q := by
  have HC := Lib.hid (rchk_any x a cap zs w hl hA)
  by_cases hc : chk x zs = 0
  · rw [hc] at HC
    by_cases he : gs.length = zs.length
    · obtain ⟨h1, h5, hall, hx0, hx1⟩ := chk_ok hc
      have hb5 := chk_bd hc
      have hz := nth_bd hall
      have HZ := Lib.hid hz
      obtain ⟨bz, oz, rfl, hbz, hcz⟩ := hA.addr (by omega)
      obtain ⟨bg, og, rfl, hbg, hcg⟩ := hG.addr (by omega)
      have HCZ := Lib.hid hcz
      have HCG := Lib.hid hcg
      have HS : Hid (∀ q, (List.range gs.length).all (partB zs gs) = true → Calls Try.prog 62 #[.slice (some ⟨bg, og, none⟩) zs.length dap] (w.drewN q) fun e w' => e = .returned (.int .i64 gs.sum) ∧ w.drewN q = w') := Lib.hid fun q h => by
        have := rsum_any (some ⟨bg, og, none⟩) dap gs (w.drewN q) (by omega) (fun k hk => by
          have h1 := all_range_get _ h k hk
          have h2 := hz k
          simp only [partB, Bool.and_eq_true, decide_eq_true_eq] at h1
          omega) (hG.fut (Fut.drewN _ _))
        rw [he] at this; exact this
      have HV1 := Lib.hid (vld_le hc he)
      have HV := Lib.hid (vld_of hc he)
      have hne : ((zs.length : Int) != zs.length) = false := by simp
      have hw120 : -600000 ≤ 120 * x ∧ 120 * x ≤ 600000 := by omega
      have HE := Lib.hid he
      have h5' : (zs.length : Int) ≤ 5 := by omega
      rw [he]
      clear hcz hcg hA hG hz hall hc he hl hlg hx1
      go_enter Try.func35, Try.ntmps35
      go_wp2_with fail
      refine HC.out.mono ?_
      rintro _ _ ⟨rfl, rfl⟩
      go_wp2_with fail
      go_loopw [7, 8] (fun ev iv wr => ∃ (k q : Nat), k ≤ zs.length ∧ iv = .int .i64 k ∧ wr = w.drewN q ∧ ((ev = .int .i64 0 ∧ Hid ((List.range k).all (partB zs gs) = true)) ∨ (ev = .int .i64 1 ∧ Hid (vld x zs gs = 1)))) (fun ev iv _ => zs.length + 1 - (intOf iv).toNat)
      case atStart => exact ⟨0, 0, Nat.zero_le _, rfl, rfl, .inl ⟨rfl, Lib.hid rfl⟩⟩
      case round =>
        obtain ⟨k, q, hk, rfl, rfl, ⟨rfl, HP⟩ | ⟨rfl, HP⟩⟩ := hrel
        · by_cases hlt : k < zs.length
          · have c1 : (w.drewN q).cell? ⟨bz, oz + k, none⟩ = some (.int .i64 (nth zs k)) := HCZ.out k hlt
            have c2 : (w.drewN q).cell? ⟨bg, og + k, none⟩ = some (.int .i64 (nth gs k)) := HCG.out k (by rw [HE.out]; exact hlt)
            obtain ⟨n1, n2⟩ := HZ.out k
            have hkx : (k : Int) < zs.length := by omega
            have HI : Hid (∀ W, Calls Try.prog 66 #[.int .i64 (nth gs k), .int .i64 0, .int .i64 (120 * nth zs k)] W fun e w' => e = .returned (.bool (partB zs gs k)) ∧ W = w') := Lib.hid fun W => by
              have e : partB zs gs k = (decide (0 ≤ nth gs k) && decide (nth gs k ≤ 120 * nth zs k)) := by unfold partB; rw [Int.mul_comm]
              rw [e]; exact in_any _ _ _ W
            have HPK : Hid (partB zs gs k = true → (List.range (k + 1)).all (partB zs gs) = true) := Lib.hid (all_range_snoc _ k HP.out)
            have HQK : Hid (partB zs gs k = false → vld x zs gs = 1) := Lib.hid (HV1.out k (by rw [HE.out]; exact hlt))
            clear HP
            generalize hpb : partB zs gs k = pb at *
            have HPB := Lib.hid hpb
            clear hpb
            generalize nth zs k = zk at *
            generalize nth gs k = gk at *
            have w1 : IntKind.i64.wrap (120 * zk) = 120 * zk := IntWalk.i64_in _ ⟨by omega, by omega⟩
            generalize hw : w.drewN q = wq at c1 c2
            have HW := Lib.hid hw
            clear hw
            rcases pb with _ | _
            · go_wp2_with fail
              go_quiet ((go_at_call 66; exact Calls.quiet_of_same ((HI.out _).mono fun _ _ h => ⟨h.1, h.2.symm⟩)))
              clear w1
              go_wp2
              go_roundw
              case rel => exact ⟨k + 1, q + nq, by omega, by go_num, by rw [← HW.out, World.drewN_drewN], .inr ⟨rfl, Lib.hid (HQK.out trivial)⟩⟩
              case measure => simp [intOf]; omega
            · go_wp2_with fail
              go_quiet ((go_at_call 66; exact Calls.quiet_of_same ((HI.out _).mono fun _ _ h => ⟨h.1, h.2.symm⟩)))
              clear w1
              go_wp2
              go_roundw
              case rel => exact ⟨k + 1, q + nq, by omega, by go_num, by rw [← HW.out, World.drewN_drewN], .inl ⟨rfl, Lib.hid (HPK.out trivial)⟩⟩
              case measure => simp [intOf]; omega
          · obtain rfl : k = zs.length := by omega
            have hP : (List.range gs.length).all (partB zs gs) = true := by rw [HE.out]; exact HP.out
            have HS2 := Lib.hid (HS.out q hP)
            have HV2 : Hid (vld x zs gs = if gs.sum = 120 * x then 0 else 17) := Lib.hid (by rw [HV.out, if_pos hP, Int.mul_comm])
            clear hP HP HS HV HV1
            by_cases hs : gs.sum = 120 * x
            · have HV3 : Hid (vld x zs gs = 0) := Lib.hid (by rw [HV2.out, if_pos hs])
              rw [hs] at HS2
              clear hs
              go_wp2_with fail
              refine HS2.out.mono ?_
              rintro _ _ ⟨rfl, rfl⟩
              go_wp2
              go_ret
              exact ⟨ret_int HV3.out.symm, q, rfl⟩
            · have HV3 : Hid (vld x zs gs = 17) := Lib.hid (by rw [HV2.out, if_neg hs])
              have e1 : (gs.sum == 120 * x) = false := by rw [beq_eq_false_iff_ne]; exact hs
              have e2 : (gs.sum != 120 * x) = true := by rw [bne, e1]; rfl
              clear hs
              go_wp2_with fail
              refine HS2.out.mono ?_
              rintro _ _ ⟨rfl, rfl⟩
              go_wp2
              go_ret
              exact ⟨ret_int HV3.out.symm, q, rfl⟩
        · clear HS HV HV1
          by_cases hlt : (k : Int) < zs.length
          · go_wp2
            go_ret
            exact ⟨ret_int HP.out.symm, q, rfl⟩
          · go_wp2
            go_ret
            exact ⟨ret_int HP.out.symm, q, rfl⟩
    · have HV : Hid (vld x zs gs = 5) := Lib.hid (by unfold vld; rw [if_neg (by simpa using hc), if_pos he])
      have e1 : ((gs.length : Int) == zs.length) = false := by rw [beq_eq_false_iff_ne]; omega
      have e2 : ((gs.length : Int) != zs.length) = true := by rw [bne, e1]; rfl
      clear hc he hA hG
      go_enter Try.func35, Try.ntmps35
      go_wp2_with fail
      refine HC.out.mono ?_
      rintro _ _ ⟨rfl, rfl⟩
      go_wp2_with fail
      go_loop [7, 8] (fun ev iv => ev = .int .i64 5 ∧ iv = .int .i64 0) (fun _ _ => 0)
      case atStart => exact ⟨rfl, rfl⟩
      case round =>
        obtain ⟨rfl, rfl⟩ := hrel
        by_cases h0 : (0 : Int) < gs.length
        · go_wp2
          go_ret
          exact ⟨ret_int HV.out.symm, 0, rfl⟩
        · go_wp2
          go_ret
          exact ⟨ret_int HV.out.symm, 0, rfl⟩
  · have HV : Hid (vld x zs gs = chk x zs) := Lib.hid (by unfold vld; rw [if_pos hc])
    have e1 : (chk x zs == 0) = false := by rw [beq_eq_false_iff_ne]; exact hc
    have e2 : (chk x zs != 0) = true := by rw [bne, e1]; rfl
    generalize chk x zs = r at *
    clear hc hA hG
    go_enter Try.func35, Try.ntmps35
    go_wp2_with fail
    refine HC.out.mono ?_
    rintro _ _ ⟨rfl, rfl⟩
    go_wp2_with fail
    go_loop [7, 8] (fun ev iv => ev = .int .i64 r ∧ iv = .int .i64 0) (fun _ _ => 0)
    case atStart => exact ⟨rfl, rfl⟩
    case round =>
      obtain ⟨rfl, rfl⟩ := hrel
      by_cases h0 : (0 : Int) < gs.length
      · go_wp2
        go_ret
        exact ⟨ret_int HV.out.symm, 0, rfl⟩
      · go_wp2
        go_ret
        exact ⟨ret_int HV.out.symm, 0, rfl⟩
set_option maxRecDepth 100000 in
set_option maxHeartbeats 400000 in
theorem rwhy_any (x : Int) (a c : Option Addr) (cap dap : Nat) (zs gs : List Int) (w : World) (hl : zs.length ≤ 9223372036854775807) (hlg : gs.length ≤ 9223372036854775807) (hA : IntsAt w a zs) (hG : IntsAt w c gs) :
    Calls Try.prog 33 #[.int .i64 x, .slice a zs.length cap, .slice c gs.length dap] w fun e w' => e = .returned (if vld x zs gs ≠ 0 then .tuple #[.int .i64 0, .int .i64 0, .int .i64 (vld x zs gs)] else whyV (whyL zs gs)) ∧ ∃ q, w' = w.drewN q := by
  have HC := Lib.hid (rvalid_any x a c cap dap zs gs w hl hlg hA hG)
  by_cases hv : vld x zs gs = 0
  · rw [if_neg (by simpa using hv)]
    rw [hv] at HC
    obtain ⟨hc, he, hpart, _⟩ := vld_ok hv
    obtain ⟨h1, h5, hall, _, _⟩ := chk_ok hc
    have hz := nth_bd hall
    have HONE := Lib.hid (fun (q i j : Nat) (hi : i < zs.length) (hj : j < zs.length) => rone_any a c cap dap zs gs i j (w.drewN q) (hA.fut (Fut.drewN _ _)) (hG.fut (Fut.drewN _ _)) hi hj he h5 hz (fun k hk => part_gt hz (hpart k hk)))
    rw [fnd_why]
    generalize hR : fnd zs gs (rowsF zs.length zs.length) = R
    have H0 : Hid (R = fnd zs gs (rowsF zs.length (zs.length - 0))) := Lib.hid hR.symm
    rw [he] at HC ⊢
    have h5' : (zs.length : Int) ≤ 5 := by omega
    clear hA hG hc hpart hall hz hR hv he hl hlg
    go_enter Try.func33, Try.ntmps33
    go_wp2_with fail
    refine HC.out.mono ?_
    rintro _ _ ⟨rfl, q0, rfl⟩
    go_wp2_with fail
    go_loopw [10] (fun iv wr => ∃ (k q : Nat), k ≤ zs.length ∧ iv = .int .i64 k ∧ Hid (R = fnd zs gs (rowsF zs.length (zs.length - k))) ∧ wr = w.drewN q) (fun iv _ => zs.length - (intOf iv).toNat)
    case atStart => exact ⟨0, q0, Nat.zero_le _, rfl, H0, rfl⟩
    case round =>
      obtain ⟨k, q, hk, rfl, HR, rfl⟩ := hrel
      clear H0
      by_cases hlt : k < zs.length
      · have HK : Hid (R = fnd zs gs (restP zs.length k (k + 1))) := Lib.hid (by rw [HR.out, rest_row _ _ hlt])
        clear HR
        have hkx : (k : Int) < zs.length := by omega
        go_wp2_with fail
        go_loopw [11] (fun jv wr => ∃ (j p : Nat), k < j ∧ j ≤ zs.length ∧ jv = .int .i64 j ∧ Hid (R = fnd zs gs (restP zs.length k j)) ∧ wr = w.drewN p) (fun jv _ => zs.length - (intOf jv).toNat)
        case atStart => exact ⟨k + 1, q, by omega, by omega, by go_num, HK, rfl⟩
        case round =>
          obtain ⟨j, p, hj1, hj2, rfl, HJ, rfl⟩ := hrel
          clear HK
          by_cases hjt : j < zs.length
          · have hjx : (j : Int) < zs.length := by omega
            have HO := Lib.hid (HONE.out p k j hlt hjt)
            by_cases hone : oneB zs gs k j = true
            · have HJ' : Hid (R = fnd zs gs (restP zs.length k (j + 1))) := Lib.hid (by rw [HJ.out, rest_cons _ _ _ hjt, fnd_yes _ _ _ _ _ hone])
              rw [hone] at HO
              clear HJ hone
              go_wp2_with fail
              refine HO.out.mono ?_
              rintro _ _ ⟨rfl, nq, rfl⟩
              go_wp2
              go_roundw
              case rel => exact ⟨j + 1, p + nq, by omega, by omega, by go_num, HJ', rfl⟩
              case measure => simp [intOf]; omega
            · have hone : oneB zs gs k j = false := by simpa using hone
              have HJ' : Hid (R = some (k, j)) := Lib.hid (by rw [HJ.out, rest_cons _ _ _ hjt, fnd_no _ _ _ _ _ hone])
              rw [hone] at HO
              clear HJ hone
              go_wp2_with fail
              refine HO.out.mono ?_
              rintro _ _ ⟨rfl, nq, rfl⟩
              go_wp2
              go_ret3
              rw [HJ'.out]
              exact ⟨rfl, p + nq, rfl⟩
          · have HE : Hid (R = fnd zs gs (rowsF zs.length (zs.length - (k + 1)))) := Lib.hid (by rw [HJ.out, rest_end _ _ _ (by omega), Nat.sub_sub])
            go_wp2
            go_roundw
            case rel => exact ⟨k + 1, p, by omega, by go_num, HE, rfl⟩
            case measure => simp [intOf]; omega
      · obtain rfl : k = zs.length := by omega
        have HE : Hid (R = none) := Lib.hid (by rw [HR.out, Nat.sub_self]; rfl)
        go_wp2
        go_ret3
        rw [HE.out]
        exact ⟨rfl, q, rfl⟩
  · rw [if_pos hv]
    have e1 : (vld x zs gs == 0) = false := by rw [beq_eq_false_iff_ne]; exact hv
    have e2 : (vld x zs gs != 0) = true := by rw [bne, e1]; rfl
    generalize vld x zs gs = r at *
    clear hv hA hG
    go_enter Try.func33, Try.ntmps33
    go_wp2_with fail
    refine HC.out.mono ?_
    rintro _ _ ⟨rfl, q0, rfl⟩
    go_wp2
    go_ret3
    exact ⟨rfl, q0, rfl⟩
set_option maxRecDepth 100000 in
set_option maxHeartbeats 400000 in
theorem rprv_any (x i j : Int) (a c : Option Addr) (cap dap : Nat) (zs gs : List Int) (w : World) (hl : zs.length ≤ 9223372036854775807) (hlg : gs.length ≤ 9223372036854775807) (hA : IntsAt w a zs) (hG : IntsAt w c gs) :
    Calls Try.prog 37 #[.int .i64 x, .slice a zs.length cap, .slice c gs.length dap, .int .i64 i, .int .i64 j] w fun e w' => e = .returned (.int .i64 (prv x zs gs i j)) ∧ ∃ q, w' = w.drewN q := by
  have HC := Lib.hid (rvalid_any x a c cap dap zs gs w hl hlg hA hG)
  by_cases hv : vld x zs gs = 0
  · rw [hv] at HC
    obtain ⟨hc, he, hpart, _⟩ := vld_ok hv
    obtain ⟨h1, h5, hall, _, _⟩ := chk_ok hc
    have hz := nth_bd hall
    have HONE := Lib.hid (fun (q i j : Nat) (hi : i < zs.length) (hj : j < zs.length) => rone_any a c cap dap zs gs i j (w.drewN q) (hA.fut (Fut.drewN _ _)) (hG.fut (Fut.drewN _ _)) hi hj he h5 hz (fun k hk => part_gt hz (hpart k hk)))
    have h5' : (zs.length : Int) ≤ 5 := by omega
    have h1' : (1 : Int) ≤ zs.length := by omega
    rw [he] at HC ⊢
    by_cases hi : 0 ≤ i ∧ i < zs.length
    · have HI : Hid (∀ W, Calls Try.prog 66 #[.int .i64 i, .int .i64 0, .int .i64 ((zs.length : Int) - 1)] W fun e w' => e = .returned (.bool true) ∧ W = w') := Lib.hid fun W => by
        have e : (decide (0 ≤ i) && decide (i ≤ (zs.length : Int) - 1)) = true := by simp; omega
        rw [← e]; exact in_any _ _ _ W
      by_cases hj : 0 ≤ j ∧ j < zs.length
      · have HJ : Hid (∀ W, Calls Try.prog 66 #[.int .i64 j, .int .i64 0, .int .i64 ((zs.length : Int) - 1)] W fun e w' => e = .returned (.bool true) ∧ W = w') := Lib.hid fun W => by
          have e : (decide (0 ≤ j) && decide (j ≤ (zs.length : Int) - 1)) = true := by simp; omega
          rw [← e]; exact in_any _ _ _ W
        obtain ⟨i', rfl⟩ : ∃ k : Nat, i = (k : Int) := ⟨i.toNat, by omega⟩
        obtain ⟨j', rfl⟩ : ∃ k : Nat, j = (k : Int) := ⟨j.toNat, by omega⟩
        by_cases hij : i' = j'
        · have HP : Hid (prv x zs gs i' j' = 6) := Lib.hid (by unfold prv; rw [if_neg (by simpa using hv), if_neg (by omega), if_pos (by omega)])
          subst hij
          clear hA hG hc hpart hall hz hv he hl hlg
          go_enter Try.func37, Try.ntmps37
          go_wp2_with fail
          refine HC.out.mono ?_
          rintro _ _ ⟨rfl, q0, rfl⟩
          go_wp2_with (go_at_call 66; refine (HI.out _).mono ?_; rintro e w' ⟨rfl, rfl⟩)
          go_ret
          exact ⟨ret_int HP.out.symm, q0, rfl⟩
        · have e1 : ((i' : Int) == (j' : Int)) = false := by rw [beq_eq_false_iff_ne]; omega
          have HP : Hid (prv x zs gs i' j' = if oneB zs gs i' j' then 14 else 0) := Lib.hid (by unfold prv; rw [if_neg (by simpa using hv), if_neg (by omega), if_neg (by omega), atB_one]; simp)
          have HO := Lib.hid (fun q => HONE.out q i' j' (by omega) (by omega))
          clear hA hG hc hpart hall hz hv he hl hlg hij HONE
          generalize oneB zs gs i' j' = ob at *
          rcases ob with _ | _
          · go_enter Try.func37, Try.ntmps37
            go_wp2_with fail
            refine HC.out.mono ?_
            rintro _ _ ⟨rfl, q0, rfl⟩
            go_wp2_with fail
            refine (HI.out _).mono ?_
            rintro _ _ ⟨rfl, rfl⟩
            go_wp2_with fail
            refine (HJ.out _).mono ?_
            rintro _ _ ⟨rfl, rfl⟩
            go_wp2_with fail
            refine (HO.out _).mono ?_
            rintro _ _ ⟨rfl, nq, rfl⟩
            go_wp2_with fail
            go_ret
            exact ⟨ret_int HP.out.symm, q0 + nq, rfl⟩
          · go_enter Try.func37, Try.ntmps37
            go_wp2_with fail
            refine HC.out.mono ?_
            rintro _ _ ⟨rfl, q0, rfl⟩
            go_wp2_with fail
            refine (HI.out _).mono ?_
            rintro _ _ ⟨rfl, rfl⟩
            go_wp2_with fail
            refine (HJ.out _).mono ?_
            rintro _ _ ⟨rfl, rfl⟩
            go_wp2_with fail
            refine (HO.out _).mono ?_
            rintro _ _ ⟨rfl, nq, rfl⟩
            go_wp2_with fail
            go_ret
            exact ⟨ret_int HP.out.symm, q0 + nq, rfl⟩
      · have HJ : Hid (∀ W, Calls Try.prog 66 #[.int .i64 j, .int .i64 0, .int .i64 ((zs.length : Int) - 1)] W fun e w' => e = .returned (.bool false) ∧ W = w') := Lib.hid fun W => by
          have e : (decide (0 ≤ j) && decide (j ≤ (zs.length : Int) - 1)) = false := by rw [Bool.and_eq_false_iff]; simp; omega
          rw [← e]; exact in_any _ _ _ W
        have HP : Hid (prv x zs gs i j = 2) := Lib.hid (by unfold prv; rw [if_neg (by simpa using hv), if_pos (by omega)])
        by_cases hij : i = j
        · subst hij; exact absurd hi hj
        clear hA hG hc hpart hall hz hv he hl hlg hi hj HONE hij
        go_enter Try.func37, Try.ntmps37
        go_wp2_with fail
        refine HC.out.mono ?_
        rintro _ _ ⟨rfl, q0, rfl⟩
        go_wp2_with fail
        refine (HI.out _).mono ?_
        rintro _ _ ⟨rfl, rfl⟩
        go_wp2_with fail
        refine (HJ.out _).mono ?_
        rintro _ _ ⟨rfl, rfl⟩
        go_wp2_with fail
        go_ret
        exact ⟨ret_int HP.out.symm, q0, rfl⟩
    · have HI : Hid (∀ W, Calls Try.prog 66 #[.int .i64 i, .int .i64 0, .int .i64 ((zs.length : Int) - 1)] W fun e w' => e = .returned (.bool false) ∧ W = w') := Lib.hid fun W => by
        have e : (decide (0 ≤ i) && decide (i ≤ (zs.length : Int) - 1)) = false := by rw [Bool.and_eq_false_iff]; simp; omega
        rw [← e]; exact in_any _ _ _ W
      have HP : Hid (prv x zs gs i j = 2) := Lib.hid (by unfold prv; rw [if_neg (by simpa using hv), if_pos (by omega)])
      clear hA hG hc hpart hall hz hv he hl hlg hi HONE
      go_enter Try.func37, Try.ntmps37
      go_wp2_with fail
      refine HC.out.mono ?_
      rintro _ _ ⟨rfl, q0, rfl⟩
      go_wp2_with (go_at_call 66; refine (HI.out _).mono ?_; rintro e w' ⟨rfl, rfl⟩)
      go_ret
      exact ⟨ret_int HP.out.symm, q0, rfl⟩
  · have HP : Hid (prv x zs gs i j = vld x zs gs) := Lib.hid (by unfold prv; rw [if_pos hv])
    have e1 : (vld x zs gs == 0) = false := by rw [beq_eq_false_iff_ne]; exact hv
    generalize vld x zs gs = r at *
    clear hv hA hG
    go_enter Try.func37, Try.ntmps37
    go_wp2_with fail
    refine HC.out.mono ?_
    rintro _ _ ⟨rfl, q0, rfl⟩
    go_wp2
    go_ret
    exact ⟨ret_int HP.out.symm, q0, rfl⟩
end Go.Proofs.Ytdnbdaegahcoeaa
