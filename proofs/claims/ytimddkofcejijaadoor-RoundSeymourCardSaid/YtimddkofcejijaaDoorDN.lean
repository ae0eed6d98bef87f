/- Layer 2: RoundSeymour walks. -/
import Derived.Test.YtimddkofcejijaaDoorDM
import Derived.Test.YtimddkofcejijaaDoorSB
import Derived.Test.YtimddkofcejijaaDoorSI
namespace Go.Proofs.YtimddkofcejijaaDoor
open Go.RowKit Go.Sort
set_option maxRecDepth 100000 in
set_option maxHeartbeats 20000000 in
/-- RoundSeymour walks. -/
theorem seymour_any (t : Nat → Int) (w : World) (ht : tOk t) (hT : TabAt w) : Calls Tryd.prog 3 #[tV t] w fun e w' => e = .returned (.bool true) ∧ Fut w w' := by
  have HT := Lib.hid hT
  clear hT
  go_enter Tryd.func3, Tryd.ntmps3
  go_upto_region 1 with fail
  have hF : Fut w (w.alloc (.cells (tC t) 26)) := Fut.alloc _ _
  have hB : (w.alloc (.cells (tC t) 26)).heap[w.heap.size]? = some (.cells (tC t) 26 (0, 0)) := heap_alloc_new _ _
  generalize w.alloc (.cells (tC t) 26) = W1 at *
  refine wp_region_lit ?_
  refine wpList_load_row rfl 26 (.tmp 1) rfl w.heap.size rfl 26 (tC t) (0, 0) _ hB Tryd.underlying26 rfl (by kernel_rfl) ?_
  go_wp2_with fail
  refine (made_any t 6 8 W1 ht (by decide) (by decide)).mono ?_
  rintro _ w1 ⟨n, ss, l, lc, rfl, hS, F, hn1, hn6, hM, h8⟩
  have HF1 := Lib.hid (hF.trans F)
  have HT1 := Lib.hid (HT.out.fut HF1.out)
  clear hF F hB ht HT
  clear W1
  go_upto_region 2 with fail
  generalize tC t = TC at *
  generalize (⟨w.heap.size, 0, none⟩ : Addr) = BA at *
  have hchk := made_chk hn1 (by omega) hM (by omega)
  have hmem := made_mem hn1 hM
  obtain ⟨_, _, _, hsm, _, _⟩ := chk_good hchk
  have HS := Lib.hid hS
  have HCHK := Lib.hid hchk
  have HMEM := Lib.hid hmem
  have HSM := Lib.hid hsm
  clear hchk hmem hS hM hsm
  have hB := BoxM.new w1 n l ss.length lc 29
  have hF : Fut w1 (w1.alloc (.cells #[.int .i64 n, .slice l ss.length lc] 29)) := Fut.alloc _ _
  generalize w1.alloc (.cells #[.int .i64 n, .slice l ss.length lc] 29) = w2 at *
  generalize w1.heap.size = B at *
  have HB := Lib.hid hB
  have HF := Lib.hid hF
  obtain ⟨hb, b0, b1⟩ := hB
  clear hF
  have hnx : (n : Int) ≤ 6 := by omega
  have hsx : (ss.length : Int) ≤ 8 := by omega
  have h64 : 2 ^ n ≤ 64 := Nat.le_trans (Nat.pow_le_pow_right (by decide) hn6) (by decide)
  have h2n : 2 ≤ 2 ^ n := by
    have := Nat.pow_le_pow_right (show 0 < 2 by decide) hn1
    simpa using this
  have h256 : 2 ^ ss.length ≤ 256 := Nat.le_trans (Nat.pow_le_pow_right (by decide) h8) (by decide)
  have h1N := Nat.two_pow_pos ss.length
  obtain ⟨M, hM⟩ : ∃ M, 2 ^ n = M + 1 := ⟨2 ^ n - 1, by omega⟩
  have hwk : IntKind.u64.wrap ((2 : Int) ^ n) = (((M + 1 : Nat)) : Int) := by rw [← hM]; exact wrap_two n (by omega)
  have HM := Lib.hid hM
  have HWK := Lib.hid hwk
  have hM63 : (M : Int) ≤ 63 := by omega
  have hM1 : (1 : Int) ≤ M := by omega
  clear h2n h64
  obtain ⟨m0, m1⟩ := HB.out.after Fut.rfl
  have HAL := Lib.hid (fun W => every_any n l ss.length lc W (by omega))
  have HOD := Lib.hid (fun W (F : Fut w1 W) => oddlaw_any n l lc ss (2 ^ ss.length - 1) W (HS.out.fut F) (by omega) HSM.out (fun p hp => by have := HMEM.out p hp; omega) (mask_lt (by omega)))
  have HOS := Lib.hid (fun s (h : s < 65536) W (F : Fut w1 W) => oddlaw_any n l lc ss s W (HS.out.fut F) (by omega) HSM.out (fun p hp => by have := HMEM.out p hp; omega) h)
  have hol2 : oddM ss (2 ^ ss.length - 1) < 2 ^ n := Nm.odd_in _ ss 0 0 HMEM.out (Nat.two_pow_pos _)
  obtain ⟨o, ho⟩ : ∃ o, o = oddM ss (2 ^ ss.length - 1) := ⟨_, rfl⟩
  rw [← ho] at HOD hol2
  have hol : o < 64 := by omega
  have HO := Lib.hid ho
  clear ho hol2 hM
  obtain ⟨m, hm⟩ : ∃ m, 2 ^ ss.length = m + 1 := ⟨2 ^ ss.length - 1, by omega⟩
  have hm2 : 2 ^ ss.length - 1 = m := by omega
  have HMM := Lib.hid hm
  have hmx : (m : Int) ≤ 255 := by omega
  rw [hm2] at HAL HOD
  clear hm hm2 h1N h256
  refine region_fut (by kernel_rfl) (by kernel_rfl) ?_
  repeat (go_big_quiet_step (first
    | (go_at_call 9; exact after_of (HAL.out _))
    | (go_at_call 8; rename_i p; exact after_of (HOD.out _ (HF.out.trans p.F)))))
  refine wpQuiet_nil ?_
  intro w3 hw'
  have F3 : Fut w2 w3 := after_fut hw'
  clear hw' m0 m1 HOD hb b0 b1
  have HF3 := Lib.hid (HF.out.trans F3)
  have HB3 := Lib.hid (HB.out.fut F3)
  clear F3 HF HB
  obtain ⟨hb, b0, b1⟩ := HB3.out
  go_upto_region 5 with fail
  clear hwk
  go_wp2_with fail
  refine (HAL.out _).mono ?_
  rintro _ w4 ⟨rfl, F⟩
  have HF4 := Lib.hid (HF3.out.trans F)
  have HB4 := Lib.hid (HB3.out.fut F)
  clear hb b0 b1 F HF3 HB3
  go_wp2_with fail
  go_loopw [5, 6, 7, 8, 33] (fun v5 v6 _ _ iv wr => ∃ (k : Nat) (fa : Option Addr) (fc : Nat) (xs : List Int) (fo : Bool), k ≤ m + 1 ∧ iv = .int .u64 k ∧ v5 = .slice fa xs.length fc ∧ v6 = .bool fo ∧ xs.length ≤ 16 ∧ Hid (Sm.lwF ss k = if fo then some xs else none) ∧ Hid (IntsAt wr fa xs) ∧ Hid (Fut w4 wr)) (fun _ _ _ _ iv _ => m + 1 - (intOf iv).toNat)
  case atStart => exact ⟨0, none, 0, [], false, Nat.zero_le _, rfl, rfl, rfl, by simp, Lib.hid rfl, Lib.hid (nil_ints _ _), Lib.hid Fut.rfl⟩
  case round =>
    obtain ⟨k, fa, fc, xs, fo, hk, rfl, rfl, rfl, hxl, HL, HI, HR⟩ := hrel
    by_cases hlt : k < m + 1
    · have hkx : (k : Int) < (m : Int) + 1 := by omega
      have HMB := Lib.hid (fun W (F : Fut wr W) => members_any k W (by omega) (HT1.out.fut (HF4.out.trans (HR.out.trans F))))
      have HKO := Lib.hid (fun W (F : Fut wr W) => HOS.out k (by omega) W (HF4.out.trans (HR.out.trans F)))
      have hkl : oddM ss k < 65536 := oddM_lt HSM.out _
      have HEB : Hid (enoughB ss k = ((oddM ss k : Int) == (o : Int))) := Lib.hid (by
        unfold enoughB
        rw [← HO.out, Bool.eq_iff_iff, beq_iff_eq, beq_iff_eq]; omega)
      have HLS := Lib.hid (Sm.lwF_succ ss k)
      have hll := list_le k
      generalize hLL : listM k = L at *
      have HLL := Lib.hid hLL
      generalize oddM ss k = ok at *
      clear hLL
      go_upto_region 9 with (first
        | (go_at_call 10; (with_reducible refine (HMB.out _ Fut.rfl).mono ?_); rintro _ wa ⟨v, rfl, Oa, Fa⟩; obtain ⟨va, vc, rfl, Ia⟩ := Oa.ints; have HIa := Lib.hid Ia; have HFa := Lib.hid Fa; clear Oa Fa Ia))
      obtain ⟨hb, b0, b1⟩ := HB4.out.fut (HR.out.trans HFa.out)
      cases hq : ((ok : Int) == (o : Int))
      · have HL2 : Hid (Sm.lwF ss (k + 1) = if fo then some xs else none) := Lib.hid (by
          rw [HLS.out]
          unfold Sm.lwB
          rw [HEB.out, hq, Bool.false_and, if_neg (by decide)]
          exact HL.out)
        go_wp2_with (first
          | (go_at_call 8; (with_reducible refine (HKO.out _ HFa.out).mono ?_); rintro _ wb ⟨rfl, Fb⟩; have HFb := Lib.hid (HR.out.trans (HFa.out.trans Fb)); have HIb := Lib.hid ((HI.out.fut HFa.out).fut Fb); clear Fb))
        go_roundw
        case rel => exact ⟨k + 1, fa, fc, xs, fo, by omega, by go_num, rfl, rfl, hxl, HL2, HIb, HFb⟩
        case measure => simp [intOf]; omega
      · cases hs : smB L xs fo
        · have HL2 : Hid (Sm.lwF ss (k + 1) = if fo then some xs else none) := Lib.hid (by
            rw [HLS.out, HL.out]
            unfold Sm.lwB
            rw [HEB.out, hq, Bool.true_and, HLL.out]
            unfold smB at hs
            cases fo
            · simp at hs
            · simp only [Bool.not_true, Bool.false_or] at hs
              simp [hs])
          go_wp2_with (first
            | (go_at_call 8; (with_reducible refine (HKO.out _ HFa.out).mono ?_); rintro _ wb ⟨rfl, Fb⟩; have HFb := Lib.hid (HR.out.trans (HFa.out.trans Fb)); have HIb := Lib.hid ((HI.out.fut HFa.out).fut Fb); have HIc := Lib.hid (HIa.out.fut Fb); clear Fb)
            | (go_at_call 11; (with_reducible refine (smaller_any _ _ _ _ _ _ _ _ (by omega) (by omega) HIc.out HIb.out).mono ?_); rintro _ _ ⟨rfl, rfl⟩))
          go_roundw
          case rel => exact ⟨k + 1, fa, fc, xs, fo, by omega, by go_num, rfl, rfl, hxl, HL2, HIb, HFb⟩
          case measure => simp [intOf]; omega
        · have HL2 : Hid (Sm.lwF ss (k + 1) = if true then some L else none) := Lib.hid (by
            rw [HLS.out, HL.out]
            unfold Sm.lwB
            rw [HEB.out, hq, Bool.true_and, HLL.out]
            unfold smB at hs
            cases fo
            · simp
            · simp only [Bool.not_true, Bool.false_or] at hs
              simp [hs])
          go_wp2_with (first
            | (go_at_call 8; (with_reducible refine (HKO.out _ HFa.out).mono ?_); rintro _ wb ⟨rfl, Fb⟩; have HFb := Lib.hid (HR.out.trans (HFa.out.trans Fb)); have HIb := Lib.hid ((HI.out.fut HFa.out).fut Fb); have HIc := Lib.hid (HIa.out.fut Fb); clear Fb)
            | (go_at_call 11; (with_reducible refine (smaller_any _ _ _ _ _ _ _ _ (by omega) (by omega) HIc.out HIb.out).mono ?_); rintro _ _ ⟨rfl, rfl⟩))
          go_roundw
          case rel => exact ⟨k + 1, va, vc, L, true, by omega, by go_num, rfl, rfl, hll, HL2, HIc, HFb⟩
          case measure => simp [intOf]; omega
    · obtain rfl : k = m + 1 := by omega
      have hfull := Sm.lwF_all (ss := ss) (by omega)
      rw [HMM.out, HL.out] at hfull
      have hfo : fo = true := by
        cases fo
        · simp at hfull
        · rfl
      subst hfo
      have hxs : xs = fewM ss := by simpa using hfull
      have HXS := Lib.hid hxs
      have HIX := Lib.hid HI.out
      have HW0 := Lib.hid (HF4.out.trans HR.out)
      have hR1 : fewR n ss = xs := by unfold fewR; rw [if_pos HCHK.out, hxs]
      have HEV : Hid (evenR n ss = evenB n ss) := Lib.hid (by unfold evenR; rw [decide_eq_true HCHK.out, Bool.true_and])
      have hlen := Nm.cuts_len HCHK.out
      have hge : (cutsR n ss).length ≤ xs.length := by
        rw [hlen, hxs]; exact Sm.sey_ge hn6 (by omega) HMEM.out hn1
      have heq : evenB n ss = true → (cutsR n ss).length = xs.length := fun he => by
        have h1 := Sm.sey_le hn6 (by omega) HMEM.out hn1 he
        rw [← hlen, ← hxs] at h1
        omega
      have HPK : Hid (Sm.pkT n ss o 0 = (cutsR n ss).length) := Lib.hid (by rw [hlen, HO.out]; exact Sm.pk_zero hn6 (by omega) hn1 HMEM.out)
      have hCR : cutsR n ss = (packS (cutsM n ss)).map listM := by
        unfold cutsR; rw [if_pos HCHK.out, Int.toNat_natCast]; exact Nm.pack_cuts (by omega)
      obtain ⟨hm1, hm2⟩ := packF_mem (cutsM n ss).length (cutsM n ss)
      have HCM := Lib.hid (fun c hc => (Nm.cuts_mem hn6 (by omega) hn1 HMEM.out).1 (hm1 c hc))
      have HCD := Lib.hid hm2
      have HCA := Lib.hid (Sm.pack_asc (n := n) (ss := ss) (by omega))
      have HC8 := Lib.hid (fun W (F : Fut w1 W) => fewest_any n l lc ss W (HS.out.fut F))
      have HC9 := Lib.hid (fun W (F : Fut w1 W) => cutsf_any n l lc ss W (HS.out.fut F))
      have HC10 := Lib.hid (fun W (F : Fut w1 W) => even_any n l lc ss W (HS.out.fut F))
      have HC16 := Lib.hid (fun W (F : Fut w1 W) => evenlaw_any n l lc ss W (HS.out.fut F) (by omega) hn6 HMEM.out)
      have HC17 := Lib.hid (fun W (F : Fut w1 W) => packed_any n l lc ss W (HS.out.fut F) (by omega) hn6 hn1 HMEM.out HSM.out)
      rw [Sm.even_law hn6 hn1 HMEM.out] at HC16
      rw [← HO.out, HPK.out] at HC17
      rw [HCHK.out, hR1] at HC8
      rw [HCHK.out] at HC9
      rw [HCHK.out, HEV.out] at HC10
      obtain ⟨C, hC⟩ : ∃ C, C = packS (cutsM n ss) := ⟨_, rfl⟩
      have HCM : Hid (∀ c ∈ C, ∃ s, s < 2 ^ n ∧ par (s &&& o) = true ∧ c = cutM ss s) := Lib.hid (by rw [hC, HO.out]; exact HCM.out)
      have HCD : Hid (C.Pairwise fun a b => a &&& b = 0) := Lib.hid (by rw [hC]; exact HCD.out)
      have HCA : Hid (C.Pairwise fun a b => cmpL (listM a) (listM b) < 0) := Lib.hid (by rw [hC]; exact HCA.out)
      rw [← hC] at hCR
      have hCl : (cutsR n ss).length = C.length := by rw [hCR, List.length_map]
      have HCR := Lib.hid hCR
      have HCL := Lib.hid hCl
      clear hCR hlen hC hm1 hm2 hR1 hxs hfull HL HI hCl
      generalize cutsR n ss = CR at *
      have HEQ := Lib.hid heq
      clear heq
      generalize evenB n ss = E at *
      have hcrx : (CR.length : Int) ≤ xs.length := by omega
      have hcr16 : (CR.length : Int) ≤ 16 := by omega
      have hgt : ¬ ((xs.length : Int) < CR.length) := by omega
      obtain ⟨hb, b0, b1⟩ := HB4.out.fut HR.out
      go_upto_region 12 with fail
      go_upto_region 15 with (first
        | (go_at_call 12; (with_reducible refine (HC8.out _ HW0.out).mono ?_); rintro _ w5 ⟨al, ac, rfl, hIA, F⟩; have HIA := Lib.hid hIA; have HW5 := Lib.hid (HW0.out.trans F); have HX5 := Lib.hid (HIX.out.fut F); have HB5 := Lib.hid ((HB4.out.fut HR.out).fut F); clear hb b0 b1 hIA F; obtain ⟨hb, b0, b1⟩ := HB5.out)
        | (go_at_call 13; (with_reducible refine (HC9.out _ HW5.out).mono ?_); rintro _ w6 ⟨bl, bc, rfl, hLB, F⟩; have HLB := Lib.hid hLB; have HW6 := Lib.hid (HW5.out.trans F); have HX6 := Lib.hid (HX5.out.fut F); have HA6 := Lib.hid (HIA.out.fut F); have HB6 := Lib.hid (HB5.out.fut F); clear hb b0 b1 hLB F; obtain ⟨hb, b0, b1⟩ := HB6.out)
        | (go_at_call 14; (with_reducible refine (HC10.out _ HW6.out).mono ?_); rintro _ w7 ⟨rfl, F⟩; have HL7 := Lib.hid (HLB.out.fut F); have HW7 := Lib.hid (HW6.out.trans F); have HX7 := Lib.hid (HX6.out.fut F); have HA7 := Lib.hid (HA6.out.fut F); have HB7 := Lib.hid (HB6.out.fut F); clear hb b0 b1 F; obtain ⟨hb, b0, b1⟩ := HB7.out))
      have hsb : sameB xs xs = true := by simp [sameB]
      go_cut [111] from 66 to 111 (fun s111 wx => s111 = .bool false ∧ Hid (Fut w7 wx))
      case first =>
        cases E
        · go_wp2_with (first
            | (go_at_call 15; (with_reducible refine (same_any _ _ _ _ _ _ _ (by omega) (by omega) HA7.out HX7.out).mono ?_); rintro _ _ ⟨rfl, q15, rfl⟩; have HFd : Hid (Fut w7 (w7.drewN q15)) := Lib.hid (Fut.drewN _ _); have HBd := Lib.hid (HB7.out.fut HFd.out); generalize w7.drewN q15 = wd at *; clear hb b0 b1; obtain ⟨hb, b0, b1⟩ := HBd.out)
            | (go_at_call 16; (with_reducible refine (HC16.out _ (HW7.out.trans HFd.out)).mono ?_); rintro _ we ⟨rfl, F⟩; have HFe := Lib.hid (HFd.out.trans F); have HBe := Lib.hid (HBd.out.fut F); clear hb b0 b1 F; obtain ⟨hb, b0, b1⟩ := HBe.out)
            | (go_at_call 17; (with_reducible refine (HC17.out _ (HW7.out.trans HFe.out)).mono ?_); rintro _ wf ⟨rfl, F⟩; have HFf := Lib.hid (HFe.out.trans F); clear hb b0 b1 F))
          go_meet
          exact ⟨by simp; omega, HFf⟩
        · have hne : ((CR.length : Int) != (xs.length : Int)) = false := by rw [HEQ.out rfl]; simp
          go_wp2_with (first
            | (go_at_call 15; (with_reducible refine (same_any _ _ _ _ _ _ _ (by omega) (by omega) HA7.out HX7.out).mono ?_); rintro _ _ ⟨rfl, q15, rfl⟩; have HFd : Hid (Fut w7 (w7.drewN q15)) := Lib.hid (Fut.drewN _ _); have HBd := Lib.hid (HB7.out.fut HFd.out); generalize w7.drewN q15 = wd at *; clear hb b0 b1; obtain ⟨hb, b0, b1⟩ := HBd.out)
            | (go_at_call 16; (with_reducible refine (HC16.out _ (HW7.out.trans HFd.out)).mono ?_); rintro _ we ⟨rfl, F⟩; have HFe := Lib.hid (HFd.out.trans F); have HBe := Lib.hid (HBd.out.fut F); clear hb b0 b1 F; obtain ⟨hb, b0, b1⟩ := HBe.out)
            | (go_at_call 17; (with_reducible refine (HC17.out _ (HW7.out.trans HFe.out)).mono ?_); rintro _ wf ⟨rfl, F⟩; have HFf := Lib.hid (HFe.out.trans F); clear hb b0 b1 F))
          go_meet
          exact ⟨by simp; omega, HFf⟩
      case rest =>
        obtain ⟨rfl, HWC⟩ := hcut
        obtain ⟨wz, hwz⟩ : ∃ wz, wz = wc := ⟨_, rfl⟩
        subst hwz
        have HLT := Lib.hid (HL7.out.fut HWC.out)
        have HBZ := Lib.hid (HB7.out.fut HWC.out)
        have HWZ := Lib.hid (HW7.out.trans HWC.out)
        clear hb b0 b1 hsb hgt HC8 HC9 HC10 HC16 HC17 HX7 HA7 HX6 HA6 HX5 HIA HLB HL7 HB5 HB6 HB7 HW5 HW6 HW7 HWC HIX HOS HAL HW0
        obtain ⟨B0, hB0⟩ : ∃ B0, B0 = wz.heap.size := ⟨_, rfl⟩
        have HB0 := Lib.hid hB0
        have HOL0 : Hid (OwnL wz B0 (.slice none 0 0) []) := Lib.hid (OwnL.nil _ _)
        clear hB0
        go_upto_region 19 with fail
        go_wp2_with fail
        go_loopw [15, 16, 17, 18, 19, 21, 22, 23, 114] (fun v15 v16 _ _ _ _ _ _ iv wx => ∃ (k u : Nat) (ats : List Nat), k ≤ CR.length ∧ iv = .int .i64 k ∧ v15 = sv u ∧ u < 65536 ∧ Hid (Sm.SeyI n ss o C k ats u) ∧ Hid (OwnL wx B0 v16 (ats.map listM)) ∧ Hid (Fut wz wx)) (fun _ _ _ _ _ _ _ _ iv _ => CR.length - (intOf iv).toNat)
        case atStart => exact ⟨0, 0, [], Nat.zero_le _, rfl, rfl, by decide, Lib.hid Sm.SeyI.start, HOL0, Lib.hid Fut.rfl⟩
        case round =>
          obtain ⟨k, u, ats, hk2, rfl, rfl, hu, HSI, HOL, HR2⟩ := hrel
          by_cases hlt2 : k < CR.length
          · have hkx : (k : Int) < CR.length := by omega
            have hkC : k < C.length := by rw [← HCL.out]; exact hlt2
            obtain ⟨c, hc⟩ : ∃ c, C[k]? = some c := ⟨C[k], List.getElem?_eq_getElem hkC⟩
            have hcm : c ∈ C := List.mem_of_getElem? hc
            obtain ⟨s0, hs0, hp0, hcs⟩ := HCM.out c hcm
            have hlth : lth CR k = listM c := by rw [lth_eq, HCR.out, List.getElem?_map, hc]; rfl
            obtain ⟨bb, off, l1, lc1, ea, hbb, d1, hI1⟩ := (HLT.out.fut HR2.out) k hlt2
            subst ea
            rw [hlth] at d1 hI1
            have hcl : c < m + 1 := by rw [hcs, ← HMM.out]; exact Nm.cut_lt s0
            have hLl := list_le c
            have HNT := Lib.hid (nth_list c)
            have HC := Lib.hid hc
            have HCS := Lib.hid hcs
            have HP0 := Lib.hid hp0
            have HLTH := Lib.hid hlth
            have HSM0 : Hid (setM (listM c) = c) := Lib.hid (Sm.setM_list8 ⟨c, by omega⟩)
            have HPOP := Lib.hid (Nm.pop_list c)
            clear hc hcm hcs hp0 hkC
            generalize hLL : listM c = L at *
            have HLL := Lib.hid hLL
            have HI1 := Lib.hid hI1
            have hLx : (L.length : Int) ≤ 16 := by omega
            clear hI1 hLL hlth
            go_upto_region 22 with fail
            go_cut [130] from 119 to 130 (fun s130 wx => s130 = .bool false ∧ wx = wr)
            case first =>
              by_cases k0 : k = 0
              · subst k0
                go_wp2_with fail
                go_meet
                exact ⟨rfl, rfl⟩
              · obtain ⟨k', rfl⟩ : ∃ k', k = k' + 1 := ⟨k - 1, by omega⟩
                obtain ⟨b', off', l2, lc2, ea, _, d2, hI2⟩ := (HLT.out.fut HR2.out) k' (by omega)
                simp only [Option.some.injEq, Addr.mk.injEq, and_true] at ea
                obtain ⟨rfl, rfl⟩ := ea
                have hk'x : (k' : Int) < CR.length := by omega
                have hkC' : k' < C.length := by rw [← HCL.out]; omega
                have hlth2 : lth CR k' = listM C[k'] := by rw [lth_eq, HCR.out, List.getElem?_map, List.getElem?_eq_getElem hkC']; rfl
                obtain ⟨hkC, hce⟩ := List.getElem?_eq_some_iff.1 HC.out
                have hcmp := List.pairwise_iff_getElem.1 HCA.out k' (k' + 1) hkC' hkC (by omega)
                rw [hce, HLL.out, ← hlth2] at hcmp
                have hL2 : (lth CR k').length ≤ 16 := by rw [hlth2]; exact list_le _
                clear hlth2 hce
                generalize lth CR k' = L2 at *
                have HCP := Lib.hid (compareL_any l2 l1 lc2 lc1 L2 L wr (by omega) (by omega) hI2 HI1.out)
                generalize cmpL L2 L = q at *
                have hq0 : ¬ (0 : Int) ≤ q := by omega
                clear k0 hI2
                go_wp2_with (go_at_call 18; (with_reducible refine HCP.out.mono ?_); rintro _ _ ⟨rfl, rfl⟩)
                go_meet
                exact ⟨by simp; omega, rfl⟩
            case rest =>
              obtain ⟨rfl, rfl⟩ := hcut
              go_upto_region 25 with fail
              go_wp2_with fail
              go_loopw [19, 21, 133] (fun v19 _ iv wx => ∃ (i o' : Nat), i ≤ L.length ∧ iv = .int .i64 i ∧ v19 = sv o' ∧ o' < 65536 ∧ Hid (setL (L.drop i) o' = c) ∧ Hid (Fut wc wx)) (fun _ _ iv _ => L.length - (intOf iv).toNat)
              case atStart => exact ⟨0, 0, Nat.zero_le _, rfl, rfl, by decide, HSM0, Lib.hid Fut.rfl⟩
              case round =>
                obtain ⟨i, o', hi, rfl, rfl, ho', HST, HR3⟩ := hrel
                by_cases hli : i < L.length
                · have hix : (i : Int) < L.length := by omega
                  obtain ⟨z, hz, hz16, hbit, _⟩ := HNT.out i hli
                  have hzl : z < ss.length := by
                    rcases Nat.lt_or_ge z ss.length with h | h
                    · exact h
                    · rw [Nat.testBit_lt_two_pow (Nat.lt_of_lt_of_le (show c < 2 ^ ss.length by rw [HMM.out]; exact hcl) (Nat.pow_le_pow_right (by decide) h))] at hbit; cases hbit
                  obtain ⟨b3, off3, ea, h3, d3⟩ := (HI1.out.fut HR3.out) i hli
                  subst ea
                  rw [hz] at d3
                  have hd := nth_drop L i hli
                  rw [hd, hz] at HST
                  obtain ⟨K, hK⟩ : ∃ K, K = 2 ^ z := ⟨_, rfl⟩
                  have hwz : IntKind.u64.wrap ((2 : Int) ^ z) = (K : Int) := by rw [hK]; exact wrap_two z (by omega)
                  have hKl : K < 65536 := by rw [hK]; exact pow_lt z (by omega)
                  have huo : bits BinOp.or IntKind.u64 (o' : Int) (K : Int) = ((o' ||| K : Nat) : Int) := u64_or_nat _ _ (by omega) (by omega)
                  have hor := or_lt ho' hKl
                  have HST2 : Hid (setL (L.drop (i + 1)) (o' ||| K) = c) := Lib.hid (by rw [hK]; exact HST.out)
                  have hzx : (z : Int) < ss.length := by omega
                  have hz0 : ¬ (z : Int) < 0 := by omega
                  have hzg : ¬ (ss.length : Int) ≤ (z : Int) := by omega
                  obtain ⟨hb, b0, b1⟩ := HBZ.out.fut (HR2.out.trans HR3.out)
                  clear hK hd hbit hz HST
                  go_wp2
                  go_roundw
                  case rel => exact ⟨i + 1, o' ||| K, by omega, by go_num, rfl, hor, HST2, HR3⟩
                  case measure => simp [intOf]; omega
                · obtain rfl : i = L.length := by omega
                  rw [List.drop_length] at HST
                  have hoc : o' = c := HST.out
                  subst hoc
                  have hzl : L.length ≤ L.length := Nat.le_refl _
                  clear hi hli
                  obtain ⟨Q, hQ⟩ : ∃ Q : Nat → Prop, ∀ s, Q s ↔ (cutM ss s = o' ∧ par (s &&& o) = true) := ⟨fun s => cutM ss s = o' ∧ par (s &&& o) = true, fun s => Iff.rfl⟩
                  have HQ := Lib.hid hQ
                  have HA0 := Lib.hid (Sm.AtI.start Q)
                  clear hQ
                  go_upto_region 33 with fail
                  go_wp2_with fail
                  go_loopw [22, 23] (fun v22 v23 wx => ∃ (s : Nat) (av : Int), 1 ≤ s ∧ s ≤ M ∧ v23 = .int .u64 s ∧ v22 = .int .i64 av ∧ Hid (Sm.AtI Q s av) ∧ Hid (Fut wc wx)) (fun _ v23 _ => M - (intOf v23).toNat)
                  case atStart => exact ⟨1, -1, Nat.le_refl _, by omega, rfl, rfl, HA0, HR3⟩
                  case round =>
                    obtain ⟨s, av, hs1, hsM, rfl, rfl, HAT, HR4⟩ := hrel
                    obtain ⟨hb, b0, b1⟩ := HBZ.out.fut (HR2.out.trans HR4.out)
                    have hwk := HWK.out
                    by_cases hlt3 : s < M
                    · have hsx : (s : Int) < M := by omega
                      have HWR := Lib.hid (HWZ.out.trans (HR2.out.trans HR4.out))
                      have HCT := Lib.hid (cutlaw_any n l lc ss s _ (HS.out.fut HWR.out) (by omega) hn6 HMEM.out (show s < 64 by omega))
                      have hKl : cutM ss s < m + 1 := by rw [← HMM.out]; exact Nm.cut_lt s
                      have HQS := Lib.hid (HQ.out s)
                      generalize cutM ss s = K at *
                      have hKx : (K : Int) ≤ 255 := by omega
                      by_cases hKo : K = o'
                      · subst hKo
                        have HON := Lib.hid (fun W => ones_any (s &&& o) W (Nat.lt_of_le_of_lt Nat.and_le_left (show s < 64 by omega)))
                        have hpp : popI (s &&& o) = ((Nm.pop (s &&& o) : Nat) : Int) := rfl
                        have hpq := Nm.par_pop (s &&& o)
                        have hpl : Nm.pop (s &&& o) ≤ 16 := by rw [← Nm.pop_list]; exact list_le _
                        rw [hpp] at HON
                        rw [hpq] at HQS
                        have hso : bits BinOp.and IntKind.u64 (s : Int) (o : Int) = ((s &&& o : Nat) : Int) := u64_and_nat _ _ (by omega) (by omega)
                        generalize Nm.pop (s &&& o) = pp at *
                        generalize s &&& o = so at *
                        have hppx : (pp : Int) ≤ 16 := by omega
                        clear hpp hpq
                        by_cases h2 : pp % 2 = 1
                        · have h2x : ((pp : Int) % 2 == 1) = true := by rw [beq_iff_eq]; omega
                          have HAT2 := Lib.hid (HAT.out.take hs1 (HQS.out.2 ⟨rfl, decide_eq_true h2⟩))
                          clear h2
                          go_wp2_with (first
                            | (go_at_call 19; (with_reducible refine HCT.out.mono ?_); rintro _ wa ⟨rfl, F⟩; have HFa := Lib.hid (HR4.out.trans F); clear hb b0 b1 F)
                            | (go_at_call 20; (with_reducible refine (HON.out _).mono ?_); rintro _ _ ⟨rfl, rfl⟩))
                          go_roundw
                          case rel => exact ⟨s + 1, s, by omega, by omega, by go_num, rfl, HAT2, HFa⟩
                          case measure => simp [intOf]; omega
                        · have h2x : ((pp : Int) % 2 == 1) = false := by rw [beq_eq_false_iff_ne]; omega
                          have HAT2 := Lib.hid (HAT.out.skip (fun h => h2 (of_decide_eq_true (HQS.out.1 h).2)))
                          clear h2
                          go_wp2_with (first
                            | (go_at_call 19; (with_reducible refine HCT.out.mono ?_); rintro _ wa ⟨rfl, F⟩; have HFa := Lib.hid (HR4.out.trans F); clear hb b0 b1 F)
                            | (go_at_call 20; (with_reducible refine (HON.out _).mono ?_); rintro _ _ ⟨rfl, rfl⟩))
                          go_roundw
                          case rel => exact ⟨s + 1, av, by omega, by omega, by go_num, rfl, HAT2, HFa⟩
                          case measure => simp [intOf]; omega
                      · have hKox : ((K : Int) == (o' : Int)) = false := by rw [beq_eq_false_iff_ne]; omega
                        have HAT2 := Lib.hid (HAT.out.skip (fun h => hKo (HQS.out.1 h).1))
                        clear hKo
                        go_wp2_with (first
                          | (go_at_call 19; (with_reducible refine HCT.out.mono ?_); rintro _ wa ⟨rfl, F⟩; have HFa := Lib.hid (HR4.out.trans F); clear hb b0 b1 F))
                        go_roundw
                        case rel => exact ⟨s + 1, av, by omega, by omega, by go_num, rfl, HAT2, HFa⟩
                        case measure => simp [intOf]; omega
                    · obtain rfl : s = M := by omega
                      have hs00 : s0 ≠ 0 := fun e => by
                        have h := HP0.out
                        rw [e, Nat.zero_and, par_zero] at h; cases h
                      have hs0f : s0 ≠ s := fun e => by
                        have h := Nm.par_flip hn6 HMEM.out s0
                        have h1 : 2 ^ n - 1 = s := by have := HM.out; omega
                        rw [h1, e, Nat.xor_self, Nat.zero_and, par_zero, ← HO.out, ← e, HP0.out] at h
                        cases h
                      obtain ⟨s1, rfl, h11, h12, hQ1⟩ := HAT.out.done ⟨s0, by omega, by have := HM.out; omega, (HQ.out s0).2 ⟨HCS.out.symm, HP0.out⟩⟩
                      obtain ⟨hcut1, hpar1⟩ := (HQ.out s1).1 hQ1
                      have HSI2 : Hid (Sm.SeyI n ss o C (k + 1) (ats ++ [s1]) (u ||| o')) := Lib.hid (HSI.out.step HCD.out HC.out hcut1 ⟨by omega, by have := HM.out; omega, by have := HM.out; omega, hpar1⟩)
                      have huc := HSI.out.now HC.out
                      have hand : bits BinOp.and IntKind.u64 (u : Int) (o' : Int) = 0 := by
                        rw [u64_and_nat _ _ (by omega) (by omega), huc]; rfl
                      have huo : bits BinOp.or IntKind.u64 (u : Int) (o' : Int) = ((u ||| o' : Nat) : Int) := u64_or_nat _ _ (by omega) (by omega)
                      have hul : u ||| o' < 65536 := or_lt hu (by omega)
                      have HON := Lib.hid (fun W => ones_big o' W (by omega))
                      have hpop : popI o' = (L.length : Int) := by rw [HPOP.out]; rfl
                      rw [hpop] at HON
                      have hkn : ¬ (s : Int) < s := by omega
                      have hs1n : ¬ (s1 : Int) < 0 := by omega
                      have hs1x : (s1 : Int) ≤ 63 := by omega
                      have HWR := Lib.hid (HWZ.out.trans (HR2.out.trans HR4.out))
                      clear hcut1 hpar1 hQ1 huc hpop HAT HQ HA0 hs00 hs0f
                      go_upto_region 40 with (first
                        | (go_at_call 20; (with_reducible refine (HON.out _).mono ?_); rintro _ _ ⟨rfl, rfl⟩))
                      have HMS := Lib.hid (members_any s1 _ (by omega) (HT1.out.fut HWR.out))
                      have hF4 := HR2.out.trans HR4.out
                      have hB0w := RowKit.Below.size hF4
                      rw [← HB0.out] at hB0w
                      have HF4z := Lib.hid hF4
                      have HOL4 := Lib.hid (HOL.out.fut HR4.out)
                      have hal : (ats.map listM).length ≤ 16 := by rw [List.length_map, HSI.out.len (by rw [← HCL.out]; exact hk2)]; omega
                      have HTK : Hid ((ats ++ [s1]).map listM = ats.map listM ++ [listM s1]) := Lib.hid (by rw [List.map_append]; rfl)
                      have hms := list_le s1
                      generalize ats.map listM = zss at *
                      generalize listM s1 = L7 at *
                      clear hF4 HOL
                      obtain ⟨i0, hi0, hz0, hz1, hz2⟩ := info_parts info34
                      go_upto_region 41 with fail
                      go_wp2_with fail
                      refine (HMS.out).mono ?_
                      rintro _ w7 ⟨lv, rfl, hlo, F⟩
                      have HL7 := Lib.hid (hlo.base hB0w)
                      have HO7 := Lib.hid (HOL4.out.fut F)
                      have HF7 := Lib.hid (HF4z.out.trans F)
                      have hsz7 : B0 ≤ w7.heap.size := Nat.le_trans hB0w (RowKit.Below.size F)
                      obtain ⟨la, lca, hlv, _⟩ := HL7.out.ints
                      subst hlv
                      obtain ⟨vals, hv1, hv2⟩ := HO7.out
                      have HV1 := Lib.hid hv1
                      have HV2 := Lib.hid hv2
                      clear hlo F hv1 hv2 hb b0 b1
                      go_wp2_with (at_builtin; refine wpList_app _ rfl _ _ 40 rfl B0 34 i0 (.slice none 0 0) 1 24 Tryd.underlying40 hi0 hz0 hz1 hz2 rfl (by decide) _ _ _ rfl (HV1.out.alloc _) ⟨w7.heap.size, 0, none⟩ 1 1 [.slice la L7.length lca] rfl (by decide) rfl ?c1 ?c2 ?c3 ?c4 ?c5 ?_)
                      case c1 => exact World.news_of_block (cs := #[.slice la L7.length lca]) (t := 34) (fr := (0, 0)) (heap_alloc_new _ _)
                      case c2 => intro u hu; simp at hu; subst hu; rfl
                      case c3 => exact maxL (by omega)
                      case c4 => omega
                      case c5 => simp; omega
                      · intro v' w8 hown' hgrow _
                        have HO8 : Hid (OwnL w8 B0 v' (zss ++ [L7])) := Lib.hid ⟨vals ++ [.slice la L7.length lca], by simpa using hown', Elems.app (w := w7.alloc (.cells #[.slice la L7.length lca] 34)) ⟨HV2.out.1, fun j hj => by obtain ⟨v, e1, e2⟩ := HV2.out.2 j hj; exact ⟨v, e1, e2.fut (Fut.alloc _ _)⟩⟩ (HL7.out.fut (Fut.alloc _ _)) (HV1.out.alloc _) hgrow⟩
                        have hBel : RowKit.Below B0 w7 w8 := (RowKit.Below.alloc (RowKit.Below.refl _ _) hsz7 _).grown hgrow (by simp; omega) (fun i hi => (HV1.out.lt i hi).1)
                        have HF8 : Hid (Fut wz w8) := Lib.hid (HF7.out.trans' hBel (by have := HB0.out; omega))
                        rw [← HTK.out] at HO8
                        clear hown' hgrow hBel HV1 HV2 HO7 HL7 HMS
                        go_wp2
                        go_roundw
                        case rel => exact ⟨k + 1, u ||| o', ats ++ [s1], by omega, by go_num, rfl, hul, HSI2, HO8, HF8⟩
                        case measure => simp [intOf]; omega
          · obtain rfl : k = CR.length := by omega
            have hdone : provE n ss (ats.map listM) = 0 := by
              have h := HSI.out
              rw [HCL.out] at h
              exact h.done hn6 HCD.out HCHK.out HO.out
            obtain ⟨la, lca, hlv, hLA⟩ := HOL.out.lists
            subst hlv
            have HWR := Lib.hid (HWZ.out.trans HR2.out)
            have hal : (ats.map listM).length ≤ 1000 := by rw [List.length_map, HSI.out.len (by rw [← HCL.out]; exact hk2)]; omega
            have hle : ∀ j, (lth (ats.map listM) j).length ≤ 1000 := fun j => by
              rw [lth_eq, List.getElem?_map]
              cases ats[j]? with
              | none => simp
              | some x => have := list_le x; simpa using (by omega : (listM x).length ≤ 1000)
            have HPR := Lib.hid (proves_any n l lc ss la lca (ats.map listM) _ (HS.out.fut HWR.out) hLA hal hle)
            rw [hdone] at HPR
            generalize ats.map listM = zss at *
            obtain ⟨hb, b0, b1⟩ := HBZ.out.fut HR2.out
            have hkn : ¬ ((CR.length : Nat) : Int) < (CR.length : Int) := by omega
            clear hdone hLA hle HSI HOL hlt2
            go_wp2_with (first
              | (go_at_call 21; (with_reducible refine HPR.out.mono ?_); rintro _ wa ⟨rfl, F⟩; have HFa := Lib.hid ((HF1.out.trans HWR.out).trans F); clear hb b0 b1 F)
              | (go_at_call 22; (with_reducible refine (works_any _).mono ?_); rintro _ wb ⟨rfl, F⟩; have HFb := Lib.hid (HFa.out.trans F); clear F))
            go_ret
            exact ⟨rfl, HFb.out⟩
end Go.Proofs.YtimddkofcejijaaDoor
