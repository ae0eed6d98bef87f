/- Layer 2: RoundSides walks. -/
import Derived.Test.YtimddkofcejijaaDoorDA
import Derived.Test.YtimddkofcejijaaDoorDB
import Derived.Test.YtimddkofcejijaaDoorSI
import Derived.Test.YtimddkofcejijaaDoorSB
import Derived.Deep.AppendLies
import Derived.Deep.CutBlock
namespace Go.Proofs.YtimddkofcejijaaDoor
open Go.RowKit Go.Sort
namespace Sd
theorem cutL_lt2 (side : Nat) : ∀ (l : List (Int × Int)) (i o : Nat), o < 2 ^ i → cutL side i l o < 2 ^ (i + l.length)
  | [], _, _, h => h
  | p :: l, i, o, h => by
    unfold cutL
    have h2 : 2 ^ i < 2 ^ (i + 1) := Nat.pow_lt_pow_right (by decide) (by omega)
    have := cutL_lt2 side l (i + 1) (if par (endsM p &&& side) then o ||| 2 ^ i else o) (by
      split
      · exact Nat.or_lt_two_pow (by omega) h2
      · omega)
    rw [List.length_cons, show i + (l.length + 1) = i + 1 + l.length by omega]
    exact this
theorem cutM_lt2 (ss : List (Int × Int)) (side : Nat) : cutM ss side < 2 ^ ss.length := by
  have := cutL_lt2 side ss 0 0 (by decide)
  rwa [Nat.zero_add] at this
theorem slice3 (k : Nat) (hk : k ≤ 3) (B : Nat) (w : World) : (Instr.sliceAt 62 (.pointer (some ⟨B, 0, none⟩)) none (some (.int .i64 k)) none).run Tryd.prog w = .ok (.slice (some ⟨B, 0, none⟩) k 3) w := by
  have h0 : ∀ B w, (Instr.sliceAt 62 (.pointer (some ⟨B, 0, none⟩)) none (some (.int .i64 0)) none).run Tryd.prog w = .ok (.slice (some ⟨B, 0, none⟩) 0 3) w := fun _ _ => by kernel_rfl
  have h1 : ∀ B w, (Instr.sliceAt 62 (.pointer (some ⟨B, 0, none⟩)) none (some (.int .i64 1)) none).run Tryd.prog w = .ok (.slice (some ⟨B, 0, none⟩) 1 3) w := fun _ _ => by kernel_rfl
  have h2 : ∀ B w, (Instr.sliceAt 62 (.pointer (some ⟨B, 0, none⟩)) none (some (.int .i64 2)) none).run Tryd.prog w = .ok (.slice (some ⟨B, 0, none⟩) 2 3) w := fun _ _ => by kernel_rfl
  have h3 : ∀ B w, (Instr.sliceAt 62 (.pointer (some ⟨B, 0, none⟩)) none (some (.int .i64 3)) none).run Tryd.prog w = .ok (.slice (some ⟨B, 0, none⟩) 3 3) w := fun _ _ => by kernel_rfl
  match k, hk with
  | 0, _ => exact h0 B w
  | 1, _ => exact h1 B w
  | 2, _ => exact h2 B w
  | 3, _ => exact h3 B w
set_option maxRecDepth 100000 in
set_option maxHeartbeats 20000000 in
/-- RoundSides walks. -/
theorem sides_any (t b : Nat → Int) (mn : Int) (w : World) (ht : tOk t) (hbb : ∀ j, 0 ≤ b j ∧ b j ≤ 255) (hmn : 0 ≤ mn ∧ mn ≤ 255) (hT : TabAt w) : Calls Tryd.prog 6 #[tV t, .agg #[.int .u8 (b 0), .int .u8 (b 1), .int .u8 (b 2)], .int .u8 mn] w fun e w' => e = .returned (.bool true) ∧ Fut w w' := by
  obtain ⟨mn, rfl⟩ := Int.eq_ofNat_of_zero_le hmn.1
  obtain ⟨i1, hi1, hy0, hy1, hy2⟩ := info_parts info34
  have HT := Lib.hid hT
  clear hT
  go_enter Tryd.func6, Tryd.ntmps6
  go_upto_region 1 with fail
  have hF : Fut w ((w.alloc (.cells (tC t) 26)).alloc (.cells #[.int .u8 (b 0), .int .u8 (b 1), .int .u8 (b 2)] 62)) := (Fut.alloc _ _).trans (Fut.alloc _ _)
  have hB : ((w.alloc (.cells (tC t) 26)).alloc (.cells #[.int .u8 (b 0), .int .u8 (b 1), .int .u8 (b 2)] 62)).heap[w.heap.size]? = some (.cells (tC t) 26 (0, 0)) := ((Fut.alloc (w.alloc (.cells (tC t) 26)) _).block _ (by simp)).trans (heap_alloc_new _ _)
  have hY : ∀ c, c < 3 → ((w.alloc (.cells (tC t) 26)).alloc (.cells #[.int .u8 (b 0), .int .u8 (b 1), .int .u8 (b 2)] 62)).cell? ⟨w.heap.size + 1, c, none⟩ = some (.int .u8 (b c)) := fun c hc => by
    match c, hc with
    | 0, _ => simp [go_sem]
    | 1, _ => simp [go_sem]
    | 2, _ => simp [go_sem]
  have hYs : w.heap.size + 1 < ((w.alloc (.cells (tC t) 26)).alloc (.cells #[.int .u8 (b 0), .int .u8 (b 1), .int .u8 (b 2)] 62)).heap.size := by simp
  generalize (w.alloc (.cells (tC t) 26)).alloc (.cells #[.int .u8 (b 0), .int .u8 (b 1), .int .u8 (b 2)] 62) = W1 at *
  have HY : Hid (∀ W, Fut W1 W → ∀ c, c < 3 → W.cell? ⟨w.heap.size + 1, c, none⟩ = some (.int .u8 (b c))) := Lib.hid (fun W F c hc => (RowKit.Below.cell F (p := ⟨w.heap.size + 1, c, none⟩) hYs).trans (hY c hc))
  have HBB := Lib.hid hbb
  clear hY hYs hbb
  refine wp_region_lit ?_
  refine wpList_load_row rfl 26 (.tmp 3) rfl w.heap.size rfl 26 (tC t) (0, 0) _ hB Tryd.underlying26 rfl (by kernel_rfl) ?_
  go_wp2_with fail
  refine (made_any t 6 9 W1 ht (by decide) (by decide)).mono ?_
  rintro _ w1 ⟨n, ss, l, lc, rfl, hS, F, hn1, hn6, hM, h9⟩
  have HF1 := Lib.hid (hF.trans F)
  have HT1 := Lib.hid (HT.out.fut HF1.out)
  have HY1 : Hid (∀ W, Fut w1 W → ∀ c, c < 3 → W.cell? ⟨w.heap.size + 1, c, none⟩ = some (.int .u8 (b c))) := Lib.hid (fun W F2 c hc => HY.out W (F.trans F2) c hc)
  clear hF F hB ht HY HT
  clear W1
  go_upto_region 2 with fail
  generalize tC t = TC at *
  generalize w.heap.size + 1 = Y at *
  generalize (⟨w.heap.size, 0, none⟩ : Addr) = BA at *
  have hchk := made_chk hn1 (by omega) hM (by omega)
  have hmem := made_mem hn1 hM
  obtain ⟨_, _, _, hsm, _, _⟩ := chk_good hchk
  have HS := Lib.hid hS
  have HCHK := Lib.hid hchk
  have HMEM := Lib.hid hmem
  have HSM := Lib.hid hsm
  clear hchk hmem hS hM hsm
  have hB := BoxM.new w1 n l ss.length lc 29
  have hF : Fut w1 (w1.alloc (.cells #[.int .i64 n, .slice l ss.length lc] 29)) := Fut.alloc _ _
  generalize w1.alloc (.cells #[.int .i64 n, .slice l ss.length lc] 29) = w2 at *
  generalize w1.heap.size = B at *
  have HB := Lib.hid hB
  have HF := Lib.hid hF
  obtain ⟨hb, b0, b1⟩ := hB
  clear hF
  have hnx : (n : Int) ≤ 6 := by omega
  have hsx : (ss.length : Int) ≤ 9 := by omega
  have h64 : 2 ^ n ≤ 64 := Nat.le_trans (Nat.pow_le_pow_right (by decide) hn6) (by decide)
  have h2n : 2 ≤ 2 ^ n := by
    have := Nat.pow_le_pow_right (show 0 < 2 by decide) hn1
    simpa using this
  obtain ⟨N, hN⟩ : ∃ N, N = 2 ^ n := ⟨_, rfl⟩
  have hwk : IntKind.u64.wrap ((2 : Int) ^ n) = (N : Int) := by rw [hN]; exact wrap_two n (by omega)
  rw [← hN] at h64 h2n
  have HN := Lib.hid hN
  clear hN
  obtain ⟨M, hM⟩ : ∃ M, N = M + 1 := ⟨N - 1, by omega⟩
  subst hM
  have hM63 : (M : Int) ≤ 63 := by omega
  have hM1 : (1 : Int) ≤ M := by omega
  go_upto_region 3 with fail
  obtain ⟨m0, m1⟩ := HB.out.after Fut.rfl
  have HAL := Lib.hid (fun W => every_any n l ss.length lc W (by omega))
  have HOD := Lib.hid (fun W (F : Fut w1 W) => oddlaw_any n l lc ss (2 ^ ss.length - 1) W (HS.out.fut F) (by omega) HSM.out (fun p hp => by have := HMEM.out p hp; omega) (mask_lt (by omega)))
  obtain ⟨o, ho⟩ : ∃ o, o = oddM ss (2 ^ ss.length - 1) := ⟨_, rfl⟩
  have hol : o < 65536 := by rw [ho]; exact oddM_lt HSM.out _
  rw [← ho] at HOD
  have HO := Lib.hid ho
  clear ho
  generalize hpm : 2 ^ ss.length - 1 = pm at HAL HOD
  clear hpm
  refine region_fut (by kernel_rfl) (by kernel_rfl) ?_
  repeat (go_big_quiet_step (first
    | (go_at_call 9; exact after_of (HAL.out _))
    | (go_at_call 8; rename_i p; exact after_of (HOD.out _ (HF.out.trans p.F)))))
  refine wpQuiet_nil ?_
  intro w3 hw'
  have F3 : Fut w2 w3 := after_fut hw'
  clear hw' m0 m1 HAL HOD hb b0 b1
  have HF3 := Lib.hid (HF.out.trans F3)
  have HB3 := Lib.hid (HB.out.fut F3)
  clear F3
  obtain ⟨kk, hkk⟩ : ∃ kk, kk = mn % 4 := ⟨_, rfl⟩
  have hk3 : kk ≤ 3 := by omega
  have hmn255 : (mn : Int) ≤ 255 := by omega
  have hwm : (mn : Int) % 4 = (kk : Int) := by rw [hkk]; simp
  have hsl := fun W => Sd.slice3 kk hk3 Y W
  clear hkk
  obtain ⟨q, hq⟩ : ∃ q : Nat → Nat, ∀ c, b c = (q c : Int) ∧ q c ≤ 255 := ⟨fun c => (b c).toNat, fun c => by have := HBB.out c; dsimp only; omega⟩
  have HY2 : Hid (∀ W, Fut w1 W → ∀ c, c < 3 → W.cell? ⟨Y, c, none⟩ = some (.int .u8 (q c))) := Lib.hid (fun W F c hc => by rw [← (hq c).1]; exact HY1.out W F c hc)
  have HQ := Lib.hid (fun c => (hq c).2)
  clear hq HY1 HBB hmn
  obtain ⟨sds, hsd⟩ : ∃ sds, sds = (List.range kk).map fun i => q i &&& M := ⟨_, rfl⟩
  have hsl' : sds.length = kk := by rw [hsd]; simp
  have HSG : Hid (∀ k, k < kk → sds[k]? = some (q k &&& M)) := Lib.hid (fun k hk => by rw [hsd, List.getElem?_map, List.getElem?_range hk]; rfl)
  have HSL := Lib.hid hsl'
  have HSN : Hid (∀ s ∈ sds, s < 2 ^ n) := Lib.hid (fun s hs => by
    rw [hsd] at hs
    obtain ⟨i, _, rfl⟩ := List.mem_map.1 hs
    have := @Nat.and_le_right (q i) M
    have := HN.out
    omega)
  obtain ⟨R, hR⟩ : ∃ R, R = lwE n ss o sds 0 := ⟨_, rfl⟩
  have HI0 : Hid (SdI n ss o sds R 0 0 0) := Lib.hid (by rw [hR]; exact SdI.start)
  have HR := Lib.hid hR
  clear hsd hsl' hR
  obtain ⟨B0, hB0⟩ : ∃ B0, B0 = w3.heap.size := ⟨_, rfl⟩
  have HB0 := Lib.hid hB0
  clear hB0
  go_upto_region 8 with fail
  clear hsl hwm
  have hkx3 : (kk : Int) ≤ 3 := by omega
  go_loopw [10, 11, 12, 14, 15, 16, 17, 18, 36] (fun v10 v11 v12 _ _ _ _ _ iv wr => ∃ (k u : Nat) (want : Int), k ≤ kk ∧ iv = .int .i64 k ∧ v12 = sv u ∧ u < 65536 ∧ v11 = .int .i64 want ∧ Hid (SdI n ss o sds R k want u) ∧ Hid (OwnL wr B0 v10 ((sds.take k).map listM)) ∧ Hid (Fut w3 wr)) (fun _ _ _ _ _ _ _ _ iv _ => kk - (intOf iv).toNat)
  case atStart => exact ⟨0, 0, 0, Nat.zero_le _, rfl, rfl, by decide, rfl, HI0, Lib.hid (by rw [List.take_zero]; exact OwnL.nil _ _), Lib.hid Fut.rfl⟩
  case round =>
    clear HI0
    obtain ⟨k, u, want, hk, rfl, rfl, hu, rfl, HI, HOW, HRF⟩ := hrel
    by_cases hlt : k < kk
    · have hkx : (k : Int) < kk := by omega
      have hk9 : (k : Int) < 3 := by omega
      have hYc := HY2.out wr (HF3.out.trans HRF.out) k (by omega)
      have hqk := HQ.out k
      have hgk := HSG.out k hlt
      generalize q k = Q at *
      obtain ⟨s, hs⟩ : ∃ s, s = Q &&& M := ⟨_, rfl⟩
      have hsM : s ≤ M := by rw [hs]; exact Nat.and_le_right
      have hs64 : s < 64 := by omega
      have eqm : bits BinOp.and IntKind.u64 (Q : Int) (M : Int) = (s : Int) := by rw [hs]; exact u64_and_nat _ _ (by omega) (by omega)
      rw [← hs] at hgk
      clear hs
      have hqx : (Q : Int) ≤ 255 := by omega
      obtain ⟨hb, b0, b1⟩ := HB3.out.fut HRF.out
      have HG := Lib.hid hgk
      clear hgk
      go_upto_region 11 with fail
      have HMB : Hid (∀ W, Fut wr W → Calls Tryd.prog 10 #[sv s] W fun e w' => ∃ va vc, e = .returned (.slice va (listM s).length vc) ∧ IntsAt w' va (listM s) ∧ Fut wr w' ∧ w'.cell? ⟨B, 0, none⟩ = some (.int .i64 n) ∧ w'.cell? ⟨B, 1, none⟩ = some (.slice l ss.length lc)) := Lib.hid (fun W F => (members_any s W (by omega) (HT1.out.fut ((HF3.out.trans HRF.out).trans F))).mono fun e w' (h : ∃ v, e = .returned v ∧ Owns w' W.heap.size v (listM s) ∧ Fut W w') => by
        obtain ⟨v, h1, h2, h3⟩ := h
        obtain ⟨va, vc, rfl, hI⟩ := h2.ints
        have hF := F.trans h3
        obtain ⟨_, d0, d1⟩ := HB3.out.fut (HRF.out.trans hF)
        exact ⟨va, vc, h1, hI, hF, d0, d1⟩)
      have hsn2 : s < 2 ^ n := by have := HN.out; omega
      have hls := list_le s
      have hsh := sd_list (n := n) hn6 hsn2
      have HCW : Hid (∀ (d : Option Addr) (dap : Nat) W, Fut wr W → IntsAt W d (listM s) → Calls Tryd.prog 31 #[mapV n l ss.length lc, .slice d (listM s).length dap] W fun e w' => ∃ ra rc, e = .returned (.tuple #[.slice ra (cutR n ss (listM s)).length rc, .int .i64 (sdE n (listM s))]) ∧ IntsAt w' ra (cutR n ss (listM s)) ∧ Fut wr w' ∧ w'.cell? ⟨B, 0, none⟩ = some (.int .i64 n) ∧ w'.cell? ⟨B, 1, none⟩ = some (.slice l ss.length lc)) := Lib.hid (fun d dap W F hI => (cutf_any n l lc ss d dap (listM s) W (HS.out.fut ((HF3.out.trans HRF.out).trans F)) hI (by omega)).mono fun e w' (h : ∃ ra rc, e = .returned (.tuple #[.slice ra (cutR n ss (listM s)).length rc, .int .i64 (cutE n ss (listM s))]) ∧ IntsAt w' ra (cutR n ss (listM s)) ∧ Fut W w') => by
        obtain ⟨ra, rc, h1, h2, h3⟩ := h
        have hE : cutE n ss (listM s) = sdE n (listM s) := by unfold cutE; rw [HCHK.out]; simp
        rw [hE] at h1
        obtain ⟨_, d0, d1⟩ := HB3.out.fut (HRF.out.trans (F.trans h3))
        exact ⟨ra, rc, h1, h2, F.trans h3, d0, d1⟩)
      have hR2 : cutR n ss (listM s) = if sdE n (listM s) = 0 then listM (cutM ss s) else [] := by
        have hE : cutE n ss (listM s) = sdE n (listM s) := by unfold cutE; rw [HCHK.out]; simp
        unfold cutR
        rw [hE, setM_list ⟨s, hs64⟩]
      rw [hsh] at HCW hR2
      obtain ⟨E, hE⟩ : ∃ E : Int, E = if s = 0 ∨ s = 2 ^ n - 1 then 5 else 0 := ⟨_, rfl⟩
      rw [← hE] at HCW hR2
      generalize cutR n ss (listM s) = CL at *
      generalize hLL : listM s = L at *
      have HFD : Hid (Fut wr wr.drew) := Lib.hid (Fut.drewN wr 1)
      have HE := Lib.hid hE
      have HCL := Lib.hid hR2
      have HLL := Lib.hid hLL
      clear hE hR2 hsh hLL
      go_cut [16, 17] from 44 to 50 (fun s16 s17 wx => ∃ ra rc, s16 = .slice ra CL.length rc ∧ s17 = .int .i64 E ∧ Hid (IntsAt wx ra CL) ∧ Hid (Fut wr wx))
      case first =>
        go_region_held3 (fun w' => w'.cell? ⟨B, 0, none⟩ = some (.int .i64 n) ∧ w'.cell? ⟨B, 1, none⟩ = some (.slice l ss.length lc)) (first | exact ⟨z0, z1⟩ | exact ⟨a0, a1⟩ | exact ⟨by assumption, by assumption⟩ | go_keep) (first
          | (go_at_call 10; (with_reducible refine (HMB.out _ HFD.out).mono ?_); rintro _ wa ⟨va, vc, rfl, Ia, Fa, a0, a1⟩)
          | (go_at_call 31; (with_reducible refine (HCW.out _ _ _ Fa Ia).mono ?_); rintro _ wb ⟨ra, rc, rfl, Ib, Fb, z0, z1⟩))
        all_goals
          have HIB := Lib.hid Ib
          have HFB := Lib.hid Fb
          clear Ib Fb Ia Fa a0 a1 z0 z1 HMB HCW hb b0 b1
          go_wp2_with fail
          go_meet
          exact ⟨_, _, rfl, rfl, HIB, HFB⟩
      case rest =>
        obtain ⟨ra, rc, rfl, rfl, HRA, HWC⟩ := hcut
        clear HMB HCW hb b0 b1 HFD
        obtain ⟨shp, hshp⟩ : ∃ shp : Bool, shp = ((s : Int) == 0 || (s : Int) == (M : Int)) := ⟨_, rfl⟩
        have HSHP := Lib.hid hshp
        clear hshp
        go_upto_region 12 with fail
        go_cut [18] from 51 to 57 (fun s18 wx => s18 = .bool shp ∧ wx = wc)
        case first =>
          have h1 := HSHP.out
          by_cases hs0 : s = 0
          · subst hs0
            have hx : shp = true := by rw [h1]; simp
            subst hx
            clear h1
            go_wp2_with fail
            go_meet
            exact ⟨rfl, rfl⟩
          · have e0 : ((s : Int) == 0) = false := by rw [beq_eq_false_iff_ne]; omega
            rw [e0, Bool.false_or] at h1
            have h1' := h1.symm
            clear h1 hs0
            go_wp2_with fail
            go_meet
            exact ⟨rfl, rfl⟩
        case rest =>
          obtain ⟨rfl, rfl⟩ := hcut
          have hES : E = if shp = true then 5 else 0 := by
            rw [HE.out, HSHP.out]
            have h2 : 2 ^ n - 1 = M := by have := HN.out; omega
            rw [h2]
            by_cases h : s = 0 ∨ s = M
            · rw [if_pos h, if_pos]
              rw [Bool.or_eq_true, beq_iff_eq, beq_iff_eq]; omega
            · rw [if_neg h, if_neg]
              rw [Bool.or_eq_true, beq_iff_eq, beq_iff_eq]; omega
          have HCT := Lib.hid (fun W (F : Fut w3 W) => cutlaw_any n l lc ss s W (HS.out.fut (HF3.out.trans F)) (by omega) hn6 HMEM.out hs64)
          have hc9 : cutM ss s < 512 := Nat.lt_of_lt_of_le (cutM_lt2 ss s) (Nat.pow_le_pow_right (by decide) (show ss.length ≤ 9 by omega))
          obtain ⟨K, hK⟩ : ∃ K, K = cutM ss s := ⟨_, rfl⟩
          rw [← hK] at HCT HCL hc9
          have HK := Lib.hid hK
          clear hK
          have HME := Lib.hid (fun W (F : Fut w3 W) => members_any K W hc9 (HT1.out.fut (HF3.out.trans F)))
          have HMS := Lib.hid (fun W (F : Fut w3 W) => members_any s W (by omega) (HT1.out.fut (HF3.out.trans F)))
          have HWX := Lib.hid (HRF.out.trans HWC.out)
          obtain ⟨hb, b0, b1⟩ := HB3.out.fut HWX.out
          have hcl9 : (listM K).length ≤ 16 := list_le K
          go_upto_region 13 with fail
          go_cut [78] from 58 to 77 (fun s78 wx => s78 = .bool false ∧ Hid (Fut wc wx))
          case first =>
            cases shp
            · simp only [Bool.false_eq_true, if_false] at hES
              subst hES
              have hCLe := HCL.out
              rw [if_pos rfl] at hCLe
              subst hCLe
              go_wp2_with (first
                | (go_at_call 19; (with_reducible refine (HCT.out _ HWX.out).mono ?_); rintro _ wa ⟨rfl, Fa⟩; have HFa := Lib.hid Fa)
                | (go_at_call 10; (with_reducible refine (HME.out _ (HWX.out.trans HFa.out)).mono ?_); rintro _ wb ⟨v, rfl, Ob, Fb⟩; obtain ⟨va, vc, rfl, Ib⟩ := Ob.ints; have HIb := Lib.hid Ib; have HFb := Lib.hid (HFa.out.trans Fb); have HIa := Lib.hid (HRA.out.fut HFb.out); clear Ob Fb Ib)
                | (go_at_call 15; (with_reducible refine (same_any _ _ _ _ _ _ _ (by omega) (by omega) HIa.out HIb.out).mono ?_); rintro _ wd ⟨rfl, q15, rfl⟩))
              go_meet
              exact ⟨by simp [sameB], Lib.hid (HFb.out.trans (Fut.drewN _ _))⟩
            · simp only [if_true] at hES
              subst hES
              go_wp2_with fail
              go_meet
              exact ⟨rfl, Lib.hid Fut.rfl⟩
          case rest =>
            obtain ⟨rfl, HWD⟩ := hcut
            clear hb b0 b1 hES HCL HRA
            have HW2 := Lib.hid (HWX.out.trans HWD.out)
            have HRD := Lib.hid (HWC.out.trans HWD.out)
            have hB0w : B0 ≤ wc.heap.size := by rw [HB0.out]; exact RowKit.Below.size HW2.out
            rw [HLL.out] at HMS
            have HTK : Hid ((sds.take (k + 1)).map listM = (sds.take k).map listM ++ [L]) := Lib.hid (by
              rw [List.take_add_one, HG.out, List.map_append, ← HLL.out]; rfl)
            have htl : ((sds.take k).map listM).length ≤ 9 := by
              rw [List.length_map, List.length_take]; omega
            have HIX : Hid (∀ u', u' = u ||| K → SdI n ss o sds R (k + 1) (if want = 0 then upW n ss o s u else want) u') := Lib.hid (fun u' hu' => by
              have hkl : k < sds.length := by rw [HSL.out]; exact hlt
              have h1 := HI.out.step hkl
              have h2 : sds[k] = s := by have := HG.out; rw [List.getElem?_eq_getElem hkl] at this; exact Option.some.inj this
              rw [h2, ← HK.out] at h1
              rw [hu']; exact h1)
            generalize (sds.take k).map listM = zss at *
            obtain ⟨i0, hi0, hz0, hz1, hz2⟩ := info_parts info34
            go_upto_region 15 with fail
            go_wp2_with fail
            refine (HMS.out _ HW2.out).mono ?_
            rintro _ w7 ⟨lv, rfl, hlo, F⟩
            have HL7 := Lib.hid (hlo.base hB0w)
            have HO7 := Lib.hid ((HOW.out.fut HRD.out).fut F)
            have HF7 := Lib.hid (HW2.out.trans F)
            have hsz7 : B0 ≤ w7.heap.size := Nat.le_trans hB0w (RowKit.Below.size F)
            obtain ⟨la, lca, hlv, _⟩ := HL7.out.ints
            subst hlv
            obtain ⟨vals, hv1, hv2⟩ := HO7.out
            have HV1 := Lib.hid hv1
            have HV2 := Lib.hid hv2
            clear hlo F hv1 hv2
            go_wp2_with (at_builtin; refine wpList_app _ rfl _ _ 40 rfl B0 34 i0 (.slice none 0 0) 1 24 Tryd.underlying40 hi0 hz0 hz1 hz2 rfl (by decide) _ _ _ rfl (HV1.out.alloc _) ⟨w7.heap.size, 0, none⟩ 1 1 [.slice la L.length lca] rfl (by decide) rfl ?c1 ?c2 ?c3 ?c4 ?c5 ?_)
            case c1 => exact World.news_of_block (cs := #[.slice la L.length lca]) (t := 34) (fr := (0, 0)) (heap_alloc_new _ _)
            case c2 => intro u hu; simp at hu; subst hu; rfl
            case c3 => exact maxL (by omega)
            case c4 => omega
            case c5 => simp; omega
            · intro v' w8 hown' hgrow _
              have HO8 : Hid (OwnL w8 B0 v' (zss ++ [L])) := Lib.hid ⟨vals ++ [.slice la L.length lca], by simpa using hown', Elems.app (w := w7.alloc (.cells #[.slice la L.length lca] 34)) ⟨HV2.out.1, fun j hj => by obtain ⟨v, e1, e2⟩ := HV2.out.2 j hj; exact ⟨v, e1, e2.fut (Fut.alloc _ _)⟩⟩ (HL7.out.fut (Fut.alloc _ _)) (HV1.out.alloc _) hgrow⟩
              have hBel : RowKit.Below B0 w7 w8 := (RowKit.Below.alloc (RowKit.Below.refl _ _) hsz7 _).grown hgrow (by simp; omega) (fun i hi => (HV1.out.lt i hi).1)
              have HF8 : Hid (Fut w3 w8) := Lib.hid (HF7.out.trans' hBel (by have := HB0.out; omega))
              rw [← HTK.out] at HO8
              clear hown' hgrow hBel HV1 HV2 HO7 HL7 HMS HW2 HWD HRD HWX HME HWC
              have hU : upW n ss o s u = if shp = true then 5 else if par (s &&& o) then (if u &&& K = 0 then 0 else 6) else 14 := by
                have h2 : 2 ^ n - 1 = M := by have := HN.out; omega
                unfold upW
                rw [HSHP.out, h2, HK.out]
                have h3 : (s = 0 ∨ s = M) ↔ (((s : Int) == 0 || (s : Int) == (M : Int)) = true) := by
                  rw [Bool.or_eq_true, beq_iff_eq, beq_iff_eq]; omega
                simp only [h3]
              generalize upW n ss o s u = U at *
              have HU := Lib.hid hU
              have HON := Lib.hid (fun W => ones_any (s &&& o) W (Nat.lt_of_le_of_lt Nat.and_le_left hs64))
              have hpp : popI (s &&& o) = ((Nm.pop (s &&& o) : Nat) : Int) := rfl
              have hpq := Nm.par_pop (s &&& o)
              have hso : bits BinOp.and IntKind.u64 (s : Int) (o : Int) = ((s &&& o : Nat) : Int) := u64_and_nat _ _ (by omega) (by omega)
              have huk : bits BinOp.and IntKind.u64 (u : Int) (K : Int) = ((u &&& K : Nat) : Int) := u64_and_nat _ _ (by omega) (by omega)
              have huo : bits BinOp.or IntKind.u64 (u : Int) (K : Int) = ((u ||| K : Nat) : Int) := u64_or_nat _ _ (by omega) (by omega)
              have hul : u ||| K < 65536 := or_lt hu (by omega)
              rw [hpp] at HON
              have hpl : Nm.pop (s &&& o) ≤ 16 := by rw [← Nm.pop_list]; exact list_le _
              clear hU hpp
              generalize Nm.pop (s &&& o) = pp at *
              generalize u &&& K = uk at *
              generalize s &&& o = so at *
              have HCT8 := Lib.hid (HCT.out w8 HF8.out)
              obtain ⟨hb, b0, b1⟩ := HB3.out.fut HF8.out
              obtain ⟨W', hW'⟩ : ∃ W' : Int, W' = if want = 0 then U else want := ⟨_, rfl⟩
              have HW' := Lib.hid hW'
              rw [← hW'] at HIX
              clear hW'
              go_upto_block 2 with fail
              go_cut [11] from 84 to 102 (fun s11 wx => s11 = .int .i64 W' ∧ Hid (Fut w8 wx))
              case first =>
                have hW := HW'.out
                have hUo := HU.out
                have hppx : (pp : Int) ≤ 16 := by omega
                by_cases hw : want = 0
                · subst hw
                  rw [if_pos rfl] at hW
                  subst hW
                  cases shp
                  · simp only [Bool.false_eq_true, if_false] at hUo
                    rw [hpq] at hUo
                    clear hpq
                    by_cases h2 : pp % 2 = 1
                    · rw [decide_eq_true h2, if_pos rfl] at hUo
                      have h2x : ((pp : Int) % 2 == 0) = false := by rw [beq_eq_false_iff_ne]; omega
                      by_cases h3 : uk = 0
                      · rw [if_pos h3] at hUo
                        have h3x : ((uk : Int) != 0) = false := by rw [h3]; rfl
                        clear h2 h3
                        go_wp2_with (first
                          | (go_at_call 20; (with_reducible refine (HON.out _).mono ?_); rintro _ _ ⟨rfl, rfl⟩)
                          | (go_at_call 19; (with_reducible refine HCT8.out.mono ?_); rintro _ wa ⟨rfl, Fa⟩))
                        go_meet
                        exact ⟨by rw [hUo], Lib.hid Fa⟩
                      · rw [if_neg h3] at hUo
                        have h3x : ((uk : Int) != 0) = true := by rw [bne_iff_ne]; omega
                        clear h2 h3
                        go_wp2_with (first
                          | (go_at_call 20; (with_reducible refine (HON.out _).mono ?_); rintro _ _ ⟨rfl, rfl⟩)
                          | (go_at_call 19; (with_reducible refine HCT8.out.mono ?_); rintro _ wa ⟨rfl, Fa⟩))
                        go_meet
                        exact ⟨by rw [hUo], Lib.hid Fa⟩
                    · rw [decide_eq_false h2, if_neg (by decide)] at hUo
                      have h2x : ((pp : Int) % 2 == 0) = true := by rw [beq_iff_eq]; omega
                      clear h2
                      go_wp2_with (first
                          | (go_at_call 20; (with_reducible refine (HON.out _).mono ?_); rintro _ _ ⟨rfl, rfl⟩))
                      go_meet
                      exact ⟨by rw [hUo], Lib.hid Fut.rfl⟩
                  · simp only [if_true] at hUo
                    clear hpq
                    go_wp2_with fail
                    go_meet
                    exact ⟨by rw [hUo], Lib.hid Fut.rfl⟩
                · rw [if_neg hw] at hW
                  have hwx : (want != 0) = true := bne_iff_ne.2 hw
                  clear hw hpq hUo
                  go_wp2_with fail
                  go_meet
                  exact ⟨by rw [hW], Lib.hid Fut.rfl⟩
              case rest =>
                obtain ⟨rfl, HWE⟩ := hcut
                have HFE := Lib.hid (HF8.out.trans HWE.out)
                have HCTE := Lib.hid (HCT.out wc HFE.out)
                have HOE := Lib.hid (HO8.out.fut HWE.out)
                have HIE := Lib.hid (HIX.out _ rfl)
                clear hb b0 b1 HO8 hpq
                obtain ⟨hb, b0, b1⟩ := HB3.out.fut HFE.out
                go_wp2_with (go_at_call 19; (with_reducible refine HCTE.out.mono ?_); rintro _ wa ⟨rfl, Fa⟩; have HFa := Lib.hid (HFE.out.trans Fa); have HOa := Lib.hid (HOE.out.fut Fa); clear Fa)
                go_roundw
                case rel => exact ⟨k + 1, u ||| K, W', by omega, by go_num, rfl, hul, rfl, HIE, HOa, HFa⟩
                case measure => simp [intOf]; omega
    · obtain rfl : k = kk := by omega
      have hRw : R = want := HI.out.done (by rw [HSL.out]; exact Nat.le_refl _)
      obtain ⟨zl, zc, rfl, hzl⟩ := HOW.out.lists
      have htk : sds.take k = sds := List.take_of_length_le (by rw [HSL.out]; exact Nat.le_refl _)
      rw [htk] at hzl
      have hlen : ((sds.take k).map listM).length = k := by rw [htk, List.length_map, HSL.out]
      rw [hlen]
      have HZL := Lib.hid hzl
      have HRW := Lib.hid hRw
      have hlm : (sds.map listM).length = k := by rw [List.length_map, HSL.out]
      have hle : ∀ j, (lth (sds.map listM) j).length ≤ 1000 := fun j => by
        rw [lth_eq, List.getElem?_map]
        rcases sds[j]? with _ | x
        · exact Nat.zero_le _
        · exact Nat.le_trans (list_le x) (by decide)
      have HPV : Hid (∀ W, Fut wr W → Calls Tryd.prog 21 #[mapV n l ss.length lc, .slice zl k zc] W (PostC want W)) := Lib.hid (fun W F => by
        have h := proves_any n l lc ss zl zc (sds.map listM) W (HS.out.fut ((HF3.out.trans HRF.out).trans F)) (HZL.out.fut F) (by omega) hle
        have e : provE n ss (sds.map listM) = want := by
          unfold provE
          rw [HCHK.out, if_pos rfl, ← HO.out, lwE_prv hn6 sds 0 HSN.out, ← HR.out, HRW.out]
        rw [e, hlm] at h
        exact h)
      obtain ⟨S, hS2, hfe, hen, _⟩ := few_set ss
      have hFR : fewR n ss = listM S := by unfold fewR; rw [HCHK.out, if_pos rfl]; exact hfe
      have HFW : Hid (∀ W, Fut wr W → Calls Tryd.prog 12 #[mapV n l ss.length lc] W (TupL 0 (listM S) W)) := Lib.hid (fun W F => by
        have h := fewest_any n l lc ss W (HS.out.fut ((HF3.out.trans HRF.out).trans F))
        rw [HCHK.out, hFR] at h
        exact h)
      have hwk2 : want = 0 → k ≤ (listM S).length := fun h0 => by
        have h1 := weak (by omega) hen sds 0 (by rw [← HO.out, ← HR.out, HRW.out, h0])
        rw [Nm.pop_list, ← HSL.out]
        omega
      have hfl : (listM S).length ≤ 16 := list_le S
      generalize listM S = FL at *
      have HWE := Lib.hid ((HF1.out.trans HF3.out).trans HRF.out)
      obtain ⟨hb, b0, b1⟩ := HB3.out.fut HRF.out
      clear hzl htk hlen hRw hlm hle hS2 hfe hen hFR
      have hww : (want != want) = false := by simp
      have hkx : (k : Int) ≤ 3 := by omega
      have hflx : (FL.length : Int) ≤ 16 := by omega
      by_cases hw0 : want = 0
      · have hge : (FL.length : Int) ≥ (k : Int) := by have := hwk2 hw0; omega
        subst hw0
        clear hwk2 HRW HI
        go_wp2_with (first
          | (go_at_call 21; (with_reducible refine (HPV.out _ Fut.rfl).mono ?_); rintro _ w4 ⟨rfl, F4⟩; have HF4 := Lib.hid F4; clear hb b0 b1; obtain ⟨hb, b0, b1⟩ := HB3.out.fut (HRF.out.trans F4); clear F4)
          | (go_at_call 12; (with_reducible refine (HFW.out _ HF4.out).mono ?_); rintro _ w5 ⟨fa, fc, rfl, _, F5⟩; have HF5 := Lib.hid (HF4.out.trans F5); clear F5)
          | (go_at_call 22; (with_reducible refine (works_any _).mono ?_); rintro _ w6 ⟨rfl, F6⟩))
        go_ret
        exact ⟨rfl, (HWE.out.trans HF5.out).trans F6⟩
      · have hwx : (want != 0) = true := bne_iff_ne.2 hw0
        clear hwk2 HRW HI hw0
        go_wp2_with (first
          | (go_at_call 21; (with_reducible refine (HPV.out _ Fut.rfl).mono ?_); rintro _ w4 ⟨rfl, F4⟩; have HF4 := Lib.hid F4; clear hb b0 b1; obtain ⟨hb, b0, b1⟩ := HB3.out.fut (HRF.out.trans F4); clear F4)
          | (go_at_call 12; (with_reducible refine (HFW.out _ HF4.out).mono ?_); rintro _ w5 ⟨fa, fc, rfl, _, F5⟩; have HF5 := Lib.hid (HF4.out.trans F5); clear F5)
          | (go_at_call 22; (with_reducible refine (works_any _).mono ?_); rintro _ w6 ⟨rfl, F6⟩))
        go_ret
        exact ⟨rfl, (HWE.out.trans HF5.out).trans F6⟩
end Sd
end Go.Proofs.YtimddkofcejijaaDoor
