/- Layer 2: RoundEnough walks. -/
import Derived.Test.YtimddkofcejijaaDoorDD
import Derived.Test.YtimddkofcejijaaDoorDB
import Derived.Test.YtimddkofcejijaaDoorSB
import Derived.Test.YtimddkofcejijaaDoorSI
namespace Go.Proofs.YtimddkofcejijaaDoor
open Go.RowKit Go.Sort
theorem oddL_lt2 {c : Nat} (s : Nat) : ∀ (l : List (Int × Int)) (i o : Nat), (∀ p ∈ l, 0 ≤ p.1 ∧ p.1 < p.2 ∧ p.2 < (c : Int)) → o < 2 ^ c → oddL s i l o < 2 ^ c
  | [], _, _, _, h => h
  | p :: l, i, o, hp, h => by
    unfold oddL
    refine oddL_lt2 s l (i + 1) _ (fun q hq => hp q (List.mem_cons_of_mem _ hq)) ?_
    split
    · obtain ⟨h1, h2, h3⟩ := hp p (List.mem_cons_self ..)
      refine Nat.xor_lt_two_pow h ?_
      unfold endsM
      refine Nat.or_lt_two_pow ?_ ?_
      · exact Nat.pow_lt_pow_right (by decide) (by omega)
      · exact Nat.pow_lt_pow_right (by decide) (by omega)
    · exact h
theorem oddM_lt2 {c : Nat} {ss : List (Int × Int)} (hp : ∀ p ∈ ss, 0 ≤ p.1 ∧ p.1 < p.2 ∧ p.2 < (c : Int)) (s : Nat) : oddM ss s < 2 ^ c := oddL_lt2 s ss 0 0 hp (Nat.two_pow_pos c)
theorem oddL_zero : ∀ (l : List (Int × Int)) (i o : Nat), oddL 0 i l o = o
  | [], _, _ => rfl
  | p :: l, i, o => by
    unfold oddL
    rw [Nat.zero_testBit, if_neg (by decide)]
    exact oddL_zero l (i + 1) o
theorem oddM_zero (ss : List (Int × Int)) : oddM ss 0 = 0 := oddL_zero ss 0 0
theorem cut_whole {ss : List (Int × Int)} {c : Nat} (hg : GoodS ss c) (hc : c ≤ 6) : cutM ss (2 ^ c - 1) = 0 := Nat.eq_of_testBit_eq fun k => by
  rw [Nat.zero_testBit]
  rcases Nat.lt_or_ge k ss.length with hk | hk
  · have hm := hg _ (str_mem ss k hk)
    rw [Nm.cutM_bit hk, Nm.par_street ⟨hm.1, hm.2.1, by omega⟩, Nat.testBit_two_pow_sub_one, Nat.testBit_two_pow_sub_one, decide_eq_true (by omega), decide_eq_true (by omega)]
    rfl
  · exact Nm.cutM_out hk
/-- an even number of corners is odd. -/
theorem odd_even {ss : List (Int × Int)} {c : Nat} (hg : GoodS ss c) (hc : c ≤ 6) (hl : ss.length ≤ 15) (s : Nat) : (listM (oddM ss s)).length % 2 = 0 := by
  have h1 := Nm.odd_cut (ss := ss) (by omega) (2 ^ c - 1) s
  rw [cut_whole hg hc, Nat.zero_and, Nat.and_comm, Nat.and_two_pow_sub_one_of_lt_two_pow (oddM_lt2 hg s)] at h1
  rw [Nm.pop_list]
  rw [Nm.par_pop, par_zero, decide_eq_false_iff_not] at h1
  omega
theorem goes_enough {ss : List (Int × Int)} {n S fuel : Nat} (hc : chkM n ss = 0) (hS : S < 2 ^ ss.length) (hf : sm ss.length (leftK (2 ^ ss.length - 1) S) < fuel) :
    (goG ss fuel 0 (leftK (2 ^ ss.length - 1) S)).isSome = enoughB ss S := by
  obtain ⟨h1, h6, hl, _, hp, hr⟩ := chk_good hc
  have hg : GoodS ss n := hp
  have hbits : ∀ i, i < ss.length → S.testBit i = (listM S).contains (i : Int) := fun i hi => by
    rw [Bool.eq_iff_iff, List.contains_iff_mem, listM_mem]
    constructor
    · intro h; exact ⟨i, by omega, h, rfl⟩
    · rintro ⟨j, _, h, e⟩
      have : j = i := by omega
      rw [← this]; exact h
  rw [Bool.eq_iff_iff]
  constructor
  · intro h
    obtain ⟨r, hr⟩ := Option.isSome_iff_exists.1 h
    have hF := goF_full fuel 0 _ r hr
    have hP := trail_par (fun i hi => by have := (good_str hg hi).1; omega) r 0 0 hF.1 hF.2.1
    unfold enoughB
    rw [beq_iff_eq]
    refine Nat.eq_of_testBit_eq fun v => ?_
    have hv := hP v
    have hd : dg (en1 ss) (en2 ss) ss.length (fun i => r.count i) v = dg (en1 ss) (en2 ss) ss.length (leftK (2 ^ ss.length - 1) S) v := sm_congr _ fun i hi => by show r.count i * _ = _; rw [hF.2.2 i hi]
    rw [hd] at hv
    have h2 := dg_cnt hg hbits v ss.length (Nat.le_refl _)
    rw [List.take_length] at h2
    have h3 := cntR_odd (c := v) hbits (fun p hq => ⟨(hp p hq).1, (hp p hq).2.1⟩)
    unfold dg at hv
    rw [h2] at hv
    have h4 : (oddM ss (2 ^ ss.length - 1) ^^^ oddM ss S).testBit v = false := by
      cases hb : (oddM ss (2 ^ ss.length - 1) ^^^ oddM ss S).testBit v
      · rfl
      · have := h3.2 hb
        unfold ind at hv
        split at hv <;> omega
    rw [Nat.testBit_xor] at h4
    revert h4
    cases (oddM ss (2 ^ ss.length - 1)).testBit v <;> cases (oddM ss S).testBit v <;> simp
  · intro hE
    obtain ⟨r, hr, _⟩ := round_first hc hS hE hf
    show (goF _ _ _ _ _ _).isSome = true
    rw [hr]; rfl
theorem len_zero : ∀ O : Fin 64, ((listM O.val).length = 0 ↔ O.val = 0) := by decide +kernel
namespace En
set_option maxRecDepth 100000 in
set_option maxHeartbeats 20000000 in
/-- RoundEnough walks. -/
theorem enough_law (t : Nat → Int) (w : World) (ht : tOk t) (hT : TabAt w) : Calls Tryd.prog 4 #[tV t] w fun e w' => e = .returned (.bool true) ∧ Fut w w' := by
  have HT := Lib.hid hT
  have HTO := Lib.hid ht
  clear hT
  go_enter Tryd.func4, Tryd.ntmps4
  go_upto_region 1 with fail
  have hF : Fut w (w.alloc (.cells (tC t) 26)) := Fut.alloc _ _
  have hB : (w.alloc (.cells (tC t) 26)).heap[w.heap.size]? = some (.cells (tC t) 26 (0, 0)) := heap_alloc_new _ _
  have hBT := BoxT.new w t
  generalize w.alloc (.cells (tC t) 26) = W1 at *
  refine wp_region_lit ?_
  refine wpList_load_row rfl 26 (.tmp 1) rfl w.heap.size rfl 26 (tC t) (0, 0) _ hB Tryd.underlying26 rfl (by kernel_rfl) ?_
  go_wp2_with fail
  refine (made_any t 4 5 W1 ht (by decide) (by decide)).mono ?_
  rintro _ w1 ⟨n, ss, l, lc, rfl, hS, F, hn1, hn4, hM, h5⟩
  have HF1 := Lib.hid (hF.trans F)
  have HT1 := Lib.hid (HT.out.fut HF1.out)
  have HBT := Lib.hid (hBT.fut F)
  have HB26 := Lib.hid ((F.block _ (Array.getElem?_eq_some_iff.1 hB).1).trans hB)
  clear hF F hB ht HT hBT
  clear W1
  go_upto_region 2 with fail
  generalize hTC : tC t = TC at *
  have HTC := Lib.hid hTC
  clear hTC
  generalize w.heap.size = BT at *
  have hchk := made_chk hn1 (by omega) hM (by omega)
  have hmem := made_mem hn1 hM
  obtain ⟨_, _, _, hsm, _, _⟩ := chk_good hchk
  have HS := Lib.hid hS
  have HCHK := Lib.hid hchk
  have HMEM := Lib.hid hmem
  have HSM := Lib.hid hsm
  clear hchk hmem hS hM hsm
  have hB := BoxM.new w1 n l ss.length lc 29
  have hF : Fut w1 (w1.alloc (.cells #[.int .i64 n, .slice l ss.length lc] 29)) := Fut.alloc _ _
  have hB1 : w1.heap.size + 1 = (w1.alloc (.cells #[.int .i64 n, .slice l ss.length lc] 29)).heap.size := by simp
  generalize w1.alloc (.cells #[.int .i64 n, .slice l ss.length lc] 29) = w2 at *
  generalize w1.heap.size = B at *
  have HB := Lib.hid hB
  have HF := Lib.hid hF
  have HB1 := Lib.hid hB1
  obtain ⟨hb, b0, b1⟩ := hB
  clear hF hB1
  have hnx : (n : Int) ≤ 4 := by omega
  have hsx : (ss.length : Int) ≤ 5 := by omega
  go_upto_region 4 with fail
  have F3 : Fut w2 (w2.alloc (.cells #[.func (.func 23) #[] #[.pointer (some ⟨B, 0, none⟩), .pointer (some ⟨w2.heap.size, 0, none⟩)]] 53)) := Fut.alloc _ _
  have g0 : (w2.alloc (.cells #[.func (.func 23) #[] #[.pointer (some ⟨B, 0, none⟩), .pointer (some ⟨w2.heap.size, 0, none⟩)]] 53)).cell? ⟨w2.heap.size, 0, none⟩ = some (.func (.func 23) #[] #[.pointer (some ⟨B, 0, none⟩), .pointer (some ⟨w2.heap.size, 0, none⟩)]) := by simp [go_sem]
  have gs : w2.heap.size < (w2.alloc (.cells #[.func (.func 23) #[] #[.pointer (some ⟨B, 0, none⟩), .pointer (some ⟨w2.heap.size, 0, none⟩)]] 53)).heap.size := by simp
  generalize w2.alloc (.cells #[.func (.func 23) #[] #[.pointer (some ⟨B, 0, none⟩), .pointer (some ⟨w2.heap.size, 0, none⟩)]] 53) = w3 at *
  generalize w2.heap.size = G at *
  have HF3 := Lib.hid (HF.out.trans F3)
  have HFW := Lib.hid (HF1.out.trans (HF.out.trans F3))
  have HT3 := Lib.hid (HT1.out.fut (HF.out.trans F3))
  have HALL : Hid (∀ W, Fut w3 W → StrAt W l ss ∧ BoxM W B n l ss.length lc ∧ W.cell? ⟨G, 0, none⟩ = some (.func (.func 23) #[] (capG B G))) := Lib.hid (fun W F => ⟨HS.out.fut (HF3.out.trans F), HB.out.fut (F3.trans F), (RowKit.Below.cell F (p := ⟨G, 0, none⟩) gs).trans g0⟩)
  have HE2 : Hid (∀ W, Fut w3 W → W.cell? ⟨BT, 2, none⟩ = some (.int .u8 (t 2))) := Lib.hid (fun W F => ((HBT.out.fut (HF.out.trans F3)).fut F).2 2 (by decide))
  clear F3 g0 gs hb b0 b1 HS HT1
  obtain ⟨O, hO⟩ : ∃ O, O = oddM ss (2 ^ ss.length - 1) := ⟨_, rfl⟩
  have hO16 : O < 64 := by
    have h6 : 2 ^ n ≤ 2 ^ 6 := Nat.pow_le_pow_right (by decide) (by omega)
    have := oddM_lt2 HMEM.out (2 ^ ss.length - 1)
    rw [hO]
    omega
  have hOev : (listM O).length % 2 = 0 := by rw [hO]; exact odd_even (c := n) HMEM.out (by omega) (by omega) _
  have hOz := len_zero ⟨O, hO16⟩
  dsimp only at hOz
  have hOl := list_le O
  have HODF : Hid (∀ W, Fut w3 W → Calls Tryd.prog 24 #[mapV n l ss.length lc] W (TupL 0 (listM O) W)) := Lib.hid (fun W F => by rw [hO]; exact oddf_ok n l lc ss W (HALL.out W F).1 HCHK.out)
  have HEV := Lib.hid (fun W => every_any n l ss.length lc W (by omega))
  have HOD : Hid (∀ S, S < 65536 → ∀ W, Fut w3 W → Calls Tryd.prog 8 #[mapV n l ss.length lc, sv S] W fun e w' => e = .returned (sv (oddM ss S)) ∧ Fut W w') := Lib.hid (fun S hS W F => oddlaw_any n l lc ss S W (HALL.out W F).1 (by omega) HSM.out (fun p hp => by have := HMEM.out p hp; omega) hS)
  have HOM := HOD.out (2 ^ ss.length - 1) (mask_lt (by omega))
  rw [← hO] at HOM
  have HOM := Lib.hid HOM
  have HO := Lib.hid hO
  have HEN : Hid (∀ (d : Option Addr) (dap : Nat) (zs : List Int) W, Fut w3 W → IntsAt W d zs → zs.length ≤ 1000 → Calls Tryd.prog 25 #[mapV n l ss.length lc, .slice d zs.length dap] W (PostC (twE n ss zs) W)) := Lib.hid (fun d dap zs W F hI h => enough_any n l lc ss d dap zs W (HALL.out W F).1 hI h)
  have HMB : Hid (∀ S, S < 512 → ∀ W, Fut w3 W → Calls Tryd.prog 10 #[sv S] W fun e w' => ∃ va vc, e = .returned (.slice va (listM S).length vc) ∧ IntsAt w' va (listM S) ∧ Fut W w') := Lib.hid (fun S hS W F => (members_any S W hS (HT3.out.fut F)).mono fun e w' (h : ∃ v, e = .returned v ∧ Owns w' W.heap.size v (listM S) ∧ Fut W w') => by
    obtain ⟨v, h1, h2, h3⟩ := h
    obtain ⟨va, vc, rfl, hI⟩ := h2.ints
    exact ⟨va, vc, h1, hI, h3⟩)
  obtain ⟨P, hP⟩ : ∃ P, P = 2 ^ ss.length - 1 := ⟨_, rfl⟩
  have hP31 : P ≤ 31 := by
    have := Nat.pow_le_pow_right (show 0 < 2 by decide) h5
    have : 2 ^ ss.length ≤ 32 := this
    omega
  have HP : Hid (2 ^ ss.length = P + 1) := Lib.hid (by have := Nat.one_le_two_pow (n := ss.length); omega)
  rw [← hP] at HEV HOM
  have HPE := Lib.hid hP
  clear hO hP
  obtain ⟨_, ⟨hb, b0, b1⟩, _⟩ := HALL.out w3 Fut.rfl
  go_wp2_with (go_at_call 24; (with_reducible refine (HODF.out _ Fut.rfl).mono ?_); rintro _ w4 ⟨la, lca, rfl, hIA, F4⟩; have HIA := Lib.hid hIA; have HF4 := Lib.hid F4; clear hIA F4 hb b0 b1)
  have HFD : Hid (Fut w4 w4.drew) := Lib.hid (Fut.drewN w4 1)
  obtain ⟨_, ⟨hb, b0, b1⟩, _⟩ := HALL.out w4 HF4.out
  have hem : ((listM O).length : Int) % 2 = 0 := by omega
  have hoz2 : ((listM O).length : Int) ≤ 16 := by omega
  have HOZ := Lib.hid hOz
  have HSB : Hid (sameB (listM O) (listM O) = true) := Lib.hid (by simp [sameB])
  clear hOz hOev
  go_cut [37] from 20 to 36 (fun s37 wx => s37 = .bool false ∧ Hid (Fut w4 wx))
  case first =>
    go_region_held3 (fun w' => w'.cell? ⟨B, 0, none⟩ = some (.int .i64 n) ∧ w'.cell? ⟨B, 1, none⟩ = some (.slice l ss.length lc)) (first | exact ⟨d0, d1⟩ | exact ⟨c0, c1⟩ | exact ⟨a0, a1⟩ | exact ⟨by assumption, by assumption⟩ | go_keep) (first
      | (go_at_call 9; (with_reducible refine (HEV.out _).mono ?_); rintro _ wa ⟨rfl, Fa⟩; have HFa := Lib.hid (HF4.out.trans (HFD.out.trans Fa)); obtain ⟨_, ⟨_, a0, a1⟩, _⟩ := HALL.out wa HFa.out)
      | (go_at_call 8; (with_reducible refine (HOM.out _ HFa.out).mono ?_); rintro _ wb ⟨rfl, Fb⟩; have HFb := Lib.hid (HFa.out.trans Fb); obtain ⟨_, ⟨_, c0, c1⟩, _⟩ := HALL.out wb HFb.out)
      | (go_at_call 10; (with_reducible refine (HMB.out _ (by omega) _ HFb.out).mono ?_); rintro _ wd ⟨va, vc, rfl, Id, Fd⟩; have HFd := Lib.hid (HFb.out.trans Fd); have HIA2 := Lib.hid (HIA.out.fut (HFD.out.trans (Fa.trans (Fb.trans Fd)))); obtain ⟨_, ⟨_, d0, d1⟩, _⟩ := HALL.out wd HFd.out)
      | (go_at_call 15; (with_reducible refine (same_any _ _ _ _ _ _ _ (by omega) (by omega) HIA2.out Id).mono ?_); rw [HSB.out]; rintro _ _ ⟨rfl, q15, rfl⟩))
    all_goals
      have hem2 : (((listM O).length : Int).tmod 2 == 1) = false := by rw [Int.tmod_eq_emod_of_nonneg (by omega), hem]; rfl
      go_wp2_with fail
      go_meet
      exact ⟨by rw [hem2], Lib.hid (HFD.out.trans (Fa.trans (Fb.trans (Fd.trans (Fut.drewN _ _)))))⟩
  case rest =>
    obtain ⟨rfl, HF5⟩ := hcut
    have HFC := Lib.hid (HF4.out.trans HF5.out)
    clear hb b0 b1 HF4 HF5 HIA HFD hem
    obtain ⟨_, ⟨hb, b0, b1⟩, _⟩ := HALL.out wc HFC.out
    go_wp2_with (go_at_call 9; (with_reducible refine (HEV.out _).mono ?_); rintro _ w5 ⟨rfl, F5⟩; have HF5 := Lib.hid (HFC.out.trans F5); clear F5 hb b0 b1)
    have hPx : (P : Int) ≤ 31 := by omega
    go_loopw [7, 8, 9, 10, 11, 41] (fun _ _ _ _ _ sv0 wr => ∃ S : Nat, S ≤ P + 1 ∧ sv0 = sv S ∧ Hid (Fut w3 wr)) (fun _ _ _ _ _ sv0 _ => P + 1 - (intOf sv0).toNat)
    case atStart => exact ⟨0, Nat.zero_le _, rfl, HF5⟩
    case round =>
      obtain ⟨S, hS, rfl, HR⟩ := hrel
      obtain ⟨_, ⟨hb, b0, b1⟩, _⟩ := HALL.out wr HR.out
      by_cases hlt : S ≤ P
      · have hlx : (S : Int) < (P : Int) + 1 := by omega
        have hmk := run_make_row' (P := Tryd.prog) 34 3 (.int .i64 0) 8 Tryd.underlying34 info3 rfl .i64 .i64 ss.length (by omega) (by omega)
        go_upto_region 12 with fail
        have O0 := made_own wr ss.length (by omega)
        have Fg : Fut wr (wr.alloc (.cells (madeCells #[Value.int .i64 0] ss.length) 3)) := Fut.alloc _ _
        have hol0 : (oftL ss.length []).length = ss.length := oft_len _ _
        have hw3 : w3.heap.size ≤ wr.heap.size := RowKit.Below.size HR.out
        have HKV : Hid (∀ j, j < ss.length → leftK P S j = 1 + if S.testBit j then 1 else 0) := Lib.hid (fun j hj => by
          unfold leftK
          rw [HPE.out, Nat.testBit_two_pow_sub_one, decide_eq_true hj, if_pos rfl])
        generalize wr.alloc (.cells (madeCells #[Value.int .i64 0] ss.length) 3) = wg at *
        generalize wr.heap.size = g at *
        generalize oftL ss.length [] = L0 at *
        have HFG := Lib.hid (HR.out.trans Fg)
        have HO0 := Lib.hid O0
        have HL0 := Lib.hid hol0
        clear hmk O0 Fg hol0 hb b0 b1
        go_loopw [9, 50] (fun _ iv wx => ∃ (i : Nat) (L : List Int), i ≤ ss.length ∧ iv = .int .i64 i ∧ Hid (L.length = ss.length) ∧ Hid (∀ j, j < i → nth L j = (leftK P S j : Nat)) ∧ Hid (Owns wx g (.slice (some ⟨g, 0, none⟩) ss.length ss.length) L) ∧ Hid (RowKit.Below g wg wx)) (fun _ iv _ => ss.length - (intOf iv).toNat)
        case atStart => exact ⟨0, L0, Nat.zero_le _, rfl, HL0, Lib.hid (fun j hj => absurd hj (by omega)), HO0, Lib.hid (RowKit.Below.refl g wg)⟩
        case round =>
          obtain ⟨i, L, hi, rfl, HLL, HNT, HOW, HB2⟩ := hrel
          by_cases hlt2 : i < ss.length
          · have hix : (i : Int) < ss.length := by omega
            obtain ⟨o1, o2, o3⟩ := own_at HOW.out HLL.out i hlt2
            have hbx := bit_shr2 S i (by omega)
            have hkv := HKV.out i hlt2
            have HNX : Hid (∀ u : Int, u = (leftK P S i : Nat) → ∀ j, j < i + 1 → nth (L.set i u) j = (leftK P S j : Nat)) := Lib.hid (fun u hu j hj => by
              rw [nth_eq]
              rcases Nat.lt_or_ge j i with h | h
              · rw [List.getElem?_set_ne (by omega), ← nth_eq]; exact HNT.out j h
              · obtain rfl : j = i := by omega
                rw [List.getElem?_set_self (by rw [HLL.out]; exact hlt2)]; exact hu)
            have HLX : Hid (∀ u : Int, (L.set i u).length = ss.length) := Lib.hid (fun u => by rw [List.length_set]; exact HLL.out)
            have HOX := Lib.hid (fun u => own_set HOW.out HLL.out i u)
            have HBX := Lib.hid (fun u => HB2.out.setCell (p := ⟨g, i, none⟩) (Nat.le_refl _) u)
            have HKX := Lib.hid hkv
            clear hkv
            cases hb : S.testBit i <;> simp only [hb] at hbx HKX <;> simp only [Bool.false_eq_true, if_false, if_true] at hbx HKX <;> clear hb
            all_goals
              go_wp2_with fail
              go_roundw
              case rel => exact ⟨i + 1, L.set i _, by omega, by go_num, Lib.hid (HLX.out _), Lib.hid (HNX.out _ (by rw [HKX.out]; rfl)), Lib.hid (HOX.out _), Lib.hid (HBX.out _)⟩
              case measure => simp [intOf]; omega
          · obtain rfl : i = ss.length := by omega
            have hLK : L = kL (leftK P S) ss.length := by
              apply List.ext_getElem
              · rw [kL_len]; exact HLL.out
              · intro j h1 h2
                have h3 := HNT.out j (by rw [← HLL.out]; exact h1)
                rw [nth_eq, List.getElem?_eq_getElem h1] at h3
                simpa [kL] using h3
            subst hLK
            clear HNT HLL
            go_upto_region 16 with fail
            have HRW : Hid (Fut w3 wr) := Lib.hid (HFG.out.trans' HB2.out hw3)
            obtain ⟨_, hBM, _⟩ := HALL.out wr HRW.out
            obtain ⟨m0, m1⟩ := hBM.after Fut.rfl
            clear hBM
            obtain ⟨oS, hoS⟩ : ∃ oS, oS = oddM ss S := ⟨_, rfl⟩
            have HOS := HOD.out S (by omega)
            rw [← hoS] at HOS
            have HOS := Lib.hid HOS
            obtain ⟨eb, heb⟩ : ∃ eb : Bool, eb = enoughB ss S := ⟨_, rfl⟩
            have hq : ((oS : Int) == (O : Int)) = eb := by
              rw [heb, hoS, HO.out]
              unfold enoughB
              rw [Bool.eq_iff_iff, beq_iff_eq, beq_iff_eq]; omega
            have HEB := Lib.hid heb
            have hpow := HP.out
            have hS2 : S < 2 ^ ss.length := by omega
            have hsm : sm ss.length (leftK P S) < 40 := by
              have h1 : sm ss.length (leftK P S) ≤ sm ss.length (fun _ => 2) := sm_le _ fun j hj => by rw [HKV.out j hj]; split <;> omega
              have h2 : ∀ m, sm m (fun _ => 2) = 2 * m := fun m => by
                induction m with
                | zero => rfl
                | succ m ih => rw [sm_succ, ih]; omega
              rw [h2] at h1
              omega
            have HGE : Hid ((goG ss 40 0 (leftK P S)).isSome = eb) := Lib.hid (by
              rw [heb]
              have h := goes_enough (fuel := 40) HCHK.out hS2 (by rw [← HPE.out]; exact hsm)
              rwa [← HPE.out] at h)
            have HTW : Hid (twE n ss (listM S) = if eb = true then 0 else 14) := Lib.hid (by
              have h64 : 2 ^ ss.length ≤ 64 := by omega
              have ha := Sd.list_asc ⟨ss.length, by omega⟩ ⟨S, by omega⟩ hS2
              dsimp only at ha
              unfold twE
              rw [HCHK.out, if_neg (by decide), ha, if_neg (by decide), Sd.setM_list ⟨S, by omega⟩, ← heb])
            have HSM2 := Lib.hid hsm
            clear heb hoS hpow hsm
            refine region_fut (by kernel_rfl) (by kernel_rfl) ?_
            repeat (go_big_quiet_step (first
              | (go_at_call 9; exact after_of (HEV.out _))
              | (go_at_call 8; rename_i p; (with_reducible exact after_of (HOS.out _ (HRW.out.trans p.F))))
              | (go_at_call 8; rename_i p; (with_reducible exact after_of (HOM.out _ (HRW.out.trans p.F))))))
            refine wpQuiet_nil ?_
            intro w6 hw'
            have F6 : Fut wr w6 := after_fut hw'
            clear hw' m0 m1
            have hgl : g ≤ wr.heap.size := Nat.le_of_lt (HOW.out.lt g rfl).2
            have HF6 := Lib.hid (HRW.out.trans F6)
            have HO6 := Lib.hid (HOW.out.fut F6)
            have h2t := HTO.out 2
            have he2 := HE2.out w6 HF6.out
            obtain ⟨ev, hev⟩ := Int.eq_ofNat_of_zero_le h2t.1
            rw [hev] at he2
            have hev5 : (ev : Int) ≤ 255 := by omega
            have hPK : ∀ j, j < ss.length → leftK P S j ≤ 2 := fun j hj => by rw [HKV.out j hj]; split <;> omega
            have HCALL : Hid (Calls Tryd.prog 23 #[.int .i64 0, .slice (some ⟨g, 0, none⟩) ss.length ss.length, .pointer (some ⟨B, 0, none⟩), .pointer (some ⟨G, 0, none⟩)] w6 fun e w' => e = .returned (.bool eb) ∧ RowKit.Below g w6 w') := Lib.hid ((goesC (c := n) HMEM.out (by omega) (by omega) l lc B G g w6 (fun W F => HALL.out W (HF6.out.trans' F hw3)) 40 0 (leftK P S) w6 (RowKit.Below.refl g w6) HO6.out (by omega) hPK HSM2.out).mono fun e w' h => ⟨by rw [h.1, HGE.out], h.2.1⟩)
            obtain ⟨_, ⟨hb, b0, b1⟩, hGc⟩ := HALL.out w6 HF6.out
            have hee : (eb != eb) = false := by cases eb <;> rfl
            clear h2t hev F6 hPK HO6 HOW HB2 HGE HOS hgl
            go_upto_region 17 with fail
            go_cut [84] from 71 to 83 (fun s84 wx => s84 = .bool false ∧ Hid (Fut w3 wx))
            case first =>
              cases hm : ((S : Int) % 3 == (ev : Int) % 3)
              · go_wp2_with fail
                go_meet
                exact ⟨rfl, HF6⟩
              · go_wp2_with (go_at_call 23; (with_reducible refine HCALL.out.mono ?_); rintro _ w7 ⟨rfl, F7⟩)
                go_meet
                exact ⟨rfl, Lib.hid (HF6.out.trans' F7 hw3)⟩
            case rest =>
              obtain ⟨rfl, HFR⟩ := hcut
              clear hb b0 b1 hGc he2 HCALL hq hee
              have HES : Hid (∀ (d : Option Addr) (dap : Nat) W, Fut w3 W → IntsAt W d (listM S) → Calls Tryd.prog 25 #[mapV n l ss.length lc, .slice d (listM S).length dap] W (PostC (if eb = true then 0 else 14) W)) := Lib.hid (fun d dap W F hI => by
                have h := HEN.out d dap (listM S) W F hI (Nat.le_trans (list_le S) (by decide))
                rwa [HTW.out] at h)
              have HMS := Lib.hid (HMB.out S (by omega))
              generalize listM S = LS at *
              have HFD2 : Hid (Fut w3 wc.drew) := Lib.hid (HFR.out.trans (Fut.drewN wc 1))
              obtain ⟨_, ⟨hb, b0, b1⟩, _⟩ := HALL.out wc HFR.out
              clear HTW HEB HKV HSM2
              cases eb <;> simp only [Bool.false_eq_true, if_false, if_true] at HES
              all_goals
                go_upto_region 22 with fail
                go_cut [91] from 86 to 90 (fun s91 wx => s91 = .bool false ∧ Hid (Fut w3 wx))
                case first =>
                  go_region_held3 (fun w' => w'.cell? ⟨B, 0, none⟩ = some (.int .i64 n) ∧ w'.cell? ⟨B, 1, none⟩ = some (.slice l ss.length lc)) (first | exact ⟨c0, c1⟩ | exact ⟨a0, a1⟩ | exact ⟨by assumption, by assumption⟩ | go_keep) (first
                    | (go_at_call 10; (with_reducible refine (HMS.out _ HFD2.out).mono ?_); rintro _ wa ⟨va, vc, rfl, Ia, Fa⟩; have HFa := Lib.hid (HFD2.out.trans Fa); obtain ⟨_, ⟨_, a0, a1⟩, _⟩ := HALL.out wa HFa.out)
                    | (go_at_call 25; (with_reducible refine (HES.out _ _ _ HFa.out Ia).mono ?_); rintro _ wb ⟨rfl, Fb⟩; have HFb := Lib.hid (HFa.out.trans Fb); obtain ⟨_, ⟨_, c0, c1⟩, _⟩ := HALL.out wb HFb.out))
                  all_goals
                    go_wp2_with fail
                    go_meet
                    exact ⟨rfl, HFb⟩
                case rest =>
                  obtain ⟨rfl, HFZ⟩ := hcut
                  clear hb b0 b1
                  go_wp2_with fail
                  go_roundw
                  case rel => first | exact ⟨S + 1, by omega, by go_num, HFZ⟩ | ((repeat apply Exists.intro); refine ⟨⟨S + 1, by omega, ?_, HFZ⟩, rfl⟩; go_num)
                  case measure => simp [intOf]; omega
      · have hge : ¬ (S : Int) < (P : Int) + 1 := by omega
        have HEZ : Hid (Calls Tryd.prog 25 #[mapV n l ss.length lc, .slice none 0 0] wr (PostC (if O = 0 then 0 else 14) wr)) := Lib.hid (by
          have h := HEN.out none 0 [] wr HR.out (nil_ints _ _) (by decide)
          have e : twE n ss [] = if O = 0 then 0 else 14 := by
            unfold twE
            rw [HCHK.out, if_neg (by decide), if_neg (show ¬ ascE ss.length [] (-1) ≠ 0 from fun h => h rfl)]
            have e2 : enoughB ss (setM []) = decide (O = 0) := by
              show enoughB ss 0 = _
              unfold enoughB
              rw [oddM_zero, ← HO.out, Bool.eq_iff_iff, beq_iff_eq, decide_eq_true_iff]
              exact eq_comm
            rw [e2]
            by_cases h0 : O = 0
            · rw [decide_eq_true h0, if_pos rfl, if_pos h0]
            · rw [decide_eq_false h0, if_neg (by decide), if_neg h0]
          rw [e] at h
          exact h)
        by_cases hO0 : O = 0
        · rw [if_pos hO0] at HEZ
          have hz : (((listM O).length : Int) == 0) = true := by rw [beq_iff_eq]; have := HOZ.out.2 hO0; omega
          clear hO0
          generalize listM O = LO at *
          go_wp2_with (first
            | (go_at_call 25; (with_reducible refine HEZ.out.mono ?_); rintro _ w7 ⟨rfl, F7⟩)
            | (go_at_call 22; (with_reducible refine (works_any _).mono ?_); rintro _ w8 ⟨rfl, F8⟩))
          go_ret
          exact ⟨rfl, HFW.out.trans (HR.out.trans (F7.trans F8))⟩
        · rw [if_neg hO0] at HEZ
          have hz : (((listM O).length : Int) == 0) = false := by rw [beq_eq_false_iff_ne]; intro h; exact hO0 (HOZ.out.1 (by omega))
          clear hO0
          generalize listM O = LO at *
          go_wp2_with (first
            | (go_at_call 25; (with_reducible refine HEZ.out.mono ?_); rintro _ w7 ⟨rfl, F7⟩)
            | (go_at_call 22; (with_reducible refine (works_any _).mono ?_); rintro _ w8 ⟨rfl, F8⟩))
          go_ret
          exact ⟨rfl, HFW.out.trans (HR.out.trans (F7.trans F8))⟩
end En
end Go.Proofs.YtimddkofcejijaaDoor
