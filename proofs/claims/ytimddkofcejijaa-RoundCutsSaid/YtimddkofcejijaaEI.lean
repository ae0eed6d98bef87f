/- Layer 2: the reference's Even. -/
import Derived.Test.YtimddkofcejijaaEH
import Derived.Test.YtimddkofcejijaaSV
namespace Go.Proofs.Ytimddkofcejijaa
open Go.RowKit Go.Sort
theorem preM_full {X m : Nat} (h : ∀ i, m ≤ i → X.testBit i = false) : (preM X m).length = m ↔ X = 2 ^ m - 1 := by
  unfold preM
  rw [List.length_map]
  constructor
  · intro he
    have hall : ∀ i, i < m → X.testBit i = true := fun i hi => by
      have h2 : (List.range m).filter (fun i => X.testBit i) = List.range m := List.Sublist.eq_of_length List.filter_sublist (by rw [he, List.length_range])
      have := List.mem_range.2 hi
      rw [← h2] at this
      exact (List.mem_filter.1 this).2
    refine Nat.eq_of_testBit_eq fun i => ?_
    rw [Nat.testBit_two_pow_sub_one]
    rcases Nat.lt_or_ge i m with hi | hi
    · rw [hall i hi, decide_eq_true hi]
    · rw [h i hi, decide_eq_false (by omega)]
  · rintro rfl
    have : (List.range m).filter (fun i => (2 ^ m - 1).testBit i) = List.range m := List.filter_eq_self.2 fun i hi => by
      rw [Nat.testBit_two_pow_sub_one, decide_eq_true (List.mem_range.1 hi)]
    rw [this, List.length_range]
theorem cut_whole {ss : List (Int × Int)} {c : Nat} (hg : GoodS ss c) (hc : c ≤ 6) : cutM ss (2 ^ c - 1) = 0 := Nat.eq_of_testBit_eq fun k => by
  rw [Nat.zero_testBit]
  rcases Nat.lt_or_ge k ss.length with hk | hk
  · have hm := hg _ (str_mem ss k hk)
    rw [cutM_bit hk, par_street ⟨hm.1, hm.2.1, by omega⟩, Nat.testBit_two_pow_sub_one, Nat.testBit_two_pow_sub_one, decide_eq_true (by omega), decide_eq_true (by omega)]
    rfl
  · exact cutM_out hk
theorem even_lists {ss : List (Int × Int)} {c : Nat} (hg : GoodS ss c) (h1 : 1 ≤ c) (hc : c ≤ 6) : evenB c ss = true ↔ ∃ l ∈ allF c 0, cutM ss (setM l) = 2 ^ ss.length - 1 := by
  have h64 : 2 ^ c ≤ 64 := Nat.le_trans (Nat.pow_le_pow_right (by decide) hc) (by decide)
  have h2 : 2 ≤ 2 ^ c := by
    have := Nat.pow_le_pow_right (show 0 < 2 by decide) h1
    simpa using this
  unfold evenB
  rw [List.any_eq_true, Int.toNat_natCast]
  constructor
  · rintro ⟨s, hs, h⟩
    have hs := List.mem_range.1 hs
    refine ⟨listM s, (allF_zero c (by omega)).mem_iff.2 (List.mem_map.2 ⟨s, List.mem_range.2 (by omega), rfl⟩), ?_⟩
    rw [setM_list (by omega)]
    simpa using h
  · rintro ⟨l, hl, h⟩
    rw [(allF_zero c (by omega)).mem_iff, List.mem_map] at hl
    obtain ⟨s, hs, rfl⟩ := hl
    have hs := List.mem_range.1 hs
    rw [setM_list (by omega)] at h
    by_cases e : s = 2 ^ c - 1
    · subst e
      rw [cut_whole hg hc] at h
      have hl0 : ss = [] := by
        cases ss with
        | nil => rfl
        | cons p t =>
          have := Nat.pow_le_pow_right (show 0 < 2 by decide) (show 1 ≤ (p :: t).length by simp)
          omega
      subst hl0
      exact ⟨0, List.mem_range.2 (by omega), by decide⟩
    · exact ⟨s, List.mem_range.2 (by omega), by simpa using h⟩
set_option maxRecDepth 100000 in
set_option maxHeartbeats 4000000 in
/-- the reference's Even. -/
theorem evenRf_any (c : Int) (a : Option Addr) (cap : Nat) (ss : List (Int × Int)) (w : World) (hS : StrAt w a ss) :
    Calls Try.prog 35 #[mapV c a ss.length cap] w fun e w' => e = .returned (.tuple #[.bool (evenR c ss), .int .i64 (chkM c ss)]) ∧ Fut w w' := by
  have HC := Lib.hid (fun W (F : Fut w W) => checkR_any c a cap ss W (hS.fut F))
  by_cases h : chkM c ss = 0
  · obtain ⟨hc1, hc6, hl, _, hp, _⟩ := chk_good h
    obtain ⟨n, rfl⟩ := Int.eq_ofNat_of_zero_le (show 0 ≤ c by omega)
    have hev : evenR n ss = evenB n ss := by unfold evenR; rw [h]; simp
    rw [hev]
    rw [h] at HC ⊢
    have HEL := Lib.hid (even_lists (ss := ss) (c := n) hp (by omega) (by omega))
    have HLI := Lib.hid (fun W => lists_own n n 0 none 0 [] W (by omega) (by omega) (by simp) (Or.inl ⟨rfl, rfl, rfl, rfl⟩) (Owns.nil W 0))
    have hid : (allF n 0).map ([] ++ ·) = allF n 0 := List.map_id' _
    rw [hid] at HLI
    have HIN := Lib.hid (fun (j : Nat) (hj : j < (allF n 0).length) => allF_in (by omega) (lth_mem hj))
    have HCU := Lib.hid (fun (l : Option Addr) (lc : Nat) (zs : List Int) W (F : Fut w W) (hI : IntsAt W l zs) (h16 : zs.length ≤ 16) (h0 : ∀ z ∈ zs, 0 ≤ z) => cutRx_any n a cap ss l lc zs (setM zs) W (hS.fut F) hI (by omega) hl (by omega) hp (fun i _ => by unfold setM; rw [setL_bit _ 0 i h0, Nat.zero_testBit, Bool.false_or]))
    have HFU := Lib.hid (fun (S : Nat) => preM_full (X := cutM ss S) (m := ss.length) (fun i hi => cutM_out hi))
    have hal : (allF n 0).length ≤ 64 := by
      rw [allF_len]
      exact Nat.le_trans (Nat.pow_le_pow_right (by decide) (show n ≤ 6 by omega)) (by decide)
    have hpos : 0 < (allF n 0).length := by rw [allF_len]; exact Nat.two_pow_pos _
    have hlx : (ss.length : Int) ≤ 9 := by omega
    clear h hev hid hp hS
    generalize allF n 0 = L at *
    generalize evenB n ss = EV at *
    go_enter Try.func35, Try.ntmps35
    go_wp2_with fail
    have hB := BoxM.new w n a ss.length cap 28
    have hF : Fut w (w.alloc (.cells #[.int .i64 n, .slice a ss.length cap] 28)) := Fut.alloc _ _
    generalize w.alloc (.cells #[.int .i64 n, .slice a ss.length cap] 28) = W1 at *
    generalize w.heap.size = B at *
    have HB := Lib.hid hB
    have HF := Lib.hid hF
    clear hB hF
    refine (HC.out _ HF.out).mono ?_
    rintro _ w1 ⟨rfl, F1⟩
    have HF1 := Lib.hid (HF.out.trans F1)
    have HB1 := Lib.hid (HB.out.fut F1)
    obtain ⟨hb, b0, b1⟩ := HB1.out
    clear F1
    go_wp2_with fail
    refine (HLI.out _).mono ?_
    rintro _ w2 ⟨v2, rfl, hX2, F2⟩
    have HX2 := Lib.hid hX2
    have HF2 := Lib.hid (HF1.out.trans F2)
    have HB2 := Lib.hid (HB1.out.fut F2)
    obtain ⟨g2, c2, _, _, rfl, _⟩ := hX2.at hpos
    clear hX2 F2 HLI HB hb b0 b1
    go_wp2_with fail
    go_loopw [6] (fun iv wx => ∃ (k : Nat), k ≤ L.length ∧ iv = .int .i64 k ∧ Hid (∀ j, j < k → cutM ss (setM (lth L j)) ≠ 2 ^ ss.length - 1) ∧ Hid (Fut w2 wx)) (fun iv _ => L.length - (intOf iv).toNat)
    case atStart => exact ⟨0, Nat.zero_le _, rfl, Lib.hid (fun j hj => absurd hj (by omega)), Lib.hid Fut.rfl⟩
    case round =>
      obtain ⟨k, hk, rfl, HNO, HR⟩ := hrel
      obtain ⟨hb, b0, b1⟩ := HB2.out.fut HR.out
      by_cases hlt : k < L.length
      · have hkx : (k : Int) < L.length := by omega
        obtain ⟨g', c', l, lc, e, hg, hcell, hOl⟩ := (HX2.out.fut HR.out).at hlt
        simp only [Value.slice.injEq, Option.some.injEq, Addr.mk.injEq, and_true] at e
        obtain ⟨rfl, _, rfl⟩ := e
        have h1 := HIN.out k hlt
        obtain ⟨l', lc', e, hI⟩ := hOl.ints
        simp only [Value.slice.injEq] at e
        obtain ⟨rfl, _, rfl⟩ := e
        have HCC := Lib.hid (fun W (F : Fut wr W) => HCU.out l lc (lth L k) W ((HF2.out.trans HR.out).trans F) (hI.fut F) h1.2 h1.1)
        have HFK := Lib.hid (HFU.out (setM (lth L k)))
        have HMK := Lib.hid (lth_mem hlt)
        have hzl := h1.2
        have hpl := preM_len (cutM ss (setM (lth L k))) ss.length
        have HNX : Hid (cutM ss (setM (lth L k)) ≠ 2 ^ ss.length - 1 → ∀ j, j < k + 1 → cutM ss (setM (lth L j)) ≠ 2 ^ ss.length - 1) := Lib.hid (fun hne j hj => by
          rcases Nat.lt_or_ge j k with h | h
          · exact HNO.out j h
          · obtain rfl : j = k := by omega
            exact hne)
        clear hOl hI h1
        generalize preM (cutM ss (setM (lth L k))) ss.length = PM at *
        generalize hzz : lth L k = zs at *
        clear hzz
        go_upto_region 8 with fail
        have HCW : Hid (∀ W, Fut wr W → Calls Try.prog 77 #[mapV n a ss.length cap, .slice l zs.length lc] W fun e w' => ∃ va vc, e = .returned (.slice va PM.length vc) ∧ Fut wr w' ∧ w'.cell? ⟨B, 0, none⟩ = some (.int .i64 n) ∧ w'.cell? ⟨B, 1, none⟩ = some (.slice a ss.length cap) ∧ w'.cell? ⟨g2, k, none⟩ = some (.slice l zs.length lc)) := Lib.hid (fun W F => (HCC.out W F).mono fun e w' (h : ∃ v, e = .returned v ∧ Owns w' W.heap.size v PM ∧ Fut W w') => by
          obtain ⟨v, h1, h2, h3⟩ := h
          obtain ⟨va, vc, rfl, _⟩ := h2.ints
          have hF := F.trans h3
          obtain ⟨_, d0, d1⟩ := HB2.out.fut (HR.out.trans hF)
          exact ⟨va, vc, h1, hF, d0, d1, (RowKit.Below.cell hF (p := ⟨g2, k, none⟩) hg).trans hcell⟩)
        have HFD : Hid (Fut wr wr.drew) := Lib.hid (Fut.drewN wr 1)
        clear HCC
        go_region_held3 (fun w' => w'.cell? ⟨B, 0, none⟩ = some (.int .i64 n) ∧ w'.cell? ⟨B, 1, none⟩ = some (.slice a ss.length cap) ∧ w'.cell? ⟨g2, k, none⟩ = some (.slice l zs.length lc)) (first | exact ⟨a0, a1, a2⟩ | exact ⟨by assumption, by assumption, by assumption⟩ | go_keep)
          (first
            | (go_at_call 77; (with_reducible refine (HCW.out _ HFD.out).mono ?_); rintro _ wa ⟨va, vc, rfl, Fa, a0, a1, a2⟩))
        all_goals
          have HRA := Lib.hid (HR.out.trans Fa)
          have HWA := Lib.hid ((HF2.out.trans HR.out).trans Fa)
          clear hb b0 b1 hcell hg HCW Fa a0 a1 a2
          by_cases hP : PM.length = ss.length
          · have hPx : ((PM.length : Int) == ss.length) = true := by rw [hP]; simp
            have hEV : EV = true := HEL.out.2 ⟨zs, HMK.out, HFK.out.1 hP⟩
            subst hEV
            clear hP HFK HEL HNX HNO HMK
            go_wp2
            go_ret2
            exact ⟨rfl, HWA.out⟩
          · have hPx : ((PM.length : Int) == ss.length) = false := by rw [beq_eq_false_iff_ne]; omega
            have HN2 := Lib.hid (HNX.out (fun h => hP (HFK.out.2 h)))
            clear hP HFK HNX HNO HMK
            go_wp2
            go_roundw
            case rel => exact ⟨k + 1, by omega, by go_num, HN2, HRA⟩
            case measure => simp [intOf]; omega
      · obtain rfl : k = L.length := by omega
        have hEV : EV = false := by
          cases hE : EV with
          | false => rfl
          | true =>
            obtain ⟨l, hl, h⟩ := HEL.out.1 hE
            obtain ⟨j, hj, rfl⟩ := List.getElem_of_mem hl
            have e : lth L j = L[j] := by rw [lth_eq, List.getElem?_eq_getElem hj]; rfl
            exact absurd (by rw [e]; exact h) (HNO.out j hj)
        subst hEV
        have HEND := Lib.hid (HF2.out.trans HR.out)
        clear HNO HEL
        go_wp2
        go_ret2
        exact ⟨rfl, HEND.out⟩
  · have hev : evenR c ss = false := by unfold evenR; rw [decide_eq_false h]; rfl
    rw [hev]
    have hne : (chkM c ss != 0) = true := bne_iff_ne.2 h
    clear h hev
    generalize chkM c ss = r at *
    go_enter Try.func35, Try.ntmps35
    go_wp2_with fail
    have hF : Fut w (w.alloc (.cells #[.int .i64 c, .slice a ss.length cap] 28)) := Fut.alloc _ _
    generalize w.alloc (.cells #[.int .i64 c, .slice a ss.length cap] 28) = W1 at *
    generalize w.heap.size = B at *
    have HF := Lib.hid hF
    clear hF
    refine (HC.out _ HF.out).mono ?_
    rintro _ w2 ⟨rfl, F2⟩
    have HF2 := Lib.hid (HF.out.trans F2)
    clear F2
    go_wp2
    go_ret2
    exact ⟨rfl, HF2.out⟩
end Go.Proofs.Ytimddkofcejijaa
