/- Layer 2: the reference's Round. -/
import Derived.Test.YtimddkofcejijaaEC
namespace Go.Proofs.Ytimddkofcejijaa
open Go.RowKit Go.Sort
theorem kL_next (K : Nat → Nat) (k : Nat) : kL K (k + 1) = kL K k ++ [(K k : Int)] := by
  unfold kL; rw [List.range_succ, List.map_append]; rfl
theorem sm_two {K : Nat → Nat} : ∀ m, (∀ i, i < m → K i ≤ 2) → sm m K ≤ 2 * m
  | 0, _ => Nat.le_refl _
  | m + 1, h => by
    rw [sm_succ]
    have := sm_two m (fun i hi => h i (by omega))
    have := h m (by omega)
    omega
set_option maxRecDepth 100000 in
set_option maxHeartbeats 4000000 in
/-- the reference's Round. -/
theorem roundR_any (c : Int) (a : Option Addr) (cap : Nat) (ss : List (Int × Int)) (d : Option Addr) (dap : Nat) (zs : List Int) (w : World) (hS : StrAt w a ss) (hZ : IntsAt w d zs) (hlz : zs.length ≤ 1000) :
    Calls Try.prog 27 #[mapV c a ss.length cap, .slice d zs.length dap] w (TupL (twE c ss zs) (roundL c ss zs) w) := by
  have HE := Lib.hid (fun W (F : Fut w W) => enoughR_any c a cap ss d dap zs W (hS.fut F) (hZ.fut F) hlz)
  by_cases ht : twE c ss zs = 0
  · obtain ⟨hchk, ha, hen⟩ := tw_good ht
    rw [ht] at HE ⊢
    obtain ⟨hc1, hc6, hl, _, hp, _⟩ := chk_good hchk
    obtain ⟨n, rfl⟩ := Int.eq_ofNat_of_zero_le (show 0 ≤ c by omega)
    have hrl : roundL n ss zs = roundM ss n (setM zs) := by unfold roundL; rw [if_pos ht]; simp
    have hSlt : setM zs < 2 ^ ss.length := by
      rcases Nat.lt_or_ge (setM zs) (2 ^ ss.length) with h | h
      · exact h
      · exfalso
        obtain ⟨j, hj, hb⟩ := Nat.exists_ge_and_testBit_of_ge_two_pow h
        rw [setM_bit ha, List.contains_iff_mem] at hb
        have := asc_nonneg ha _ hb
        omega
    have hK2 : ∀ i, i < ss.length → leftK (2 ^ ss.length - 1) (setM zs) i ≤ 2 := fun i _ => by unfold leftK; split <;> split <;> omega
    have hsm := sm_two ss.length hK2
    obtain ⟨r, hr1, hr2⟩ := round_first (fuel := sm ss.length (leftK (2 ^ ss.length - 1) (setM zs)) + 1) hchk hSlt hen (by omega)
    have HGO := Lib.hid (fun W (la : Option Addr) (lc : Nat) (F : Fut w W) (hL : IntsAt W la (kL (leftK (2 ^ ss.length - 1) (setM zs)) ss.length)) => goes_any (ss := ss) (c := n) hp hl (by omega) a cap (sm ss.length (leftK (2 ^ ss.length - 1) (setM zs)) + 1) 0 (leftK (2 ^ ss.length - 1) (setM zs)) [] none 0 la lc W (hS.fut F) (by omega) hK2 (by omega) (by simp; omega) (Or.inl ⟨rfl, rfl, rfl⟩) (nil_ints _ _) hL)
    have hgg : goG ss (sm ss.length (leftK (2 ^ ss.length - 1) (setM zs)) + 1) 0 (leftK (2 ^ ss.length - 1) (setM zs)) = some r := hr1
    rw [hgg] at HGO
    rw [hrl, hr2]
    have HKV : Hid (∀ k, k < ss.length → leftK (2 ^ ss.length - 1) (setM zs) k = if zs.contains (k : Int) then 2 else 1) := Lib.hid (fun k hk => by
      unfold leftK
      rw [Nat.testBit_two_pow_sub_one, decide_eq_true hk, if_pos rfl, setM_bit ha]
      split <;> rfl)
    have HH := Lib.hid (fun (k : Nat) W (F : Fut w W) => hasR_any d dap zs (k : Int) W (hZ.fut F) hlz)
    have HS := Lib.hid hS
    have hlx : (ss.length : Int) ≤ 9 := by omega
    obtain ⟨i0, hi0, hz0, hz1, hz2⟩ := info_parts info3
    clear hS hZ hchk ha hen hp hrl hSlt hK2 hsm hr1 hr2 hgg ht
    generalize leftK (2 ^ ss.length - 1) (setM zs) = K at *
    go_enter Try.func27, Try.ntmps27
    go_wp2_with fail
    have hB := BoxM.new w n a ss.length cap 28
    have hF : Fut w (w.alloc (.cells #[.int .i64 n, .slice a ss.length cap] 28)) := Fut.alloc _ _
    generalize w.alloc (.cells #[.int .i64 n, .slice a ss.length cap] 28) = W1 at *
    generalize w.heap.size = B at *
    have HB := Lib.hid hB
    have HF := Lib.hid hF
    clear hB hF
    refine (HE.out _ HF.out).mono ?_
    rintro _ w2 ⟨rfl, F2⟩
    have HF2 := Lib.hid (HF.out.trans F2)
    have HB2 := Lib.hid (HB.out.fut F2)
    clear F2
    go_wp2_with fail
    go_loopw [7, 8] (fun lv iv wx => ∃ (k : Nat), k ≤ ss.length ∧ iv = .int .i64 k ∧ Hid (Owns wx w2.heap.size lv (kL K k)) ∧ Hid (Fut w2 wx)) (fun _ iv _ => ss.length - (intOf iv).toNat)
    case atStart => exact ⟨0, Nat.zero_le _, rfl, Lib.hid (Owns.nil _ _), Lib.hid Fut.rfl⟩
    case round =>
      obtain ⟨k, hk, rfl, HO, HR⟩ := hrel
      obtain ⟨hb, b0, b1⟩ := HB2.out.fut HR.out
      by_cases hlt : k < ss.length
      · have hkx : (k : Int) < ss.length := by omega
        have HKK := HKV.out k hlt
        have HN := Lib.hid (kL_next K k)
        have hkl : (kL K k).length ≤ 9 := by rw [kL_len]; omega
        have HHK := Lib.hid (HH.out k wr (HF2.out.trans HR.out))
        generalize kL K k = pk at *
        generalize hpn : kL K (k + 1) = pn at *
        have HPN := Lib.hid hpn
        clear hpn
        cases hcz : zs.contains (k : Int)
        · rw [hcz] at HHK HKK
          have hk1 : K k = 1 := by simpa using HKK
          rw [hk1] at HN
          clear HKK hk1 hcz
          go_wp2_with (first
            | (go_at_call 62; refine HHK.out.mono ?_; rintro _ _ ⟨rfl, rfl⟩)
            | (at_builtin; refine wpList_append_own _ rfl _ _ 25 rfl w2.heap.size 3 i0 (.int .i64 0) 1 8 Try.underlying25 hi0 hz0 hz1 hz2 rfl (by decide) _ _ _ rfl (HO.out.alloc _) ⟨wr.heap.size, 0, none⟩ 1 1 [.int .i64 1] rfl rfl (cell_one (by simp [go_sem])) (by simp [Value.oneCell']) (by unfold maxLen; omega) (by omega) (by have := RowKit.Below.size HR.out; simp; omega) ?_))
          intro v' w7 hown' hgrow _
          have HO7 : Hid (Owns w7 w2.heap.size v' pn) := Lib.hid (by rw [HN.out]; unfold Owns; simpa using hown')
          have HF7 : Hid (Fut w2 w7) := Lib.hid ((HR.out.trans (Fut.alloc _ _)).grown' hgrow HO.out (Nat.le_refl _))
          clear hown' hgrow
          go_wp2
          go_roundw
          case rel => exact ⟨k + 1, by omega, by go_num, by rw [HPN.out]; exact HO7, HF7⟩
          case measure => simp [intOf]; omega
        · rw [hcz] at HHK HKK
          have hk1 : K k = 2 := by simpa using HKK
          rw [hk1] at HN
          clear HKK hk1 hcz
          go_wp2_with (first
            | (go_at_call 62; refine HHK.out.mono ?_; rintro _ _ ⟨rfl, rfl⟩)
            | (at_builtin; refine wpList_append_own _ rfl _ _ 25 rfl w2.heap.size 3 i0 (.int .i64 0) 1 8 Try.underlying25 hi0 hz0 hz1 hz2 rfl (by decide) _ _ _ rfl (HO.out.alloc _) ⟨wr.heap.size, 0, none⟩ 1 1 [.int .i64 2] rfl rfl (cell_one (by simp [go_sem])) (by simp [Value.oneCell']) (by unfold maxLen; omega) (by omega) (by have := RowKit.Below.size HR.out; simp; omega) ?_))
          intro v' w7 hown' hgrow _
          have HO7 : Hid (Owns w7 w2.heap.size v' pn) := Lib.hid (by rw [HN.out]; unfold Owns; simpa using hown')
          have HF7 : Hid (Fut w2 w7) := Lib.hid ((HR.out.trans (Fut.alloc _ _)).grown' hgrow HO.out (Nat.le_refl _))
          clear hown' hgrow
          go_wp2
          go_roundw
          case rel => exact ⟨k + 1, by omega, by go_num, by rw [HPN.out]; exact HO7, HF7⟩
          case measure => simp [intOf]; omega
      · obtain rfl : k = ss.length := by omega
        obtain ⟨lv, lc, rfl, hLI⟩ := HO.out.ints
        have hcall := HGO.out wr lv lc (HF2.out.trans HR.out) hLI
        rw [kL_len]
        have HCALL := Lib.hid hcall
        clear hcall hLI
        go_wp2_with fail
        refine HCALL.out.mono ?_
        rintro _ w8 ⟨F8, rl, rlc, hr1, hr2⟩
        obtain ⟨rfl, hrI⟩ := hr1 r rfl
        have HRI := Lib.hid hrI
        have HF8 := Lib.hid ((HF2.out.trans HR.out).trans F8)
        clear hr1 hr2 hrI F8 hb b0 b1
        go_wp2
        go_ret2
        refine ⟨rl, rlc, ?_, ?_, HF8.out⟩
        · simp
        · simpa using HRI.out
  · have hrl : roundL c ss zs = [] := by unfold roundL; rw [if_neg ht]
    rw [hrl]
    have hne : (twE c ss zs != 0) = true := bne_iff_ne.2 ht
    clear ht hrl
    generalize twE c ss zs = r at *
    go_enter Try.func27, Try.ntmps27
    go_wp2_with fail
    have hF : Fut w (w.alloc (.cells #[.int .i64 c, .slice a ss.length cap] 28)) := Fut.alloc _ _
    generalize w.alloc (.cells #[.int .i64 c, .slice a ss.length cap] 28) = W1 at *
    generalize w.heap.size = B at *
    have HF := Lib.hid hF
    clear hF
    refine (HE.out _ HF.out).mono ?_
    rintro _ w2 ⟨rfl, F2⟩
    have HF2 := Lib.hid (HF.out.trans F2)
    clear F2
    go_wp2
    go_ret2
    exact ⟨none, 0, rfl, nil_ints _ _, HF2.out⟩
end Go.Proofs.Ytimddkofcejijaa
