/- slices.Equal at numbers (53): equal_any -/
import Derived.Test.YtpgifeaejjjjnaaFF
namespace Go.Proofs.Ytpgifeaejjjjnaa
open Go.RowKit Go.Sort
set_option maxRecDepth 100000 in
set_option maxHeartbeats 1000000 in
/-- slices.Equal at numbers. -/
theorem equal_any (a c : Option Addr) (cap dap : Nat) (xs ys : List Int) (w : World) (hx : xs.length ≤ 1000) (hA : IntsAt w a xs) (hC : IntsAt w c ys) :
    Calls Try.prog 53 #[.slice a xs.length cap, .slice c ys.length dap] w fun e w' => e = .returned (.bool (decide (xs = ys))) ∧ Fut w w' := by
  obtain ⟨r, hr⟩ : ∃ r, r = decide (xs = ys) := ⟨_, rfl⟩
  rw [← hr]
  have HR := Lib.hid hr
  have HA := Lib.hid hA
  have HC := Lib.hid hC
  have hxx : (xs.length : Int) ≤ 1000 := by omega
  clear hr hA hC
  go_enter Try.func53, Try.ntmps53
  by_cases hl : xs.length = ys.length
  · have hlx : ¬ ((xs.length : Int) ≠ (ys.length : Int)) := by omega
    have hlx2 : (xs.length : Int) = ys.length := by omega
    go_wp2_with fail
    go_loopw [13] (fun iv wr => ∃ k : Nat, k ≤ xs.length ∧ iv = .int .i64 k ∧ Hid (∀ j, j < k → nth xs j = nth ys j) ∧ Hid (Fut w wr)) (fun iv _ => xs.length - (intOf iv).toNat)
    case atStart => exact ⟨0, Nat.zero_le _, rfl, Lib.hid (fun j hj => absurd hj (Nat.not_lt_zero j)), Lib.hid Fut.rfl⟩
    case round =>
      obtain ⟨k, hk, rfl, HEQ, HFX⟩ := hrel
      by_cases hkl : k < xs.length
      · have hkx : (k : Int) < xs.length := by omega
        have hky : (k : Int) < ys.length := by omega
        obtain ⟨b1, o1, rfl, _, c1⟩ := (HA.out.fut HFX.out) k hkl
        obtain ⟨b2, o2, rfl, _, c2⟩ := (HC.out.fut HFX.out) k (by omega)
        have d1 : ∀ p : After wr, p.w'.cell? ⟨b1, o1 + k, none⟩ = some (.int .i64 (nth xs k)) := fun p => (RowKit.Below.cell p.F (p := ⟨b1, o1 + k, none⟩) (World.block_lt_of_cell? _ _ c1)).trans c1
        have d2 : ∀ p : After wr, p.w'.cell? ⟨b2, o2 + k, none⟩ = some (.int .i64 (nth ys k)) := fun p => (RowKit.Below.cell p.F (p := ⟨b2, o2 + k, none⟩) (World.block_lt_of_cell? _ _ c2)).trans c2
        have HLL := Lib.hid hl
        clear c1 c2
        by_cases he : nth xs k = nth ys k
        · have HE : Hid (∀ j, j < k + 1 → nth xs j = nth ys j) := Lib.hid (fun j hj => by
            by_cases e : j = k
            · subst e; exact he
            · exact HEQ.out j (by omega))
          have hne : (nth xs k != nth ys k) = false := by simpa using he
          rw [he] at d1
          clear he hne
          generalize nth ys k = y at *
          go_wp2_with fail
          refine region_fut (by kernel_rfl) (by kernel_rfl) ?_
          repeat (go_big_quiet_step (fail))
          refine wpQuiet_nil ?_
          intro w10 hw'
          have HF10 := Lib.hid (HFX.out.trans (after_fut hw'))
          clear hw' d1 d2
          go_wp2
          go_roundw
          case rel => exact ⟨k + 1, by omega, by go_num, HE, HF10⟩
          case measure => simp [intOf]; omega
        · have HE : Hid (r = false) := Lib.hid (by
            rw [HR.out, decide_eq_false_iff_not]
            exact fun q => he (by rw [q]))
          have hne : (nth xs k != nth ys k) = true := by simpa using he
          generalize nth xs k = x at *
          generalize nth ys k = y at *
          go_wp2_with fail
          refine region_fut (by kernel_rfl) (by kernel_rfl) ?_
          repeat (go_big_quiet_step (fail))
          refine wpQuiet_nil ?_
          intro w10 hw'
          have HF10 := Lib.hid (HFX.out.trans (after_fut hw'))
          clear hw' d1 d2
          go_wp2
          go_ret
          exact ⟨ret_bool HE.out.symm, HF10.out⟩
      · obtain rfl : k = xs.length := by omega
        have HE : Hid (r = true) := Lib.hid (by
          rw [HR.out, decide_eq_true_iff]
          exact nth_same hl fun j hj => HEQ.out j hj)
        go_wp2
        go_ret
        exact ⟨ret_bool HE.out.symm, HFX.out⟩
  · have hlx : ¬ ((xs.length : Int) = (ys.length : Int)) := by omega
    have HE : Hid (r = false) := Lib.hid (by
      rw [HR.out, decide_eq_false_iff_not]
      exact fun q => hl (by rw [q]))
    go_wp2
    go_ret
    exact ⟨ret_bool HE.out.symm, Fut.rfl⟩
end Go.Proofs.Ytpgifeaejjjjnaa
