/- Layer 2: the law's smaller and even; a count of bits. -/
import Derived.Test.YtimddkofcejijaaDoorDA
import Derived.Test.YtimddkofcejijaaDoorDJ
namespace Go.Proofs.YtimddkofcejijaaDoor
open Go.RowKit Go.Sort
set_option maxRecDepth 100000 in
set_option maxHeartbeats 4000000 in
theorem ones64_big (x : Nat) (w : World) (hx : x < 256) : Calls Tryd.prog 45 #[.int .u64 x] w fun e w' => e = .returned (.int .i64 (popI x)) ∧ w = w' := by
  go_enter Tryd.func45, Tryd.ntmps45
  go_wp2
  go_ret
  refine ⟨ret_int ?_, rfl⟩
  obtain ⟨y, rfl⟩ : ∃ y : Fin 256, y.val = x := ⟨⟨x, hx⟩, rfl⟩
  clear hx
  revert y
  decide +kernel
theorem ones_big (x : Nat) (w : World) (hx : x < 256) : Calls Tryd.prog 20 #[.int .u64 x] w fun e w' => e = .returned (.int .i64 (popI x)) ∧ w = w' := by
  have H := Lib.hid (ones64_big x w hx)
  go_enter Tryd.func20, Tryd.ntmps20
  go_wp2_with fail
  refine H.out.mono ?_
  rintro _ _ ⟨rfl, rfl⟩
  go_wp2
  go_ret
  exact ⟨rfl, rfl⟩
def smB (xs ys : List Int) (th : Bool) : Bool := !th || fewerB xs ys
set_option maxRecDepth 100000 in
theorem smaller_any (a c : Option Addr) (cap dap : Nat) (xs ys : List Int) (th : Bool) (w : World) (hl : xs.length ≤ 1000) (hl' : ys.length ≤ 1000) (hA : IntsAt w a xs) (hC : IntsAt w c ys) :
    Calls Tryd.prog 11 #[.slice a xs.length cap, .slice c ys.length dap, .bool th] w fun e w' => e = .returned (.bool (smB xs ys th)) ∧ w = w' := by
  have HK := Lib.hid (compareL_any a c cap dap xs ys w hl hl' hA hC)
  have hlx : (xs.length : Int) ≤ 1000 := by omega
  have hly : (ys.length : Int) ≤ 1000 := by omega
  clear hA hC
  cases th
  · have hb : smB xs ys false = true := rfl
    rw [hb]
    clear hb HK
    go_enter Tryd.func11, Tryd.ntmps11
    go_wp2
    all_goals
      go_ret
      exact ⟨retb (by simp), rfl⟩
  · by_cases he : xs.length = ys.length
    · have hb : Hid (smB xs ys true = decide (cmpL xs ys < 0)) := Lib.hid (by unfold smB fewerB; rw [if_pos he]; rfl)
      rw [hb.out]
      have he' : ((xs.length : Int) == ys.length) = true := by rw [he]; simp
      have he2 : ¬ ((xs.length : Int) < ys.length) := by omega
      clear hb he
      generalize cmpL xs ys = q at *
      go_enter Tryd.func11, Tryd.ntmps11
      go_wp2_with fail
      refine HK.out.mono ?_
      rintro _ _ ⟨rfl, rfl⟩
      go_wp2
      all_goals
        go_ret
        exact ⟨retb (by first | (simp; done) | (simp; omega)), rfl⟩
    · have hb : Hid (smB xs ys true = decide (xs.length < ys.length)) := Lib.hid (by unfold smB fewerB; rw [if_neg he]; rfl)
      rw [hb.out]
      have he' : ((xs.length : Int) == ys.length) = false := by rw [beq_eq_false_iff_ne]; omega
      clear hb HK
      by_cases hlt : xs.length < ys.length
      · have hx : ((xs.length : Int) < ys.length) := by omega
        go_enter Tryd.func11, Tryd.ntmps11
        go_wp2
        all_goals
          go_ret
          exact ⟨retb (by first | (simp; done) | (simp; omega)), rfl⟩
      · have hx : ¬ ((xs.length : Int) < ys.length) := by omega
        go_enter Tryd.func11, Tryd.ntmps11
        go_wp2
        all_goals
          go_ret
          exact ⟨retb (by first | (simp; done) | (simp; omega)), rfl⟩
set_option maxRecDepth 100000 in
set_option maxHeartbeats 4000000 in
/-- the law's even. -/
theorem evenlaw_any (c : Nat) (a : Option Addr) (cap : Nat) (ss : List (Int × Int)) (w : World) (hS : StrAt w a ss) (hl : ss.length ≤ 9) (hc : c ≤ 6) (hp : ∀ p ∈ ss, 0 ≤ p.1 ∧ p.1 < p.2 ∧ p.2 < (c : Int)) :
    Calls Tryd.prog 16 #[mapV c a ss.length cap] w fun e w' => e = .returned (.bool ((List.range (2 ^ c)).any fun s => decide (cutM ss s = 2 ^ ss.length - 1))) ∧ Fut w w' := by
  have hEB : ((List.range (2 ^ c)).any fun s => decide (cutM ss s = 2 ^ ss.length - 1)) = (List.range' 0 (2 ^ c - 0)).any fun s => decide (cutM ss s = 2 ^ ss.length - 1) := by rw [List.range_eq_range']; simp
  have h64 : 2 ^ c ≤ 64 := Nat.le_trans (Nat.pow_le_pow_right (by decide) hc) (by decide)
  have HAL := Lib.hid (fun W => every_any c a ss.length cap W (by omega))
  have HK := Lib.hid (fun s (h : s < 64) W (F : Fut w W) => cutlaw_any c a cap ss s W (hS.fut F) hl hc hp h)
  have HKL := Lib.hid (fun s => cutM_lt (ss := ss) (by omega) s)
  have hml := mask_lt (n := ss.length) (by omega)
  have hwk : IntKind.u64.wrap ((2 : Int) ^ c) = ((2 ^ c : Nat) : Int) := wrap_two c (by omega)
  clear hS hp
  generalize 2 ^ ss.length - 1 = m at *
  generalize 2 ^ c = M at *
  generalize ((List.range M).any fun s => decide (cutM ss s = m)) = E at *
  have HE := Lib.hid hEB.symm
  clear hEB
  have hMx : (M : Int) ≤ 64 := by omega
  have hcx : (c : Int) ≤ 6 := by omega
  go_enter Tryd.func16, Tryd.ntmps16
  go_wp2_with fail
  have hB := BoxM.new w c a ss.length cap 29
  have hF : Fut w (w.alloc (.cells #[.int .i64 c, .slice a ss.length cap] 29)) := Fut.alloc _ _
  generalize w.alloc (.cells #[.int .i64 c, .slice a ss.length cap] 29) = W1 at *
  generalize w.heap.size = B at *
  have HF := Lib.hid hF
  have HB := Lib.hid hB
  obtain ⟨hb, b0, b1⟩ := HB.out
  clear hF hB
  go_wp2_with fail
  clear hb b0 b1
  go_loopw [7, 3] (fun iv _ wr => ∃ (k : Nat), k ≤ M ∧ iv = .int .u64 k ∧ Hid ((List.range' k (M - k)).any (fun s => decide (cutM ss s = m)) = E) ∧ Hid (Fut W1 wr)) (fun iv _ _ => M - (intOf iv).toNat)
  case atStart => exact ⟨0, Nat.zero_le _, rfl, HE, Lib.hid Fut.rfl⟩
  case round =>
    obtain ⟨k, hk, rfl, HO, HR⟩ := hrel
    obtain ⟨m0, m1⟩ := HB.out.after HR.out
    by_cases hlt : k < M
    · have hkx : (k : Int) < M := by omega
      have hs := range_step hlt
      rw [hs, List.any_cons] at HO
      have HKK := Lib.hid (fun W (F : Fut w W) => HK.out k (by omega) W F)
      have hkl := HKL.out k
      generalize hcc : cutM ss k = K at *
      have HFR := Lib.hid (HF.out.trans HR.out)
      clear hcc hs hwk
      by_cases hq : K = m
      · rw [decide_eq_true hq, Bool.true_or] at HO
        have hE : E = true := HO.out.symm
        subst hE
        subst hq
        go_wp2_with fail
        refine region_fut (by kernel_rfl) (by kernel_rfl) ?_
        repeat (go_big_quiet_step (first
          | (go_at_call 19; rename_i p; exact after_of (HKK.out _ (HFR.out.trans p.F)))
          | (go_at_call 9; exact after_of (HAL.out _))))
        refine wpQuiet_nil ?_
        intro _ hw'
        obtain ⟨⟨wq, Fq⟩, rfl⟩ := hw'
        have HW := Lib.hid (HFR.out.trans Fq)
        clear m0 m1 Fq
        go_wp2
        go_ret
        exact ⟨rfl, HW.out⟩
      · rw [decide_eq_false hq, Bool.false_or] at HO
        have hq2 : ((K : Int) == m) = false := by rw [beq_eq_false_iff_ne]; omega
        go_wp2_with fail
        refine region_fut (by kernel_rfl) (by kernel_rfl) ?_
        repeat (go_big_quiet_step (first
          | (go_at_call 19; rename_i p; exact after_of (HKK.out _ (HFR.out.trans p.F)))
          | (go_at_call 9; exact after_of (HAL.out _))))
        refine wpQuiet_nil ?_
        intro _ hw'
        obtain ⟨⟨wq, Fq⟩, rfl⟩ := hw'
        have HRA := Lib.hid (HR.out.trans Fq)
        clear m0 m1 Fq
        go_wp2
        go_roundw
        case rel => exact ⟨k + 1, by omega, by go_num, HO, HRA⟩
        case measure => simp [intOf]; omega
    · obtain rfl : k = M := by omega
      rw [Nat.sub_self] at HO
      have hE : E = false := HO.out.symm
      subst hE
      have HW := Lib.hid (HF.out.trans HR.out)
      go_wp2
      go_ret
      exact ⟨rfl, HW.out⟩
end Go.Proofs.YtimddkofcejijaaDoor
