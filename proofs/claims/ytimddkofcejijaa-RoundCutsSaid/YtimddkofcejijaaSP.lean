/- Layer 2: RoundChecks walks. -/
import Derived.Test.YtimddkofcejijaaSN
import Derived.Test.YtimddkofcejijaaSC
namespace Go.Proofs.Ytimddkofcejijaa
open Go.RowKit Go.Sort
theorem large_any (c : Int) (a : Option Addr) (cap n : Nat) (w : World) : Calls Try.prog 13 #[mapV c a n cap] w fun e w' => e = .returned (.bool (decide (40 < n))) ∧ Fut w w' := by
  go_enter Try.func13, Try.ntmps13
  go_wp2
  go_ret
  exact ⟨retb (by rw [Bool.eq_iff_iff]; simp; omega), Fut.alloc _ _⟩
theorem IntsAt.after {w w0 : World} {a : Option Addr} {zs : List Int} (h : IntsAt w0 a zs) (F : Fut w0 w) : ∀ p : After w, IntsAt p.w' a zs := fun p => h.fut (F.trans p.F)
theorem StrAt.after {w w0 : World} {a : Option Addr} {ss : List (Int × Int)} (h : StrAt w0 a ss) (F : Fut w0 w) : ∀ p : After w, StrAt p.w' a ss := fun p => h.fut (F.trans p.F)
theorem decT {p : Prop} [Decidable p] (h : p) : decide p = true := decide_eq_true h
theorem oddf_any (c : Int) (a : Option Addr) (cap : Nat) (ss : List (Int × Int)) (w : World) (hS : StrAt w a ss) :
    Calls Try.prog 15 #[mapV c a ss.length cap] w (TupL (chkM c ss) (if chkM c ss = 0 then listM (oddM ss (2 ^ ss.length - 1)) else []) w) := by
  by_cases h : chkM c ss = 0
  · rw [if_pos h]
    have := oddf_ok c a cap ss w hS h
    rwa [h]
  · rw [if_neg h]
    exact oddf_err c a cap ss w hS h
set_option maxRecDepth 100000 in
set_option maxHeartbeats 4000000 in
theorem checks_any (c : Int) (a : Option Addr) (cap : Nat) (ss : List (Int × Int)) (d : Option Addr) (dap : Nat) (zs : List Int) (w : World) (hS : StrAt w a ss) (hZ : IntsAt w d zs) (hl1 : ss.length ≤ 9223372036854775807) (hl2 : zs.length ≤ 9223372036854775807) :
    Calls Try.prog 3 #[mapV c a ss.length cap, .slice d zs.length dap] w fun e w' => e = .returned (.bool true) ∧ Fut w w' := by
  have HS := Lib.hid hS
  have HZ := Lib.hid hZ
  have HL := Lib.hid (fun W => large_any c a cap ss.length W)
  clear hS hZ
  have hlx : (ss.length : Int) ≤ 9223372036854775807 := by omega
  have hzx : (zs.length : Int) ≤ 9223372036854775807 := by omega
  go_enter Try.func3, Try.ntmps3
  go_wp2_with fail
  have hB := BoxM.new w c a ss.length cap 24
  have hF : Fut w (w.alloc (.cells #[.int .i64 c, .slice a ss.length cap] 24)) := Fut.alloc _ _
  generalize w.alloc (.cells #[.int .i64 c, .slice a ss.length cap] 24) = W1 at *
  generalize w.heap.size = B at *
  have HB := Lib.hid hB
  have HF := Lib.hid hF
  clear hB hF
  refine (HL.out _).mono ?_
  rintro _ w2 ⟨rfl, F2⟩
  have HF2 := Lib.hid (HF.out.trans F2)
  have HB2 := Lib.hid (HB.out.fut F2)
  obtain ⟨hb, b0, b1⟩ := HB2.out
  clear F2 HL
  by_cases hg : 40 < ss.length
  · have hgd : decide (40 < ss.length) = true := decT hg
    rw [hgd]
    clear hg hgd
    go_wp2_with fail
    refine (works_any _).mono ?_
    rintro _ w3 ⟨rfl, F⟩
    have HF3 := Lib.hid (HF2.out.trans F)
    clear hb b0 b1 F
    go_wp2
    go_ret
    exact ⟨rfl, HF3.out⟩
  · have hgd : decide (40 < ss.length) = false := decide_eq_false hg
    rw [hgd]
    clear hgd
    by_cases hg2 : 40 < zs.length
    · have hg2x : (40 : Int) < zs.length := by omega
      go_wp2_with fail
      refine (works_any _).mono ?_
      rintro _ w3 ⟨rfl, F⟩
      have HF3 := Lib.hid (HF2.out.trans F)
      clear hb b0 b1 F
      go_wp2
      go_ret
      exact ⟨rfl, HF3.out⟩
    · have hg2x : ¬ (40 : Int) < zs.length := by omega
      have HO := Lib.hid (fun W (F : Fut w W) => oddf_any c a cap ss W (HS.out.fut F))
      have HOR := Lib.hid (fun W (F : Fut w W) => oddRf_any c a cap ss W (HS.out.fut F))
      have HC := Lib.hid (fun W (F : Fut w W) => check_any' c a cap ss W (HS.out.fut F))
      have HCR := Lib.hid (fun W (F : Fut w W) => checkR_any c a cap ss W (HS.out.fut F))
      have HE := Lib.hid (fun W (F : Fut w W) => enough_any c a cap ss d dap zs W (HS.out.fut F) (HZ.out.fut F) (by omega))
      have HER := Lib.hid (fun W (F : Fut w W) => enoughR_any c a cap ss d dap zs W (HS.out.fut F) (HZ.out.fut F) (by omega))
      have hol : (if chkM c ss = 0 then listM (oddM ss (2 ^ ss.length - 1)) else []).length ≤ 16 := by
        split
        · exact list_le _
        · simp
      generalize (if chkM c ss = 0 then listM (oddM ss (2 ^ ss.length - 1)) else []) = O at *
      generalize chkM c ss = r at *
      generalize twE c ss zs = r2 at *
      clear hg hg2
      go_upto_region 4 with fail
      have hF4 : Fut w2 (w2.alloc (.cells #[.int .i64 c, .slice a ss.length cap] 28)) := Fut.alloc _ _
      have hD := BoxM.new w2 c a ss.length cap 28
      generalize w2.alloc (.cells #[.int .i64 c, .slice a ss.length cap] 28) = w3 at *
      generalize w2.heap.size = D at *
      have HF3 := Lib.hid (HF2.out.trans hF4)
      have HB3 := Lib.hid (HB2.out.fut hF4)
      have HD3 := Lib.hid hD
      clear hb b0 b1 hF4 hD HB2
      obtain ⟨hb, b0, b1⟩ := HB3.out
      go_wp2_with fail
      refine (HO.out _ HF3.out).mono ?_
      rintro _ w4 ⟨l1, lc1, rfl, hI1, F4⟩
      have HF4 := Lib.hid (HF3.out.trans F4)
      have HB4 := Lib.hid (HB3.out.fut F4)
      have HD4 := Lib.hid (HD3.out.fut F4)
      have HI1 := Lib.hid hI1
      clear hb b0 b1 HB3 HD3 hI1 F4
      obtain ⟨hd, d0, d1⟩ := HD4.out
      go_wp2_with fail
      refine (HOR.out _ HF4.out).mono ?_
      rintro _ w5 ⟨l2, lc2, rfl, hI2, F5⟩
      have HF5 := Lib.hid (HF4.out.trans F5)
      have HI1' := Lib.hid ((HI1.out.fut F5).after Fut.rfl)
      have HI2 := Lib.hid (hI2.after Fut.rfl)
      have hB5 := HB4.out.fut F5
      have hD5 := HD4.out.fut F5
      obtain ⟨b0, b1⟩ := hB5.after Fut.rfl
      obtain ⟨e0, e1⟩ := hD5.after Fut.rfl
      have HFA : Hid (∀ p : After w5, Fut w p.w') := Lib.hid (fun p => HF5.out.trans p.F)
      clear hd d0 d1 HB4 HD4 hI2 F5 HI1 hB5 hD5
      have HSA : Hid (∀ p : After w5, Calls Try.prog 17 #[.slice l1 O.length lc1, .slice l2 O.length lc2] p.w' fun e w' => e = .returned (.bool true) ∧ Fut p.w' w') := Lib.hid (fun p => (same_any l1 l2 lc1 lc2 O O p.w' (by omega) (by omega) (HI1'.out p) (HI2.out p)).mono fun e w' (h : e = .returned (.bool (sameB O O)) ∧ ∃ q, w' = p.w'.drewN q) => ⟨by rw [h.1]; unfold sameB; rw [decide_eq_true rfl], by obtain ⟨q, hq⟩ := h.2; rw [hq]; exact Fut.drewN _ _⟩)
      go_wp2_with fail
      refine region_fut (by kernel_rfl) (by kernel_rfl) ?_
      repeat (go_big_quiet_step (first
        | (go_at_call 17; rename_i p; exact after_of (HSA.out p))
        | (go_at_call 18; rename_i p; exact after_of (HC.out _ (HFA.out p)))
        | (go_at_call 19; rename_i p; exact after_of (HCR.out _ (HFA.out p)))
        | (go_at_call 20; rename_i p; exact after_of (HE.out _ (HFA.out p)))
        | (go_at_call 21; rename_i p; exact after_of (HER.out _ (HFA.out p)))
        | (go_at_call 14; rename_i p; exact after_of (works_any _))))
      refine wpQuiet_nil ?_
      intro w6 hw'
      have HF6 := Lib.hid (HF5.out.trans (after_fut hw'))
      clear hw' b0 b1 e0 e1
      go_wp2
      go_ret
      exact ⟨rfl, HF6.out⟩
end Go.Proofs.Ytimddkofcejijaa
