/- Layer 2: RoundRounds walks. -/
import Derived.Test.YtimddkofcejijaaEE
import Derived.Test.YtimddkofcejijaaSP
namespace Go.Proofs.Ytimddkofcejijaa
open Go.RowKit Go.Sort
theorem roundF_len (ss : List (Int × Int)) (c : Nat) : ∀ n x l a, (roundF ss c n x l a).length ≤ n
  | 0, _, _, _ => Nat.le_refl _
  | n + 1, x, l, a => by
    unfold roundF
    split
    · simp
    · rename_i i _
      rw [List.length_cons]
      exact Nat.succ_le_succ (roundF_len ss c n _ _ _)
theorem roundL_len (c : Int) (ss : List (Int × Int)) (zs : List Int) : (roundL c ss zs).length ≤ 1000000 := by
  unfold roundL
  split
  · rename_i h
    obtain ⟨h1, h2, _⟩ := tw_good h
    have h9 := (chk_good h1).2.2.1
    have hs := setM_lt (by omega) h2
    have := roundF_len ss c.toNat (2 ^ ss.length - 1 + setM zs + 1) 0 (2 ^ ss.length - 1) (setM zs)
    have hp : 2 ^ ss.length ≤ 512 := Nat.le_trans (Nat.pow_le_pow_right (by decide) h9) (by decide)
    unfold roundM
    omega
  · simp
theorem goesR_len (c : Int) (ss : List (Int × Int)) (zs : List Int) : (goesR c ss zs).length ≤ 1000000 := by
  unfold goesR
  split
  · rename_i h
    have hc : chkM c ss = 0 := by
      unfold goesE at h
      split at h
      · assumption
      · exact h
    have h9 := (chk_good hc).2.2.1
    rw [oft_len]; omega
  · simp
set_option maxRecDepth 100000 in
set_option maxHeartbeats 4000000 in
theorem rounds_any (c : Int) (a : Option Addr) (cap : Nat) (ss : List (Int × Int)) (d : Option Addr) (dap : Nat) (zs : List Int) (f : Option Addr) (fap : Nat) (rs : List Int) (w : World) (hS : StrAt w a ss) (hZ : IntsAt w d zs) (hR : IntsAt w f rs) (hl1 : ss.length ≤ 9223372036854775807) (hl2 : zs.length ≤ 9223372036854775807) (hl3 : rs.length ≤ 9223372036854775807) :
    Calls Try.prog 5 #[mapV c a ss.length cap, .slice d zs.length dap, .slice f rs.length fap] w fun e w' => e = .returned (.bool true) ∧ Fut w w' := by
  have HS := Lib.hid hS
  have HZ := Lib.hid hZ
  have HR := Lib.hid hR
  have HL := Lib.hid (fun W => large_any c a cap ss.length W)
  clear hS hZ hR
  have hlx : (ss.length : Int) ≤ 9223372036854775807 := by omega
  have hzx : (zs.length : Int) ≤ 9223372036854775807 := by omega
  have hrx : (rs.length : Int) ≤ 9223372036854775807 := by omega
  go_enter Try.func5, Try.ntmps5
  go_wp2_with fail
  have hB := BoxM.new w c a ss.length cap 24
  have hF : Fut w (w.alloc (.cells #[.int .i64 c, .slice a ss.length cap] 24)) := Fut.alloc _ _
  generalize w.alloc (.cells #[.int .i64 c, .slice a ss.length cap] 24) = W1 at *
  generalize w.heap.size = B at *
  have HB := Lib.hid hB
  have HF := Lib.hid hF
  clear hB hF
  refine (HL.out _).mono ?_
  rintro _ w2 ⟨rfl, F2⟩
  have HF2 := Lib.hid (HF.out.trans F2)
  have HB2 := Lib.hid (HB.out.fut F2)
  obtain ⟨hb, b0, b1⟩ := HB2.out
  clear F2 HL
  by_cases hg : 40 < ss.length
  · have hgd : decide (40 < ss.length) = true := decT hg
    rw [hgd]
    clear hg hgd
    go_wp2_with fail
    refine (works_any _).mono ?_
    rintro _ w3 ⟨rfl, F⟩
    have HF3 := Lib.hid (HF2.out.trans F)
    clear hb b0 b1 F
    go_wp2
    go_ret
    exact ⟨rfl, HF3.out⟩
  · have hgd : decide (40 < ss.length) = false := decide_eq_false hg
    rw [hgd]
    clear hgd
    by_cases hg2 : 40 < zs.length
    · have hg2x : (40 : Int) < zs.length := by omega
      go_wp2_with fail
      refine (works_any _).mono ?_
      rintro _ w3 ⟨rfl, F⟩
      have HF3 := Lib.hid (HF2.out.trans F)
      clear hb b0 b1 F
      go_wp2
      go_ret
      exact ⟨rfl, HF3.out⟩
    have hg2x : ¬ (40 : Int) < zs.length := by omega
    by_cases hg3 : 40 < rs.length
    · have hg3x : (40 : Int) < rs.length := by omega
      go_wp2_with fail
      refine (works_any _).mono ?_
      rintro _ w3 ⟨rfl, F⟩
      have HF3 := Lib.hid (HF2.out.trans F)
      clear hb b0 b1 F
      go_wp2
      go_ret
      exact ⟨rfl, HF3.out⟩
    have hg3x : ¬ (40 : Int) < rs.length := by omega
    have HP := Lib.hid (fun W (F : Fut w W) => round_any c a cap ss d dap zs W (HS.out.fut F) (HZ.out.fut F) (by omega))
    have HPR := Lib.hid (fun W (F : Fut w W) => roundR_any c a cap ss d dap zs W (HS.out.fut F) (HZ.out.fut F) (by omega))
    have HC := Lib.hid (fun W (F : Fut w W) => goesf_any c a cap ss f fap rs W (HS.out.fut F) (HR.out.fut F) (by omega))
    have HCR := Lib.hid (fun W (F : Fut w W) => goesR_any c a cap ss f fap rs W (HS.out.fut F) (HR.out.fut F) (by omega))
    have hol := roundL_len c ss zs
    have hpl := goesR_len c ss rs
    generalize roundL c ss zs = O at *
    generalize twE c ss zs = r at *
    generalize goesR c ss rs = P at *
    generalize goesE c ss rs = q at *
    clear hg hg2 hg3
    go_upto_region 4 with fail
    have hF4 : Fut w2 (w2.alloc (.cells #[.int .i64 c, .slice a ss.length cap] 28)) := Fut.alloc _ _
    have hD := BoxM.new w2 c a ss.length cap 28
    generalize w2.alloc (.cells #[.int .i64 c, .slice a ss.length cap] 28) = w3 at *
    generalize w2.heap.size = D at *
    have HF3 := Lib.hid (HF2.out.trans hF4)
    have HB3 := Lib.hid (HB2.out.fut hF4)
    have HD3 := Lib.hid hD
    clear hb b0 b1 hF4 hD HB2
    obtain ⟨hb, b0, b1⟩ := HB3.out
    go_wp2_with fail
    refine (HP.out _ HF3.out).mono ?_
    rintro _ w4 ⟨l1, lc1, rfl, hI1, F4⟩
    have HF4 := Lib.hid (HF3.out.trans F4)
    have HB4 := Lib.hid (HB3.out.fut F4)
    have HD4 := Lib.hid (HD3.out.fut F4)
    have HI1 := Lib.hid hI1
    clear hb b0 b1 HB3 HD3 hI1 F4
    obtain ⟨hd, d0, d1⟩ := HD4.out
    go_wp2_with fail
    refine (HPR.out _ HF4.out).mono ?_
    rintro _ w5 ⟨l2, lc2, rfl, hI2, F5⟩
    have HF5 := Lib.hid (HF4.out.trans F5)
    have HI15 := Lib.hid (HI1.out.fut F5)
    have HI2 := Lib.hid hI2
    have HB5 := Lib.hid (HB4.out.fut F5)
    have HD5 := Lib.hid (HD4.out.fut F5)
    clear hd d0 d1 HB4 HD4 hI2 F5 HI1
    obtain ⟨hb, b0, b1⟩ := HB5.out
    go_wp2_with fail
    refine (HC.out _ HF5.out).mono ?_
    rintro _ w6 ⟨l3, lc3, rfl, hI3, F6⟩
    have HF6 := Lib.hid (HF5.out.trans F6)
    have HI16 := Lib.hid (HI15.out.fut F6)
    have HI26 := Lib.hid (HI2.out.fut F6)
    have HI36 := Lib.hid hI3
    have HD6 := Lib.hid (HD5.out.fut F6)
    clear hb b0 b1 HB5 HD5 F6 HI15 HI2 hI3
    obtain ⟨hd, d0, d1⟩ := HD6.out
    go_wp2_with fail
    refine (HCR.out _ HF6.out).mono ?_
    rintro _ w7 ⟨l4, lc4, rfl, hI4, F7⟩
    have HF7 := Lib.hid (HF6.out.trans F7)
    have HI1' := Lib.hid (HI16.out.fut F7)
    have HI2' := Lib.hid (HI26.out.fut F7)
    have HI3' := Lib.hid (HI36.out.fut F7)
    have HI4' := Lib.hid hI4
    clear hd d0 d1 HD6 F7 HI16 HI26 HI36 hI4
    have HSA : Hid (Calls Try.prog 17 #[.slice l1 O.length lc1, .slice l2 O.length lc2] w7 fun e w' => e = .returned (.bool true) ∧ Fut w7 w') := Lib.hid ((same_any l1 l2 lc1 lc2 O O w7 (by omega) (by omega) HI1'.out HI2'.out).mono fun e w' (h : e = .returned (.bool (sameB O O)) ∧ ∃ q, w' = w7.drewN q) => ⟨by rw [h.1]; unfold sameB; rw [decide_eq_true rfl], by obtain ⟨q, hq⟩ := h.2; rw [hq]; exact Fut.drewN _ _⟩)
    have HSB : Hid (∀ W, Fut w7 W → Calls Try.prog 17 #[.slice l3 P.length lc3, .slice l4 P.length lc4] W fun e w' => e = .returned (.bool true) ∧ Fut W w') := Lib.hid (fun W F => (same_any l3 l4 lc3 lc4 P P W (by omega) (by omega) (HI3'.out.fut F) (HI4'.out.fut F)).mono fun e w' (h : e = .returned (.bool (sameB P P)) ∧ ∃ q, w' = W.drewN q) => ⟨by rw [h.1]; unfold sameB; rw [decide_eq_true rfl], by obtain ⟨q, hq⟩ := h.2; rw [hq]; exact Fut.drewN _ _⟩)
    go_wp2_with fail
    refine HSA.out.mono ?_
    rintro _ w8 ⟨rfl, F8⟩
    have HF8 := Lib.hid (HF7.out.trans F8)
    have HG8 := Lib.hid F8
    clear F8 HSA HI1' HI2' HI3' HI4'
    go_wp2_with fail
    refine (HSB.out _ HG8.out).mono ?_
    rintro _ w9 ⟨rfl, F9⟩
    have HF9 := Lib.hid (HF8.out.trans F9)
    clear F9 HSB HG8
    go_wp2_with fail
    refine (works_any _).mono ?_
    rintro _ w10 ⟨rfl, F10⟩
    have HF10 := Lib.hid (HF9.out.trans F10)
    clear F10
    go_wp2
    go_ret
    exact ⟨rfl, HF10.out⟩
end Go.Proofs.Ytimddkofcejijaa
