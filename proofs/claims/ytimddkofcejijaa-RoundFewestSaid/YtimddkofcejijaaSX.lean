/- Layer 2: RoundFewest walks. -/
import Derived.Test.YtimddkofcejijaaSW
import Derived.Test.YtimddkofcejijaaSP
namespace Go.Proofs.Ytimddkofcejijaa
open Go.RowKit Go.Sort
theorem few_len (ss : List (Int × Int)) : (fewM ss).length ≤ 16 := by
  obtain ⟨⟨S, _, _, h⟩, _⟩ := few_first ss (2 ^ ss.length - 1) (Nat.le_refl _)
  have h' : fewM ss = listM S := h
  rw [h']; exact list_le S
set_option maxRecDepth 100000 in
set_option maxHeartbeats 4000000 in
theorem fewlaw_any (c : Int) (a : Option Addr) (cap : Nat) (ss : List (Int × Int)) (w : World) (hS : StrAt w a ss) (hl1 : ss.length ≤ 9223372036854775807) :
    Calls Try.prog 4 #[mapV c a ss.length cap] w fun e w' => e = .returned (.bool true) ∧ Fut w w' := by
  have HS := Lib.hid hS
  have HL := Lib.hid (fun W => large_any c a cap ss.length W)
  clear hS
  have hlx : (ss.length : Int) ≤ 9223372036854775807 := by omega
  go_enter Try.func4, Try.ntmps4
  go_wp2_with fail
  have hB := BoxM.new w c a ss.length cap 24
  have hF : Fut w (w.alloc (.cells #[.int .i64 c, .slice a ss.length cap] 24)) := Fut.alloc _ _
  generalize w.alloc (.cells #[.int .i64 c, .slice a ss.length cap] 24) = W1 at *
  generalize w.heap.size = B at *
  have HB := Lib.hid hB
  have HF := Lib.hid hF
  clear hB hF
  refine (HL.out _).mono ?_
  rintro _ w2 ⟨rfl, F2⟩
  have HF2 := Lib.hid (HF.out.trans F2)
  have HB2 := Lib.hid (HB.out.fut F2)
  obtain ⟨hb, b0, b1⟩ := HB2.out
  clear F2 HL
  by_cases hg : 40 < ss.length
  · have hgd : decide (40 < ss.length) = true := decT hg
    rw [hgd]
    clear hg hgd
    go_wp2_with fail
    refine (works_any _).mono ?_
    rintro _ w3 ⟨rfl, F⟩
    have HF3 := Lib.hid (HF2.out.trans F)
    clear hb b0 b1 F
    go_wp2
    go_ret
    exact ⟨rfl, HF3.out⟩
  · have hgd : decide (40 < ss.length) = false := decide_eq_false hg
    rw [hgd]
    clear hgd
    have HP := Lib.hid (fun W (F : Fut w W) => fewest_any c a cap ss W (HS.out.fut F))
    have HPR := Lib.hid (fun W (F : Fut w W) => fewestR_any c a cap ss W (HS.out.fut F))
    have HC := Lib.hid (fun W (F : Fut w W) => count_any c a cap ss W (HS.out.fut F))
    have HCR := Lib.hid (fun W (F : Fut w W) => countRf_any c a cap ss W (HS.out.fut F))
    have hol : (fewR c ss).length ≤ 16 := by
      unfold fewR
      split
      · exact few_len ss
      · simp
    generalize fewR c ss = O at *
    generalize chkM c ss = r at *
    generalize countR c ss = q at *
    clear hg
    go_upto_region 4 with fail
    have hF4 : Fut w2 (w2.alloc (.cells #[.int .i64 c, .slice a ss.length cap] 28)) := Fut.alloc _ _
    have hD := BoxM.new w2 c a ss.length cap 28
    generalize w2.alloc (.cells #[.int .i64 c, .slice a ss.length cap] 28) = w3 at *
    generalize w2.heap.size = D at *
    have HF3 := Lib.hid (HF2.out.trans hF4)
    have HB3 := Lib.hid (HB2.out.fut hF4)
    have HD3 := Lib.hid hD
    clear hb b0 b1 hF4 hD HB2
    obtain ⟨hb, b0, b1⟩ := HB3.out
    go_wp2_with fail
    refine (HP.out _ HF3.out).mono ?_
    rintro _ w4 ⟨l1, lc1, rfl, hI1, F4⟩
    have HF4 := Lib.hid (HF3.out.trans F4)
    have HB4 := Lib.hid (HB3.out.fut F4)
    have HD4 := Lib.hid (HD3.out.fut F4)
    have HI1 := Lib.hid hI1
    clear hb b0 b1 HB3 HD3 hI1 F4
    obtain ⟨hd, d0, d1⟩ := HD4.out
    go_wp2_with fail
    refine (HPR.out _ HF4.out).mono ?_
    rintro _ w5 ⟨l2, lc2, rfl, hI2, F5⟩
    have HF5 := Lib.hid (HF4.out.trans F5)
    have HI15 := Lib.hid (HI1.out.fut F5)
    have HI2 := Lib.hid hI2
    have HB5 := Lib.hid (HB4.out.fut F5)
    have HD5 := Lib.hid (HD4.out.fut F5)
    clear hd d0 d1 HB4 HD4 hI2 F5 HI1
    obtain ⟨hb, b0, b1⟩ := HB5.out
    go_wp2_with fail
    refine (HC.out _ HF5.out).mono ?_
    rintro _ w6 ⟨rfl, F6⟩
    have HF6 := Lib.hid (HF5.out.trans F6)
    have HI16 := Lib.hid (HI15.out.fut F6)
    have HI26 := Lib.hid (HI2.out.fut F6)
    have HD6 := Lib.hid (HD5.out.fut F6)
    clear hb b0 b1 HB5 HD5 F6 HI15 HI2
    obtain ⟨hd, d0, d1⟩ := HD6.out
    go_wp2_with fail
    refine (HCR.out _ HF6.out).mono ?_
    rintro _ w7 ⟨rfl, F7⟩
    have HF7 := Lib.hid (HF6.out.trans F7)
    have HI1' := Lib.hid ((HI16.out.fut F7).after Fut.rfl)
    have HI2' := Lib.hid ((HI26.out.fut F7).after Fut.rfl)
    clear hd d0 d1 HD6 F7 HI16 HI26
    have HSA : Hid (∀ p : After w7, Calls Try.prog 17 #[.slice l1 O.length lc1, .slice l2 O.length lc2] p.w' fun e w' => e = .returned (.bool true) ∧ Fut p.w' w') := Lib.hid (fun p => (same_any l1 l2 lc1 lc2 O O p.w' (by omega) (by omega) (HI1'.out p) (HI2'.out p)).mono fun e w' (h : e = .returned (.bool (sameB O O)) ∧ ∃ q, w' = p.w'.drewN q) => ⟨by rw [h.1]; unfold sameB; rw [decide_eq_true rfl], by obtain ⟨q, hq⟩ := h.2; rw [hq]; exact Fut.drewN _ _⟩)
    go_wp2_with fail
    refine (HSA.out ⟨w7, Fut.rfl⟩).mono ?_
    rintro _ w8 ⟨rfl, F8⟩
    have HF8 := Lib.hid (HF7.out.trans F8)
    clear F8 HSA HI1' HI2'
    go_wp2_with fail
    refine (works_any _).mono ?_
    rintro _ w9 ⟨rfl, F9⟩
    have HF9 := Lib.hid (HF8.out.trans F9)
    clear F9
    go_wp2
    go_ret
    exact ⟨rfl, HF9.out⟩
end Go.Proofs.Ytimddkofcejijaa
