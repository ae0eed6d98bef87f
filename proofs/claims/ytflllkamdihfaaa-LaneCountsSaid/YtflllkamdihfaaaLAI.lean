/- the reference's Check 22: rchk_any (chkP); BoxT.new -/
import Derived.Test.YtflllkamdihfaaaLAH
import Derived.Test.YtflllkamdihfaaaLD
namespace Go.Proofs.Ytflllkamdihfaaa
open Go.RowKit Go.Sort
theorem BoxT.new (w : World) (ya : Option Addr) (yn yc : Nat) (ta : Option Addr) (tn tc : Nat) : BoxQ (w.alloc (.cells #[.slice ya yn yc, .slice ta tn tc] 30)) w.heap.size ya yn yc ta tn tc := by
  have h := World.alloc_heap_new w (.cells #[.slice ya yn yc, .slice ta tn tc] 30)
  exact ⟨by simp, by unfold World.cell?; rw [h]; rfl, by unfold World.cell?; rw [h]; rfl⟩
set_option maxRecDepth 100000 in
set_option maxHeartbeats 4000000 in
theorem rchk_any (r c : Int) (a : Option Addr) (cap : Nat) (S : List Int) (ya : Option Addr) (yc : Nat) (Y : List Int) (ta : Option Addr) (tc : Nat) (T : List Int) (w : World) (h : InPQ w a S ya yc Y ta tc T) :
    Calls Try.prog 22 #[parV r c a S.length cap, plaV ya Y.length yc ta T.length tc] w fun e w' => e = .returned (.int .i64 (chkP r c S Y T)) ∧ Fut w w' := by
  have HS1 := Lib.hid (fun W => rin_any r 1 4 W)
  have HS2 := Lib.hid (fun W => rin_any c 1 4 W)
  have hA : Fut w ((w.alloc (.cells #[.int .i64 r, .int .i64 c, .slice a S.length cap] 29)).alloc (.cells #[.slice ya Y.length yc, .slice ta T.length tc] 30)) := (Fut.alloc _ _).trans (Fut.alloc _ _)
  have hBP := (BoxR.new w r c a S.length cap).fut (Fut.alloc _ (.cells #[.slice ya Y.length yc, .slice ta T.length tc] 30))
  have hBQ := BoxT.new (w.alloc (.cells #[.int .i64 r, .int .i64 c, .slice a S.length cap] 29)) ya Y.length yc ta T.length tc
  rw [World.size_alloc] at hBQ
  have hyx : (Y.length : Int) ≤ 1000 := by have := h.yl; omega
  have htx : (T.length : Int) ≤ 1000 := by have := h.tl; omega
  have HAS := Lib.hid (fun (m : Int) (hs : Side r c m) W (F : Fut w W) => rasc_any r c m hs a S.length cap a cap S W (h.s.fut F) h.sl)
  have HDY := Lib.hid (fun (m : Int) (hs : Side r c m) W (F : Fut w W) => rdif_any r c m hs a cap S ya yc Y W (h.s.fut F) h.sl (h.y.fut F) h.yl h.yc)
  have HDT := Lib.hid (fun (m : Int) (hs : Side r c m) W (F : Fut w W) => rdif_any r c m hs a cap S ta tc T W (h.s.fut F) h.sl (h.t.fut F) h.tl h.tc)
  clear h
  have HA := Lib.hid hA
  have HBP := Lib.hid hBP
  have HBQ := Lib.hid hBQ
  unfold chkP
  by_cases h1 : decide (1 ≤ r ∧ r ≤ 4) = true
  · rw [if_pos h1]
    have h1' := of_decide_eq_true h1
    have e1 : (decide (1 ≤ r) && decide (r ≤ 4)) = true := by simp; omega
    rw [e1] at HS1
    by_cases h2 : decide (1 ≤ c ∧ c ≤ 4) = true
    · rw [if_pos h2]
      have h2' := of_decide_eq_true h2
      have e2 : (decide (1 ≤ c) && decide (c ≤ 4)) = true := by simp; omega
      rw [e2] at HS2
      have hs : Side r c (r * c) := ⟨h1'.1, h1'.2, h2'.1, h2'.2, rfl⟩
      generalize r * c = m at *
      replace HAS := Lib.hid (fun W F => HAS.out m hs W F)
      replace HDY := Lib.hid (fun W F => HDY.out m hs W F)
      replace HDT := Lib.hid (fun W F => HDT.out m hs W F)
      generalize ascE m S = eA at *
      generalize difE m S Y = eY at *
      generalize difE m S T = eT at *
      obtain ⟨E, HE⟩ : ∃ E, Hid (E = if eA = 0 then (if T.length = Y.length then (if Y.length = 0 then 4 else if 3 < Y.length then 3 else if eY = 0 then eT else eY) else 5) else eA) := ⟨_, Lib.hid rfl⟩
      rw [← HE.out]
      clear h1 h2 h1' h2' hs hA hBP hBQ e1 e2
      obtain ⟨_, p0, p1, p2⟩ := HBP.out
      obtain ⟨_, q0, q1⟩ := HBQ.out
      go_enter Try.func22, Try.ntmps22
      go_wp2_with fail
      generalize (w.alloc (.cells #[.int .i64 r, .int .i64 c, .slice a S.length cap] 29)).alloc (.cells #[.slice ya Y.length yc, .slice ta T.length tc] 30) = w1 at *
      refine (HS1.out _).mono ?_
      rintro _ _ ⟨rfl, rfl⟩
      go_wp2_with fail
      refine (HS2.out _).mono ?_
      rintro _ _ ⟨rfl, rfl⟩
      go_wp2_with fail
      refine (HAS.out _ HA.out).mono ?_
      rintro _ w2 ⟨rfl, F⟩
      have HF2 := Lib.hid (HA.out.trans F)
      have HBP2 := Lib.hid (HBP.out.fut F)
      have HBQ2 := Lib.hid (HBQ.out.fut F)
      clear F p0 p1 p2 q0 q1 HBP HBQ HA
      obtain ⟨_, p0, p1, p2⟩ := HBP2.out
      obtain ⟨_, q0, q1⟩ := HBQ2.out
      by_cases hA0 : eA = 0
      · subst hA0
        replace HE := Lib.hid (HE.out.trans (if_pos rfl))
        by_cases hl : T.length = Y.length
        · have hlx : (T.length : Int) = (Y.length : Int) := by omega
          replace HE := Lib.hid (HE.out.trans (if_pos hl))
          by_cases hy0 : Y.length = 0
          · have hy0x : (Y.length : Int) = 0 := by omega
            have ht0x : (T.length : Int) = 0 := by omega
            replace HE := Lib.hid (HE.out.trans (if_pos hy0))
            clear hl hlx hy0
            go_wp2_with fail
            go_ret
            exact ⟨ret_int HE.out.symm, HF2.out⟩
          · have hy0x : ¬ (Y.length : Int) = 0 := by omega
            replace HE := Lib.hid (HE.out.trans (if_neg hy0))
            clear hl
            generalize Y.length = yn at *
            by_cases hy3 : 3 < yn
            · have hy3x : (3 : Int) < yn := by omega
              replace HE := Lib.hid (HE.out.trans (if_pos hy3))
              go_wp2_with fail
              go_ret
              exact ⟨ret_int HE.out.symm, HF2.out⟩
            · have hy3x : ¬ (3 : Int) < yn := by omega
              replace HE := Lib.hid (HE.out.trans (if_neg hy3))
              by_cases hY0 : eY = 0
              · subst hY0
                replace HE := Lib.hid (HE.out.trans (if_pos rfl))
                go_wp2_with fail
                refine (HDY.out _ HF2.out).mono ?_
                rintro _ w3 ⟨rfl, F⟩
                have HF3 := Lib.hid (HF2.out.trans F)
                have HBP3 := Lib.hid (HBP2.out.fut F)
                have HBQ3 := Lib.hid (HBQ2.out.fut F)
                clear F p0 p1 p2 q0 q1
                obtain ⟨_, p0, p1, p2⟩ := HBP3.out
                obtain ⟨_, q0, q1⟩ := HBQ3.out
                go_wp2_with fail
                refine (HDT.out _ HF3.out).mono ?_
                rintro _ w4 ⟨rfl, F⟩
                have HF4 := Lib.hid (HF3.out.trans F)
                clear F
                go_wp2_with fail
                go_ret
                exact ⟨ret_int HE.out.symm, HF4.out⟩
              · replace HE := Lib.hid (HE.out.trans (if_neg hY0))
                go_wp2_with fail
                refine (HDY.out _ HF2.out).mono ?_
                rintro _ w3 ⟨rfl, F⟩
                have HF3 := Lib.hid (HF2.out.trans F)
                clear F
                go_wp2_with fail
                go_ret
                exact ⟨ret_int HE.out.symm, HF3.out⟩
        · have hlx : ¬ (T.length : Int) = (Y.length : Int) := by omega
          replace HE := Lib.hid (HE.out.trans (if_neg hl))
          go_wp2_with fail
          go_ret
          exact ⟨ret_int HE.out.symm, HF2.out⟩
      · replace HE := Lib.hid (HE.out.trans (if_neg hA0))
        go_wp2_with fail
        go_ret
        exact ⟨ret_int HE.out.symm, HF2.out⟩
    · rw [if_neg h2]
      have e2 : (decide (1 ≤ c) && decide (c ≤ 4)) = false := by
        rw [decide_eq_true_eq] at h2
        simp
        omega
      rw [e2] at HS2
      clear h1 h2 hA hBP hBQ HAS HDY HDT e1 e2 h1'
      obtain ⟨_, p0, p1, p2⟩ := HBP.out
      go_enter Try.func22, Try.ntmps22
      go_wp2_with fail
      refine (HS1.out _).mono ?_
      rintro _ _ ⟨rfl, rfl⟩
      go_wp2_with fail
      refine (HS2.out _).mono ?_
      rintro _ _ ⟨rfl, rfl⟩
      go_wp2_with fail
      go_ret
      exact ⟨rfl, HA.out⟩
  · rw [if_neg h1]
    have e1 : (decide (1 ≤ r) && decide (r ≤ 4)) = false := by
      rw [decide_eq_true_eq] at h1
      simp
      omega
    rw [e1] at HS1
    clear h1 hA hBP hBQ HAS HDY HDT e1
    obtain ⟨_, p0, p1, p2⟩ := HBP.out
    go_enter Try.func22, Try.ntmps22
    go_wp2_with fail
    refine (HS1.out _).mono ?_
    rintro _ _ ⟨rfl, rfl⟩
    go_wp2_with fail
    go_ret
    exact ⟨rfl, HA.out⟩
end Go.Proofs.Ytflllkamdihfaaa
