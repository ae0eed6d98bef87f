/- the reference's Ways 17: rway_any -/
import Derived.Test.YtflllkamdihfaaaLCA
import Derived.Test.YtflllkamdihfaaaLMC
namespace Go.Proofs.Ytflllkamdihfaaa
open Go.RowKit Go.Sort
set_option maxRecDepth 100000 in
set_option maxHeartbeats 4000000 in
theorem rway_any (r c : Int) (a : Option Addr) (cap : Nat) (S : List Int) (ya : Option Addr) (yc : Nat) (Y : List Int) (ta : Option Addr) (tc : Nat) (T : List Int) (x y : Int) (w : World) (h : InPQ w a S ya yc Y ta tc T) :
    Calls Try.prog 17 #[parV r c a S.length cap, plaV ya Y.length yc ta T.length tc, .int .i64 x, .int .i64 y] w fun e w' => e = .returned (.tuple #[.int .i64 (wayZ r c S Y T x y : Nat), .int .i64 (wayE r c S Y T x y)]) ∧ Fut w w' := by
  have hA : Fut w ((w.alloc (.cells #[.int .i64 r, .int .i64 c, .slice a S.length cap] 29)).alloc (.cells #[.slice ya Y.length yc, .slice ta T.length tc] 30)) := (Fut.alloc _ _).trans (Fut.alloc _ _)
  have hBP := (BoxR.new w r c a S.length cap).fut (Fut.alloc _ (.cells #[.slice ya Y.length yc, .slice ta T.length tc] 30))
  have hBQ := BoxT.new (w.alloc (.cells #[.int .i64 r, .int .i64 c, .slice a S.length cap] 29)) ya Y.length yc ta T.length tc
  rw [World.size_alloc] at hBQ
  have HCK := Lib.hid (fun W (F : Fut w W) => rchk_any r c a cap S ya yc Y ta tc T W (h.fut F))
  have HA := Lib.hid hA
  have HBP := Lib.hid hBP
  have HBQ := Lib.hid hBQ
  have HIN := Lib.hid h
  obtain ⟨_, p0, p1, p2⟩ := hBP
  obtain ⟨_, q0, q1⟩ := hBQ
  unfold wayZ
  unfold wayE
  by_cases hc : chkP r c S Y T = 0
  · have hs := (chk_side hc).1
    rw [if_pos hc]
    rw [hc] at HCK
    have HX := Lib.hid (fun W => rcorner_any r c _ hs a S.length cap x W)
    have HY := Lib.hid (fun W => rcorner_any r c _ hs a S.length cap y W)
    have HRW := Lib.hid (fun (hb : inB (r * c) x = true) W (F : Fut w W) => rways_own r c _ hs a cap S h.sl y 16 [x] (some ⟨W.heap.size, 0, none⟩) 1 (W.alloc (.cells #[.int .i64 x] 3)) (by simp) (by simp)
      (by unfold inB at hb; simp at hb; exact hb.1) (by unfold inB at hb; simp at hb; exact hb.2) (by have := (side_m hs).2; unfold inB at hb; simp at hb; show r * c - nth [x] 0 ≤ _; simp [nth]; omega)
      (World.ownsRow_lit (base := 0) (e := 3) (size := 1) W #[.int .i64 x] 1 (Nat.zero_le _) (by unfold maxLen; omega) rfl) ((h.s.fut F).fut (Fut.alloc _ _)))
    have HLN := Lib.hid (fun (hb : inB (r * c) x = true) => show (rwL c (r * c) S y 16 [x]).length = wayN c (r * c) S x y by
      unfold inB at hb; simp at hb
      rw [rw_wy hs S y x hb.1, wayN_len hs S x y hb])
    generalize r * c = m at *
    generalize wayN c m S x y = g at *
    clear hc hs h hA
    generalize hbx : inB m x = bx at *
    generalize inB m y = by_ at *
    cases bx
    · clear HRW HLN hbx
      show Calls Try.prog 17 _ w fun e w' => e = .returned (.tuple #[.int .i64 0, .int .i64 2]) ∧ Fut w w'
      go_enter Try.func17, Try.ntmps17
      go_wp2_with fail
      refine (HCK.out _ HA.out).mono ?_
      rintro _ w2 ⟨rfl, F⟩
      have HF2 := Lib.hid (HA.out.trans F)
      have HBP2 := Lib.hid (HBP.out.fut F)
      have HBQ2 := Lib.hid (HBQ.out.fut F)
      clear p0 p1 p2 q0 q1 F
      obtain ⟨_, p0, p1, p2⟩ := HBP2.out
      obtain ⟨_, q0, q1⟩ := HBQ2.out
      go_wp2_with fail
      refine (HX.out _).mono ?_
      rintro _ w3 ⟨rfl, F⟩
      have HF3 := Lib.hid (HF2.out.trans F)
      have HBP3 := Lib.hid (HBP2.out.fut F)
      have HBQ3 := Lib.hid (HBQ2.out.fut F)
      clear p0 p1 p2 q0 q1 F
      obtain ⟨_, p0, p1, p2⟩ := HBP3.out
      obtain ⟨_, q0, q1⟩ := HBQ3.out
      go_wp2_with fail
      go_ret2
      exact ⟨rfl, HF3.out⟩
    · replace HRW := Lib.hid (HRW.out rfl)
      replace HLN := HLN.out rfl
      cases by_
      · clear HRW HLN hbx
        show Calls Try.prog 17 _ w fun e w' => e = .returned (.tuple #[.int .i64 0, .int .i64 2]) ∧ Fut w w'
        go_enter Try.func17, Try.ntmps17
        go_wp2_with fail
        refine (HCK.out _ HA.out).mono ?_
        rintro _ w2 ⟨rfl, F⟩
        have HF2 := Lib.hid (HA.out.trans F)
        have HBP2 := Lib.hid (HBP.out.fut F)
        have HBQ2 := Lib.hid (HBQ.out.fut F)
        clear p0 p1 p2 q0 q1 F
        obtain ⟨_, p0, p1, p2⟩ := HBP2.out
        obtain ⟨_, q0, q1⟩ := HBQ2.out
        go_wp2_with fail
        refine (HX.out _).mono ?_
        rintro _ w3 ⟨rfl, F⟩
        have HF3 := Lib.hid (HF2.out.trans F)
        have HBP3 := Lib.hid (HBP2.out.fut F)
        have HBQ3 := Lib.hid (HBQ2.out.fut F)
        clear p0 p1 p2 q0 q1 F
        obtain ⟨_, p0, p1, p2⟩ := HBP3.out
        obtain ⟨_, q0, q1⟩ := HBQ3.out
        go_wp2_with fail
        refine (HY.out _).mono ?_
        rintro _ w4 ⟨rfl, F⟩
        have HF4 := Lib.hid (HF3.out.trans F)
        have HBP4 := Lib.hid (HBP3.out.fut F)
        have HBQ4 := Lib.hid (HBQ3.out.fut F)
        clear p0 p1 p2 q0 q1 F
        obtain ⟨_, p0, p1, p2⟩ := HBP4.out
        obtain ⟨_, q0, q1⟩ := HBQ4.out
        go_wp2_with fail
        go_ret2
        exact ⟨rfl, HF4.out⟩
      · subst HLN
        generalize rwL c m S y 16 [x] = R at *
        clear hbx
        show Calls Try.prog 17 _ w fun e w' => e = .returned (.tuple #[.int .i64 (R.length : Nat), .int .i64 0]) ∧ Fut w w'
        go_enter Try.func17, Try.ntmps17
        go_wp2_with fail
        refine (HCK.out _ HA.out).mono ?_
        rintro _ w2 ⟨rfl, F⟩
        have HF2 := Lib.hid (HA.out.trans F)
        have HBP2 := Lib.hid (HBP.out.fut F)
        have HBQ2 := Lib.hid (HBQ.out.fut F)
        clear p0 p1 p2 q0 q1 F
        obtain ⟨_, p0, p1, p2⟩ := HBP2.out
        obtain ⟨_, q0, q1⟩ := HBQ2.out
        go_wp2_with fail
        refine (HX.out _).mono ?_
        rintro _ w3 ⟨rfl, F⟩
        have HF3 := Lib.hid (HF2.out.trans F)
        have HBP3 := Lib.hid (HBP2.out.fut F)
        have HBQ3 := Lib.hid (HBQ2.out.fut F)
        clear p0 p1 p2 q0 q1 F
        obtain ⟨_, p0, p1, p2⟩ := HBP3.out
        obtain ⟨_, q0, q1⟩ := HBQ3.out
        go_wp2_with fail
        refine (HY.out _).mono ?_
        rintro _ w4 ⟨rfl, F⟩
        have HF4 := Lib.hid (HF3.out.trans F)
        have HBP4 := Lib.hid (HBP3.out.fut F)
        have HBQ4 := Lib.hid (HBQ3.out.fut F)
        clear p0 p1 p2 q0 q1 F
        obtain ⟨_, p0, p1, p2⟩ := HBP4.out
        obtain ⟨_, q0, q1⟩ := HBQ4.out
        go_wp2_with fail
        refine (HRW.out _ HF4.out).mono ?_
        rintro _ w5 ⟨v, rfl, hX, F⟩
        obtain ⟨va, vc, rfl⟩ : ∃ va vc, v = .slice va R.length vc := by
          obtain ⟨vals, hrow, _⟩ := hX
          exact row_form hrow
        have HF5 := Lib.hid (HF4.out.trans ((Fut.alloc _ _).trans F))
        clear hX F p0 p1 p2 q0 q1
        go_wp2_with fail
        go_ret2
        exact ⟨rfl, HF5.out⟩
  · rw [if_neg hc]
    generalize chkP r c S Y T = ck at *
    clear h hA
    have hcn : (ck != 0) = true := by simpa using hc
    have hcn2 : (ck == 0) = false := by simpa using hc
    have e0 : (if ck = 0 then wayN c (r * c) S x y else 0) = 0 := if_neg hc
    rw [e0]
    show Calls Try.prog 17 _ w fun e w' => e = .returned (.tuple #[.int .i64 0, .int .i64 ck]) ∧ Fut w w'
    clear e0
    go_enter Try.func17, Try.ntmps17
    go_wp2_with fail
    refine (HCK.out _ HA.out).mono ?_
    rintro _ w2 ⟨rfl, F⟩
    have HF2 := Lib.hid (HA.out.trans F)
    have HBP2 := Lib.hid (HBP.out.fut F)
    have HBQ2 := Lib.hid (HBQ.out.fut F)
    clear p0 p1 p2 q0 q1 F
    obtain ⟨_, p0, p1, p2⟩ := HBP2.out
    obtain ⟨_, q0, q1⟩ := HBQ2.out
    go_wp2_with fail
    go_ret2
    exact ⟨rfl, HF2.out⟩
end Go.Proofs.Ytflllkamdihfaaa
