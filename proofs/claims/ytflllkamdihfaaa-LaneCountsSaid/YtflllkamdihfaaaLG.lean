/- Ways: ways_any; chk_side -/
import Derived.Test.YtflllkamdihfaaaLF
namespace Go.Proofs.Ytflllkamdihfaaa
open Go.RowKit Go.Sort
theorem chk_side {r c : Int} {S Y T : List Int} (h : chkP r c S Y T = 0) : Side r c (r * c) ∧ ascE (r * c) S = 0 ∧ T.length = Y.length ∧ 1 ≤ Y.length ∧ Y.length ≤ 3 ∧ difE (r * c) S Y = 0 ∧ difE (r * c) S T = 0 := by
  unfold chkP at h
  by_cases h1 : decide (1 ≤ r ∧ r ≤ 4) = true
  · rw [if_pos h1] at h
    by_cases h2 : decide (1 ≤ c ∧ c ≤ 4) = true
    · rw [if_pos h2] at h
      have h1 := of_decide_eq_true h1
      have h2 := of_decide_eq_true h2
      refine ⟨⟨h1.1, h1.2, h2.1, h2.2, rfl⟩, ?_⟩
      by_cases h3 : ascE (r * c) S = 0
      · rw [if_pos h3] at h
        by_cases h4 : T.length = Y.length
        · rw [if_pos h4] at h
          by_cases h5 : Y.length = 0
          · rw [if_pos h5] at h; omega
          · rw [if_neg h5] at h
            by_cases h6 : 3 < Y.length
            · rw [if_pos h6] at h; omega
            · rw [if_neg h6] at h
              by_cases h7 : difE (r * c) S Y = 0
              · rw [if_pos h7] at h
                exact ⟨h3, h4, by omega, by omega, h7, h⟩
              · rw [if_neg h7] at h; exact absurd h h7
        · rw [if_neg h4] at h; omega
      · rw [if_neg h3] at h; exact absurd h h3
    · rw [if_neg h2] at h; omega
  · rw [if_neg h1] at h; omega
/-- what Ways answers. -/
def wayE (r c : Int) (S Y T : List Int) (x y : Int) : Int := if chkP r c S Y T = 0 then (if inB (r * c) x = true then (if inB (r * c) y = true then 0 else 2) else 2) else chkP r c S Y T
def wayZ (r c : Int) (S Y T : List Int) (x y : Int) : Nat := if wayE r c S Y T x y = 0 then wayN c (r * c) S x y else 0
set_option maxRecDepth 100000 in
set_option maxHeartbeats 2000000 in
theorem ways_any (r c : Int) (a : Option Addr) (cap : Nat) (S : List Int) (ya : Option Addr) (yc : Nat) (Y : List Int) (ta : Option Addr) (tc : Nat) (T : List Int) (x y : Int) (w : World) (h : InPQ w a S ya yc Y ta tc T) :
    Calls Try.prog 16 #[parV r c a S.length cap, plaV ya Y.length yc ta T.length tc, .int .i64 x, .int .i64 y] w fun e w' => e = .returned (.tuple #[.int .i64 (wayZ r c S Y T x y : Nat), .int .i64 (wayE r c S Y T x y)]) ∧ Fut w w' := by
  have hA : Fut w ((w.alloc (.cells #[.int .i64 r, .int .i64 c, .slice a S.length cap] 24)).alloc (.cells #[.slice ya Y.length yc, .slice ta T.length tc] 26)) := (Fut.alloc _ _).trans (Fut.alloc _ _)
  have hBP := (BoxP.new w r c a S.length cap).fut (Fut.alloc _ (.cells #[.slice ya Y.length yc, .slice ta T.length tc] 26))
  have hBQ := BoxQ.new (w.alloc (.cells #[.int .i64 r, .int .i64 c, .slice a S.length cap] 24)) ya Y.length yc ta T.length tc
  rw [World.size_alloc] at hBQ
  have HCK := Lib.hid (fun W (F : Fut w W) => chk_any r c a cap S ya yc Y ta tc T W (h.fut F))
  have HA := Lib.hid hA
  have HBP := Lib.hid hBP
  have HBQ := Lib.hid hBQ
  obtain ⟨_, p0, p1, p2⟩ := hBP
  obtain ⟨_, q0, q1⟩ := hBQ
  unfold wayZ
  unfold wayE
  by_cases hc : chkP r c S Y T = 0
  · have hs := (chk_side hc).1
    rw [if_pos hc]
    rw [hc] at HCK
    have HCO := Lib.hid (fun W => corners_any r c _ hs a S.length cap W)
    have HPW := Lib.hid (fun W (F : Fut w W) => pways_any r c _ hs a cap S x y W (h.s.fut F) h.sl)
    generalize r * c = m at *
    have HIX := Lib.hid (fun W => isIndex_any x m W)
    have HIY := Lib.hid (fun W => isIndex_any y m W)
    generalize wayN c m S x y = g at *
    clear hc hs h hA
    generalize inB m x = bx at *
    generalize inB m y = by_ at *
    cases bx
    · show Calls Try.prog 16 _ w fun e w' => e = .returned (.tuple #[.int .i64 0, .int .i64 2]) ∧ Fut w w'
      go_enter Try.func16, Try.ntmps16
      go_wp2_with fail
      refine (HCK.out _ HA.out).mono ?_
      rintro _ w2 ⟨rfl, F⟩
      have HF2 := Lib.hid (HA.out.trans F)
      have HBP2 := Lib.hid (HBP.out.fut F)
      clear p0 p1 p2 q0 q1 F
      obtain ⟨_, p0, p1, p2⟩ := HBP2.out
      go_wp2_with fail
      refine (HCO.out _).mono ?_
      rintro _ w3 ⟨rfl, F⟩
      have HF3 := Lib.hid (HF2.out.trans F)
      clear p0 p1 p2 F
      go_wp2_with fail
      refine (HIX.out _).mono ?_
      rintro _ _ ⟨rfl, rfl⟩
      go_wp2_with fail
      go_ret2
      exact ⟨rfl, HF3.out⟩
    · cases by_
      · show Calls Try.prog 16 _ w fun e w' => e = .returned (.tuple #[.int .i64 0, .int .i64 2]) ∧ Fut w w'
        go_enter Try.func16, Try.ntmps16
        go_wp2_with fail
        refine (HCK.out _ HA.out).mono ?_
        rintro _ w2 ⟨rfl, F⟩
        have HF2 := Lib.hid (HA.out.trans F)
        have HBP2 := Lib.hid (HBP.out.fut F)
        clear p0 p1 p2 q0 q1 F
        obtain ⟨_, p0, p1, p2⟩ := HBP2.out
        go_wp2_with fail
        refine (HCO.out _).mono ?_
        rintro _ w3 ⟨rfl, F⟩
        have HF3 := Lib.hid (HF2.out.trans F)
        have HBP3 := Lib.hid (HBP2.out.fut F)
        clear p0 p1 p2 F
        obtain ⟨_, p0, p1, p2⟩ := HBP3.out
        go_wp2_with fail
        refine (HIX.out _).mono ?_
        rintro _ _ ⟨rfl, rfl⟩
        go_wp2_with fail
        refine (HCO.out _).mono ?_
        rintro _ w4 ⟨rfl, F⟩
        have HF4 := Lib.hid (HF3.out.trans F)
        clear p0 p1 p2 F
        go_wp2_with fail
        refine (HIY.out _).mono ?_
        rintro _ _ ⟨rfl, rfl⟩
        go_wp2_with fail
        go_ret2
        exact ⟨rfl, HF4.out⟩
      · show Calls Try.prog 16 _ w fun e w' => e = .returned (.tuple #[.int .i64 g, .int .i64 0]) ∧ Fut w w'
        go_enter Try.func16, Try.ntmps16
        go_wp2_with fail
        refine (HCK.out _ HA.out).mono ?_
        rintro _ w2 ⟨rfl, F⟩
        have HF2 := Lib.hid (HA.out.trans F)
        have HBP2 := Lib.hid (HBP.out.fut F)
        clear p0 p1 p2 q0 q1 F
        obtain ⟨_, p0, p1, p2⟩ := HBP2.out
        go_wp2_with fail
        refine (HCO.out _).mono ?_
        rintro _ w3 ⟨rfl, F⟩
        have HF3 := Lib.hid (HF2.out.trans F)
        have HBP3 := Lib.hid (HBP2.out.fut F)
        clear p0 p1 p2 F
        obtain ⟨_, p0, p1, p2⟩ := HBP3.out
        go_wp2_with fail
        refine (HIX.out _).mono ?_
        rintro _ _ ⟨rfl, rfl⟩
        go_wp2_with fail
        refine (HCO.out _).mono ?_
        rintro _ w4 ⟨rfl, F⟩
        have HF4 := Lib.hid (HF3.out.trans F)
        have HBP4 := Lib.hid (HBP3.out.fut F)
        clear p0 p1 p2 F
        obtain ⟨_, p0, p1, p2⟩ := HBP4.out
        go_wp2_with fail
        refine (HIY.out _).mono ?_
        rintro _ _ ⟨rfl, rfl⟩
        go_wp2_with fail
        refine (HPW.out _ HF4.out).mono ?_
        rintro _ w5 ⟨rfl, F⟩
        have HF5 := Lib.hid (HF4.out.trans F)
        clear F
        go_wp2_with fail
        go_ret2
        exact ⟨rfl, HF5.out⟩
  · rw [if_neg hc, if_neg hc]
    generalize chkP r c S Y T = ce at *
    clear hA h
    go_enter Try.func16, Try.ntmps16
    go_wp2_with fail
    refine (HCK.out _ HA.out).mono ?_
    rintro _ w2 ⟨rfl, F⟩
    have HF2 := Lib.hid (HA.out.trans F)
    clear p0 p1 p2 q0 q1 F
    go_wp2_with fail
    go_ret2
    exact ⟨rfl, HF2.out⟩
end Go.Proofs.Ytflllkamdihfaaa
