/- places, boxes, Check: chk_any -/
import Derived.Test.YtflllkamdihfaaaLC
namespace Go.Proofs.Ytflllkamdihfaaa
open Go.RowKit Go.Sort
instance {w : World} : Inhabited (After w) := ⟨⟨w, Fut.rfl⟩⟩
/-- places as a value. -/
abbrev plaV (ya : Option Addr) (yn yc : Nat) (ta : Option Addr) (tn tc : Nat) : Value := .agg #[.slice ya yn yc, .slice ta tn tc]
/-- the box of a parish. -/
structure BoxP (w : World) (B : Nat) (r c : Int) (a : Option Addr) (n cap : Nat) : Prop where
  lt : B < w.heap.size
  c0 : w.cell? ⟨B, 0, none⟩ = some (.int .i64 r)
  c1 : w.cell? ⟨B, 1, none⟩ = some (.int .i64 c)
  c2 : w.cell? ⟨B, 2, none⟩ = some (.slice a n cap)
theorem BoxP.fut {w w' : World} {B : Nat} {r c : Int} {a : Option Addr} {n cap : Nat} (h : BoxP w B r c a n cap) (F : Fut w w') : BoxP w' B r c a n cap :=
  ⟨Nat.lt_of_lt_of_le h.lt (RowKit.Below.size F), (RowKit.Below.cell F (p := ⟨B, 0, none⟩) h.lt).trans h.c0, (RowKit.Below.cell F (p := ⟨B, 1, none⟩) h.lt).trans h.c1, (RowKit.Below.cell F (p := ⟨B, 2, none⟩) h.lt).trans h.c2⟩
theorem BoxP.new (w : World) (r c : Int) (a : Option Addr) (n cap : Nat) : BoxP (w.alloc (.cells #[.int .i64 r, .int .i64 c, .slice a n cap] 24)) w.heap.size r c a n cap := by
  have h := World.alloc_heap_new w (.cells #[.int .i64 r, .int .i64 c, .slice a n cap] 24)
  exact ⟨by simp, by unfold World.cell?; rw [h]; rfl, by unfold World.cell?; rw [h]; rfl, by unfold World.cell?; rw [h]; rfl⟩
/-- the box of places. -/
structure BoxQ (w : World) (B : Nat) (ya : Option Addr) (yn yc : Nat) (ta : Option Addr) (tn tc : Nat) : Prop where
  lt : B < w.heap.size
  c0 : w.cell? ⟨B, 0, none⟩ = some (.slice ya yn yc)
  c1 : w.cell? ⟨B, 1, none⟩ = some (.slice ta tn tc)
theorem BoxQ.fut {w w' : World} {B : Nat} {ya : Option Addr} {yn yc : Nat} {ta : Option Addr} {tn tc : Nat} (h : BoxQ w B ya yn yc ta tn tc) (F : Fut w w') : BoxQ w' B ya yn yc ta tn tc :=
  ⟨Nat.lt_of_lt_of_le h.lt (RowKit.Below.size F), (RowKit.Below.cell F (p := ⟨B, 0, none⟩) h.lt).trans h.c0, (RowKit.Below.cell F (p := ⟨B, 1, none⟩) h.lt).trans h.c1⟩
theorem BoxQ.new (w : World) (ya : Option Addr) (yn yc : Nat) (ta : Option Addr) (tn tc : Nat) : BoxQ (w.alloc (.cells #[.slice ya yn yc, .slice ta tn tc] 26)) w.heap.size ya yn yc ta tn tc := by
  have h := World.alloc_heap_new w (.cells #[.slice ya yn yc, .slice ta tn tc] 26)
  exact ⟨by simp, by unfold World.cell?; rw [h]; rfl, by unfold World.cell?; rw [h]; rfl⟩
/-- the error of a parish and places. -/
def chkP (r c : Int) (S Y T : List Int) : Int :=
  if decide (1 ≤ r ∧ r ≤ 4) = true then (if decide (1 ≤ c ∧ c ≤ 4) = true then (if ascE (r * c) S = 0 then (if T.length = Y.length then (if Y.length = 0 then 4 else if 3 < Y.length then 3 else if difE (r * c) S Y = 0 then difE (r * c) S T else difE (r * c) S Y) else 5) else ascE (r * c) S) else 1) else 1
/-- what came in: a parish and places that can be read. -/
structure InPQ (w : World) (a : Option Addr) (S : List Int) (ya : Option Addr) (yc : Nat) (Y : List Int) (ta : Option Addr) (tc : Nat) (T : List Int) : Prop where
  s : IntsAt w a S
  sl : S.length ≤ 1000
  y : IntsAt w ya Y
  yl : Y.length ≤ 1000
  yc : Y.length ≤ yc
  t : IntsAt w ta T
  tl : T.length ≤ 1000
  tc : T.length ≤ tc
theorem InPQ.fut {w w' : World} {a : Option Addr} {S : List Int} {ya : Option Addr} {yc : Nat} {Y : List Int} {ta : Option Addr} {tc : Nat} {T : List Int} (h : InPQ w a S ya yc Y ta tc T) (F : Fut w w') : InPQ w' a S ya yc Y ta tc T :=
  ⟨h.s.fut F, h.sl, h.y.fut F, h.yl, h.yc, h.t.fut F, h.tl, h.tc⟩
set_option maxRecDepth 100000 in
set_option maxHeartbeats 2000000 in
theorem chk_any (r c : Int) (a : Option Addr) (cap : Nat) (S : List Int) (ya : Option Addr) (yc : Nat) (Y : List Int) (ta : Option Addr) (tc : Nat) (T : List Int) (w : World) (h : InPQ w a S ya yc Y ta tc T) :
    Calls Try.prog 21 #[parV r c a S.length cap, plaV ya Y.length yc ta T.length tc] w fun e w' => e = .returned (.int .i64 (chkP r c S Y T)) ∧ Fut w w' := by
  have HS1 := Lib.hid (fun W => isSide_any r W)
  have HS2 := Lib.hid (fun W => isSide_any c W)
  have hA : Fut w ((w.alloc (.cells #[.int .i64 r, .int .i64 c, .slice a S.length cap] 24)).alloc (.cells #[.slice ya Y.length yc, .slice ta T.length tc] 26)) := (Fut.alloc _ _).trans (Fut.alloc _ _)
  have hBP := (BoxP.new w r c a S.length cap).fut (Fut.alloc _ (.cells #[.slice ya Y.length yc, .slice ta T.length tc] 26))
  have hBQ := BoxQ.new (w.alloc (.cells #[.int .i64 r, .int .i64 c, .slice a S.length cap] 24)) ya Y.length yc ta T.length tc
  rw [World.size_alloc] at hBQ
  have hyx : (Y.length : Int) ≤ 1000 := by have := h.yl; omega
  have htx : (T.length : Int) ≤ 1000 := by have := h.tl; omega
  have HCO := Lib.hid (fun (m : Int) (hs : Side r c m) W => corners_any r c m hs a S.length cap W)
  have HAS := Lib.hid (fun (m : Int) W (F : Fut w W) => asc_any a cap S m W (h.s.fut F) h.sl)
  have HDY := Lib.hid (fun (m : Int) (hs : Side r c m) W (F : Fut w W) => dif_any r c m hs a cap S ya yc Y W (h.s.fut F) h.sl (h.y.fut F) h.yl h.yc)
  have HDT := Lib.hid (fun (m : Int) (hs : Side r c m) W (F : Fut w W) => dif_any r c m hs a cap S ta tc T W (h.s.fut F) h.sl (h.t.fut F) h.tl h.tc)
  clear h
  have HA := Lib.hid hA
  have HBP := Lib.hid hBP
  have HBQ := Lib.hid hBQ
  unfold chkP
  by_cases h1 : decide (1 ≤ r ∧ r ≤ 4) = true
  · rw [if_pos h1]
    rw [h1] at HS1
    have h1' := of_decide_eq_true h1
    by_cases h2 : decide (1 ≤ c ∧ c ≤ 4) = true
    · rw [if_pos h2]
      rw [h2] at HS2
      have h2' := of_decide_eq_true h2
      have hs : Side r c (r * c) := ⟨h1'.1, h1'.2, h2'.1, h2'.2, rfl⟩
      generalize r * c = m at *
      replace HCO := Lib.hid (fun W => HCO.out m hs W)
      replace HAS := Lib.hid (fun W F => HAS.out m W F)
      replace HDY := Lib.hid (fun W F => HDY.out m hs W F)
      replace HDT := Lib.hid (fun W F => HDT.out m hs W F)
      generalize ascE m S = eA at *
      generalize difE m S Y = eY at *
      generalize difE m S T = eT at *
      obtain ⟨E, HE⟩ : ∃ E, Hid (E = if eA = 0 then (if T.length = Y.length then (if Y.length = 0 then 4 else if 3 < Y.length then 3 else if eY = 0 then eT else eY) else 5) else eA) := ⟨_, Lib.hid rfl⟩
      rw [← HE.out]
      clear h1 h2 h1' h2' hs hA hBP hBQ
      obtain ⟨_, p0, p1, p2⟩ := HBP.out
      obtain ⟨_, q0, q1⟩ := HBQ.out
      go_enter Try.func21, Try.ntmps21
      go_wp2_with fail
      generalize (w.alloc (.cells #[.int .i64 r, .int .i64 c, .slice a S.length cap] 24)).alloc (.cells #[.slice ya Y.length yc, .slice ta T.length tc] 26) = w1 at *
      refine (HS1.out _).mono ?_
      rintro _ _ ⟨rfl, rfl⟩
      go_wp2_with fail
      refine (HS2.out _).mono ?_
      rintro _ _ ⟨rfl, rfl⟩
      have b0 := cell_after p0
      have b1 := cell_after p1
      have b2 := cell_after p2
      have HC2 := Lib.hid (fun p : After w1 => HCO.out p.w')
      have HA2 := Lib.hid (fun p : After w1 => HAS.out p.w' (HA.out.trans p.F))
      go_wp2_with fail
      refine region_fut (by kernel_rfl) (by kernel_rfl) ?_
      repeat (go_big_quiet_step (first | (with_reducible (go_at_call 69; rename_i p; exact after_of (HC2.out p))) | (go_at_call 74; rename_i p; exact after_same (HA2.out p))))
      refine wpQuiet_nil ?_
      intro w2 hw'
      have F2 := after_fut hw'
      have HF2 := Lib.hid (HA.out.trans F2)
      have HBP2 := Lib.hid (HBP.out.fut F2)
      have HBQ2 := Lib.hid (HBQ.out.fut F2)
      clear hw' F2 b0 b1 b2 p0 p1 p2 q0 q1 HC2 HA2 HBP HBQ HA
      obtain ⟨_, p0, p1, p2⟩ := HBP2.out
      obtain ⟨_, q0, q1⟩ := HBQ2.out
      by_cases hA0 : eA = 0
      · subst hA0
        replace HE := Lib.hid (HE.out.trans (if_pos rfl))
        by_cases hl : T.length = Y.length
        · have hlx : (T.length : Int) = (Y.length : Int) := by omega
          replace HE := Lib.hid (HE.out.trans (if_pos hl))
          by_cases hy0 : Y.length = 0
          · have hy0x : (Y.length : Int) = 0 := by omega
            have ht0x : (T.length : Int) = 0 := by omega
            replace HE := Lib.hid (HE.out.trans (if_pos hy0))
            clear hl hlx hy0
            go_wp2_with fail
            go_ret
            exact ⟨ret_int HE.out.symm, HF2.out⟩
          · have hy0x : ¬ (Y.length : Int) = 0 := by omega
            replace HE := Lib.hid (HE.out.trans (if_neg hy0))
            clear hl
            generalize Y.length = yn at *
            by_cases hy3 : 3 < yn
            · have hy3x : (3 : Int) < yn := by omega
              replace HE := Lib.hid (HE.out.trans (if_pos hy3))
              go_wp2_with fail
              go_ret
              exact ⟨ret_int HE.out.symm, HF2.out⟩
            · have hy3x : ¬ (3 : Int) < yn := by omega
              replace HE := Lib.hid (HE.out.trans (if_neg hy3))
              by_cases hY0 : eY = 0
              · subst hY0
                replace HE := Lib.hid (HE.out.trans (if_pos rfl))
                go_wp2_with fail
                refine (HDY.out _ HF2.out).mono ?_
                rintro _ w3 ⟨rfl, F⟩
                have HF3 := Lib.hid (HF2.out.trans F)
                have HBP3 := Lib.hid (HBP2.out.fut F)
                have HBQ3 := Lib.hid (HBQ2.out.fut F)
                clear F p0 p1 p2 q0 q1
                obtain ⟨_, p0, p1, p2⟩ := HBP3.out
                obtain ⟨_, q0, q1⟩ := HBQ3.out
                go_wp2_with fail
                refine (HDT.out _ HF3.out).mono ?_
                rintro _ w4 ⟨rfl, F⟩
                have HF4 := Lib.hid (HF3.out.trans F)
                clear F
                go_wp2_with fail
                go_ret
                exact ⟨ret_int HE.out.symm, HF4.out⟩
              · replace HE := Lib.hid (HE.out.trans (if_neg hY0))
                go_wp2_with fail
                refine (HDY.out _ HF2.out).mono ?_
                rintro _ w3 ⟨rfl, F⟩
                have HF3 := Lib.hid (HF2.out.trans F)
                clear F
                go_wp2_with fail
                go_ret
                exact ⟨ret_int HE.out.symm, HF3.out⟩
        · have hlx : ¬ (T.length : Int) = (Y.length : Int) := by omega
          replace HE := Lib.hid (HE.out.trans (if_neg hl))
          go_wp2_with fail
          go_ret
          exact ⟨ret_int HE.out.symm, HF2.out⟩
      · replace HE := Lib.hid (HE.out.trans (if_neg hA0))
        go_wp2_with fail
        go_ret
        exact ⟨ret_int HE.out.symm, HF2.out⟩
    · rw [if_neg h2]
      rw [Bool.not_eq_true] at h2
      rw [h2] at HS2
      clear h1 h2 hA hBP hBQ HCO HAS HDY HDT
      obtain ⟨_, p0, p1, p2⟩ := HBP.out
      go_enter Try.func21, Try.ntmps21
      go_wp2_with fail
      refine (HS1.out _).mono ?_
      rintro _ _ ⟨rfl, rfl⟩
      go_wp2_with fail
      refine (HS2.out _).mono ?_
      rintro _ _ ⟨rfl, rfl⟩
      go_wp2_with fail
      go_ret
      exact ⟨rfl, HA.out⟩
  · rw [if_neg h1]
    rw [Bool.not_eq_true] at h1
    rw [h1] at HS1
    clear h1 hA hBP hBQ HCO HAS HDY HDT
    obtain ⟨_, p0, p1, p2⟩ := HBP.out
    go_enter Try.func21, Try.ntmps21
    go_wp2_with fail
    refine (HS1.out _).mono ?_
    rintro _ _ ⟨rfl, rfl⟩
    go_wp2_with fail
    go_ret
    exact ⟨rfl, HA.out⟩
end Go.Proofs.Ytflllkamdihfaaa
