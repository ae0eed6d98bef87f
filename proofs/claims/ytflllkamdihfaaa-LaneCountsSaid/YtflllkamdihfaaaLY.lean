/- Proves: proves_any -/
import Derived.Test.YtflllkamdihfaaaLX
import Derived.Test.YtflllkamdihfaaaLG
namespace Go.Proofs.Ytflllkamdihfaaa
open Go.RowKit Go.Sort
/-- what Proves answers. -/
def prvE (r c : Int) (S Y T L : List Int) : Int := if chkP r c S Y T = 0 then (if ascE (r * c) L = 0 then (if Y.length ≤ L.length then 14 else if barB c (r * c) (S ++ L) Y T = true then 0 else 14) else ascE (r * c) L) else chkP r c S Y T
set_option maxRecDepth 100000 in
set_option maxHeartbeats 8000000 in
theorem proves_any (r c : Int) (a : Option Addr) (cap : Nat) (S : List Int) (ya : Option Addr) (yc : Nat) (Y : List Int) (ta : Option Addr) (tc : Nat) (T : List Int) (la : Option Addr) (lc : Nat) (L : List Int) (w : World) (h : InPQ w a S ya yc Y ta tc T) (hS9 : S.length ≤ 900) (hL : IntsAt w la L) (hll : L.length ≤ 1000) :
    Calls Try.prog 39 #[parV r c a S.length cap, plaV ya Y.length yc ta T.length tc, .slice la L.length lc] w fun e w' => e = .returned (.int .i64 (prvE r c S Y T L)) ∧ Fut w w' := by
  have hA : Fut w ((w.alloc (.cells #[.int .i64 r, .int .i64 c, .slice a S.length cap] 24)).alloc (.cells #[.slice ya Y.length yc, .slice ta T.length tc] 26)) := (Fut.alloc _ _).trans (Fut.alloc _ _)
  have hBP := (BoxP.new w r c a S.length cap).fut (Fut.alloc _ (.cells #[.slice ya Y.length yc, .slice ta T.length tc] 26))
  have hBQ := BoxQ.new (w.alloc (.cells #[.int .i64 r, .int .i64 c, .slice a S.length cap] 24)) ya Y.length yc ta T.length tc
  rw [World.size_alloc] at hBQ
  have HCK := Lib.hid (fun W (F : Fut w W) => chk_any r c a cap S ya yc Y ta tc T W (h.fut F))
  have HA := Lib.hid hA
  have HBP := Lib.hid hBP
  have HBQ := Lib.hid hBQ
  obtain ⟨_, p0, p1, p2⟩ := hBP
  obtain ⟨_, q0, q1⟩ := hBQ
  unfold prvE
  by_cases hc : chkP r c S Y T = 0
  · have hs := (chk_side hc).1
    have hy3 := (chk_side hc).2.2.2.2.1
    rw [if_pos hc]
    rw [hc] at HCK
    have HCO := Lib.hid (fun W => corners_any r c _ hs a S.length cap W)
    have HAS := Lib.hid (fun W (F : Fut w W) => asc_any la lc L (r * c) W (hL.fut F) hll)
    have HST := Lib.hid (fun W (F : Fut w W) => shutToo_any r c a cap S la lc L W (h.s.fut F) (by omega) (hL.fut F) hll)
    have HIB := Lib.hid (fun (a' : Option Addr) (cap' : Nat) W (F : Fut w W) (hI : IntsAt W a' (S ++ L)) (hlt : ¬ Y.length ≤ L.length) => isBarred_any r c _ hs a' cap' (S ++ L) ya yc Y ta tc T W ⟨hI, by rw [List.length_append]; omega, h.y.fut F, h.yl, h.yc, h.t.fut F, h.tl, h.tc⟩)
    generalize r * c = m at *
    generalize ascE m L = ea at *
    generalize barB c m (S ++ L) Y T = bb at *
    have hyx : (Y.length : Int) ≤ 3 := by omega
    have hlx : (L.length : Int) ≤ 1000 := by omega
    generalize S ++ L = SL at *
    clear hc hs h hA hS9 hL hll
    by_cases he : ea = 0
    · rw [if_pos he]
      subst he
      by_cases hg : Y.length ≤ L.length
      · rw [if_pos hg]
        have hgx : (Y.length : Int) ≤ (L.length : Int) := by omega
        clear HIB HST hg
        go_enter Try.func39, Try.ntmps39
        go_wp2_with fail
        refine (HCK.out _ HA.out).mono ?_
        rintro _ w2 ⟨rfl, F⟩
        have HF2 := Lib.hid (HA.out.trans F)
        have HBP2 := Lib.hid (HBP.out.fut F)
        have HBQ2 := Lib.hid (HBQ.out.fut F)
        clear p0 p1 p2 q0 q1 F HCK HA HBP HBQ
        obtain ⟨_, p0, p1, p2⟩ := HBP2.out
        go_wp2_with fail
        refine (HCO.out _).mono ?_
        rintro _ w3 ⟨rfl, F⟩
        have HF3 := Lib.hid (HF2.out.trans F)
        have HBQ3 := Lib.hid (HBQ2.out.fut F)
        clear p0 p1 p2 F
        go_wp2_with fail
        refine (HAS.out _ HF3.out).mono ?_
        rintro _ _ ⟨rfl, rfl⟩
        obtain ⟨_, q0, q1⟩ := HBQ3.out
        go_upto_region 7 with fail
        go_quiet (fail)
        have hq3 : Fut w3 (w3.drewN nq) := Fut.drewN _ _
        have HF4 := Lib.hid (HF3.out.trans hq3)
        clear q0 q1 hq3
        generalize w3.drewN nq = w4 at *
        go_wp2_with fail
        go_ret
        exact ⟨rfl, HF4.out⟩
      · rw [if_neg hg]
        have hgx : ¬ (Y.length : Int) ≤ (L.length : Int) := by omega
        have hgd : decide ((Y.length : Int) ≤ (L.length : Int)) = false := decide_eq_false hgx
        have hgd2 : decide (Y.length ≤ L.length) = false := decide_eq_false hg
        obtain ⟨E, HE⟩ : ∃ E : Int, Hid (E = if bb = true then 0 else 14) := ⟨_, Lib.hid rfl⟩
        rw [← HE.out]
        have HNG := Lib.hid hg
        clear hg
        go_enter Try.func39, Try.ntmps39
        go_wp2_with fail
        refine (HCK.out _ HA.out).mono ?_
        rintro _ w2 ⟨rfl, F⟩
        have HF2 := Lib.hid (HA.out.trans F)
        have HBP2 := Lib.hid (HBP.out.fut F)
        have HBQ2 := Lib.hid (HBQ.out.fut F)
        clear p0 p1 p2 q0 q1 F HCK HA HBP HBQ
        obtain ⟨_, p0, p1, p2⟩ := HBP2.out
        go_wp2_with fail
        refine (HCO.out _).mono ?_
        rintro _ w3 ⟨rfl, F⟩
        have HF3 := Lib.hid (HF2.out.trans F)
        have HBP3 := Lib.hid (HBP2.out.fut F)
        have HBQ3 := Lib.hid (HBQ2.out.fut F)
        clear p0 p1 p2 F
        go_wp2_with fail
        refine (HAS.out _ HF3.out).mono ?_
        rintro _ _ ⟨rfl, rfl⟩
        obtain ⟨_, p0, p1, p2⟩ := HBP3.out
        obtain ⟨_, q0, q1⟩ := HBQ3.out
        go_upto_region 7 with fail
        go_region_held3 (fun w' => w'.cell? ⟨w.heap.size, 0, none⟩ = some (.int .i64 r) ∧ w'.cell? ⟨w.heap.size, 1, none⟩ = some (.int .i64 c) ∧ w'.cell? ⟨w.heap.size, 2, none⟩ = some (.slice a S.length cap) ∧ w'.cell? ⟨w.heap.size + 1, 0, none⟩ = some (.slice ya Y.length yc) ∧ w'.cell? ⟨w.heap.size + 1, 1, none⟩ = some (.slice ta T.length tc)) (first | exact hS6 | exact hS5 | exact ⟨p0, p1, p2, q0, q1⟩)
          (first
            | (go_at_call 95; refine (HST.out _ (HF3.out.trans (Fut.drewN w3 1))).mono ?_; rintro _ w5 ⟨a5, c5, rfl, _, hI5, F5⟩; have FA5 : Fut w3 w5 := (Fut.drewN w3 1).trans F5; have hS5 : w5.cell? ⟨w.heap.size, 0, none⟩ = some (.int .i64 r) ∧ w5.cell? ⟨w.heap.size, 1, none⟩ = some (.int .i64 c) ∧ w5.cell? ⟨w.heap.size, 2, none⟩ = some (.slice a S.length cap) ∧ w5.cell? ⟨w.heap.size + 1, 0, none⟩ = some (.slice ya Y.length yc) ∧ w5.cell? ⟨w.heap.size + 1, 1, none⟩ = some (.slice ta T.length tc) := ⟨(RowKit.Below.cell FA5 (p := ⟨w.heap.size, 0, none⟩) (World.block_lt_of_cell? _ _ p0)).trans p0, (RowKit.Below.cell FA5 (p := ⟨w.heap.size, 1, none⟩) (World.block_lt_of_cell? _ _ p1)).trans p1, (RowKit.Below.cell FA5 (p := ⟨w.heap.size, 2, none⟩) (World.block_lt_of_cell? _ _ p2)).trans p2, (RowKit.Below.cell FA5 (p := ⟨w.heap.size + 1, 0, none⟩) (World.block_lt_of_cell? _ _ q0)).trans q0, (RowKit.Below.cell FA5 (p := ⟨w.heap.size + 1, 1, none⟩) (World.block_lt_of_cell? _ _ q1)).trans q1⟩)
            | (go_at_call 96; refine (HIB.out a5 c5 w5 (HF3.out.trans FA5) hI5 HNG.out).mono ?_; rintro _ w6 ⟨rfl, F6⟩; have hS6 : w6.cell? ⟨w.heap.size, 0, none⟩ = some (.int .i64 r) ∧ w6.cell? ⟨w.heap.size, 1, none⟩ = some (.int .i64 c) ∧ w6.cell? ⟨w.heap.size, 2, none⟩ = some (.slice a S.length cap) ∧ w6.cell? ⟨w.heap.size + 1, 0, none⟩ = some (.slice ya Y.length yc) ∧ w6.cell? ⟨w.heap.size + 1, 1, none⟩ = some (.slice ta T.length tc) := ⟨(RowKit.Below.cell F6 (p := ⟨w.heap.size, 0, none⟩) (World.block_lt_of_cell? _ _ hS5.1)).trans hS5.1, (RowKit.Below.cell F6 (p := ⟨w.heap.size, 1, none⟩) (World.block_lt_of_cell? _ _ hS5.2.1)).trans hS5.2.1, (RowKit.Below.cell F6 (p := ⟨w.heap.size, 2, none⟩) (World.block_lt_of_cell? _ _ hS5.2.2.1)).trans hS5.2.2.1, (RowKit.Below.cell F6 (p := ⟨w.heap.size + 1, 0, none⟩) (World.block_lt_of_cell? _ _ hS5.2.2.2.1)).trans hS5.2.2.2.1, (RowKit.Below.cell F6 (p := ⟨w.heap.size + 1, 1, none⟩) (World.block_lt_of_cell? _ _ hS5.2.2.2.2)).trans hS5.2.2.2.2⟩))
        all_goals
          have HF6 := Lib.hid (HF3.out.trans (FA5.trans F6))
          clear F6 FA5 F5 hI5 hS5 hS6 p0 p1 p2 q0 q1
          cases bb
          · go_wp2_with fail
            go_ret
            exact ⟨by rw [HE.out]; rfl, HF6.out⟩
          · go_wp2_with fail
            go_ret
            exact ⟨by rw [HE.out]; rfl, HF6.out⟩
    · rw [if_neg he]
      clear HIB HST
      go_enter Try.func39, Try.ntmps39
      go_wp2_with fail
      refine (HCK.out _ HA.out).mono ?_
      rintro _ w2 ⟨rfl, F⟩
      have HF2 := Lib.hid (HA.out.trans F)
      have HBP2 := Lib.hid (HBP.out.fut F)
      clear p0 p1 p2 q0 q1 F HCK HA HBP HBQ
      obtain ⟨_, p0, p1, p2⟩ := HBP2.out
      go_wp2_with fail
      refine (HCO.out _).mono ?_
      rintro _ w3 ⟨rfl, F⟩
      have HF3 := Lib.hid (HF2.out.trans F)
      clear p0 p1 p2 F
      go_wp2_with fail
      refine (HAS.out _ HF3.out).mono ?_
      rintro _ _ ⟨rfl, rfl⟩
      go_wp2_with fail
      go_ret
      exact ⟨rfl, HF3.out⟩
  · rw [if_neg hc]
    generalize chkP r c S Y T = ce at *
    clear hA h
    go_enter Try.func39, Try.ntmps39
    go_wp2_with fail
    refine (HCK.out _ HA.out).mono ?_
    rintro _ w2 ⟨rfl, F⟩
    have HF2 := Lib.hid (HA.out.trans F)
    clear p0 p1 p2 q0 q1 F
    go_wp2_with fail
    go_ret
    exact ⟨rfl, HF2.out⟩
end Go.Proofs.Ytflllkamdihfaaa
