/- Apart: apart_any -/
import Derived.Test.YtflllkamdihfaaaLO
import Derived.Test.YtflllkamdihfaaaLP
namespace Go.Proofs.Ytflllkamdihfaaa
open Go.RowKit Go.Sort
/-- what Apart answers. -/
def aptE (r c : Int) (S Y T : List Int) (F : List (List Int)) : Int := if (ordP r c S Y T F).1 = 0 then (if (fmE F).isSome = true then 13 else 0) else (ordP r c S Y T F).1
set_option maxRecDepth 100000 in
set_option maxHeartbeats 4000000 in
theorem apart_any (r c : Int) (a : Option Addr) (cap : Nat) (S : List Int) (ya : Option Addr) (yc : Nat) (Y : List Int) (ta : Option Addr) (tc : Nat) (T : List Int) (fa : Option Addr) (fc : Nat) (F : List (List Int)) (w : World) (h : InPQ w a S ya yc Y ta tc T) (hF : LstAt w fa F) (hFl : F.length ≤ 1000) (hFk : ∀ k, k < F.length → (lth F k).length ≤ 1000) :
    Calls Try.prog 35 #[parV r c a S.length cap, plaV ya Y.length yc ta T.length tc, .slice fa F.length fc] w fun e w' => e = .returned (.int .i64 (aptE r c S Y T F)) ∧ Fut w w' := by
  have hA : Fut w ((w.alloc (.cells #[.int .i64 r, .int .i64 c, .slice a S.length cap] 24)).alloc (.cells #[.slice ya Y.length yc, .slice ta T.length tc] 26)) := (Fut.alloc _ _).trans (Fut.alloc _ _)
  have hBP := (BoxP.new w r c a S.length cap).fut (Fut.alloc _ (.cells #[.slice ya Y.length yc, .slice ta T.length tc] 26))
  have hBQ := BoxQ.new (w.alloc (.cells #[.int .i64 r, .int .i64 c, .slice a S.length cap] 24)) ya Y.length yc ta T.length tc
  rw [World.size_alloc] at hBQ
  have HOR := Lib.hid (fun W (G : Fut w W) => order_any r c a cap S ya yc Y ta tc T fa fc F W (h.fut G) (hF.fut G) hFl hFk)
  have HFM := Lib.hid (fun W (G : Fut w W) => firstMeeting_any fa fc F W (hF.fut G) hFl hFk)
  have HA := Lib.hid hA
  obtain ⟨_, p0, p1, p2⟩ := hBP
  obtain ⟨_, q0, q1⟩ := hBQ
  unfold aptE
  clear hA h hF hFk hFl
  generalize (ordP r c S Y T F).2 = ol at *
  by_cases hc : (ordP r c S Y T F).1 = 0
  · rw [if_pos hc]
    rw [hc] at HOR
    clear hc
    cases hm : fmE F with
    | none =>
      rw [hm] at HFM
      clear hm
      show Calls Try.prog 35 _ w fun e w' => e = .returned (.int .i64 0) ∧ Fut w w'
      go_enter Try.func35, Try.ntmps35
      go_wp2_with fail
      refine (HOR.out _ HA.out).mono ?_
      rintro _ w2 ⟨l, lc, rfl, _, G⟩
      have HF2 := Lib.hid (HA.out.trans G)
      clear p0 p1 p2 q0 q1 G
      go_wp2_with fail
      refine (HFM.out _ HF2.out).mono ?_
      rintro _ w3 ⟨rfl, G⟩
      have HF3 := Lib.hid (HF2.out.trans G)
      clear G
      rw [fmV]
      go_wp2_with fail
      go_ret
      exact ⟨rfl, HF3.out.trans (Fut.alloc _ _)⟩
    | some p =>
      obtain ⟨i, j, x⟩ := p
      rw [hm] at HFM
      clear hm
      show Calls Try.prog 35 _ w fun e w' => e = .returned (.int .i64 13) ∧ Fut w w'
      go_enter Try.func35, Try.ntmps35
      go_wp2_with fail
      refine (HOR.out _ HA.out).mono ?_
      rintro _ w2 ⟨l, lc, rfl, _, G⟩
      have HF2 := Lib.hid (HA.out.trans G)
      clear p0 p1 p2 q0 q1 G
      go_wp2_with fail
      refine (HFM.out _ HF2.out).mono ?_
      rintro _ w3 ⟨rfl, G⟩
      have HF3 := Lib.hid (HF2.out.trans G)
      clear G
      rw [fmV]
      go_wp2_with fail
      go_ret
      exact ⟨rfl, HF3.out.trans (Fut.alloc _ _)⟩
  · rw [if_neg hc]
    generalize (ordP r c S Y T F).1 = ce at *
    go_enter Try.func35, Try.ntmps35
    go_wp2_with fail
    refine (HOR.out _ HA.out).mono ?_
    rintro _ w2 ⟨l, lc, rfl, _, G⟩
    have HF2 := Lib.hid (HA.out.trans G)
    clear p0 p1 p2 q0 q1 G
    go_wp2_with fail
    go_ret
    exact ⟨rfl, HF2.out⟩
end Go.Proofs.Ytflllkamdihfaaa
