/- Signed: signed_any -/
import Derived.Test.YtflllkamdihfaaaLK
namespace Go.Proofs.Ytflllkamdihfaaa
open Go.RowKit Go.Sort
theorem way_le (c m : Int) (S : List Int) (k d : Int) : wayN c m S k d ≤ 65536 := by
  unfold wayN
  split
  · exact Nat.le_trans (wn_le c m S d 16 k) (by decide)
  · omega
theorem tab_good {r c : Int} {S Y T : List Int} (h : chkP r c S Y T = 0) : (tabL r c S Y T).length = Y.length ∧ (∀ k, k < Y.length → lth (tabL r c S Y T) k = rowT c (r * c) S Y T k T.length) ∧ (∀ k, k < Y.length → (lth (tabL r c S Y T) k).length = Y.length) ∧ BndT (tabL r c S Y T) := by
  have ht := (chk_side h).2.2.1
  have e : tabL r c S Y T = (List.range Y.length).map fun k => rowT c (r * c) S Y T k T.length := by unfold tabL; rw [if_pos h]
  have hk : ∀ k, k < Y.length → lth (tabL r c S Y T) k = rowT c (r * c) S Y T k T.length := fun k hk => by
    rw [e, lth_eq, List.getElem?_map, List.getElem?_range hk]; rfl
  refine ⟨by rw [e]; simp, hk, fun k h => ?_, fun l hl x hx => ?_⟩
  · rw [hk k h]; unfold rowT; simp [ht]
  · rw [e] at hl
    obtain ⟨k, _, rfl⟩ := List.mem_map.1 hl
    unfold rowT at hx
    obtain ⟨t, _, rfl⟩ := List.mem_map.1 hx
    have := way_le c (r * c) S (nth Y k) t
    omega
/-- what Signed answers. -/
def sgnV (r c : Int) (S Y T : List Int) : Int := if chkP r c S Y T = 0 then detF Y.length (tabL r c S Y T) else 0
set_option maxRecDepth 100000 in
set_option maxHeartbeats 2000000 in
theorem signed_any (r c : Int) (a : Option Addr) (cap : Nat) (S : List Int) (ya : Option Addr) (yc : Nat) (Y : List Int) (ta : Option Addr) (tc : Nat) (T : List Int) (w : World) (h : InPQ w a S ya yc Y ta tc T) :
    Calls Try.prog 23 #[parV r c a S.length cap, plaV ya Y.length yc ta T.length tc] w fun e w' => e = .returned (.tuple #[.int .i64 (sgnV r c S Y T), .int .i64 (chkP r c S Y T)]) ∧ Fut w w' := by
  have hA : Fut w ((w.alloc (.cells #[.int .i64 r, .int .i64 c, .slice a S.length cap] 24)).alloc (.cells #[.slice ya Y.length yc, .slice ta T.length tc] 26)) := (Fut.alloc _ _).trans (Fut.alloc _ _)
  have hBP := (BoxP.new w r c a S.length cap).fut (Fut.alloc _ (.cells #[.slice ya Y.length yc, .slice ta T.length tc] 26))
  have hBQ := BoxQ.new (w.alloc (.cells #[.int .i64 r, .int .i64 c, .slice a S.length cap] 24)) ya Y.length yc ta T.length tc
  rw [World.size_alloc] at hBQ
  have HTB := Lib.hid (fun W (F : Fut w W) => table_any r c a cap S ya yc Y ta tc T W (h.fut F))
  have HA := Lib.hid hA
  obtain ⟨_, p0, p1, p2⟩ := hBP
  obtain ⟨_, q0, q1⟩ := hBQ
  clear hA h
  unfold sgnV
  by_cases hc : chkP r c S Y T = 0
  · rw [if_pos hc]
    obtain ⟨t1, _, t3, t4⟩ := tab_good hc
    have hy3 := (chk_side hc).2.2.2.2.1
    rw [hc] at HTB ⊢
    have HDT := Lib.hid (fun (l : Option Addr) (lc : Nat) W (hL : LstC W l (tabL r c S Y T)) (hlc : Y.length ≤ lc) => det_any Y.length hy3 l lc _ W hL t1 hlc t3 t4)
    have HT1 := Lib.hid t1
    generalize detF Y.length (tabL r c S Y T) = dv at *
    generalize tabL r c S Y T = tb at *
    clear t1 t3 t4 hc hy3
    go_enter Try.func23, Try.ntmps23
    go_wp2_with fail
    refine (HTB.out _ HA.out).mono ?_
    rintro _ w2 ⟨l, lc, rfl, hl1, hl2, hL, F⟩
    have HF2 := Lib.hid (HA.out.trans F)
    rw [HT1.out] at hl1
    have HD := Lib.hid (HDT.out l lc w2 hL hl1)
    rw [HT1.out]
    clear p0 p1 p2 q0 q1 F hL hl1 hl2
    go_wp2_with fail
    refine HD.out.mono ?_
    rintro _ w3 ⟨rfl, F⟩
    have HF3 := Lib.hid (HF2.out.trans F)
    clear F
    go_wp2_with fail
    go_ret2
    exact ⟨rfl, HF3.out⟩
  · rw [if_neg hc]
    have HC := Lib.hid hc
    generalize tabL r c S Y T = tb at *
    generalize chkP r c S Y T = ce at *
    go_enter Try.func23, Try.ntmps23
    go_wp2_with fail
    refine (HTB.out _ HA.out).mono ?_
    rintro _ w2 ⟨l, lc, rfl, _, _, _, F⟩
    have HF2 := Lib.hid (HA.out.trans F)
    clear p0 p1 p2 q0 q1 F
    go_wp2_with fail
    go_ret2
    exact ⟨rfl, HF2.out⟩
end Go.Proofs.Ytflllkamdihfaaa
