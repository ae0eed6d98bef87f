/- Swap: swap_any -/
import Derived.Test.YtflllkamdihfaaaLS
import Derived.Test.YtflllkamdihfaaaLQ
namespace Go.Proofs.Ytflllkamdihfaaa
open Go.RowKit Go.Sort
/-- what Swap answers. -/
def swE (r c : Int) (S Y T : List Int) (F : List (List Int)) : Int := if (ordP r c S Y T F).1 = 0 then (if (fmE F).isSome = true then 0 else 13) else (ordP r c S Y T F).1
def swL (r c : Int) (S Y T : List Int) (F : List (List Int)) : List (List Int) :=
  if (ordP r c S Y T F).1 = 0 then (match fmE F with
    | some (i, j, x) => swpL F i j (idxE (lth F i) x).toNat (idxE (lth F j) x).toNat
    | none => []) else []
set_option maxRecDepth 100000 in
set_option maxHeartbeats 4000000 in
theorem swap_any (r c : Int) (a : Option Addr) (cap : Nat) (S : List Int) (ya : Option Addr) (yc : Nat) (Y : List Int) (ta : Option Addr) (tc : Nat) (T : List Int) (fa : Option Addr) (fc : Nat) (F : List (List Int)) (w : World) (h : InPQ w a S ya yc Y ta tc T) (hF : LstC w fa F) (hFl : F.length ≤ 1000) (hFk : ∀ k, k < F.length → (lth F k).length ≤ 1000) :
    Calls Try.prog 32 #[parV r c a S.length cap, plaV ya Y.length yc ta T.length tc, .slice fa F.length fc] w (TupLC (swE r c S Y T F) (swL r c S Y T F) w) := by
  have hA : Fut w ((w.alloc (.cells #[.int .i64 r, .int .i64 c, .slice a S.length cap] 24)).alloc (.cells #[.slice ya Y.length yc, .slice ta T.length tc] 26)) := (Fut.alloc _ _).trans (Fut.alloc _ _)
  have hBP := (BoxP.new w r c a S.length cap).fut (Fut.alloc _ (.cells #[.slice ya Y.length yc, .slice ta T.length tc] 26))
  have hBQ := BoxQ.new (w.alloc (.cells #[.int .i64 r, .int .i64 c, .slice a S.length cap] 24)) ya Y.length yc ta T.length tc
  rw [World.size_alloc] at hBQ
  have HOR := Lib.hid (fun W (G : Fut w W) => order_any r c a cap S ya yc Y ta tc T fa fc F W (h.fut G) (hF.lst.fut G) hFl hFk)
  have HFM := Lib.hid (fun W (G : Fut w W) => firstMeeting_any fa fc F W (hF.lst.fut G) hFl hFk)
  have HA := Lib.hid hA
  obtain ⟨_, p0, p1, p2⟩ := hBP
  obtain ⟨_, q0, q1⟩ := hBQ
  unfold swE swL
  clear hA h
  generalize (ordP r c S Y T F).2 = ol at *
  by_cases hc : (ordP r c S Y T F).1 = 0
  · rw [if_pos hc, if_pos hc]
    rw [hc] at HOR
    clear hc
    cases hm : fmE F with
    | none =>
      rw [hm] at HFM
      clear hm hF hFk hFl
      show Calls Try.prog 32 _ w (TupLC 13 [] w)
      go_enter Try.func32, Try.ntmps32
      go_wp2_with fail
      refine (HOR.out _ HA.out).mono ?_
      rintro _ w2 ⟨l, lc, rfl, _, G⟩
      have HF2 := Lib.hid (HA.out.trans G)
      clear p0 p1 p2 q0 q1 G
      go_wp2_with fail
      refine (HFM.out _ HF2.out).mono ?_
      rintro _ w3 ⟨rfl, G⟩
      have HF3 := Lib.hid (HF2.out.trans G)
      clear G
      rw [fmV]
      go_wp2_with fail
      go_ret2
      exact TupLC.nil 13 (HF3.out.trans (Fut.alloc _ _))
    | some p =>
      obtain ⟨i', j, x, e, hij, hxi, hxj⟩ := fm1_in _ _ hm
      subst e
      rw [hm] at HFM
      have hi := lth_nil hxi
      have hj := lth_nil hxj
      obtain ⟨pi, e1, hp1⟩ := idx_mem (k := 0) hxi
      obtain ⟨pj, e2, hp2⟩ := idx_mem (k := 0) hxj
      rw [Nat.zero_add] at e1 e2
      have f1 : idxE (lth F i') x = (pi : Int) := e1
      have f2 : idxE (lth F j) x = (pj : Int) := e2
      have HSW := Lib.hid (fun W (G : Fut w W) => swapped_any fa fc F i' j pi pj x W (hF.fut G) hFl hFk hi hj hij f1 f2 hp1 hp2)
      show Calls Try.prog 32 _ w (TupLC 0 (swpL F i' j (idxE (lth F i') x).toNat (idxE (lth F j) x).toNat) w)
      rw [f1, f2, Int.toNat_natCast, Int.toNat_natCast]
      have hsl : (swpL F i' j pi pj).length = F.length := by unfold swpL; simp
      have HSL := Lib.hid hsl
      generalize swpL F i' j pi pj = R at *
      clear hm hF hFk hFl hi hj hij hxi hxj e1 e2 f1 f2 hp1 hp2 hsl
      go_enter Try.func32, Try.ntmps32
      go_wp2_with fail
      refine (HOR.out _ HA.out).mono ?_
      rintro _ w2 ⟨l, lc, rfl, _, G⟩
      have HF2 := Lib.hid (HA.out.trans G)
      clear p0 p1 p2 q0 q1 G
      go_wp2_with fail
      refine (HFM.out _ HF2.out).mono ?_
      rintro _ w3 ⟨rfl, G⟩
      have HF3 := Lib.hid (HF2.out.trans G)
      clear G
      rw [fmV]
      go_wp2_with fail
      refine (HSW.out _ (HF3.out.trans (Fut.alloc _ _))).mono ?_
      rintro _ w4 ⟨l4, lc4, rfl, h1, h2, hL, G⟩
      have HF4 := Lib.hid ((HF3.out.trans (Fut.alloc _ _)).trans G)
      have HL := Lib.hid hL
      have HH := Lib.hid (And.intro h1 h2)
      clear G h1 h2 hL
      go_wp2_with fail
      go_ret2
      exact ⟨l4, lc4, by rw [HSL.out]; rfl, by rw [HSL.out]; exact HH.out.1, HH.out.2, HL.out, HF4.out⟩
  · rw [if_neg hc, if_neg hc]
    generalize (ordP r c S Y T F).1 = ce at *
    clear hF hFk hFl
    go_enter Try.func32, Try.ntmps32
    go_wp2_with fail
    refine (HOR.out _ HA.out).mono ?_
    rintro _ w2 ⟨l, lc, rfl, _, G⟩
    have HF2 := Lib.hid (HA.out.trans G)
    clear p0 p1 p2 q0 q1 G
    go_wp2_with fail
    go_ret2
    exact TupLC.nil ce HF2.out
end Go.Proofs.Ytflllkamdihfaaa
