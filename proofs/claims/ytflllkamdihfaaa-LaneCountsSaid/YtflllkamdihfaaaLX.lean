/- Bar: bar_any -/
import Derived.Test.YtflllkamdihfaaaLW
import Derived.Test.YtflllkamdihfaaaLG
namespace Go.Proofs.Ytflllkamdihfaaa
open Go.RowKit Go.Sort
/-- the first bar, fewest corners first. -/
def brL (c m : Int) (S Y T : List Int) : Nat → Nat → Option (List Int)
  | 0, _ => none
  | f + 1, k => match fbE c m Y T k S 0 with
    | some R => some R
    | none => brL c m S Y T f (k + 1)
def brO (r c : Int) (S Y T : List Int) : Option (List Int) := brL c (r * c) S Y T Y.length 0
/-- what Bar answers. -/
def brE (r c : Int) (S Y T : List Int) : Int := if chkP r c S Y T = 0 then (if (brO r c S Y T).isSome = true then 0 else 13) else chkP r c S Y T
def brR (r c : Int) (S Y T : List Int) : List Int := if chkP r c S Y T = 0 then (brO r c S Y T).getD [] else []
def TupI (E : Int) (L : List Int) (w : World) (e : Ending) (w' : World) : Prop := ∃ l lc, e = .returned (.tuple #[.slice l L.length lc, .int .i64 E]) ∧ L.length ≤ lc ∧ IntsAt w' l L ∧ Fut w w'
theorem TupI.nil (E : Int) {w w' : World} (F : Fut w w') : TupI E [] w (.returned (.tuple #[.slice none 0 0, .int .i64 E])) w' := ⟨none, 0, rfl, Nat.le_refl _, fun j hj => absurd hj (by simp), F⟩
set_option maxRecDepth 100000 in
set_option maxHeartbeats 8000000 in
theorem bar_any (r c : Int) (a : Option Addr) (cap : Nat) (S : List Int) (ya : Option Addr) (yc : Nat) (Y : List Int) (ta : Option Addr) (tc : Nat) (T : List Int) (w : World) (h : InPQ w a S ya yc Y ta tc T) (hS9 : S.length ≤ 900) :
    Calls Try.prog 37 #[parV r c a S.length cap, plaV ya Y.length yc ta T.length tc] w (TupI (brE r c S Y T) (brR r c S Y T) w) := by
  have hA : Fut w ((w.alloc (.cells #[.int .i64 r, .int .i64 c, .slice a S.length cap] 24)).alloc (.cells #[.slice ya Y.length yc, .slice ta T.length tc] 26)) := (Fut.alloc _ _).trans (Fut.alloc _ _)
  have hBP := (BoxP.new w r c a S.length cap).fut (Fut.alloc _ (.cells #[.slice ya Y.length yc, .slice ta T.length tc] 26))
  have hBQ := BoxQ.new (w.alloc (.cells #[.int .i64 r, .int .i64 c, .slice a S.length cap] 24)) ya Y.length yc ta T.length tc
  rw [World.size_alloc] at hBQ
  have HCK := Lib.hid (fun W (F : Fut w W) => chk_any r c a cap S ya yc Y ta tc T W (h.fut F))
  have HA := Lib.hid hA
  have HBP := Lib.hid hBP
  have HBQ := Lib.hid hBQ
  obtain ⟨_, p0, p1, p2⟩ := hBP
  obtain ⟨_, q0, q1⟩ := hBQ
  unfold brE brR brO
  by_cases hc : chkP r c S Y T = 0
  · have hs := (chk_side hc).1
    have hy3 := (chk_side hc).2.2.2.2.1
    rw [if_pos hc, if_pos hc]
    rw [hc] at HCK
    have HFB := Lib.hid (fun (k : Nat) W (F : Fut w W) (hk : k ≤ 3) => show Calls Try.prog 93 #[parV r c a S.length cap, plaV ya Y.length yc ta T.length tc, .int .i64 (k : Int), .int .i64 0] W (TupO (fbE c (r * c) Y T k S 0) W) from firstBar_any r c _ hs ya yc Y ta tc T k 0 a cap S W hk (Nat.zero_le _) (by omega) (h.fut F))
    generalize r * c = m at *
    obtain ⟨E, HE⟩ : ∃ E : Option (List Int), Hid (E = brL c m S Y T Y.length 0) := ⟨_, Lib.hid rfl⟩
    rw [← HE.out]
    have HGE : Hid (∀ f k, brL c m S Y T (f + 1) k = match fbE c m Y T k S 0 with
      | some R => some R
      | none => brL c m S Y T f (k + 1)) := Lib.hid (fun f k => by rw [brL])
    have HGZ : Hid (∀ k, brL c m S Y T 0 k = none) := Lib.hid (fun k => by rw [brL])
    have hyx : (Y.length : Int) ≤ 3 := by omega
    generalize brL c m S Y T = bl at *
    clear hc hs h hA hS9
    generalize hXI : (if E.isSome = true then (0 : Int) else 13) = xi
    have HXI := Lib.hid hXI
    clear hXI
    go_enter Try.func37, Try.ntmps37
    go_wp2_with fail
    refine (HCK.out _ HA.out).mono ?_
    rintro _ w2 ⟨rfl, F⟩
    have HF2 := Lib.hid (HA.out.trans F)
    have HBP2 := Lib.hid (HBP.out.fut F)
    have HBQ2 := Lib.hid (HBQ.out.fut F)
    clear p0 p1 p2 q0 q1 F HCK HA HBP HBQ
    obtain ⟨_, q0, q1⟩ := HBQ2.out
    have HF0 : Hid (Fut w2 w2) := Lib.hid Fut.rfl
    go_wp2_with fail
    clear q0 q1
    go_loopw [19] (fun iv wr => ∃ k : Nat, k ≤ Y.length ∧ iv = .int .i64 k ∧ Hid (E = bl (Y.length - k) k) ∧ Hid (Fut w2 wr)) (fun iv _ => Y.length - (intOf iv).toNat)
    case atStart => exact ⟨0, Nat.zero_le _, rfl, HE, HF0⟩
    case round =>
      obtain ⟨k, hk, rfl, HK, HF⟩ := hrel
      clear HE HF0
      by_cases hkl : k < Y.length
      · have hkx : (k : Int) < Y.length := by omega
        have hkk := HK.out
        obtain ⟨n2, hn2⟩ : ∃ n2, Y.length - k = n2 + 1 := ⟨Y.length - k - 1, by omega⟩
        rw [hn2, HGE.out] at hkk
        have hnk : Y.length - (k + 1) = n2 := by omega
        have HKK := Lib.hid hkk
        have HFK := Lib.hid (HFB.out k wr (HF2.out.trans HF.out) (by omega))
        clear hkk HK
        obtain ⟨_, p0, p1, p2⟩ := HBP2.out.fut HF.out
        obtain ⟨_, q0, q1⟩ := HBQ2.out.fut HF.out
        generalize fbE c m Y T k S 0 = og at *
        go_wp2_with fail
        refine HFK.out.mono ?_
        rintro _ w3 ⟨l3, lc3, rfl, hl3, hI3, F3⟩
        have HF3 := Lib.hid (HF.out.trans F3)
        have HI3 := Lib.hid hI3
        have HL3 := Lib.hid hl3
        clear F3 hI3 hl3 p0 p1 p2 q0 q1 HFK
        cases og with
        | none =>
          have HK2 : Hid (E = bl (Y.length - (k + 1)) (k + 1)) := Lib.hid (by rw [hnk]; exact HKK.out)
          clear HKK hn2 hnk
          go_wp2_with fail
          go_roundw
          all_goals first
            | exact ⟨k + 1, by omega, by go_num, HK2, HF3⟩
            | ((repeat apply Exists.intro); exact ⟨⟨k + 1, by omega, by go_num, HK2, HF3⟩, rfl⟩)
            | (simp [intOf]; omega)
        | some R =>
          have HEE : Hid (E = some R) := Lib.hid HKK.out
          clear HKK hn2 hnk
          go_wp2_with fail
          go_ret2
          rw [← HXI.out, HEE.out]
          exact ⟨l3, lc3, rfl, HL3.out, HI3.out, HF2.out.trans HF3.out⟩
      · obtain rfl : Y.length = k := by omega
        have hkk := HK.out
        rw [Nat.sub_self, HGZ.out] at hkk
        have HEE := Lib.hid hkk
        clear hkk
        go_wp2_with fail
        go_ret2
        rw [← HXI.out, HEE.out]
        exact TupI.nil 13 (HF2.out.trans HF.out)
  · rw [if_neg hc, if_neg hc]
    generalize chkP r c S Y T = ce at *
    clear hA h
    go_enter Try.func37, Try.ntmps37
    go_wp2_with fail
    refine (HCK.out _ HA.out).mono ?_
    rintro _ w2 ⟨rfl, F⟩
    have HF2 := Lib.hid (HA.out.trans F)
    clear p0 p1 p2 q0 q1 F
    go_wp2_with fail
    go_ret2
    exact TupI.nil ce HF2.out
end Go.Proofs.Ytflllkamdihfaaa
