/- Made 43 -/
import Derived.Test.YtjapconhehdcjaaUE
import Derived.Test.YtjapconhehdcjaaUI
import Derived.Deep.DeepCutAuto
import Derived.Deep.AppendLies
namespace Go.Proofs.Ytjapconhehdcjaa
open Go.RowKit Go.Sort
/-- Made's error and its tree. -/
def okD (n : Nat) (d : Int) : Bool := inB (n : Int) d
def madeC (ds : List Int) : Int := if ds.length = 0 then 4 else if 8 < ds.length then 3 else if ds.all (okD ds.length) = false then 1 else match Sv.madeO ds with | none => 12 | some _ => 0
def madeE (ds : List Int) : List Int := if madeC ds = 0 then (Sv.madeO ds).getD [] else []
theorem madeC_bad {ds : List Int} (h0 : ds.length ≠ 0) (h1 : ds.length ≤ 8) {i : Nat} (hi : i < ds.length) (hb : inB (ds.length : Nat) (nth ds i) = false) : madeC ds = 1 := by
  unfold madeC
  rw [if_neg h0, if_neg (by omega), if_pos]
  rw [List.all_eq_false]
  exact ⟨nth ds i, nth_mem hi, by unfold okD; rw [hb]; simp⟩
theorem madeC_ok {ds : List Int} (h0 : ds.length ≠ 0) (h1 : ds.length ≤ 8) (h : ∀ j, j < ds.length → inB (ds.length : Nat) (nth ds j) = true) : madeC ds = match Sv.madeO ds with | none => 12 | some _ => 0 := by
  unfold madeC
  rw [if_neg h0, if_neg (by omega), if_neg]
  rw [Bool.not_eq_false, List.all_eq_true]
  intro x hx
  obtain ⟨j, hj, rfl⟩ := List.getElem_of_mem hx
  have := h j hj
  rw [nth_eq, List.getElem?_eq_getElem hj] at this
  exact this
set_option maxRecDepth 100000 in
set_option maxHeartbeats 4000000 in
theorem made43_any (a : Option Addr) (cap : Nat) (ds : List Int) (w : World) (hA : IntsAt w a ds) (hl : ds.length ≤ 1000) :
    Calls Try.prog 43 #[.slice a ds.length cap] w fun e w' => TupW (madeC ds) (madeE ds) w e w' := by
  have HA := Lib.hid hA
  have hlx : (ds.length : Int) ≤ 1000 := by omega
  by_cases h0 : ds.length = 0
  · have HC : Hid (madeC ds = 4) := Lib.hid (by unfold madeC; rw [if_pos h0])
    have HE : Hid (madeE ds = []) := Lib.hid (by unfold madeE; rw [HC.out]; rfl)
    have h0x : (ds.length : Int) = 0 := by omega
    clear hA
    go_enter Try.func43, Try.ntmps43
    go_wp2_with fail
    go_ret2
    rw [HC.out, HE.out]
    exact ⟨_, rfl, own_nil _ _, Fut.rfl⟩
  by_cases h1 : 8 < ds.length
  · have HC : Hid (madeC ds = 3) := Lib.hid (by unfold madeC; rw [if_neg h0, if_pos h1])
    have HE : Hid (madeE ds = []) := Lib.hid (by unfold madeE; rw [HC.out]; rfl)
    have h0x : ¬ (ds.length : Int) = 0 := by omega
    have h1x : (8 : Int) < ds.length := by omega
    clear hA
    go_enter Try.func43, Try.ntmps43
    go_wp2_with fail
    go_ret2
    rw [HC.out, HE.out]
    exact ⟨_, rfl, own_nil _ _, Fut.rfl⟩
  have HBD := Lib.hid (fun i hi hb => madeC_bad (ds := ds) h0 (by omega) (i := i) hi hb)
  have HK := Lib.hid (fun h => madeC_ok (ds := ds) h0 (by omega) h)
  have HMA := Lib.hid (fun (h : ∀ j, j < ds.length → inB (ds.length : Nat) (nth ds j) = true) => made_any a cap ds w hA (by omega) (by omega) (fun d hd => by
    obtain ⟨j, hj, rfl⟩ := List.getElem_of_mem hd
    have := h j hj
    rw [nth_eq, List.getElem?_eq_getElem hj] at this
    unfold inB at this
    simp at this
    omega))
  have HIX := Lib.hid (fun d W => isIndex_any d (ds.length : Nat) W)
  have h0x : ¬ (ds.length : Int) = 0 := by omega
  have h1x : ¬ (8 : Int) < ds.length := by omega
  clear hA
  go_enter Try.func43, Try.ntmps43
  go_wp2_with fail
  go_loopw [16] (fun iv wr => ∃ i : Nat, i ≤ ds.length ∧ iv = .int .i64 i ∧ Hid (∀ j, j < i → inB (ds.length : Nat) (nth ds j) = true) ∧ w = wr) (fun iv _ => ds.length - (intOf iv).toNat)
  case atStart => exact ⟨0, Nat.zero_le _, rfl, Lib.hid (fun j hj => absurd hj (by omega)), rfl⟩
  case round =>
    obtain ⟨i, hi, rfl, HJ, rfl⟩ := hrel
    by_cases hil : i < ds.length
    · have hix : (i : Int) < ds.length := by omega
      obtain ⟨b, o, rfl, hb, c⟩ := HA.out i hil
      cases hq : inB (ds.length : Nat) (nth ds i) with
      | false =>
        have HC := Lib.hid (HBD.out i hil hq)
        have HE : Hid (madeE ds = []) := Lib.hid (by unfold madeE; rw [HC.out]; rfl)
        have HI2 : Hid (∀ W, Calls Try.prog 74 #[.int .i64 (nth ds i), .int .i64 (ds.length : Nat)] W fun e w' => e = .returned (.bool false) ∧ W = w') := Lib.hid (fun W => by have h := HIX.out (nth ds i) W; rw [hq] at h; exact h)
        clear hq
        generalize nth ds i = x at *
        go_wp2_with fail
        refine (HI2.out _).mono ?_
        rintro _ _ ⟨rfl, rfl⟩
        go_wp2_with fail
        go_ret2
        rw [HC.out, HE.out]
        exact ⟨_, rfl, own_nil _ _, Fut.rfl⟩
      | true =>
        have HJ2 : Hid (∀ j, j < i + 1 → inB (ds.length : Nat) (nth ds j) = true) := Lib.hid (fun j hj => by
          rcases Nat.lt_or_ge j i with q | q
          · exact HJ.out j q
          · obtain rfl : j = i := by omega
            exact hq)
        have HI2 : Hid (∀ W, Calls Try.prog 74 #[.int .i64 (nth ds i), .int .i64 (ds.length : Nat)] W fun e w' => e = .returned (.bool true) ∧ W = w') := Lib.hid (fun W => by have h := HIX.out (nth ds i) W; rw [hq] at h; exact h)
        clear hq
        generalize nth ds i = x at c HI2
        go_wp2_with fail
        refine (HI2.out _).mono ?_
        rintro _ _ ⟨rfl, rfl⟩
        go_wp2_with fail
        go_roundw
        case rel => exact ⟨i + 1, by omega, by go_num, HJ2, trivial⟩
        case measure => simp [intOf]; omega
    · obtain rfl : i = ds.length := by omega
      have HC := Lib.hid (HK.out HJ.out)
      have HM2 := Lib.hid (HMA.out HJ.out)
      go_wp2_with fail
      refine HM2.out.mono ?_
      rintro _ w1 ⟨v, rfl, hO, F1⟩
      obtain ⟨l, c, rfl, _⟩ := hO.ints
      have HI := Lib.hid hO
      cases hm : Sv.madeO ds with
      | none =>
        rw [hm] at HI HC
        have HC2 : Hid (madeC ds = 12) := HC
        have HE : Hid (madeE ds = []) := Lib.hid (by unfold madeE; rw [HC2.out]; rfl)
        clear hm hO HC
        simp only [Option.getD_none, Option.isSome_none, List.length_nil]
        go_wp2_with fail
        go_ret2
        rw [HC2.out, HE.out]
        exact ⟨_, rfl, own_nil _ _, F1⟩
      | some t =>
        rw [hm] at HI HC
        have HC2 : Hid (madeC ds = 0) := HC
        have HE : Hid (madeE ds = t) := Lib.hid (by unfold madeE; rw [HC2.out, hm]; rfl)
        clear hm hO HC
        simp only [Option.getD_some, Option.isSome_some]
        go_wp2_with fail
        go_ret2
        rw [HC2.out, HE.out]
        exact ⟨_, rfl, HI.out, F1⟩
end Go.Proofs.Ytjapconhehdcjaa
