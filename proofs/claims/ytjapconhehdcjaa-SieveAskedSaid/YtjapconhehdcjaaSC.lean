/- Check -/
import Derived.Test.YtjapconhehdcjaaSB
import Derived.Deep.DeepCutAuto
namespace Go.Proofs.Ytjapconhehdcjaa
open Go.RowKit Go.Sort
def badL (x : Int) : Bool := decide (x < 1) || decide (100 < x)
def chkL (zs : List Int) : Int := if zs.length = 0 then 4 else if 8 < zs.length then 3 else if zs.any badL then 1 else 0
theorem chkL_bad {zs : List Int} (h0 : zs.length ≠ 0) (h1 : zs.length ≤ 8) {i : Nat} (hi : i < zs.length) (hb : badL (nth zs i) = true) : chkL zs = 1 := by
  unfold chkL
  rw [if_neg h0, if_neg (by omega), if_pos (List.any_eq_true.2 ⟨nth zs i, nth_mem hi, hb⟩)]
theorem chkL_ok {zs : List Int} (h0 : zs.length ≠ 0) (h1 : zs.length ≤ 8) (h : ∀ j, j < zs.length → badL (nth zs j) = false) : chkL zs = 0 := by
  unfold chkL
  rw [if_neg h0, if_neg (by omega), if_neg]
  intro q
  obtain ⟨x, hx, hb⟩ := List.any_eq_true.1 q
  obtain ⟨j, hj, rfl⟩ := List.getElem_of_mem hx
  have := h j hj
  rw [nth_eq, List.getElem?_eq_getElem hj] at this
  simp at this
  rw [this] at hb
  cases hb
set_option maxRecDepth 100000 in
theorem check_any (a : Option Addr) (cap : Nat) (zs : List Int) (w : World) (hA : IntsAt w a zs) (hl : zs.length ≤ 1000) :
    Calls Try.prog 25 #[.slice a zs.length cap] w fun e w' => e = .returned (.int .i64 (chkL zs)) ∧ w = w' := by
  have HA := Lib.hid hA
  clear hA
  have hlx : (zs.length : Int) ≤ 1000 := by omega
  by_cases h0 : zs.length = 0
  · have HC : Hid (chkL zs = 4) := Lib.hid (by unfold chkL; rw [if_pos h0])
    have h0x : (zs.length : Int) = 0 := by omega
    go_enter Try.func25, Try.ntmps25
    go_wp2_with fail
    go_ret
    exact ⟨ret_int HC.out.symm, rfl⟩
  by_cases h1 : 8 < zs.length
  · have HC : Hid (chkL zs = 3) := Lib.hid (by unfold chkL; rw [if_neg h0, if_pos h1])
    have h0x : ¬ (zs.length : Int) = 0 := by omega
    have h1x : (8 : Int) < zs.length := by omega
    go_enter Try.func25, Try.ntmps25
    go_wp2_with fail
    go_ret
    exact ⟨ret_int HC.out.symm, rfl⟩
  have HB := Lib.hid (fun i hi hb => chkL_bad (zs := zs) h0 (by omega) (i := i) hi hb)
  have HK := Lib.hid (fun h => chkL_ok (zs := zs) h0 (by omega) h)
  have h0x : ¬ (zs.length : Int) = 0 := by omega
  have h1x : ¬ (8 : Int) < zs.length := by omega
  go_enter Try.func25, Try.ntmps25
  go_wp2_with fail
  go_loopw [13] (fun iv wr => ∃ i : Nat, i ≤ zs.length ∧ iv = .int .i64 i ∧ Hid (∀ j, j < i → badL (nth zs j) = false) ∧ w = wr) (fun iv _ => zs.length - (intOf iv).toNat)
  case atStart => exact ⟨0, Nat.zero_le _, rfl, Lib.hid (fun j hj => absurd hj (by omega)), rfl⟩
  case round =>
    obtain ⟨i, hi, rfl, HJ, rfl⟩ := hrel
    by_cases hil : i < zs.length
    · have hix : (i : Int) < zs.length := by omega
      obtain ⟨b, o, rfl, hb, c⟩ := HA.out i hil
      by_cases hq : badL (nth zs i) = true
      · have HE := Lib.hid (HB.out i hil hq)
        unfold badL at hq
        generalize nth zs i = x at *
        by_cases q1 : x < 1
        · go_wp2_with fail
          go_ret
          exact ⟨ret_int HE.out.symm, rfl⟩
        · have q2 : 100 < x := by simpa [q1] using hq
          go_wp2_with fail
          go_ret
          exact ⟨ret_int HE.out.symm, rfl⟩
      · have hq' : badL (nth zs i) = false := by simpa using hq
        have HJ2 : Hid (∀ j, j < i + 1 → badL (nth zs j) = false) := Lib.hid (fun j hj => by
          rcases Nat.lt_or_ge j i with q | q
          · exact HJ.out j q
          · obtain rfl : j = i := by omega
            exact hq')
        unfold badL at hq'
        have q1 : ¬ nth zs i < 1 := by simp at hq'; omega
        have q2 : ¬ 100 < nth zs i := by simp at hq'; omega
        clear hq hq'
        generalize nth zs i = x at c q1 q2
        go_wp2_with fail
        go_roundw
        case rel => exact ⟨i + 1, by omega, by go_num, HJ2, trivial⟩
        case measure => simp [intOf]; omega
    · obtain rfl : i = zs.length := by omega
      have HE := Lib.hid (HK.out HJ.out)
      go_wp2_with fail
      go_ret
      exact ⟨ret_int HE.out.symm, rfl⟩
end Go.Proofs.Ytjapconhehdcjaa
