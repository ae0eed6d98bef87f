/- Valid -/
import Derived.Test.YtjapconhehdcjaaSX
import Derived.Deep.DeepCutAuto
import Derived.Deep.AppendLies
namespace Go.Proofs.Ytjapconhehdcjaa
open Go.RowKit Go.Sort
def validE (n : Int) (zs : List Int) : Int := if 1 ≤ n ∧ n ≤ 8 then (match rdI 8 0 (n - 1) zs with | some [] => 0 | _ => 5) else 1
set_option maxRecDepth 100000 in
theorem valid_any (n : Int) (a : Option Addr) (cap : Nat) (zs : List Int) (w : World) (hA : IntsAt w a zs) (hlc : zs.length ≤ cap) (hl : zs.length ≤ 1000) :
    Calls Try.prog 35 #[.int .i64 n, .slice a zs.length cap] w fun e w' => e = .returned (.int .i64 (validE n zs)) ∧ Fut w w' := by
  have HKI := Lib.hid (kinds_any n w)
  have hlx : (zs.length : Int) ≤ 1000 := by omega
  by_cases hn : 1 ≤ n ∧ n ≤ 8
  · have HV : Hid (validE n zs = match rdI 8 0 (n - 1) zs with | some [] => 0 | _ => 5) := Lib.hid (by unfold validE; rw [if_pos hn])
    rw [decide_eq_true hn] at HKI
    obtain ⟨m, hm⟩ : ∃ m, m = n - 1 := ⟨_, rfl⟩
    rw [← hm] at HV
    have HRD := Lib.hid (fun W (k : Fut w W) => read_any 8 0 m (by omega) (by omega) (by omega) (by omega) a zs cap W (hA.fut k) hlc hl)
    obtain ⟨k, rfl⟩ : ∃ k : Nat, n = k := ⟨n.toNat, by omega⟩
    have HAL : Hid (∀ W, Calls Try.prog 65 #[.int .i64 (k : Nat)] W fun e w' => e = .returned (spV 0 m) ∧ Fut W w') := Lib.hid (fun W => by
      have h := allOf_any k (by omega) W
      rw [← hm] at h
      exact h)
    clear hn hm hA
    go_enter Try.func35, Try.ntmps35
    go_wp2_with fail
    refine HKI.out.mono ?_
    rintro _ _ ⟨rfl, rfl⟩
    go_wp2_with fail
    refine (HAL.out _).mono ?_
    rintro _ w1 ⟨rfl, F1⟩
    go_wp2_with fail
    refine (HRD.out _ F1).mono ?_
    rintro _ w2 ⟨lb, lcb, rfl, hR1, hR2, hI, F2⟩
    have HF2 := Lib.hid (F1.trans F2)
    clear F1 F2 hI HRD HAL HKI
    cases hrd : rdI 8 0 m zs with
    | none =>
      have HV2 : Hid (validE (k : Nat) zs = 5) := Lib.hid (by rw [HV.out, hrd])
      simp only [Option.getD_none, Option.isSome_none, List.length_nil]
      clear hR1 hR2
      go_wp2_with fail
      go_ret
      exact ⟨ret_int HV2.out.symm, HF2.out⟩
    | some r =>
      simp only [Option.getD_some, Option.isSome_some]
      rw [hrd] at hR1 hR2
      simp only [Option.getD_some] at hR1 hR2
      cases r with
      | nil =>
        have HV2 : Hid (validE (k : Nat) zs = 0) := Lib.hid (by rw [HV.out, hrd])
        go_wp2_with fail
        go_ret
        exact ⟨ret_int HV2.out.symm, HF2.out⟩
      | cons s r =>
        have HV2 : Hid (validE (k : Nat) zs = 5) := Lib.hid (by rw [HV.out, hrd])
        have hp : (0 : Int) < ((s :: r).length : Nat) := by simp
        have hp2 : 0 < (s :: r).length := by simp
        have hrx : ((s :: r).length : Int) ≤ 1000 := by omega
        generalize (s :: r).length = j at *
        go_wp2_with fail
        go_ret
        exact ⟨ret_int HV2.out.symm, HF2.out⟩
  · have HV : Hid (validE n zs = 1) := Lib.hid (by unfold validE; rw [if_neg hn])
    rw [decide_eq_false hn] at HKI
    rw [HV.out]
    clear hn
    go_enter Try.func35, Try.ntmps35
    go_wp2_with fail
    refine HKI.out.mono ?_
    rintro _ _ ⟨rfl, rfl⟩
    go_wp2_with fail
    go_ret
    exact ⟨rfl, Fut.rfl⟩
end Go.Proofs.Ytjapconhehdcjaa
