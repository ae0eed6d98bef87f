/- Layer 2: sets of numbers. -/
import Derived.Test.YtimddkofcejijaaRows
import Derived.WalkKit
import Derived.WalkSpells
import Derived.WalkLawsBesides
import Derived.RegionTactic
import Derived.BigRegion
import Derived.Deep.RegionHeld3
import Derived.Deep.RegionWith
import Derived.Deep.QuietTactic
import Derived.BigQuiet
import Derived.Lib.Hide
import Derived.IntWalk
import Derived.Laws.BitsAllLaws
import Derived.Deep.AppendLies
import Derived.Maps.AppendAt
import Derived.OwnWalk
import Derived.Laws.AppendOwnNone
import Derived.Deep.DeepCutAuto
import Derived.Test.YtimddkofcejijaaCA
namespace Go.Proofs.Ytimddkofcejijaa
open Go.RowKit Go.Sort
abbrev sv (s : Nat) : Value := .int .u64 (s : Int)
theorem wrap_two (i : Nat) (h : i ≤ 62) : IntKind.u64.wrap ((2 : Int) ^ i) = ((2 ^ i : Nat) : Int) := by
  have h1 : 2 ^ i ≤ 2 ^ 62 := Nat.pow_le_pow_right (by decide) h
  rw [IntKind.wrap_u64]
  have h2 : ((2 : Int) ^ i) = ((2 ^ i : Nat) : Int) := by simp
  have h3 : (2 : Nat) ^ 62 = 4611686018427387904 := by decide
  rw [h2]
  rw [h3] at h1
  generalize 2 ^ i = q at *
  omega
theorem retb {a b : Bool} (h : a = b) : Ending.returned (.bool a) = .returned (.bool b) := by rw [h]
theorem retu {a b : Int} (h : a = b) : Ending.returned (.int .u64 a) = .returned (.int .u64 b) := by rw [h]
theorem one_any (i : Nat) (w : World) (h : i ≤ 62) : Calls Try.prog 96 #[.int .i64 i] w fun e w' => e = .returned (sv (2 ^ i)) ∧ w = w' := by
  have h' : (i : Int) ≤ 62 := by omega
  have H := Lib.hid (wrap_two i h)
  go_enter Try.func96, Try.ntmps96
  go_wp2
  go_ret
  exact ⟨retu H.out, rfl⟩
theorem below_any (k : Nat) (w : World) (h : k ≤ 62) : Calls Try.prog 60 #[.int .i64 k] w fun e w' => e = .returned (sv (2 ^ k - 1)) ∧ w = w' := by
  have h' : (k : Int) ≤ 62 := by omega
  have H := Lib.hid (wrap_two k h)
  go_enter Try.func60, Try.ntmps60
  go_wp2
  go_ret
  refine ⟨retu ?_, rfl⟩
  have h1 : 1 ≤ 2 ^ k := Nat.one_le_two_pow
  have h2 : 2 ^ k ≤ 2 ^ 62 := Nat.pow_le_pow_right (by decide) h
  have h3 : (2 : Nat) ^ 62 = 4611686018427387904 := by decide
  have h4 := H.out
  rw [h3] at h2
  rw [h4]
  generalize 2 ^ k = q at *
  rw [IntKind.wrap_u64]
  omega
theorem hasbit (s i : Nat) : (s &&& 2 ^ i != 0) = s.testBit i := by
  have e : ∀ j, (s &&& 2 ^ i).testBit j = (s.testBit j && decide (i = j)) := fun j => by rw [Nat.testBit_and, Nat.testBit_two_pow]
  cases h : s.testBit i
  · have : s &&& 2 ^ i = 0 := Nat.eq_of_testBit_eq fun j => by
      rw [e j, Nat.zero_testBit]
      by_cases hj : i = j
      · subst hj; simp [h]
      · simp [hj]
    simp [this]
  · have : s &&& 2 ^ i ≠ 0 := fun h0 => by
      have := e i
      rw [h0, Nat.zero_testBit, h] at this
      simp at this
    simpa using this
theorem has_any (s i : Nat) (w : World) (hs : s < 65536) (h : i ≤ 62) : Calls Try.prog 71 #[sv s, .int .i64 i] w fun e w' => e = .returned (.bool (s.testBit i)) ∧ w = w' := by
  have h2 : 2 ^ i ≤ 2 ^ 62 := Nat.pow_le_pow_right (by decide) h
  have h3 : (2 : Nat) ^ 62 = 4611686018427387904 := by decide
  have e : bits BinOp.and IntKind.u64 (s : Int) ((2 ^ i : Nat) : Int) = ((s &&& 2 ^ i : Nat) : Int) := u64_and_nat s (2 ^ i) (by omega) (by omega)
  have H := Lib.hid (fun w => one_any i w h)
  have HB := Lib.hid (hasbit s i)
  generalize hp : 2 ^ i = p at *
  have hp' : (p : Int) ≤ 4611686018427387904 := by omega
  clear hp h2 h3
  go_enter Try.func71, Try.ntmps71
  go_wp2_with fail
  refine (H.out _).mono ?_
  rintro _ _ ⟨rfl, rfl⟩
  go_wp2
  go_ret
  refine ⟨retb ?_, rfl⟩
  rw [← HB.out]
  by_cases h : s &&& p = 0
  · rw [h]; rfl
  · have h' : ((s &&& p : Nat) : Int) ≠ 0 := by omega
    rw [bne_iff_ne.2 h, bne_iff_ne.2 h']

theorem within_any (s t : Nat) (w : World) (hs : s < 65536) (ht : t < 65536) : Calls Try.prog 80 #[sv s, sv t] w fun e w' => e = .returned (.bool (decide (s &&& t = s))) ∧ w = w' := by
  have e : bits BinOp.andNot IntKind.u64 (s : Int) (t : Int) = ((s &&& (18446744073709551615 - t) : Nat) : Int) := u64_andNot_nat s t (by omega) (by omega)
  have H : Hid ((s &&& (18446744073709551615 - t) = 0) ↔ (s &&& t = s)) := Lib.hid (by
    have hb : ∀ i, (18446744073709551615 - t).testBit i = (decide (i < 64) && !t.testBit i) := fun i => by
      have := Nat.testBit_two_pow_sub_succ (x := t) (n := 64) (by omega) i
      rw [← this]; congr 1; have : (2 : Nat) ^ 64 = 18446744073709551616 := by decide
      omega
    have hs64 : ∀ i, 64 ≤ i → s.testBit i = false := fun i hi => Nat.testBit_lt_two_pow (Nat.lt_of_lt_of_le (by omega : s < 2 ^ 16) (Nat.pow_le_pow_right (by decide) (by omega)))
    constructor
    · intro h
      refine Nat.eq_of_testBit_eq fun i => ?_
      have h1 : (s &&& (18446744073709551615 - t)).testBit i = false := by rw [h]; exact Nat.zero_testBit i
      rw [Nat.testBit_and, hb] at h1
      rw [Nat.testBit_and]
      by_cases hi : i < 64
      · cases hsi : s.testBit i <;> cases hti : t.testBit i <;> simp_all
      · rw [hs64 i (by omega)]; rfl
    · intro h
      refine Nat.eq_of_testBit_eq fun i => ?_
      have h1 : (s &&& t).testBit i = s.testBit i := by rw [h]
      rw [Nat.testBit_and] at h1
      rw [Nat.testBit_and, hb, Nat.zero_testBit]
      cases hsi : s.testBit i <;> cases hti : t.testBit i <;> simp_all)
  go_enter Try.func80, Try.ntmps80
  go_wp2
  go_ret
  refine ⟨retb ?_, rfl⟩
  by_cases h : s &&& (18446744073709551615 - t) = 0
  · rw [decide_eq_true (H.out.1 h), h]; rfl
  · have h' : ((s &&& (18446744073709551615 - t) : Nat) : Int) ≠ 0 := by omega
    rw [decide_eq_false (fun k => h (H.out.2 k))]
    exact beq_eq_false_iff_ne.2 h'
end Go.Proofs.Ytimddkofcejijaa
