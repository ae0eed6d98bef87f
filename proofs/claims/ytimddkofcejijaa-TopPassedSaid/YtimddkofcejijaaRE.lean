/- Layer 2: how many bits. -/
import Derived.Test.YtimddkofcejijaaRD
import Derived.Shelf.Small.Bits
import Derived.Lib.ItoaNum
namespace Go.Proofs.Ytimddkofcejijaa
open Go.RowKit Go.Sort
open Go.Shelf
def lRen : Go.Shelf.Ren := ⟨fun | 125 => 95 | 128 => 113 | 129 => 114 | n => n, fun | 46 => 62 | 51 => 135 | 53 => 137 | n => n, fun n => n⟩
theorem lLay : Lays.n125 Try.prog lRen :=
  { mixed := (by kernel_rfl)
    f125 := Try.func95.trans (congrArg some (by kernel_rfl))
    f128 := Try.func113.trans (congrArg some (by kernel_rfl))
    f129 := Try.func114.trans (congrArg some (by kernel_rfl))
    t3 := Try.underlying3
    a3 := Try.isAgg3
    z3 := Try.sizeOf3
    v3 := Try.zeroValue3
    t4 := Try.underlying4
    a4 := Try.isAgg4
    z4 := Try.sizeOf4
    v4 := Try.zeroValue4
    t5 := Try.underlying5
    a5 := Try.isAgg5
    z5 := Try.sizeOf5
    v5 := Try.zeroValue5
    t9 := Try.underlying9
    a9 := Try.isAgg9
    z9 := Try.sizeOf9
    v9 := Try.zeroValue9
    t46 := Try.underlying62
    a46 := Try.isAgg62
    z46 := Try.sizeOf62
    v46 := Try.zeroValue62
    t51 := Try.underlying135
    a51 := Try.isAgg135
    z51 := Try.sizeOf135
    v51 := Try.zeroValue135
    t53 := Try.underlying137
    a53 := Try.isAgg137
    z53 := Try.sizeOf137
    v53 := Try.zeroValue137 }
theorem len_any (s : Nat) (w : World) (hs : s < 65536) : Calls Try.prog 95 #[sv s] w fun e w' => e = .returned (.int .i64 (Lib.bitLen s)) ∧ w = w' := by
  have := Any.bits_Len lLay s w (by omega) (by omega)
  rw [Int.toNat_natCast] at this
  exact this.mono fun _ _ h => ⟨h.1, h.2.symm⟩
theorem bitLen16 (s : Nat) (hs : s < 65536) : Lib.bitLen s ≤ 16 := Lib.bitLen_le s 16 (by decide) (by omega)
theorem bit_out (s i : Nat) (hs : s < 65536) (h : Lib.bitLen s ≤ i) : s.testBit i = false := by
  by_cases h0 : s = 0
  · subst h0; exact Nat.zero_testBit i
  · have := (Lib.bitLenAux_bounds 64 s (by have : (2 : Nat) ^ 64 = 18446744073709551616 := by decide
                                           omega) h0).2.2
    exact Nat.testBit_lt_two_pow (Nat.lt_of_lt_of_le this (Nat.pow_le_pow_right (by decide) h))
end Go.Proofs.Ytimddkofcejijaa
