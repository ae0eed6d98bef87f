/- Layer 2: how many bits. -/
import Derived.Test.YtimddkofcejijaaDoorRD
import Derived.Shelf.Small.Bits
import Derived.Lib.ItoaNum
namespace Go.Proofs.YtimddkofcejijaaDoor
open Go.RowKit Go.Sort
open Go.Shelf
def lRen : Go.Shelf.Ren := ⟨fun | 125 => 66 | 128 => 77 | 129 => 78 | n => n, fun | 46 => 31 | 51 => 79 | 53 => 81 | n => n, fun n => n⟩
theorem lLay : Lays.n125 Tryd.prog lRen :=
  { mixed := (by kernel_rfl)
    f125 := Tryd.func66.trans (congrArg some (by kernel_rfl))
    f128 := Tryd.func77.trans (congrArg some (by kernel_rfl))
    f129 := Tryd.func78.trans (congrArg some (by kernel_rfl))
    t3 := Tryd.underlying3
    a3 := Tryd.isAgg3
    z3 := Tryd.sizeOf3
    v3 := Tryd.zeroValue3
    t4 := Tryd.underlying4
    a4 := Tryd.isAgg4
    z4 := Tryd.sizeOf4
    v4 := Tryd.zeroValue4
    t5 := Tryd.underlying5
    a5 := Tryd.isAgg5
    z5 := Tryd.sizeOf5
    v5 := Tryd.zeroValue5
    t9 := Tryd.underlying9
    a9 := Tryd.isAgg9
    z9 := Tryd.sizeOf9
    v9 := Tryd.zeroValue9
    t46 := Tryd.underlying31
    a46 := Tryd.isAgg31
    z46 := Tryd.sizeOf31
    v46 := Tryd.zeroValue31
    t51 := Tryd.underlying79
    a51 := Tryd.isAgg79
    z51 := Tryd.sizeOf79
    v51 := Tryd.zeroValue79
    t53 := Tryd.underlying81
    a53 := Tryd.isAgg81
    z53 := Tryd.sizeOf81
    v53 := Tryd.zeroValue81 }
theorem len_any (s : Nat) (w : World) (hs : s < 65536) : Calls Tryd.prog 66 #[sv s] w fun e w' => e = .returned (.int .i64 (Lib.bitLen s)) ∧ w = w' := by
  have := Any.bits_Len lLay s w (by omega) (by omega)
  rw [Int.toNat_natCast] at this
  exact this.mono fun _ _ h => ⟨h.1, h.2.symm⟩
theorem bitLen16 (s : Nat) (hs : s < 65536) : Lib.bitLen s ≤ 16 := Lib.bitLen_le s 16 (by decide) (by omega)
theorem bit_out (s i : Nat) (hs : s < 65536) (h : Lib.bitLen s ≤ i) : s.testBit i = false := by
  by_cases h0 : s = 0
  · subst h0; exact Nat.zero_testBit i
  · have := (Lib.bitLenAux_bounds 64 s (by have : (2 : Nat) ^ 64 = 18446744073709551616 := by decide
                                           omega) h0).2.2
    exact Nat.testBit_lt_two_pow (Nat.lt_of_lt_of_le this (Nat.pow_le_pow_right (by decide) h))
end Go.Proofs.YtimddkofcejijaaDoor
