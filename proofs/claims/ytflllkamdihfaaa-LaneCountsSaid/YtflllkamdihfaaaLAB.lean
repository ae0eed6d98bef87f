/- apart 81: aptF_any -/
import Derived.Test.YtflllkamdihfaaaLAA
import Derived.Test.YtflllkamdihfaaaLD
namespace Go.Proofs.Ytflllkamdihfaaa
open Go.RowKit Go.Sort
/-- apart makes the search and keeps both boxes. -/
theorem aptF_any (r c : Int) (a : Option Addr) (n cap : Nat) (ya : Option Addr) (yn yc : Nat) (ta : Option Addr) (tn tc : Nat) (w : World) :
    Calls Try.prog 81 #[parV r c a n cap, plaV ya yn yc ta tn tc] w fun e w' => e = .returned (.func (.func 110) #[] #[.pointer (some ⟨w.heap.size + 1, 0, none⟩), .pointer (some ⟨w.heap.size, 0, none⟩)]) ∧ Fut w w' ∧ BoxP w' w.heap.size r c a n cap ∧ BoxQ w' (w.heap.size + 1) ya yn yc ta tn tc := by
  have hA : Fut w ((w.alloc (.cells #[.int .i64 r, .int .i64 c, .slice a n cap] 24)).alloc (.cells #[.slice ya yn yc, .slice ta tn tc] 26)) := (Fut.alloc _ _).trans (Fut.alloc _ _)
  have hBP := (BoxP.new w r c a n cap).fut (Fut.alloc _ (.cells #[.slice ya yn yc, .slice ta tn tc] 26))
  have hBQ := BoxQ.new (w.alloc (.cells #[.int .i64 r, .int .i64 c, .slice a n cap] 24)) ya yn yc ta tn tc
  rw [World.size_alloc] at hBQ
  have HA := Lib.hid hA
  have HBP := Lib.hid hBP
  have HBQ := Lib.hid hBQ
  clear hA hBP hBQ
  go_enter Try.func81, Try.ntmps81
  go_wp2_with fail
  go_ret
  exact ⟨rfl, HA.out, HBP.out, HBQ.out⟩
end Go.Proofs.Ytflllkamdihfaaa
