/- the reference's corner 71: rcorner_any; BoxR.new -/
import Derived.Test.YtflllkamdihfaaaLAD
namespace Go.Proofs.Ytflllkamdihfaaa
open Go.RowKit Go.Sort
theorem BoxR.new (w : World) (r c : Int) (a : Option Addr) (n cap : Nat) : BoxP (w.alloc (.cells #[.int .i64 r, .int .i64 c, .slice a n cap] 29)) w.heap.size r c a n cap := by
  have h := World.alloc_heap_new w (.cells #[.int .i64 r, .int .i64 c, .slice a n cap] 29)
  exact ⟨by simp, by unfold World.cell?; rw [h]; rfl, by unfold World.cell?; rw [h]; rfl, by unfold World.cell?; rw [h]; rfl⟩
set_option maxRecDepth 100000 in
theorem rcorner_any (r c m : Int) (hs : Side r c m) (a : Option Addr) (n cap : Nat) (x : Int) (w : World) :
    Calls Try.prog 71 #[parV r c a n cap, .int .i64 x] w fun e w' => e = .returned (.bool (inB m x)) ∧ Fut w w' := by
  have hm := hs.m
  obtain ⟨h1, h2, h3, h4, h5⟩ := hs
  obtain ⟨hm1, hm2⟩ := hm
  have hw : IntKind.i64.wrap (r * c) = m := by rw [h5]; exact IntWalk.i64_in _ ⟨by omega, by omega⟩
  have hw2 : wrap64 (r * c) = m := by rw [h5]; unfold wrap64; omega
  have HF : Hid (Fut w (w.alloc (.cells #[.int .i64 r, .int .i64 c, .slice a n cap] 29))) := Lib.hid (Fut.alloc _ _)
  have HR := Lib.hid (fun W => rin_any x 0 (m - 1) W)
  have hin : Hid ((decide (0 ≤ x) && decide (x ≤ m - 1)) = inB m x) := Lib.hid (by
    unfold inB
    congr 1
    rw [decide_eq_decide]
    omega)
  clear h5
  go_enter Try.func71, Try.ntmps71
  go_wp2_with fail
  refine (HR.out _).mono ?_
  rintro _ _ ⟨rfl, rfl⟩
  go_wp2_with fail
  go_ret
  exact ⟨by rw [← hin.out]; rfl, HF.out⟩
end Go.Proofs.Ytflllkamdihfaaa
