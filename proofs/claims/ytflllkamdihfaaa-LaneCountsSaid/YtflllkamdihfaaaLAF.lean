/- the reference's step 88: rstep_any -/
import Derived.Test.YtflllkamdihfaaaLAE
namespace Go.Proofs.Ytflllkamdihfaaa
open Go.RowKit Go.Sort
/-- is there a step from x to y? -/
def rstE (c x y : Int) : Bool := (decide (y = x + 1) && decide (0 < y % c)) || decide (y = x + c)
set_option maxRecDepth 100000 in
theorem rstep_any (r c m : Int) (hs : Side r c m) (a : Option Addr) (n cap : Nat) (x y : Int) (hx : 0 ≤ x ∧ x ≤ 16) (hy : 0 ≤ y ∧ y ≤ 16) (w : World) :
    Calls Try.prog 88 #[parV r c a n cap, .int .i64 x, .int .i64 y] w fun e w' => e = .returned (.bool (rstE c x y)) ∧ Fut w w' := by
  obtain ⟨h1, h2, h3, h4, _⟩ := hs
  have HF : Hid (Fut w (w.alloc (.cells #[.int .i64 r, .int .i64 c, .slice a n cap] 29))) := Lib.hid (Fut.alloc _ _)
  obtain ⟨E, HE⟩ : ∃ E, Hid (rstE c x y = E) := ⟨_, Lib.hid rfl⟩
  rw [HE.out]
  obtain ⟨hx0, hx1⟩ := hx
  obtain ⟨hy0, hy1⟩ := hy
  have hc0 : ¬ c = 0 := by omega
  have hw1 : IntKind.i64.wrap (x + 1) = x + 1 := IntWalk.i64_in _ ⟨by omega, by omega⟩
  have hw2 : IntKind.i64.wrap (x + c) = x + c := IntWalk.i64_in _ ⟨by omega, by omega⟩
  go_enter Try.func88, Try.ntmps88
  go_wp2_with fail
  all_goals
    rename_i h9
    go_ret
    refine ⟨?_, HF.out⟩
    rw [← HE.out]
    refine retb ?_
    unfold rstE
    rw [Bool.eq_iff_iff]
    simp only [Bool.or_eq_true, Bool.and_eq_true, decide_eq_true_eq, beq_iff_eq, true_iff]
    first
      | omega
      | (rename_i h8; subst h8; exact .inl ⟨rfl, h9⟩)
      | (rename_i h8; subst h8; simp only [true_and])
      | (rename_i h8; subst h8; simp only [true_and]; omega)
      | (subst h9; simp only [true_and])
      | (simp_all)
end Go.Proofs.Ytflllkamdihfaaa
