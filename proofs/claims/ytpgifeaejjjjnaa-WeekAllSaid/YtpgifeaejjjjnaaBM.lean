/- Layer 3: completed. -/
import Derived.Test.YtpgifeaejjjjnaaBL
namespace Go.Proofs.Ytpgifeaejjjjnaa
open Go.RowKit Go.Sort
abbrev CompP (n : Nat) (bar : Option Nat) (F : Nat → Nat → Int) (w : World) (e : Ending) (w' : World) : Prop :=
  match bar with
  | some _ => e = .returned (.tuple #[.slice none 0 0, .int .i64 12]) ∧ Fut w w'
  | none => ∃ v, e = .returned (.tuple #[v, .int .i64 0]) ∧ OwnG w' w.heap.size v n n F ∧ Fut w w'
theorem as_miss (x : Value) (W : World) : (Instr.typeAssert (.iface 84 x) 20 114 true).run Try.prog W = .ok (.tuple #[.slice none 0 0, .bool false]) W := by kernel_rfl
theorem as_hit (x : Value) (W : World) : (Instr.typeAssert (.iface 114 x) 20 114 true).run Try.prog W = .ok (.tuple #[x, .bool true]) W := by kernel_rfl
theorem as_miss84 (x : Value) (W : World) : (Instr.typeAssert (.iface 114 x) 20 84 true).run Try.prog W = .ok (.tuple #[.int .i64 0, .bool false]) W := by kernel_rfl
theorem as_hit84 (x : Value) (W : World) : (Instr.typeAssert (.iface 84 x) 20 84 true).run Try.prog W = .ok (.tuple #[x, .bool true]) W := by kernel_rfl
set_option maxRecDepth 100000 in
theorem completed_any (n : Nat) (sv : Value) (bar : Option Nat) (F : Nat → Nat → Int) (w : World) (H : Calls Try.prog 87 #[.int .i64 n, sv] w (SearchP n bar F w)) :
    Calls Try.prog 80 #[.int .i64 n, sv] w (CompP n bar F w) := by
  have HH := Lib.hid H
  have hq1 := as_miss
  have hq2 := as_hit
  clear H
  cases bar with
  | some s =>
    go_enter Try.func80, Try.ntmps80
    go_wp2_with fail
    refine HH.out.mono ?_
    rintro _ w3 ⟨rfl, F3⟩
    have HF3 := Lib.hid F3
    clear F3
    go_wp2
    go_ret2
    exact ⟨rfl, HF3.out⟩
  | none =>
    go_enter Try.func80, Try.ntmps80
    go_wp2_with fail
    refine HH.out.mono ?_
    rintro _ w3 ⟨v, rfl, ⟨g, bl, rfl, hG⟩, F3⟩
    have HF3 := Lib.hid F3
    have HG := Lib.hid hG
    clear F3 hG
    go_wp2
    go_ret2
    exact ⟨_, rfl, ⟨g, bl, rfl, HG.out⟩, HF3.out⟩
end Go.Proofs.Ytpgifeaejjjjnaa
