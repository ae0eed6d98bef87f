/- Layer 1: the examples, call by call. -/
import Derived.Test.YtdnbdaegahcoeaaU
namespace Go.Proofs.Ytdnbdaegahcoeaa
open Go.RowKit Go.Sort
/-- w' is w, or w with more in its heap. -/
def Fut (w w' : World) : Prop := RowKit.Below w.heap.size w w'
theorem Fut.rfl {w : World} : Fut w w := RowKit.Below.refl _ _
theorem Fut.trans {a b c : World} (h : Fut a b) (h' : Fut b c) : Fut a c :=
  RowKit.Below.trans h (RowKit.Below.mono h' (RowKit.Below.size h))
theorem Fut.alloc (w : World) (o : Obj) : Fut w (w.alloc o) := RowKit.Below.alloc (RowKit.Below.refl _ _) (Nat.le_refl _) o
theorem Fut.drewN (w : World) (n : Nat) : Fut w (w.drewN n) := below_drewN (RowKit.Below.refl _ _) n
theorem IntsAt.fut {w w' : World} {a : Option Addr} {zs : List Int} (h : IntsAt w a zs) (hb : Fut w w') : IntsAt w' a zs := h.below hb
theorem own_out {w w' : World} {v : Value} {zs : List Int} {n : Nat} (hn : zs.length = n) (h : Owns w' w.heap.size v zs) (hb : RowKit.Below w.heap.size w w') :
    ∃ a cap, v = .slice a n cap ∧ IntsAt w' a zs ∧ Fut w w' := by
  obtain ⟨a, cap, e, hA⟩ := h.ints
  exact ⟨a, cap, hn ▸ e, hA, hb⟩
theorem st_C (w : World) : Calls Try.prog 53 #[] w fun e w' => ∃ a, e = .returned (.slice a 3 3) ∧ IntsAt w' a CL ∧ Fut w w' := by
  refine (C_any w).mono ?_
  rintro e w' ⟨rfl, rfl⟩
  exact ⟨_, rfl, ints_new w CL, Fut.alloc _ _⟩
theorem st_L (a b c : Int) (w : World) : Calls Try.prog 49 #[.slice (some ⟨w.heap.size, 0, none⟩) 3 3] (w.alloc (.cells #[.int .i64 a, .int .i64 b, .int .i64 c] 3)) fun e w' => ∃ l, e = .returned (.slice l 3 3) ∧ IntsAt w' l [a, b, c] ∧ Fut w w' := by
  refine (list_id _ _).mono ?_
  rintro e w' ⟨rfl, rfl⟩
  exact ⟨_, rfl, ints_new w [a, b, c], Fut.alloc _ _⟩
theorem st_div (a : Option Addr) (w : World) (h : IntsAt w a CL) : Calls Try.prog 17 #[.int .i64 200, .slice a 3 3] w fun e w' => ∃ l cap, e = .returned (.tuple #[.slice l 3 cap, .int .i64 0]) ∧ IntsAt w' l [6000, 9000, 9000] ∧ Fut w w' := by
  refine (divide_lo 200 a 3 CL _ w rfl h (by decide) (by decide)).mono ?_
  rintro e w' ⟨v, rfl, hO, hB⟩
  have hO : Owns w' w.heap.size v ((list5 (lev (fun i => K CL i / 2) 3 (200 * 120))).take 3) := hO
  rw [lev_div] at hO
  obtain ⟨l, cap, rfl, hA, hF⟩ := own_out (n := 3) rfl hO hB
  exact ⟨l, cap, rfl, hA, hF⟩
theorem st_gain (a : Option Addr) (w : World) (h : IntsAt w a CL) : Calls Try.prog 19 #[.int .i64 500, .slice a 3 3] w fun e w' => ∃ l cap, e = .returned (.tuple #[.slice l 3 cap, .int .i64 0]) ∧ IntsAt w' l [12000, 24000, 24000] ∧ Fut w w' := by
  refine (gains_ok 500 a 3 CL w h (by decide)).mono ?_
  rintro e w' ⟨v, rfl, hO, hB⟩
  have hO : Owns w' w.heap.size v ((list5 (lev (K CL) 3 (500 * 120))).take 3) := hO
  rw [lev_gain] at hO
  obtain ⟨l, cap, rfl, hA, hF⟩ := own_out (n := 3) rfl hO hB
  exact ⟨l, cap, rfl, hA, hF⟩
theorem st_loss (a : Option Addr) (w : World) (h : IntsAt w a CL) : Calls Try.prog 21 #[.int .i64 300, .slice a 3 3] w fun e w' => ∃ l cap, e = .returned (.tuple #[.slice l 3 cap, .int .i64 0]) ∧ IntsAt w' l [0, 12000, 24000] ∧ Fut w w' := by
  refine (losses_ok 300 a 3 CL w h (by decide)).mono ?_
  rintro e w' ⟨v, rfl, hO, hB⟩
  have hO : Owns w' w.heap.size v ((list5 (fun i => K CL i - lev (K CL) 3 (CL.sum * 120 - 300 * 120) i)).take 3) := hO
  rw [lev_loss] at hO
  obtain ⟨l, cap, rfl, hA, hF⟩ := own_out (n := 3) rfl hO hB
  exact ⟨l, cap, rfl, hA, hF⟩
theorem st_ord (a c : Option Addr) (w : World) (h : IntsAt w a CL) (hc : IntsAt w c [2, 0, 1]) : Calls Try.prog 28 #[.int .i64 200, .slice a 3 3, .slice c 3 3] w fun e w' => ∃ l cap, e = .returned (.tuple #[.slice l 3 cap, .int .i64 0]) ∧ IntsAt w' l [0, 0, 24000] ∧ Fut w w' := by
  refine (order_ok 200 a c 3 3 CL [2, 0, 1] w h hc (by decide) (by decide)).mono ?_
  rintro e w' ⟨v, rfl, hO, hB⟩
  have hO : Owns w' w.heap.size v ((list5 (inF (K CL) [2, 0, 1] (200 * 120) (fun _ => 0))).take 3) := hO
  rw [ord_val] at hO
  obtain ⟨l, cap, rfl, hA, hF⟩ := own_out (n := 3) rfl hO hB
  exact ⟨l, cap, rfl, hA, hF⟩
theorem st_avg (a : Option Addr) (w : World) (h : IntsAt w a CL) : Calls Try.prog 30 #[.int .i64 200, .slice a 3 3] w fun e w' => ∃ l cap, e = .returned (.tuple #[.slice l 3 cap, .int .i64 0]) ∧ IntsAt w' l [4000, 10000, 10000] ∧ Fut w w' := by
  refine (average_ok 200 a 3 CL w h (by decide)).mono ?_
  rintro e w' ⟨v, rfl, hO, hB⟩
  have hO : Owns w' w.heap.size v ((list5 (fun i => addAll (K CL) (200 * 120) (vis 3 (idxL 3) 0) (fun _ => 0) i / (fct 3 : Int))).take 3) := hO
  rw [avg_val] at hO
  obtain ⟨l, cap, rfl, hA, hF⟩ := own_out (n := 3) rfl hO hB
  exact ⟨l, cap, rfl, hA, hF⟩
theorem st_why1 (a c : Option Addr) (cap : Nat) (w : World) (h : IntsAt w a CL) (hc : IntsAt w c [4000, 10000, 10000]) : Calls Try.prog 32 #[.int .i64 200, .slice a 3 3, .slice c 3 cap] w fun e w' => e = .returned (.tuple #[.int .i64 0, .int .i64 1, .int .i64 0]) ∧ Fut w w' := by
  refine (why_ok 200 a c 3 cap CL [4000, 10000, 10000] w (by decide) (by decide) h hc why_val1.1).mono ?_
  rintro e w' ⟨rfl, hB⟩
  rw [why_val1.2]
  exact ⟨rfl, hB⟩
theorem st_why2 (a c : Option Addr) (cap : Nat) (w : World) (h : IntsAt w a CL) (hc : IntsAt w c [6000, 9000, 9000]) : Calls Try.prog 32 #[.int .i64 200, .slice a 3 3, .slice c 3 cap] w fun e w' => e = .returned (.tuple #[.int .i64 0, .int .i64 0, .int .i64 13]) ∧ Fut w w' := by
  refine (why_ok 200 a c 3 cap CL [6000, 9000, 9000] w (by decide) (by decide) h hc why_val2.1).mono ?_
  rintro e w' ⟨rfl, hB⟩
  rw [why_val2.2]
  exact ⟨rfl, hB⟩
theorem st_valid (a c : Option Addr) (cap : Nat) (w : World) (h : IntsAt w a CL) (hc : IntsAt w c [4000, 10000, 10000]) : Calls Try.prog 34 #[.int .i64 200, .slice a 3 3, .slice c 3 cap] w fun e w' => e = .returned (.int .i64 0) ∧ Fut w w' := by
  refine (valid_any 200 a c 3 cap CL [4000, 10000, 10000] w (by decide) (by decide) h hc).mono ?_
  rintro e w' ⟨rfl, hB⟩
  rw [why_val1.1]
  exact ⟨rfl, hB⟩
theorem st_prv0 (a c : Option Addr) (cap : Nat) (w : World) (h : IntsAt w a CL) (hc : IntsAt w c [4000, 10000, 10000]) : Calls Try.prog 36 #[.int .i64 200, .slice a 3 3, .slice c 3 cap, .int .i64 0, .int .i64 1] w fun e w' => e = .returned (.int .i64 0) ∧ Fut w w' := by
  refine (proves_any 200 0 1 a c 3 cap CL [4000, 10000, 10000] w (by decide) (by decide) h hc).mono ?_
  rintro e w' ⟨rfl, hB⟩
  rw [prv_val.1]
  exact ⟨rfl, hB⟩
theorem st_prv1 (a c : Option Addr) (cap : Nat) (w : World) (h : IntsAt w a CL) (hc : IntsAt w c [4000, 10000, 10000]) : Calls Try.prog 36 #[.int .i64 200, .slice a 3 3, .slice c 3 cap, .int .i64 1, .int .i64 2] w fun e w' => e = .returned (.int .i64 14) ∧ Fut w w' := by
  refine (proves_any 200 1 2 a c 3 cap CL [4000, 10000, 10000] w (by decide) (by decide) h hc).mono ?_
  rintro e w' ⟨rfl, hB⟩
  rw [prv_val.2]
  exact ⟨rfl, hB⟩
theorem st_two (w : World) : Calls Try.prog 26 #[.int .i64 100, .int .i64 100, .int .i64 50] w fun e w' => e = .returned (.tuple #[.int .i64 9000, .int .i64 3000, .int .i64 0]) ∧ w = w' := by
  refine (two_ok 100 100 50 w two_val.1).mono ?_
  rintro e w' ⟨rfl, rfl⟩
  rw [two_val.2.1, two_val.2.2]
  exact ⟨rfl, rfl⟩
theorem st_same (a c : Option Addr) (cap : Nat) (zs : List Int) (w : World) (hl : zs.length = 3) (h : IntsAt w a zs) (hc : IntsAt w c zs) : Calls Try.prog 23 #[.slice a 3 cap, .slice c 3 3] w fun e w' => e = .returned (.bool true) ∧ Fut w w' := by
  have := same_any a c cap 3 zs zs w (by omega) (by omega) h hc
  rw [hl] at this
  refine this.mono ?_
  rintro e w' ⟨rfl, q, rfl⟩
  exact ⟨by simp [sameB], Fut.drewN _ _⟩
end Go.Proofs.Ytdnbdaegahcoeaa
