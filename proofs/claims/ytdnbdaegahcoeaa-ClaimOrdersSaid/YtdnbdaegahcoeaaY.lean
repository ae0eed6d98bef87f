/- Layer 1: the known answers, call by call. -/
import Derived.Test.YtdnbdaegahcoeaaW
namespace Go.Proofs.Ytdnbdaegahcoeaa
open Go.RowKit Go.Sort
theorem kn_div1 : (list5 (lev (fun i => K CL i / 2) 3 (100 * 120))).take 3 = [4000, 4000, 4000] := by
  have h := lev_eq (fun i => K CL i / 2) 3 (by decide) (100 * 120) 4000 (by decide) (by decide)
  simp only [list5, h]; decide
theorem kn_div3 : (list5 (lev (fun i => K CL i / 2) 3 (300 * 120))).take 3 = [6000, 12000, 18000] := by
  have h := lev_eq (fun i => K CL i / 2) 3 (by decide) (300 * 120) 18000 (by decide) (by decide)
  simp only [list5, h]; decide
theorem kn_div5 : (list5 (fun i => K CL i - lev (fun i => K CL i / 2) 3 (CL.sum * 120 - 500 * 120) i)).take 3 = [8000, 20000, 32000] := by
  have h := lev_eq (fun i => K CL i / 2) 3 (by decide) (CL.sum * 120 - 500 * 120) 4000 (by decide) (by decide)
  simp only [list5, h]; decide
theorem kn_gain : (list5 (lev (K CL) 3 (300 * 120))).take 3 = [12000, 12000, 12000] := by
  have h := lev_eq (K CL) 3 (by decide) (300 * 120) 12000 (by decide) (by decide)
  simp only [list5, h]; decide
theorem kn_loss : (list5 (fun i => K CL i - lev (K CL) 3 (CL.sum * 120 - 100 * 120) i)).take 3 = [0, 0, 12000] := by
  have h := lev_eq (K CL) 3 (by decide) (CL.sum * 120 - 100 * 120) 24000 (by decide) (by decide)
  simp only [list5, h]; decide
theorem kn_ord : (list5 (inF (K CL) [0, 1, 2] (200 * 120) (fun _ => 0))).take 3 = [12000, 12000, 0] := by decide
theorem kn_avg : (list5 (fun i => addAll (K CL) (300 * 120) (vis 3 (idxL 3) 0) (fun _ => 0) i / (fct 3 : Int))).take 3 = [6000, 12000, 18000] := by decide
theorem kn_vld : vld 200 CL [4000, 10000, 9999] = 17 ∧ vld 200 CL [12001, 0, 11999] = 1 ∧ vld 200 CL [1, 2] = 5 ∧ prv 200 CL [4000, 10000, 10000] 1 1 = 6 ∧ prv 200 CL [4000, 10000, 10000] 0 3 = 2 := by decide
theorem kn_chk : chk 1 [] = 4 ∧ chk 301 [100, 200] = 1 ∧ chk 1 [0] = 1 ∧ chk 1 [0, 0, 0, 0, 0, 0] = 3 := by decide
theorem kn_two : twoB 30 100 50 = true ∧ tw1 (30 * 120) (100 * 120) (50 * 120) / 2 = 1800 ∧ tw1 (30 * 120) (50 * 120) (100 * 120) / 2 = 1800 ∧ twoB 151 100 50 = false := by decide
theorem kn_once : onceE 3 [0, 0, 1] = 6 ∧ onceE 3 [0, 1] = 5 := by decide
/-- a call that hands back a slice and no error. -/
abbrev Sl1 (w : World) (zs : List Int) (e : Ending) (w' : World) : Prop := ∃ l cap, e = .returned (.tuple #[.slice l 3 cap, .int .i64 0]) ∧ IntsAt w' l zs ∧ Fut w w'
theorem own_sl1 {w : World} {f : List Int} {zs : List Int} {P : Program} {k : Nat} {args : Array Value} (hf : f = zs) (hl : zs.length = 3)
    (h : Calls P k args w fun e w' => ∃ v, e = .returned (.tuple #[v, .int .i64 0]) ∧ Owns w' w.heap.size v f ∧ RowKit.Below w.heap.size w w') : Calls P k args w (Sl1 w zs) := by
  refine h.mono ?_
  rintro e w' ⟨v, rfl, hO, hB⟩
  rw [hf] at hO
  obtain ⟨l, cap, rfl, hA, hF⟩ := own_out hl hO hB
  exact ⟨l, cap, rfl, hA, hF⟩
theorem kn_d1 (a : Option Addr) (w : World) (h : IntsAt w a CL) : Calls Try.prog 17 #[.int .i64 100, .slice a 3 3] w (Sl1 w [4000, 4000, 4000]) :=
  own_sl1 kn_div1 rfl (divide_lo 100 a 3 CL _ w rfl h (by decide) (by decide))
theorem kn_d3 (a : Option Addr) (w : World) (h : IntsAt w a CL) : Calls Try.prog 17 #[.int .i64 300, .slice a 3 3] w (Sl1 w [6000, 12000, 18000]) :=
  own_sl1 kn_div3 rfl (divide_lo 300 a 3 CL _ w rfl h (by decide) (by decide))
theorem kn_d5 (a : Option Addr) (w : World) (h : IntsAt w a CL) : Calls Try.prog 17 #[.int .i64 500, .slice a 3 3] w (Sl1 w [8000, 20000, 32000]) :=
  own_sl1 kn_div5 rfl (divide_hi 500 a 3 CL _ w rfl h (by decide) (by decide))
theorem kn_g (a : Option Addr) (w : World) (h : IntsAt w a CL) : Calls Try.prog 19 #[.int .i64 300, .slice a 3 3] w (Sl1 w [12000, 12000, 12000]) :=
  own_sl1 kn_gain rfl (gains_ok 300 a 3 CL w h (by decide))
theorem kn_l (a : Option Addr) (w : World) (h : IntsAt w a CL) : Calls Try.prog 21 #[.int .i64 100, .slice a 3 3] w (Sl1 w [0, 0, 12000]) :=
  own_sl1 kn_loss rfl (losses_ok 100 a 3 CL w h (by decide))
theorem kn_o (a c : Option Addr) (w : World) (h : IntsAt w a CL) (hc : IntsAt w c [0, 1, 2]) : Calls Try.prog 28 #[.int .i64 200, .slice a 3 3, .slice c 3 3] w (Sl1 w [12000, 12000, 0]) :=
  own_sl1 kn_ord rfl (order_ok 200 a c 3 3 CL [0, 1, 2] w h hc (by decide) (by decide))
theorem kn_o6 (a c : Option Addr) (w : World) (h : IntsAt w a CL) (hc : IntsAt w c [0, 0, 1]) : Calls Try.prog 28 #[.int .i64 200, .slice a 3 3, .slice c 3 3] w fun e w' => e = .returned (.tuple #[.slice none 0 0, .int .i64 6]) ∧ Fut w w' := by
  refine (order_err2 200 a c 3 3 CL [0, 0, 1] w (by decide) h hc (by decide) (by decide)).mono ?_
  rintro e w' ⟨rfl, hB⟩
  exact ⟨congrArg (fun z => Ending.returned (.tuple #[.slice none 0 0, .int .i64 z])) kn_once.1, hB⟩
theorem kn_o5 (a c : Option Addr) (w : World) (h : IntsAt w a CL) (hc : IntsAt w c [0, 1]) : Calls Try.prog 28 #[.int .i64 200, .slice a 3 3, .slice c 2 2] w fun e w' => e = .returned (.tuple #[.slice none 0 0, .int .i64 5]) ∧ Fut w w' := by
  refine (order_err2 200 a c 3 2 CL [0, 1] w (by decide) h hc (by decide) (by decide)).mono ?_
  rintro e w' ⟨rfl, hB⟩
  exact ⟨congrArg (fun z => Ending.returned (.tuple #[.slice none 0 0, .int .i64 z])) kn_once.2, hB⟩
theorem kn_a (a : Option Addr) (w : World) (h : IntsAt w a CL) : Calls Try.prog 30 #[.int .i64 300, .slice a 3 3] w (Sl1 w [6000, 12000, 18000]) :=
  own_sl1 kn_avg rfl (average_ok 300 a 3 CL w h (by decide))
theorem kn_v1 (a c : Option Addr) (w : World) (h : IntsAt w a CL) (hc : IntsAt w c [4000, 10000, 9999]) : Calls Try.prog 34 #[.int .i64 200, .slice a 3 3, .slice c 3 3] w fun e w' => e = .returned (.int .i64 17) ∧ Fut w w' := by
  refine (valid_any 200 a c 3 3 CL [4000, 10000, 9999] w (by decide) (by decide) h hc).mono ?_
  rintro e w' ⟨rfl, hB⟩
  rw [kn_vld.1]; exact ⟨rfl, hB⟩
theorem kn_v2 (a c : Option Addr) (w : World) (h : IntsAt w a CL) (hc : IntsAt w c [12001, 0, 11999]) : Calls Try.prog 34 #[.int .i64 200, .slice a 3 3, .slice c 3 3] w fun e w' => e = .returned (.int .i64 1) ∧ Fut w w' := by
  refine (valid_any 200 a c 3 3 CL [12001, 0, 11999] w (by decide) (by decide) h hc).mono ?_
  rintro e w' ⟨rfl, hB⟩
  rw [kn_vld.2.1]; exact ⟨rfl, hB⟩
theorem kn_v3 (a c : Option Addr) (w : World) (h : IntsAt w a CL) (hc : IntsAt w c [1, 2]) : Calls Try.prog 34 #[.int .i64 200, .slice a 3 3, .slice c 2 2] w fun e w' => e = .returned (.int .i64 5) ∧ Fut w w' := by
  refine (valid_any 200 a c 3 2 CL [1, 2] w (by decide) (by decide) h hc).mono ?_
  rintro e w' ⟨rfl, hB⟩
  rw [kn_vld.2.2.1]; exact ⟨rfl, hB⟩
theorem kn_p1 (a c : Option Addr) (w : World) (h : IntsAt w a CL) (hc : IntsAt w c [4000, 10000, 10000]) : Calls Try.prog 36 #[.int .i64 200, .slice a 3 3, .slice c 3 3, .int .i64 1, .int .i64 1] w fun e w' => e = .returned (.int .i64 6) ∧ Fut w w' := by
  refine (proves_any 200 1 1 a c 3 3 CL [4000, 10000, 10000] w (by decide) (by decide) h hc).mono ?_
  rintro e w' ⟨rfl, hB⟩
  rw [kn_vld.2.2.2.1]; exact ⟨rfl, hB⟩
theorem kn_p2 (a c : Option Addr) (w : World) (h : IntsAt w a CL) (hc : IntsAt w c [4000, 10000, 10000]) : Calls Try.prog 36 #[.int .i64 200, .slice a 3 3, .slice c 3 3, .int .i64 0, .int .i64 3] w fun e w' => e = .returned (.int .i64 2) ∧ Fut w w' := by
  refine (proves_any 200 0 3 a c 3 3 CL [4000, 10000, 10000] w (by decide) (by decide) h hc).mono ?_
  rintro e w' ⟨rfl, hB⟩
  rw [kn_vld.2.2.2.2]; exact ⟨rfl, hB⟩
theorem kn_c0 (w : World) : Calls Try.prog 24 #[.int .i64 1, .slice none 0 0] w fun e w' => e = .returned (.int .i64 4) ∧ w = w' := by
  refine (check_any 1 none 0 [] w (by decide) (fun j hj => absurd hj (by simp))).mono ?_
  rintro e w' ⟨rfl, rfl⟩
  rw [kn_chk.1]; exact ⟨rfl, rfl⟩
theorem kn_c1 (c : Option Addr) (w : World) (hc : IntsAt w c [100, 200]) : Calls Try.prog 24 #[.int .i64 301, .slice c 2 2] w fun e w' => e = .returned (.int .i64 1) ∧ w = w' := by
  refine (check_any 301 c 2 [100, 200] w (by decide) hc).mono ?_
  rintro e w' ⟨rfl, rfl⟩
  rw [kn_chk.2.1]; exact ⟨rfl, rfl⟩
theorem kn_c2 (c : Option Addr) (w : World) (hc : IntsAt w c [0]) : Calls Try.prog 24 #[.int .i64 1, .slice c 1 1] w fun e w' => e = .returned (.int .i64 1) ∧ w = w' := by
  refine (check_any 1 c 1 [0] w (by decide) hc).mono ?_
  rintro e w' ⟨rfl, rfl⟩
  rw [kn_chk.2.2.1]; exact ⟨rfl, rfl⟩
theorem kn_c3 (w : World) : Calls Try.prog 24 #[.int .i64 1, .slice (some ⟨w.heap.size, 0, none⟩) 6 6] (w.alloc (.cells #[.int .i64 0, .int .i64 0, .int .i64 0, .int .i64 0, .int .i64 0, .int .i64 0] 3)) fun e w' => e = .returned (.int .i64 3) ∧ Fut w w' := by
  refine (check_any 1 _ 6 [0, 0, 0, 0, 0, 0] _ (by decide) (ints_new w [0, 0, 0, 0, 0, 0])).mono ?_
  rintro e w' ⟨rfl, rfl⟩
  rw [kn_chk.2.2.2]; exact ⟨rfl, Fut.alloc _ _⟩
theorem st_L2 (a b : Int) (w : World) : Calls Try.prog 49 #[.slice (some ⟨w.heap.size, 0, none⟩) 2 2] (w.alloc (.cells #[.int .i64 a, .int .i64 b] 3)) fun e w' => ∃ l, e = .returned (.slice l 2 2) ∧ IntsAt w' l [a, b] ∧ Fut w w' := by
  refine (list_id _ _).mono ?_
  rintro e w' ⟨rfl, rfl⟩
  exact ⟨_, rfl, ints_new w [a, b], Fut.alloc _ _⟩
theorem st_L1 (a : Int) (w : World) : Calls Try.prog 49 #[.slice (some ⟨w.heap.size, 0, none⟩) 1 1] (w.alloc (.cells #[.int .i64 a] 3)) fun e w' => ∃ l, e = .returned (.slice l 1 1) ∧ IntsAt w' l [a] ∧ Fut w w' := by
  refine (list_id _ _).mono ?_
  rintro e w' ⟨rfl, rfl⟩
  exact ⟨_, rfl, ints_new w [a], Fut.alloc _ _⟩
theorem kn_t1 (w : World) : Calls Try.prog 26 #[.int .i64 30, .int .i64 100, .int .i64 50] w fun e w' => e = .returned (.tuple #[.int .i64 1800, .int .i64 1800, .int .i64 0]) ∧ w = w' := by
  refine (two_ok 30 100 50 w kn_two.1).mono ?_
  rintro e w' ⟨rfl, rfl⟩
  rw [kn_two.2.1, kn_two.2.2.1]; exact ⟨rfl, rfl⟩
theorem kn_t2 (w : World) : Calls Try.prog 26 #[.int .i64 151, .int .i64 100, .int .i64 50] w fun e w' => e = .returned (.tuple #[.int .i64 0, .int .i64 0, .int .i64 1]) ∧ w = w' := two_err _ _ _ _ kn_two.2.2.2
theorem kn_s (a c : Option Addr) (cap dap : Nat) (zs : List Int) (w : World) (hl : zs.length = 3) (h : IntsAt w a zs) (hc : IntsAt w c zs) : Calls Try.prog 23 #[.slice a 3 cap, .slice c 3 dap] w fun e w' => e = .returned (.bool true) ∧ Fut w w' := by
  have := same_any a c cap dap zs zs w (by omega) (by omega) h hc
  rw [hl] at this
  refine this.mono ?_
  rintro e w' ⟨rfl, q, rfl⟩
  exact ⟨by simp [sameB], Fut.drewN _ _⟩
end Go.Proofs.Ytdnbdaegahcoeaa
