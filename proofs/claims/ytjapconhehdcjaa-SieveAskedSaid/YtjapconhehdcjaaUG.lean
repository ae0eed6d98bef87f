/- values of the examples -/
import Derived.Test.YtjapconhehdcjaaUF
import Derived.Test.YtjapconhehdcjaaTA
namespace Go.Proofs.Ytjapconhehdcjaa
open Go.RowKit Go.Sort
theorem v_c1 : chkL [4, 1, 1, 4] = 0 := by decide
theorem v_c2 : chkL [1, 9, 1] = 0 := by decide
theorem v_b1 : bestE [4, 1, 1, 4] = [0, 2, 1] := by decide +kernel
theorem v_l1 : leastE [4, 1, 1, 4] = 18 := by decide +kernel
theorem v_n1 : countE [4, 1, 1, 4] = 2 := by decide +kernel
theorem v_t1 : topsE [4, 1, 1, 4] = (0, 2) := by decide +kernel
theorem v_t2 : topsC [4, 1, 1, 4] = 0 := by decide
theorem v_a1 : anyE [1, 9, 1] = 13 := by
  unfold anyE
  rw [if_pos v_c2]
  show Sv.huf (2 + 1) [1, 9, 1] = 13
  rw [Sv.huf_step 2 (x := 1) (y := 1) (r := [9]) (by decide) (by decide) (by decide)]
  show (1 + 1 : Int) + Sv.huf (1 + 1) [2, 9] = 13
  rw [Sv.huf_step 1 (x := 2) (y := 9) (r := []) (by decide) (by decide) (by decide), Sv.huf_one 1 rfl]
  rfl
theorem v_k1 : treesE 4 = 5 := by decide +kernel
theorem v_k2 : kindE 4 = 0 := by decide
theorem v_r1 : treeE 4 2 = [1, 0, 2] := by decide +kernel
theorem v_r2 : treeC 4 2 = 0 := by decide +kernel
theorem v_d1 : depthsE 4 [0, 2, 1] = [1, 3, 3, 2] := by decide +kernel
theorem v_d2 : validE 4 [0, 2, 1] = 0 := by decide +kernel
theorem v_s1 : askedE 4 [0, 2, 1] 2 = [0, 2, 1] := by decide +kernel
theorem v_s2 : askedC 4 [0, 2, 1] 2 = 0 := by decide +kernel
theorem v_q1 : questE [1, 2, 3] [0, 1] = 11 := by decide +kernel
theorem v_q2 : questC [1, 2, 3] [0, 1] = 0 := by decide +kernel
theorem v_m1 : madeE [1, 3, 3, 2] = [0, 2, 1] := by decide +kernel
theorem v_m2 : madeC [1, 3, 3, 2] = 0 := by decide +kernel
theorem v_m3 : madeE [2, 1, 2] = [] := by decide +kernel
theorem v_m4 : madeC [2, 1, 2] = 12 := by decide +kernel
theorem v_t3 : topsE [7] = (0, 0) := by decide +kernel
theorem v_t4 : topsC [7] = 2 := by decide
theorem v_r3 : treeE 4 5 = [] := by decide +kernel
theorem v_r4 : treeC 4 5 = 2 := by decide +kernel
theorem v_v1 : validE 3 [0, 1] = 0 := by decide +kernel
theorem v_v2 : validE 3 [0, 2] = 5 := by decide +kernel
theorem ex_L {f : FuncId} {args : Array Value} {w : World} {r : Int} {L : List Int} (h : Calls Try.prog f args w fun e w' => TupL r L w e w') (r0 : Int) (L0 : List Int) (hr : r = r0) (hL : L = L0) : Calls Try.prog f args w fun e w' => TupL r0 L0 w e w' := by
  subst hr; subst hL; exact h
theorem ex_2 {f : FuncId} {args : Array Value} {w : World} {a b : Int} (h : Calls Try.prog f args w fun e w' => e = .returned (.tuple #[.int .i64 a, .int .i64 b]) ∧ Fut w w') (a0 b0 : Int) (ha : a = a0) (hb : b = b0) : Calls Try.prog f args w fun e w' => e = .returned (.tuple #[.int .i64 a0, .int .i64 b0]) ∧ Fut w w' := by
  subst ha; subst hb; exact h
theorem ex_3 {f : FuncId} {args : Array Value} {w : World} {p : Int × Int} {b : Int} (h : Calls Try.prog f args w fun e w' => e = .returned (.tuple #[.int .i64 p.1, .int .i64 p.2, .int .i64 b]) ∧ Fut w w') (p0 : Int × Int) (b0 : Int) (ha : p = p0) (hb : b = b0) : Calls Try.prog f args w fun e w' => e = .returned (.tuple #[.int .i64 p0.1, .int .i64 p0.2, .int .i64 b0]) ∧ Fut w w' := by
  subst ha; subst hb; exact h
theorem ex_1 {f : FuncId} {args : Array Value} {w : World} {a : Int} (h : Calls Try.prog f args w fun e w' => e = .returned (.int .i64 a) ∧ Fut w w') (a0 : Int) (ha : a = a0) : Calls Try.prog f args w fun e w' => e = .returned (.int .i64 a0) ∧ Fut w w' := by
  subst ha; exact h
theorem ex_id (v : Value) (w : World) : Calls Try.prog 53 #[v] w fun e w' => e = .returned v ∧ Fut w w' := (list_id v w).mono fun _ _ ⟨e, h⟩ => ⟨e, h ▸ Fut.rfl⟩
theorem ex_same {a c : Option Addr} {cap dap : Nat} (xs ys : List Int) {w : World} (hA : IntsAt w a xs) (hC : IntsAt w c ys) (hs : xs.length ≤ 1000 ∧ ys.length ≤ 1000) (b : Bool) (hb : sameB xs ys = b) : Calls Try.prog 24 #[.slice a xs.length cap, .slice c ys.length dap] w fun e w' => e = .returned (.bool b) ∧ Fut w w' :=
  (same_any a c cap dap xs ys w (by omega) (by omega) hA hC).mono fun _ _ ⟨e, q, h⟩ => ⟨by rw [e, hb], by rw [h]; exact Fut.drewN _ q⟩
theorem ex_chk {a : Option Addr} {cap : Nat} (zs : List Int) {w : World} (hA : IntsAt w a zs) (hl : zs.length ≤ 1000) (r : Int) (hr : chkL zs = r) : Calls Try.prog 25 #[.slice a zs.length cap] w fun e w' => e = .returned (.int .i64 r) ∧ Fut w w' :=
  (check_any a cap zs w hA hl).mono fun _ _ ⟨e, h⟩ => ⟨by rw [e, hr], by rw [h]; exact Fut.rfl⟩
theorem law_L (w : World) : Calls Try.prog 62 #[] w fun e w' => ∃ l, e = .returned (.slice l 4 4) ∧ IntsAt w' l [4, 1, 1, 4] ∧ Fut w w' := by
  go_enter Try.func62, Try.ntmps62
  go_wp2_with fail
  refine (list_id _ _).mono ?_
  rintro _ _ ⟨rfl, rfl⟩
  go_wp2_with fail
  go_ret
  exact ⟨_, rfl, ints_new w [4, 1, 1, 4], Fut.alloc _ _⟩
theorem ex_K {f : FuncId} {args : Array Value} {w : World} {r : Int} {L : List Int} (h : Calls Try.prog f args w fun e w' => TupW r L w e w') (r0 : Int) (L0 : List Int) (hr : r = r0) (hL : L = L0) : Calls Try.prog f args w fun e w' => ∃ l c, e = .returned (.tuple #[.slice l L0.length c, .int .i64 r0]) ∧ L0.length ≤ c ∧ IntsAt w' l L0 ∧ Fut w w' := by
  subst hr; subst hL
  refine h.mono ?_
  rintro e w' ⟨v, rfl, hO, F⟩
  obtain ⟨l, c, rfl, h1, _, h2⟩ := hO.form
  exact ⟨l, c, rfl, h1, h2, F⟩
end Go.Proofs.Ytjapconhehdcjaa
