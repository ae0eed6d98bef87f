/- the examples' values; what is said of a call in them -/
import Derived.Test.YtflllkamdihfaaaLBH
import Derived.Test.YtflllkamdihfaaaLMB
import Derived.Test.YtflllkamdihfaaaLMC
namespace Go.Proofs.Ytflllkamdihfaaa
open Go.RowKit Go.Sort
set_option maxRecDepth 100000
theorem v_way1 : wayZ 3 3 [] [1, 3] [5, 7] 0 8 = 6 ∧ wayE 3 3 [] [1, 3] [5, 7] 0 8 = 0 := by decide +kernel
theorem v_tab1 : chkP 3 3 [] [1, 3] [5, 7] = 0 ∧ tabL 3 3 [] [1, 3] [5, 7] = [[2, 1], [1, 2]] := by decide +kernel
theorem v_sgn1 : sgnV 3 3 [] [1, 3] [7, 5] = -3 ∧ chkP 3 3 [] [1, 3] [7, 5] = 0 := by decide +kernel
theorem v_cnt1 : cntN 3 3 [] [1, 3] [7, 5] = 3 := by decide +kernel
theorem v_fst1 : fstE 3 3 [] [1, 3] [5, 7] = 0 ∧ fstL 3 3 [] [1, 3] [5, 7] = [[1, 2, 5], [3, 4, 7]] := by decide +kernel
theorem v_ord1 : ordP 3 3 [] [1, 3] [7, 5] [[1, 2, 5], [3, 4, 7]] = (0, [1, 0]) := by decide +kernel
theorem v_swp1 : swE 3 3 [] [1, 3] [5, 7] [[1, 4, 5], [3, 4, 7]] = 0 ∧ swL 3 3 [] [1, 3] [5, 7] [[1, 4, 5], [3, 4, 7]] = [[1, 4, 7], [3, 4, 5]] := by decide +kernel
theorem v_bar1 : brE 3 3 [3, 5] [0, 1] [7, 8] = 0 ∧ brR 3 3 [3, 5] [0, 1] [7, 8] = [1] := by decide +kernel
theorem v_bar2 : brE 3 3 [] [1, 3] [5, 7] = 13 ∧ brR 3 3 [] [1, 3] [5, 7] = [] := by decide +kernel
theorem v_fst2 : fstE 3 3 [3, 5] [0, 1] [7, 8] = 12 ∧ fstL 3 3 [3, 5] [0, 1] [7, 8] = [] := by decide +kernel
theorem v_prv1 : prvE 3 3 [3, 5] [0, 1] [7, 8] [4] = 0 := by decide +kernel
theorem v_prv2 : prvE 3 3 [3, 5] [0, 1] [7, 8] [8] = 14 := by decide +kernel
theorem v_apt1 : aptE 3 3 [] [1, 3] [5, 7] [[1, 4, 5], [3, 4, 7]] = 13 := by decide +kernel
theorem v_way2 : wayZ 3 3 [] [1, 3] [5, 7] 1 5 = 2 ∧ wayE 3 3 [] [1, 3] [5, 7] 1 5 = 0 := by decide +kernel
theorem v_way3 : wayZ 3 3 [] [1, 3] [5, 7] 8 0 = 0 ∧ wayE 3 3 [] [1, 3] [5, 7] 8 0 = 0 := by decide +kernel
theorem v_way4 : wayZ 3 3 [] [1, 3] [5, 7] 4 4 = 1 ∧ wayE 3 3 [] [1, 3] [5, 7] 4 4 = 0 := by decide +kernel
theorem v_way5 : wayZ 3 3 [] [1, 3] [5, 7] 0 9 = 0 ∧ wayE 3 3 [] [1, 3] [5, 7] 0 9 = 2 := by decide +kernel
theorem v_tab2 : chkP 3 3 [4] [1, 3] [5, 7] = 0 ∧ tabL 3 3 [4] [1, 3] [5, 7] = [[1, 0], [0, 1]] := by decide +kernel
theorem v_tab3 : chkP 3 3 [3, 5] [0, 1] [7, 8] = 0 ∧ tabL 3 3 [3, 5] [0, 1] [7, 8] = [[1, 1], [1, 1]] := by decide +kernel
theorem v_sgn2 : sgnV 3 3 [] [1, 3] [5, 7] = 3 := by decide +kernel
theorem v_sgn3 : sgnV 3 3 [3, 5] [0, 1] [7, 8] = 0 := by decide +kernel
theorem v_cnt2 : cntN 3 3 [] [1, 3] [5, 7] = 3 := by decide +kernel
theorem v_cnt3 : cntN 3 3 [4] [1, 3] [5, 7] = 1 := by decide +kernel
theorem v_cnt4 : cntN 3 3 [3, 5] [0, 1] [7, 8] = 0 := by decide +kernel
theorem v_fst3 : fstE 3 3 [4] [1, 3] [5, 7] = 0 ∧ fstL 3 3 [4] [1, 3] [5, 7] = [[1, 2, 5], [3, 6, 7]] := by decide +kernel
theorem v_swp2 : swE 3 3 [] [1, 3] [5, 7] [[1, 2, 5], [3, 4, 7]] = 13 ∧ swL 3 3 [] [1, 3] [5, 7] [[1, 2, 5], [3, 4, 7]] = [] := by decide +kernel
theorem v_apt2 : aptE 3 3 [] [1, 3] [5, 7] [[1, 2, 5], [3, 4, 5]] = 6 := by decide +kernel
theorem v_apt3 : aptE 3 3 [] [1, 3] [5, 7] [[1, 5], [3, 4, 7]] = 7 := by decide +kernel
theorem v_apt4 : aptE 3 3 [] [1, 3] [5, 7] [[1, 2], [3, 4, 7]] = 12 := by decide +kernel
theorem v_prv3 : prvE 3 3 [3, 5] [0, 1] [7, 8] [1, 4] = 14 := by decide +kernel
theorem v_prv4 : prvE 3 3 [3, 5] [0, 1] [7, 8] [1, 1] = 7 := by decide +kernel
theorem v_chk1 : chkP 5 1 [] [1, 3] [5, 7] = 1 := by decide +kernel
theorem v_chk2 : chkP 3 3 [] [] [] = 4 := by decide +kernel
theorem v_chk3 : chkP 3 3 [] [1, 3] [5] = 5 := by decide +kernel
theorem v_chk4 : chkP 3 3 [] [1, 1] [5, 7] = 6 := by decide +kernel
theorem v_chk5 : chkP 3 3 [4] [4] [5] = 20 := by decide +kernel
theorem ex_N {f : FuncId} {args : Array Value} {w : World} {r s : Int} (h : Calls Try.prog f args w fun e w' => e = .returned (.tuple #[.int .i64 r, .int .i64 s]) ∧ Fut w w') (r0 s0 : Int) (hr : r = r0) (hs : s = s0) :
    Calls Try.prog f args w fun e w' => e = .returned (.tuple #[.int .i64 r0, .int .i64 s0]) ∧ Fut w w' := by
  subst hr; subst hs; exact h
theorem ex_L {f : FuncId} {args : Array Value} {w : World} {r : Int} {zss : List (List Int)} (h : Calls Try.prog f args w (TupLC r zss w)) (n : Nat) (r0 : Int) (zz : List (List Int)) (hn : zz.length = n) (hr : r = r0) (hz : zss = zz) :
    Calls Try.prog f args w fun e w' => ∃ l lc, e = .returned (.tuple #[.slice l n lc, .int .i64 r0]) ∧ LstC w' l zz ∧ Fut w w' := by
  subst hn; subst hr; subst hz
  exact h.mono fun _ _ ⟨l, lc, e, _, _, hL, F⟩ => ⟨l, lc, e, hL, F⟩
theorem ex_T {f : FuncId} {args : Array Value} {w : World} {r : Int} {zs : List Int} (h : Calls Try.prog f args w (TupL r zs w)) (n : Nat) (r0 : Int) (zz : List Int) (hn : zz.length = n) (hr : r = r0) (hz : zs = zz) :
    Calls Try.prog f args w fun e w' => ∃ l lc, e = .returned (.tuple #[.slice l n lc, .int .i64 r0]) ∧ IntsAt w' l zz ∧ Fut w w' := by
  subst hn; subst hr; subst hz
  exact h.mono fun _ _ ⟨l, lc, e, hL, F⟩ => ⟨l, lc, e, hL, F⟩
theorem ex_I {f : FuncId} {args : Array Value} {w : World} {r : Int} {zs : List Int} (h : Calls Try.prog f args w (TupI r zs w)) (n : Nat) (r0 : Int) (zz : List Int) (hn : zz.length = n) (hr : r = r0) (hz : zs = zz) :
    Calls Try.prog f args w fun e w' => ∃ l lc, e = .returned (.tuple #[.slice l n lc, .int .i64 r0]) ∧ IntsAt w' l zz ∧ Fut w w' := by
  subst hn; subst hr; subst hz
  exact h.mono fun _ _ ⟨l, lc, e, _, hL, F⟩ => ⟨l, lc, e, hL, F⟩
theorem ex_e {f : FuncId} {args : Array Value} {w : World} {r : Int} (h : Calls Try.prog f args w fun e w' => e = .returned (.int .i64 r) ∧ Fut w w') (r0 : Int) (hr : r = r0) : Calls Try.prog f args w fun e w' => e = .returned (.int .i64 r0) ∧ Fut w w' := by
  subst hr; exact h
theorem ex_lists {a c : Option Addr} {cap dap : Nat} {n m : Nat} (xss yss : List (List Int)) (hn : xss.length = n) (hm : yss.length = m) (w : World) (hA : LstC w a xss) (hC : LstC w c yss) (hs : xss.length ≤ 1000 ∧ yss.length ≤ 1000 ∧ (∀ k, k < xss.length → (lth xss k).length ≤ 1000) ∧ ∀ k, k < yss.length → (lth yss k).length ≤ 1000) (b : Bool) (he : decide (xss = yss) = b) :
    Calls Try.prog 20 #[.slice a n cap, .slice c m dap] w fun e w' => e = .returned (.bool b) ∧ Fut w w' := by
  subst hn; subst hm; subst he
  obtain ⟨h1, h2, h3, h4⟩ := hs
  exact lists_any a c cap dap xss yss w hA.lst hC.lst (by omega) (by omega) (fun k hk => by have := h3 k hk; omega) (fun k hk => by have := h4 k hk; omega)
theorem ex_same {a c : Option Addr} {cap dap : Nat} {n m : Nat} (xs ys : List Int) (hn : xs.length = n) (hm : ys.length = m) (hs : xs.length ≤ 1000 ∧ ys.length ≤ 1000) (w : World) (hA : IntsAt w a xs) (hC : IntsAt w c ys) (b : Bool) (he : sameB xs ys = b) :
    Calls Try.prog 34 #[.slice a n cap, .slice c m dap] w fun e w' => e = .returned (.bool b) ∧ Fut w w' := by
  subst hn; subst hm; subst he
  exact (same_any a c cap dap xs ys w (by omega) (by omega) hA hC).mono fun _ _ ⟨e, q, hq⟩ => ⟨e, hq ▸ Fut.drewN _ _⟩
theorem ex_id (v : Value) (w : World) : Calls Try.prog 48 #[v] w fun e w' => e = .returned v ∧ Fut w w' := (list_id v w).mono fun _ _ ⟨e, h⟩ => ⟨e, h ▸ Fut.rfl⟩
theorem ex_ids (v : Value) (w : World) : Calls Try.prog 66 #[v] w fun e w' => e = .returned v ∧ Fut w w' := (lists_id v w).mono fun _ _ ⟨e, h⟩ => ⟨e, h ▸ Fut.rfl⟩
theorem in_pq {w : World} {a : Option Addr} {S : List Int} {ya : Option Addr} {yc : Nat} {Y : List Int} {ta : Option Addr} {tc : Nat} {T : List Int} (hs : IntsAt w a S) (hy : IntsAt w ya Y) (ht : IntsAt w ta T) (hl : S.length ≤ 1000 ∧ Y.length ≤ 1000 ∧ T.length ≤ 1000) (hyc : Y.length ≤ yc) (htc : T.length ≤ tc) : InPQ w a S ya yc Y ta tc T :=
  ⟨hs, hl.1, hy, hl.2.1, hyc, ht, hl.2.2, htc⟩
theorem small_lists {F : List (List Int)} (h : ∀ l ∈ F, l.length ≤ 1000) : ∀ k, k < F.length → (lth F k).length ≤ 1000 := fun k hk => by
  rw [lth_eq, List.getElem?_eq_getElem hk]; exact h _ (List.getElem_mem hk)
/-- two lists, each of its own, in one. -/
theorem pair_new {w : World} {l k : Option Addr} {xs ys : List Int} {lc kc : Nat} (hx : IntsAt w l xs) (hy : IntsAt w k ys) (h1 : xs.length ≤ lc ∧ lc ≤ 1000) (h2 : ys.length ≤ kc ∧ kc ≤ 1000) : LstC (w.alloc (.cells #[.slice l xs.length lc, .slice k ys.length kc] 22)) (some ⟨w.heap.size, 0, none⟩) [xs, ys] :=
  lst_two (lc := lc) (kc := kc) (by simp) (by simp [go_sem]) h1.1 (by omega) (hx.fut (Fut.alloc _ _)) (by simp [go_sem]) h2.1 (by omega) (hy.fut (Fut.alloc _ _))
end Go.Proofs.Ytflllkamdihfaaa
