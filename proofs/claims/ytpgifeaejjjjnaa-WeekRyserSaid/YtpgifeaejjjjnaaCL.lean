/- the examples, call by call. -/
import Derived.Test.YtpgifeaejjjjnaaCK
namespace Go.Proofs.Ytpgifeaejjjjnaa
open Go.RowKit Go.Sort
set_option maxRecDepth 100000
abbrev R3 : List (List Int) := [[0, 1, 2], [1, 2, 0], [2, 0, 1]]
abbrev R4 : List (List Int) := [[0, 1, 2, 3], [1, 2, 3, 0], [2, 3, 0, 1], [3, 0, 1, 2]]
theorem ex_R3 : gridL 3 3 (rndF 3) = R3 := by decide
theorem ex_R4 : gridL 4 4 (rndF 4) = R4 := by decide
theorem ex_nxt : nxtL 3 [[0, 1, 2]] = [1, 2, 0] := by decide
theorem ex_cr3 : crE 3 R3 = 0 ∧ crL 3 R3 = [0, 1, 2] := by decide
theorem ex_crA : crE 3 [[0, 1, 2]] = 21 ∧ crL 3 [[0, 1, 2]] = [] := by decide
theorem ex_crs3 : fulE 3 R3 = 0 ∧ crsN 3 R3 = 3 := by decide
theorem ex_cntA : cntN 3 [[0, 1, 2]] = 2 := by decide
theorem ex_cnt2 : opnE 4 [[0, 1, 2, 3], [1, 2, 3, 0]] = 0 ∧ cntN 4 [[0, 1, 2, 3], [1, 2, 3, 0]] = 2 := by decide
theorem ex_cnt1 : opnE 4 [[0, 1, 2, 3]] = 0 ∧ cntN 4 [[0, 1, 2, 3]] = 9 := by decide
theorem ex_cnt0 : opnE 4 [] = 0 ∧ cntN 4 [] = 24 := by decide
theorem ex_cr4 : crE 4 R4 = 12 ∧ crL 4 R4 = [] := by decide
theorem ex_crs4 : crsN 4 R4 = 0 := by decide
abbrev R5 : List (List Int) := [[0, 1, 2, 3, 4], [1, 2, 3, 4, 0], [2, 3, 4, 0, 1], [3, 4, 0, 1, 2], [4, 0, 1, 2, 3]]
theorem ex_R5 : gridL 5 5 (rndF 5) = R5 := by decide
theorem ex_crs5 : fulE 5 R5 = 0 ∧ crsN 5 R5 = 15 := by decide
theorem ex_ful4R : fulE 4 R4 = 0 := by decide
theorem ex_opn4R : opnE 4 R4 = 16 := by decide
/-- what comes as lists and an error. -/
theorem ex_L {f : FuncId} {args : Array Value} {w : World} {r : Int} {zss : List (List Int)} (h : Calls Try.prog f args w (TupLC r zss w)) (n : Nat) (r0 : Int) (zz : List (List Int)) (hn : zz.length = n) (hr : r = r0) (hz : zss = zz) :
    Calls Try.prog f args w fun e w' => ∃ l lc, e = .returned (.tuple #[.slice l n lc, .int .i64 r0]) ∧ LstC w' l zz ∧ Fut w w' := by
  subst hn; subst hr; subst hz
  exact h.mono fun _ _ ⟨l, lc, e, _, _, hL, F⟩ => ⟨l, lc, e, hL, F⟩
theorem ex_I {f : FuncId} {args : Array Value} {w : World} {r : Int} {zs : List Int} (h : Calls Try.prog f args w (TupI r zs w)) (n : Nat) (r0 : Int) (zz : List Int) (hn : zz.length = n) (hr : r = r0) (hz : zs = zz) :
    Calls Try.prog f args w fun e w' => ∃ l lc, e = .returned (.tuple #[.slice l n lc, .int .i64 r0]) ∧ IntsAt w' l zz ∧ Fut w w' := by
  subst hn; subst hr; subst hz
  exact h.mono fun _ _ ⟨l, lc, e, _, _, hL, F⟩ => ⟨l, lc, e, hL, F⟩
theorem ex_N {f : FuncId} {args : Array Value} {w : World} {r s : Int} (h : Calls Try.prog f args w (TupN r s w)) (r0 s0 : Int) (hr : r = r0) (hs : s = s0) :
    Calls Try.prog f args w fun e w' => e = .returned (.tuple #[.int .i64 s0, .int .i64 r0]) ∧ Fut w w' := by
  subst hr; subst hs; exact h
theorem ex_round3 (w : World) : Calls Try.prog 32 #[.int .i64 3] w fun e w' => ∃ l lc, e = .returned (.tuple #[.slice l 3 lc, .int .i64 0]) ∧ LstC w' l R3 ∧ Fut w w' :=
  ex_L ((round_any 3 (by omega) (by omega) w).mono fun _ _ ⟨_, e, hO, F⟩ => by subst e; exact hO.tup (by omega) F 0) 3 0 R3 rfl rfl ex_R3
theorem ex_R (n : Nat) (h1 : 1 ≤ n) (h5 : n ≤ 5) (zz : List (List Int)) (hz : gridL n n (rndF n) = zz) (w : World) : Calls Try.prog 55 #[.int .i64 n] w fun e w' => ∃ b off lc, e = .returned (.slice (some ⟨b, off, none⟩) n lc) ∧ n ≤ lc ∧ lc ≤ 9223372036854775807 ∧ LstC w' (some ⟨b, off, none⟩) zz ∧ Fut w w' := by
  subst hz
  refine (lawR_any n h1 h5 w).mono ?_
  rintro _ w' ⟨l, lc, rfl, h2, h3, hL, F⟩
  obtain ⟨b, off, _, _, rfl, _⟩ := hL 0 (by unfold gridL; simp; omega)
  exact ⟨b, off, lc, rfl, h2, h3, hL, F⟩
theorem ex_lists {a c : Option Addr} {cap dap : Nat} {n m : Nat} (xss yss : List (List Int)) (hn : xss.length = n) (hm : yss.length = m) (w : World) (hA : LstC w a xss) (hC : LstC w c yss) (hs : xss.length ≤ 1000 ∧ yss.length ≤ 1000 ∧ (∀ k, k < xss.length → (lth xss k).length ≤ 1000) ∧ ∀ k, k < yss.length → (lth yss k).length ≤ 1000) (b : Bool) (he : decide (xss = yss) = b) :
    Calls Try.prog 22 #[.slice a n cap, .slice c m dap] w fun e w' => e = .returned (.bool b) ∧ Fut w w' := by
  subst hn; subst hm; subst he
  obtain ⟨h1, h2, h3, h4⟩ := hs
  exact lists_any a c cap dap xss yss w hA.lst hC.lst (by omega) (by omega) (fun k hk => by have := h3 k hk; omega) (fun k hk => by have := h4 k hk; omega)
theorem ex_same {a c : Option Addr} {cap dap : Nat} {n m : Nat} (xs ys : List Int) (hn : xs.length = n) (hm : ys.length = m) (hs : xs.length ≤ 1000 ∧ ys.length ≤ 1000) (w : World) (hA : IntsAt w a xs) (hC : IntsAt w c ys) (b : Bool) (he : sameB xs ys = b) :
    Calls Try.prog 23 #[.slice a n cap, .slice c m dap] w fun e w' => e = .returned (.bool b) ∧ Fut w w' := by
  subst hn; subst hm; subst he
  exact (same_any a c cap dap xs ys w (by omega) (by omega) hA hC).mono fun _ _ ⟨e, q, hq⟩ => ⟨e, hq ▸ Fut.drewN _ _⟩
theorem ex_id (v : Value) (w : World) : Calls Try.prog 56 #[v] w fun e w' => e = .returned v ∧ Fut w w' := (list_id v w).mono fun _ _ ⟨e, h⟩ => ⟨e, h ▸ Fut.rfl⟩
theorem lst_three {w : World} {b : Nat} {l k q : Option Addr} {zs ys xs : List Int} {lc kc qc : Nat} (hb : b < w.heap.size) (hc : w.cell? ⟨b, 0, none⟩ = some (.slice l zs.length lc)) (h1 : zs.length ≤ lc) (h2 : lc ≤ 9223372036854775807) (hI : IntsAt w l zs)
    (hd : w.cell? ⟨b, 1, none⟩ = some (.slice k ys.length kc)) (g1 : ys.length ≤ kc) (g2 : kc ≤ 9223372036854775807) (hK : IntsAt w k ys)
    (he : w.cell? ⟨b, 2, none⟩ = some (.slice q xs.length qc)) (e1 : xs.length ≤ qc) (e2 : qc ≤ 9223372036854775807) (hQ : IntsAt w q xs) : LstC w (some ⟨b, 0, none⟩) [zs, ys, xs] := fun j hj => by
  match j, hj with
  | 0, _ => exact ⟨b, 0, l, lc, rfl, hb, hc, h1, h2, hI⟩
  | 1, _ => exact ⟨b, 0, k, kc, rfl, hb, hd, g1, g2, hK⟩
  | 2, _ => exact ⟨b, 0, q, qc, rfl, hb, he, e1, e2, hQ⟩
  | j + 3, hj => exact absurd hj (by simp)
/-- lists that are built in place. -/
theorem built1 (w : World) (zs : List Int) (hz : zs.length ≤ 1000) : LstC ((w.alloc (.cells (zs.map (Value.int .i64)).toArray 3)).alloc (.cells #[.slice (some ⟨w.heap.size, 0, none⟩) zs.length zs.length] 28)) (some ⟨w.heap.size + 1, 0, none⟩) [zs] :=
  lst_one (lc := zs.length) (by simp) (by simp [go_sem]) (Nat.le_refl _) (by omega) ((ints_new w zs).fut (Fut.alloc _ _))
theorem built2 (w : World) (zs ys : List Int) (hz : zs.length ≤ 1000) (hy : ys.length ≤ 1000) : LstC (((w.alloc (.cells (zs.map (Value.int .i64)).toArray 3)).alloc (.cells (ys.map (Value.int .i64)).toArray 3)).alloc (.cells #[.slice (some ⟨w.heap.size, 0, none⟩) zs.length zs.length, .slice (some ⟨w.heap.size + 1, 0, none⟩) ys.length ys.length] 28)) (some ⟨w.heap.size + 1 + 1, 0, none⟩) [zs, ys] := by
  have hJ := ints_new (w.alloc (.cells (zs.map (Value.int .i64)).toArray 3)) ys
  rw [World.size_alloc] at hJ
  exact lst_two (lc := zs.length) (kc := ys.length) (by simp) (by simp [go_sem]) (Nat.le_refl _) (by omega) (((ints_new w zs).fut (Fut.alloc _ _)).fut (Fut.alloc _ _)) (by simp [go_sem]) (Nat.le_refl _) (by omega) (hJ.fut (Fut.alloc _ _))
theorem built3 (w : World) (zs ys xs : List Int) (hz : zs.length ≤ 1000) (hy : ys.length ≤ 1000) (hx : xs.length ≤ 1000) : LstC ((((w.alloc (.cells (zs.map (Value.int .i64)).toArray 3)).alloc (.cells (ys.map (Value.int .i64)).toArray 3)).alloc (.cells (xs.map (Value.int .i64)).toArray 3)).alloc (.cells #[.slice (some ⟨w.heap.size, 0, none⟩) zs.length zs.length, .slice (some ⟨w.heap.size + 1, 0, none⟩) ys.length ys.length, .slice (some ⟨w.heap.size + 1 + 1, 0, none⟩) xs.length xs.length] 28)) (some ⟨w.heap.size + 1 + 1 + 1, 0, none⟩) [zs, ys, xs] := by
  have hJ := ints_new (w.alloc (.cells (zs.map (Value.int .i64)).toArray 3)) ys
  rw [World.size_alloc] at hJ
  have hX := ints_new ((w.alloc (.cells (zs.map (Value.int .i64)).toArray 3)).alloc (.cells (ys.map (Value.int .i64)).toArray 3)) xs
  rw [World.size_alloc, World.size_alloc] at hX
  exact lst_three (lc := zs.length) (kc := ys.length) (qc := xs.length) (by simp) (by simp [go_sem]) (Nat.le_refl _) (by omega) ((((ints_new w zs).fut (Fut.alloc _ _)).fut (Fut.alloc _ _)).fut (Fut.alloc _ _)) (by simp [go_sem]) (Nat.le_refl _) (by omega) ((hJ.fut (Fut.alloc _ _)).fut (Fut.alloc _ _)) (by simp [go_sem]) (Nat.le_refl _) (by omega) (hX.fut (Fut.alloc _ _))
end Go.Proofs.Ytpgifeaejjjjnaa
