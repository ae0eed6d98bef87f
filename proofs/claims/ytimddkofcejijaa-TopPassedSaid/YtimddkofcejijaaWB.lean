/- Layers 1 and 2: the examples of the laws across layers. -/
import Derived.Test.YtimddkofcejijaaWA
import Derived.Test.YtimddkofcejijaaVG
namespace Go.Proofs.Ytimddkofcejijaa
open Go.RowKit Go.Sort
theorem sameT_any (a c : Option Addr) (cap dap : Nat) (xs ys : List Int) (w : World) (hx : xs.length ≤ 9223372036854775807) (_hy : ys.length ≤ 9223372036854775807) (hA : IntsAt w a xs) (hC : IntsAt w c ys) :
    Calls Try.prog 51 #[.slice a xs.length cap, .slice c ys.length dap] w fun e w' => e = .returned (.bool (sameB xs ys)) ∧ ∃ q, w' = w.drewN q := by
  by_cases hl : xs.length = ys.length
  · have hne : ((xs.length : Int) != ys.length) = false := by simp; omega
    have HS : Hid (∀ b, (xs = ys ↔ b = true) → sameB xs ys = b) := fun b h => by unfold sameB; cases b <;> simp_all
    generalize sameB xs ys = r at HS ⊢
    have HL := Lib.hid hl
    have HA := Lib.hid hA
    have HC := Lib.hid hC
    clear hl hA hC
    go_enter Try.func51, Try.ntmps51
    go_wp2
    go_loopw [5, 13] (fun _ iv wr => ∃ (k q : Nat), k ≤ xs.length ∧ iv = .int .i64 k ∧ wr = w.drewN q ∧ Hid (∀ j, j < k → nth xs j = nth ys j)) (fun _ iv _ => xs.length - (intOf iv).toNat)
    case atStart => exact ⟨0, 0, Nat.zero_le _, rfl, rfl, fun j hj => absurd hj (Nat.not_lt_zero _)⟩
    case round =>
      obtain ⟨k, q, hk, rfl, rfl, hal⟩ := hrel
      by_cases hlt : k < xs.length
      · obtain ⟨b, off, rfl, hb, hcell⟩ := HA.out k hlt
        obtain ⟨b', off', rfl, hb', hcell'⟩ := HC.out k (by have := HL.out; omega)
        have hky : (k : Int) < ys.length := by have := HL.out; omega
        have hkx : (k : Int) < xs.length := by omega
        have p1 : (w.drewN q).cell? ⟨b, off + k, none⟩ = some (.int .i64 (nth xs k)) := hcell
        have p2 : (w.drewN q).cell? ⟨b', off' + k, none⟩ = some (.int .i64 (nth ys k)) := hcell'
        clear hcell hcell'
        generalize hw : w.drewN q = wq at p1 p2
        have HW := Lib.hid hw
        clear hw
        by_cases he : nth xs k = nth ys k
        · have hne2 : (nth xs k != nth ys k) = false := by simpa using he
          have HN : Hid (∀ j, j < k + 1 → nth xs j = nth ys j) := fun j hj => by
            by_cases e : j = k
            · subst e; exact he
            · exact hal.out j (by omega)
          clear he
          go_wp2_with fail
          go_quiet (fail)
          go_wp2
          go_roundw
          case rel => exact ⟨k + 1, q + nq, by omega, by go_num, by rw [← HW.out, World.drewN_drewN], HN⟩
          case measure => simp [intOf]; omega
        · have hne2 : (nth xs k != nth ys k) = true := by simpa using he
          have E : Hid (r = false) := HS.out false ⟨fun h => absurd (by rw [h]) he, fun h => by cases h⟩
          clear he
          go_wp2_with fail
          go_quiet (fail)
          go_wp2
          go_ret
          exact ⟨ret_bool E.out.symm, q + nq, by rw [← HW.out, World.drewN_drewN]⟩
      · have E : Hid (r = true) := HS.out true ⟨fun _ => rfl, fun _ => by
          apply List.ext_getElem HL.out
          intro j h1 h2
          have := hal.out j (by omega)
          unfold nth at this
          rw [List.getElem?_eq_getElem h1, List.getElem?_eq_getElem h2] at this
          exact this⟩
        clear hal
        go_wp2
        go_ret
        exact ⟨ret_bool E.out.symm, q, rfl⟩
  · have hne : ((xs.length : Int) != ys.length) = true := by simp; omega
    have e : sameB xs ys = false := by unfold sameB; rw [decide_eq_false_iff_not]; intro h; exact hl (by rw [h])
    rw [e]
    clear hl e hA hC
    go_enter Try.func51, Try.ntmps51
    go_wp2
    go_ret
    exact ⟨rfl, 0, rfl⟩
theorem listT_id (v : Value) (w : World) : Calls Try.prog 94 #[v] w fun e w' => e = .returned v ∧ w = w' := by
  go_enter Try.func94, Try.ntmps94
  go_wp2
  go_ret
  exact ⟨rfl, rfl⟩

theorem lev_known : (Cl.list5 (Cl.lev (fun i => Cl.K [100, 200, 300] i / 2) 3 24000)).take 3 = [6000, 9000, 9000] := by
  have h : ∀ j, Cl.lev (fun i => Cl.K [100, 200, 300] i / 2) 3 24000 j = if j ∈ Cl.idxL 3 then min (Cl.K [100, 200, 300] j / 2) 9000 else 0 :=
    fun j => Cl.lev_eq _ 3 (by decide) 24000 9000 (by decide) (by decide) j
  simp only [Cl.list5, h]
  decide
theorem div_known (a : Option Addr) (cap : Nat) (w : World) (hA : IntsAt w a [100, 200, 300]) :
    Calls Try.prog 50 #[.int .i64 200, .slice a 3 cap] w fun e w' => ∃ l lc, e = .returned (.tuple #[.slice l 3 lc, .int .i64 0]) ∧ IntsAt w' l [6000, 9000, 9000] ∧ Fut w w' := by
  refine (Cl.divide_lo 200 a cap [100, 200, 300] (fun i => Cl.K [100, 200, 300] i / 2) w rfl hA (by decide) (by decide)).mono ?_
  rintro e w' ⟨v, h, hO, hB⟩
  have hO2 : Owns w' w.heap.size v [6000, 9000, 9000] := by
    have := hO
    show Cl.Owns w' w.heap.size v [6000, 9000, 9000]
    rw [← lev_known]; exact hO
  obtain ⟨l, lc, rfl, hI⟩ := hO2.ints
  exact ⟨l, lc, h, hI, hB⟩
theorem few_known (a : Option Addr) (cap : Nat) (w : World) (hS : StrAt w a BS) :
    Calls Try.prog 22 #[mapV 4 a 3 cap] w fun e w' => ∃ l lc, e = .returned (.tuple #[.slice l 3 lc, .int .i64 0]) ∧ IntsAt w' l [0, 1, 2] ∧ Fut w w' := by
  refine (fewest_any 4 a cap BS w hS).mono ?_
  rintro e w' ⟨l, lc, h, hI, hF⟩
  rw [vB, k3] at h
  rw [k3] at hI
  exact ⟨l, lc, h, hI, hF⟩
theorem str_new (W : World) : StrAt (W.alloc (.cells #[.int .i64 0, .int .i64 1, .int .i64 0, .int .i64 2, .int .i64 0, .int .i64 3] 65)) (some ⟨W.heap.size, 0, none⟩) BS := fun j hj => by
  refine ⟨W.heap.size, 0, rfl, by simp, ?_, ?_⟩
  · rw [World.cell?_alloc_at _ _ _ _ rfl]
    match j, hj with
    | 0, _ => rfl
    | 1, _ => rfl
    | 2, _ => rfl
  · rw [World.cell?_alloc_at _ _ _ _ rfl]
    match j, hj with
    | 0, _ => rfl
    | 1, _ => rfl
    | 2, _ => rfl
set_option maxRecDepth 100000 in
set_option maxHeartbeats 4000000 in
theorem worksT_any (w : World) : Calls Try.prog 52 #[] w fun e w' => e = .returned (.bool true) ∧ Fut w w' := by
  have e1 : sameB [6000, 9000, 9000] [6000, 9000, 9000] = true := by decide
  have e2 : sameB [0, 1, 2] [0, 1, 2] = true := by decide
  go_enter Try.func52, Try.ntmps52
  have h1 : IntsAt (w.alloc (.cells #[.int .i64 100, .int .i64 200, .int .i64 300] 3)) (some ⟨w.heap.size, 0, none⟩) [100, 200, 300] := ints_new w [100, 200, 300]
  have F1 : Fut w (w.alloc (.cells #[.int .i64 100, .int .i64 200, .int .i64 300] 3)) := Fut.alloc _ _
  have HI := Lib.hid h1
  have HF := Lib.hid F1
  clear h1 F1
  go_upto_region 2 with (first
    | (go_at_call 94; (with_reducible refine (listT_id _ _).mono ?_); rintro _ _ ⟨rfl, rfl⟩)
    | (go_at_call 50; (refine (div_known _ _ _ HI.out).mono ?_); rintro _ w2 ⟨l2, c2, rfl, hI2, F2⟩; have HI2 := Lib.hid hI2; have HF2 := Lib.hid (HF.out.trans F2); clear hI2 F2))
  have HS := Lib.hid (str_new w2)
  have HF3 := Lib.hid (HF2.out.trans (Fut.alloc w2 (.cells #[.int .i64 0, .int .i64 1, .int .i64 0, .int .i64 2, .int .i64 0, .int .i64 3] 65)))
  have HI3 := Lib.hid (HI2.out.fut (Fut.alloc w2 (.cells #[.int .i64 0, .int .i64 1, .int .i64 0, .int .i64 2, .int .i64 0, .int .i64 3] 65)))
  go_upto_region 3 with (first
    | (go_at_call 22; (refine (few_known _ _ _ HS.out).mono ?_); rintro _ w3 ⟨l3, c3, rfl, hI4, F4⟩; have HI4 := Lib.hid hI4; have HF4 := Lib.hid (HF3.out.trans F4); have HI5 := Lib.hid (HI3.out.fut F4); clear hI4 F4))
  have h6 : IntsAt (w3.alloc (.cells #[.int .i64 6000, .int .i64 9000, .int .i64 9000] 3)) (some ⟨w3.heap.size, 0, none⟩) [6000, 9000, 9000] := ints_new w3 [6000, 9000, 9000]
  have HI6 := Lib.hid h6
  have HF6 := Lib.hid (HF4.out.trans (Fut.alloc w3 (.cells #[.int .i64 6000, .int .i64 9000, .int .i64 9000] 3)))
  have HI7 := Lib.hid (HI5.out.fut (Fut.alloc w3 (.cells #[.int .i64 6000, .int .i64 9000, .int .i64 9000] 3)))
  have HI8 := Lib.hid (HI4.out.fut (Fut.alloc w3 (.cells #[.int .i64 6000, .int .i64 9000, .int .i64 9000] 3)))
  clear h6
  have mk1 : True := trivial
  go_wp2_with (first
    | (go_at_call 94; (with_reducible refine (listT_id _ _).mono ?_); rintro _ _ ⟨rfl, rfl⟩)
    | (go_at_call 51; (have mkx := mk2); (refine (sameT_any _ _ _ _ [0, 1, 2] [0, 1, 2] _ (by decide) (by decide) HI9.out HI10.out).mono ?_); rintro _ _ ⟨rfl, q15, rfl⟩; have HF11 := Lib.hid (HF10.out.trans (Fut.drewN _ q15)))
    | (go_at_call 51; (refine (sameT_any _ _ _ _ [6000, 9000, 9000] [6000, 9000, 9000] _ (by decide) (by decide) HI7.out HI6.out).mono ?_); rintro _ _ ⟨rfl, q14, rfl⟩; have mk2 : True := trivial; have HF9 := Lib.hid (HF6.out.trans (Fut.drewN _ q14)); have HI9a := Lib.hid (HI8.out.fut (Fut.drewN _ q14)); generalize (World.drewN _ q14) = w9 at *; have h10 : IntsAt (w9.alloc (.cells #[.int .i64 0, .int .i64 1, .int .i64 2] 3)) (some ⟨w9.heap.size, 0, none⟩) [0, 1, 2] := ints_new w9 [0, 1, 2]; have HI10 := Lib.hid h10; have HF10 := Lib.hid (HF9.out.trans (Fut.alloc w9 (.cells #[.int .i64 0, .int .i64 1, .int .i64 2] 3))); have HI9 := Lib.hid (HI9a.out.fut (Fut.alloc w9 (.cells #[.int .i64 0, .int .i64 1, .int .i64 2] 3))); clear h10))
  go_ret
  exact ⟨rfl, HF11.out⟩
end Go.Proofs.Ytimddkofcejijaa
