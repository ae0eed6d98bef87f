/- Trees -/
import Derived.Test.YtjapconhehdcjaaSR
import Derived.Deep.DeepCutAuto
import Derived.Deep.AppendLies
namespace Go.Proofs.Ytjapconhehdcjaa
open Go.RowKit Go.Sort
def treesE (n : Int) : Int := if 1 ≤ n ∧ n ≤ 8 then m0 FA 0 (n.toNat - 1) else 0
def kindE (n : Int) : Int := if 1 ≤ n ∧ n ≤ 8 then 0 else 1
set_option maxRecDepth 100000 in
theorem trees_any (n : Int) (w : World) : Calls Try.prog 31 #[.int .i64 n] w fun e w' => e = .returned (.tuple #[.int .i64 (treesE n), .int .i64 (kindE n)]) ∧ Fut w w' := by
  have HKI := Lib.hid (kinds_any n w)
  by_cases hn : 1 ≤ n ∧ n ≤ 8
  · have HTE : Hid (treesE n = m0 FA 0 (n.toNat - 1)) := Lib.hid (by unfold treesE; rw [if_pos hn])
    have HKE : Hid (kindE n = 0) := Lib.hid (by unfold kindE; rw [if_pos hn])
    rw [decide_eq_true hn] at HKI
    obtain ⟨m, rfl⟩ : ∃ m : Nat, n = m := ⟨n.toNat, by omega⟩
    rw [Int.toNat_natCast] at HTE
    have hn1 : 1 ≤ m := by omega
    have hn2 : m ≤ 8 := by omega
    clear hn
    obtain ⟨n1, hn11⟩ : ∃ n1, n1 = m - 1 := ⟨_, rfl⟩
    rw [← hn11] at HTE
    have HAL : Hid (∀ W, Calls Try.prog 65 #[.int .i64 (m : Nat)] W fun e w' => e = .returned (spV 0 (n1 : Nat)) ∧ Fut W w') := Lib.hid (fun W => by
      have h := allOf_any m (by omega) W
      rw [show ((m : Nat) : Int) - 1 = ((n1 : Nat) : Int) by omega] at h
      exact h)
    have HEV := Lib.hid (fun W => every_any m hn1 hn2 W)
    have hnb : n1 < m := by omega
    clear hn11
    rw [HKE.out]
    have HFU : Hid (Fut w w.drew) := Lib.hid (below_drewN Fut.rfl 1)
    go_enter Try.func31, Try.ntmps31
    go_wp2_with fail
    refine HKI.out.mono ?_
    rintro _ _ ⟨rfl, rfl⟩
    go_upto_region 3 with fail
    refine wp_region_held_drew (S := (fun _ => True)) (by kernel_rfl) ?_ (fun hHeld => ?_)
    · exact trivial
    generalize w.drew = u0 at *
    refine wpAnyH_take (i := 0) (oi := { dst := some 7, op := Op.move (Operand.tmp 0), type := 3, pos := "sieve.go:84", after := #[], guard := none }) (v := ?_) rfl (by kernel_rfl) (by kernel_rfl) (by kernel_rfl) (fun _ _ _ h => h) (Or.inl ⟨by rfl, ?_⟩) (by assumption) ?_
    rotate_left
    · (intro w hSw; skip; go_simp <;> with_reducible rfl)
    try simp only [Act.put, List.setIfInBounds_toArray, List.set_cons_zero, List.set_cons_succ]
    refine wpAnyH_take (i := 4) (oi := { dst := some 11, op := Op.move (Operand.tmp 0), type := 3, pos := "sieve.go:84", after := #[], guard := none }) (v := ?_) rfl (by kernel_rfl) (by kernel_rfl) (by kernel_rfl) (fun _ _ _ h => h) (Or.inl ⟨by rfl, ?_⟩) (by assumption) ?_
    rotate_left
    · (intro w hSw; skip; go_simp <;> with_reducible rfl)
    try simp only [Act.put, List.setIfInBounds_toArray, List.set_cons_zero, List.set_cons_succ]
    refine wpAnyH_ready (rs := [1]) (by kernel_rfl) (by simp) ?_
    refine AllReadyH.cons (o := { dst := some 8, op := Op.call { callee := Callee.value (Operand.func 72), args := #[Operand.tmp 7], argTypes := #[3] }, type := 64, pos := "sieve.go:84", after := #[{ on := 0, ground := Ground.data }], guard := none }) rfl (fun K hK => ?_) AllReadyH.nil
    go_simp
    go_at_call 72
    refine (HEV.out u0).mono ?_
    rintro _ v1 ⟨rfl, T1, F, mn, _, hM, _, hD⟩
    have G1 := Lib.hid ((Fut.rfl).trans T1)
    obtain ⟨g, hg⟩ : ∃ g, g = u0.heap.size := ⟨_, rfl⟩
    rw [← hg] at hM ⊢
    have M1 := Lib.hid hM
    have D1 := Lib.hid hD
    replace T1 := Lib.hid T1
    clear hM hD hg
    try go_wp2_with fail
    refine hK.out _ _ ?_ (fun hHeld => ?_)
    · exact trivial
    clear hK K
    try simp only [Act.put, List.setIfInBounds_toArray, List.set_cons_zero, List.set_cons_succ]
    refine wpAnyH_take (i := 2) (oi := { dst := some 9, op := Op.nilCheck (Operand.tmp 8), type := 0, pos := "sieve.go:84", after := #[{ on := 1, ground := Ground.data }], guard := none }) (v := ?_) rfl (by kernel_rfl) (by kernel_rfl) (by kernel_rfl) (fun _ _ _ h => h) (Or.inl ⟨by rfl, ?_⟩) (by assumption) ?_
    rotate_left
    · (intro w hSw; skip; go_simp <;> with_reducible rfl)
    try simp only [Act.put, List.setIfInBounds_toArray, List.set_cons_zero, List.set_cons_succ]
    refine wpAnyH_take (i := 3) (oi := { dst := some 10, op := Op.fieldAddr 81 (Operand.tmp 9) 1, type := 0, pos := "sieve.go:84", after := #[{ on := 2, ground := Ground.data }], guard := none }) (v := ?_) rfl (by kernel_rfl) (by kernel_rfl) (by kernel_rfl) (fun _ _ _ h => h) (Or.inl ⟨by rfl, ?_⟩) (by assumption) ?_
    rotate_left
    · (intro w hSw; skip; go_simp <;> with_reducible rfl)
    try simp only [Act.put, List.setIfInBounds_toArray, List.set_cons_zero, List.set_cons_succ]
    refine wpAnyH_ready (rs := [5]) (by kernel_rfl) (by simp) ?_
    refine AllReadyH.cons (o := { dst := some 12, op := Op.call { callee := Callee.value (Operand.func 65), args := #[Operand.tmp 11], argTypes := #[3] }, type := 69, pos := "sieve.go:84", after := #[{ on := 4, ground := Ground.data }, { on := 1, ground := Ground.chain }], guard := none }) rfl (fun K hK => ?_) AllReadyH.nil
    go_simp
    go_at_call 65
    refine (HAL.out v1).mono ?_
    rintro _ v5 ⟨rfl, T5⟩
    have G5 := Lib.hid ((G1.out).trans T5)
    replace T5 := Lib.hid T5
    try go_wp2_with fail
    refine hK.out _ _ ?_ (fun hHeld => ?_)
    · exact trivial
    clear hK K
    try simp only [Act.put, List.setIfInBounds_toArray, List.set_cons_zero, List.set_cons_succ]
    refine wpAnyH_ready (rs := [6]) (by kernel_rfl) (by simp) ?_
    refine AllReadyH.cons (o := { dst := some 13, op := Op.call { callee := Callee.value (Operand.func 67), args := #[Operand.tmp 10, Operand.tmp 12], argTypes := #[79, 69] }, type := 3, pos := "sieve.go:84", after := #[{ on := 3, ground := Ground.data }, { on := 5, ground := Ground.data }, { on := 5, ground := Ground.chain }], guard := none }) rfl (fun K hK => ?_) AllReadyH.nil
    have HO := Lib.hid (of_any g 64 0 n1 (by omega) (by omega) (mn 0 n1) v5 ((M1.out.fut (T5.out)) 0 n1 (by omega) (by omega)).1)
    go_simp
    go_at_call 67
    refine HO.out.mono ?_
    rintro _ v6 ⟨rfl, T6⟩
    have G6 := Lib.hid ((G5.out).trans T6)
    have HVV : Hid (mn 0 n1 = treesE m) := Lib.hid (by rw [HTE.out]; exact all_m hn2 D1.out 9 0 n1 (by omega) (by omega) (by omega))
    clear HO T6
    try go_wp2_with fail
    refine hK.out _ _ ?_ (fun hHeld => ?_)
    · exact trivial
    clear hK K
    try simp only [Act.put, List.setIfInBounds_toArray, List.set_cons_zero, List.set_cons_succ]
    refine wpAnyH_ready (rs := [7]) (by kernel_rfl) (by simp) ?_
    refine AllReadyH.cons (o := { dst := some 2, op := Op.assign (Operand.tmp 13), type := 3, pos := "sieve.go:84", after := #[{ on := 6, ground := Ground.data }, { on := 6, ground := Ground.chain }, { on := 0, ground := Ground.phase }, { on := 1, ground := Ground.phase }, { on := 2, ground := Ground.phase }, { on := 3, ground := Ground.phase }, { on := 4, ground := Ground.phase }, { on := 5, ground := Ground.phase }, { on := 6, ground := Ground.phase }], guard := none }) rfl (fun K hK => ?_) AllReadyH.nil
    go_simp
    refine hK.out _ _ ?_ (fun hHeld => ?_)
    · exact trivial
    clear hK K
    try simp only [Act.put, List.setIfInBounds_toArray, List.set_cons_zero, List.set_cons_succ]
    refine wpAnyH_ready (rs := [8]) (by kernel_rfl) (by simp) ?_
    refine AllReadyH.cons (o := { dst := some 3, op := Op.assign (Operand.const (Value.int IntKind.i64 0)), type := 24, pos := "sieve.go:84", after := #[{ on := 7, ground := Ground.chain }, { on := 0, ground := Ground.phase }, { on := 1, ground := Ground.phase }, { on := 2, ground := Ground.phase }, { on := 3, ground := Ground.phase }, { on := 4, ground := Ground.phase }, { on := 5, ground := Ground.phase }, { on := 6, ground := Ground.phase }, { on := 7, ground := Ground.phase }], guard := none }) rfl (fun K hK => ?_) AllReadyH.nil
    go_simp
    refine hK.out _ _ ?_ (fun hHeld => ?_)
    · exact trivial
    clear hK K
    try simp only [Act.put, List.setIfInBounds_toArray, List.set_cons_zero, List.set_cons_succ]
    refine wpAnyH_done (by kernel_rfl) ?_ _
    go_wp2_with fail
    go_ret2
    exact ⟨by rw [← HVV.out]; rfl, HFU.out.trans G6.out⟩
  · have HTE : Hid (treesE n = 0) := Lib.hid (by unfold treesE; rw [if_neg hn])
    have HKE : Hid (kindE n = 1) := Lib.hid (by unfold kindE; rw [if_neg hn])
    rw [decide_eq_false hn] at HKI
    rw [HTE.out, HKE.out]
    clear hn
    go_enter Try.func31, Try.ntmps31
    go_wp2_with fail
    refine HKI.out.mono ?_
    rintro _ _ ⟨rfl, rfl⟩
    go_wp2_with fail
    go_ret2
    exact ⟨rfl, Fut.rfl⟩
end Go.Proofs.Ytjapconhehdcjaa
