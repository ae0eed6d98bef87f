/- Layer 3: the reference's Round. -/
import Derived.Test.YtpgifeaejjjjnaaBY
namespace Go.Proofs.Ytpgifeaejjjjnaa
open Go.RowKit Go.Sort
set_option maxRecDepth 100000 in
set_option maxHeartbeats 4000000 in
theorem rround_any (n : Nat) (h1 : 1 ≤ n) (h5 : n ≤ 5) (w : World) : Calls Try.prog 33 #[.int .i64 n] w (TupLC 0 (gridL n n (rndF n)) w) := by
  have HI := Lib.hid (fun W => rin_any (n : Int) 1 5 W)
  have hi1' : (decide ((1 : Int) ≤ n) && decide ((n : Int) ≤ 5)) = true := by rw [decide_eq_true (show (1 : Int) ≤ n by omega), decide_eq_true (show (n : Int) ≤ 5 by omega)]; rfl
  rw [hi1'] at HI
  obtain ⟨i0, hi0, hz0, hz1, hz2⟩ := info_parts info3
  obtain ⟨i1, hi1, hy0, hy1, hy2⟩ := info_parts info28
  have hnx : (n : Int) ≤ 5 := by omega
  have hn1 : ¬ n = 0 := by omega
  have hn2 : ¬ (n : Int) = 0 := by omega
  have hn3 : ((n : Int) == 0) = false := by rw [beq_eq_false_iff_ne]; exact hn2
  go_enter Try.func33, Try.ntmps33
  go_wp2_with fail
  refine (HI.out _).mono ?_
  rintro _ _ ⟨rfl, rfl⟩
  go_wp2_with fail
  go_loopw [4, 5] (fun ov iv wr => ∃ i : Nat, i ≤ n ∧ iv = .int .i64 i ∧ Hid (OwnL wr w.heap.size ov (rowsR n i)) ∧ Hid (Fut w wr)) (fun _ iv _ => n - (intOf iv).toNat)
  case atStart => exact ⟨0, Nat.zero_le _, rfl, Lib.hid (OwnL.nil _ _), Lib.hid Fut.rfl⟩
  case round =>
    obtain ⟨i, hi, rfl, HO, HF⟩ := hrel
    by_cases hlt : i < n
    · have hix : (i : Int) < n := by omega
      go_wp2_with fail
      generalize wr = w0 at *
      go_loopw [6, 7] (fun lv jv wq => ∃ j : Nat, j ≤ n ∧ jv = .int .i64 j ∧ Hid (Owns wq w0.heap.size lv (rowR n i j)) ∧ Hid (Fut w0 wq)) (fun _ jv _ => n - (intOf jv).toNat)
      case atStart => exact ⟨0, Nat.zero_le _, rfl, Lib.hid (World.ownsRow_nil _ _ _ _), Lib.hid Fut.rfl⟩
      case round =>
        obtain ⟨j, hj, rfl, HR, HB⟩ := hrel
        by_cases hjl : j < n
        · have hjx : (j : Int) < n := by omega
          have hrem : ((i : Int) + (j : Int)).tmod (n : Int) = rndF n i j := by
            unfold rndF
            rw [Int.tmod_eq_emod_of_nonneg (by omega), Int.natCast_emod, Int.natCast_add]
          have hwr1 : IntKind.i64.wrap ((i : Int) + (j : Int)) = (i : Int) + (j : Int) := IntWalk.i64_in _ ⟨by omega, by omega⟩
          have hr0 : 0 ≤ rndF n i j ∧ rndF n i j < n := by
            unfold rndF
            have := Nat.mod_lt (i + j) (show 0 < n by omega)
            omega
          obtain ⟨hr1, hr2⟩ := hr0
          have hwr2 : IntKind.i64.wrap (rndF n i j) = rndF n i j := IntWalk.i64_in _ ⟨by omega, by omega⟩
          have HS := Lib.hid (rowR_succ n i j)
          have HRL := Lib.hid (rowR_len n i j)
          generalize rndF n i j = rd at *
          generalize hrn : rowR n i (j + 1) = rn at *
          have HRN := Lib.hid hrn
          clear hrn
          generalize rowR n i j = rj at *
          obtain ⟨av, ac, hav, hl1, hl2, _⟩ := HR.out.form
          subst hav
          go_wp2_with (at_builtin; refine wpList_append_own _ rfl _ _ 28 rfl w0.heap.size 3 i0 (.int .i64 0) 1 8 Try.underlying28 hi0 hz0 hz1 hz2 rfl (by decide) _ _ _ rfl (HR.out.fut (Fut.alloc _ _)) ⟨wr.heap.size, 0, none⟩ 1 1 [.int .i64 rd] rfl rfl (cell_one (by simp [go_sem])) (by simp [Value.oneCell']) (by have := HRL.out; unfold maxLen; omega) (by have := HRL.out; omega) (by have := RowKit.Below.size HB.out; simp; omega) ?_)
          intro v' w7 hown' hgrow _
          have HR7 : Hid (Owns w7 w0.heap.size v' rn) := Lib.hid (by rw [HS.out]; unfold Owns; simpa using hown')
          have HB7 : Hid (Fut w0 w7) := Lib.hid (RowKit.Below.grown (HB.out.trans (Fut.alloc _ _)) hgrow (RowKit.Below.size (HB.out.trans (Fut.alloc _ _))) (fun q hq => (World.ownsRow.lt (HR.out.fut (Fut.alloc wr (.cells #[.int .i64 rd] 3))) q hq).1))
          clear hown' hgrow hwr1 hwr2 hrem
          go_wp2
          go_round
          case rel => exact ⟨j + 1, by omega, by go_num, by rw [HRN.out]; exact HR7, HB7⟩
          case measure => simp [intOf]; omega
        · obtain rfl : j = n := by omega
          have HRS := Lib.hid (rowsR_succ j i)
          have HRL := Lib.hid (rowsR_len j i)
          have HQL := Lib.hid (rowR_len j i j)
          have HO2 := Lib.hid (HO.out.fut HB.out)
          generalize hRn : rowsR j (i + 1) = Rn at *
          have HRN := Lib.hid hRn
          clear hRn
          generalize rowsR j i = Ri at *
          generalize rowR j i j = rw' at *
          obtain ⟨av, ac, hav, hl1, hl2, _⟩ := HR.out.form
          subst hav
          obtain ⟨vals, hO1, hE1⟩ := HO2.out
          have HV := Lib.hid hE1
          have hb0 : w.heap.size ≤ w0.heap.size := RowKit.Below.size HF.out
          have hbq : w0.heap.size ≤ wr.heap.size := RowKit.Below.size HB.out
          go_wp2_with (at_builtin; refine wpList_append_own _ rfl _ _ 22 rfl w.heap.size 28 i1 (.slice none 0 0) 1 24 Try.underlying22 hi1 hy0 hy1 hy2 rfl (by decide) _ _ _ rfl (row_fut hO1 (Fut.alloc _ _)) ⟨wr.heap.size, 0, none⟩ 1 1 [.slice av rw'.length ac] rfl rfl (cell_one (by simp [go_sem])) (by simp [Value.oneCell']) (by have := HRL.out; unfold maxLen; omega) (by have := HRL.out; omega) (by simp; omega) ?_)
          intro v' w7 hown' hgrow _
          have hOA := row_fut hO1 (Fut.alloc wr (.cells #[.slice av rw'.length ac] 28))
          have HO7 : Hid (OwnL w7 w.heap.size v' Rn) := Lib.hid (by
            rw [HRS.out]
            refine ⟨vals ++ [.slice av rw'.length ac], ?_, Elems.app (hE1.fut (Fut.alloc _ _)) ((HR.out.base hb0).fut (Fut.alloc _ _)) hOA hgrow⟩
            have e : (Ri ++ [rw']).length = Ri.length + 1 := by simp
            rw [e]
            simpa using hown')
          have HF7 : Hid (Fut w w7) := Lib.hid (RowKit.Below.grown ((HF.out.trans HB.out).trans (Fut.alloc _ _)) hgrow (by simp; omega) (fun q hq => (World.ownsRow.lt hOA q hq).1))
          clear hown' hgrow hOA
          go_wp2
          go_round
          case rel => exact ⟨i + 1, by omega, by go_num, by rw [HRN.out]; exact HO7, HF7⟩
          case measure => simp [intOf]; omega
    · obtain rfl : i = n := by omega
      obtain ⟨l, lc, e, q1, q2, hL⟩ := HO.out.listsC
      rw [rowsR_len] at e q1
      subst e
      rw [rowsR_grid] at hL
      go_wp2
      go_ret2
      have el := gridL_len i i (rndF i)
      exact ⟨_, _, by rw [el]; rfl, by rw [el]; exact q1, q2, hL, HF.out⟩

theorem rround_no (c : Int) (h : sizeE c 0 ≠ 0) (w : World) : Calls Try.prog 33 #[.int .i64 c] w fun e w' => e = .returned (.tuple #[.slice none 0 0, .int .i64 (sizeE c 0)]) ∧ w = w' := by
  have HI := Lib.hid (fun W => rin_any c 1 5 W)
  have h1 : c < 1 ∨ 5 < c := by
    unfold sizeE at h
    by_cases h1 : c < 1 ∨ 5 < c
    · exact h1
    · rw [if_neg h1, if_neg (by omega)] at h; exact absurd rfl h
  have hi : (decide ((1 : Int) ≤ c) && decide (c ≤ 5)) = false := by
    rw [Bool.eq_false_iff]; simp; omega
  have he : sizeE c 0 = 1 := by unfold sizeE; rw [if_pos h1]
  rw [hi] at HI
  rw [he]
  clear h h1 hi he
  go_enter Try.func33, Try.ntmps33
  go_wp2_with fail
  refine (HI.out _).mono ?_
  rintro _ _ ⟨rfl, rfl⟩
  go_wp2
  go_ret2
  exact ⟨rfl, rfl⟩
end Go.Proofs.Ytpgifeaejjjjnaa
