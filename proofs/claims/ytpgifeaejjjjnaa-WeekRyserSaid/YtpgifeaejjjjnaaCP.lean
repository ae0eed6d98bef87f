/- the reference's rows. -/
import Derived.Test.YtpgifeaejjjjnaaCO
namespace Go.Proofs.Ytpgifeaejjjjnaa
open Go.RowKit Go.Sort
set_option maxRecDepth 100000 in
set_option maxHeartbeats 4000000 in
/-- the reference's rows. -/
theorem rows_own (n : Nat) (hn : n ≤ 5) : ∀ (m : Nat) (ba : Option Addr) (bc : Nat) (begun : List Int) (w : World), begun.length + m = n → (m = 0 → Owns w 0 (.slice ba begun.length bc) begun) → IntsAt w ba begun →
    Calls Try.prog 114 #[.int .i64 n, .slice ba begun.length bc] w fun e w' => ∃ v, e = .returned v ∧ OwnX w' w.heap.size v (ordT n m begun) ∧ Fut w w' := by
  intro m
  induction m with
  | zero =>
    intro ba bc begun w hl hO _
    have hX : OwnX (w.alloc (.cells #[.slice ba begun.length bc] 28)) w.heap.size (.slice (some ⟨w.heap.size, 0, none⟩) 1 1) [begun] := OwnX.one (hO rfl)
    have HX := Lib.hid hX
    obtain rfl : begun.length = n := by omega
    clear hX hO hl
    go_enter Try.func114, Try.ntmps114
    go_wp2
    go_ret
    exact ⟨_, rfl, HX.out, Fut.alloc _ _⟩
  | succ m ih =>
    intro ba bc begun w hl _ hI
    obtain ⟨i0, hi0, hz0, hz1, hz2⟩ := info_parts info3
    obtain ⟨i1, hi1, hy0, hy1, hy2⟩ := info_parts info28
    have HM4 := Lib.hid (show m ≤ 4 by omega)
    cases ba with
    | none =>
      have h0 : begun = [] := by
        cases begun with
        | nil => rfl
        | cons p t => obtain ⟨b, off, e, _⟩ := hI 0 (by simp); cases e
      subst h0
      have HI := Lib.hid hI
      have HL := Lib.hid hl
      have HIH := Lib.hid ih
      have hne : ((0 : Int) == (n : Int)) = false := by have := HL.out; simp at this ⊢; omega
      have hnx : (n : Int) ≤ 5 := by omega
      clear hI hl ih
      go_enter Try.func114, Try.ntmps114
      go_wp2_with fail
      go_loopw [5, 6] (fun ov iv wx => ∃ i : Nat, i ≤ n ∧ iv = .int .i64 i ∧ Hid (OwnX wx w.heap.size ov (segT n m [] i)) ∧ Hid (Fut w wx)) (fun _ iv _ => n - (intOf iv).toNat)
      case atStart => exact ⟨0, Nat.zero_le _, rfl, Lib.hid (OwnX.nil _ _), Lib.hid Fut.rfl⟩
      case round =>
        obtain ⟨i, hin, rfl, HOX, HFX⟩ := hrel
        by_cases hlt : i < n
        · have hix : (i : Int) < n := by omega
          have HH := Lib.hid (rhas_any none bc ([] : List Int) i wr (HI.out.fut HFX.out) (by have := HL.out; omega))
          have HSS := Lib.hid (segT_succ n m ([] : List Int) i)
          cases hc : ([] : List Int).contains (i : Int)
          · rw [hc] at HH HSS
            simp only [Bool.false_eq_true, if_false] at HSS
            clear hc
            obtain ⟨vals, hrow, hel⟩ := HOX.out
            have HROW := Lib.hid hrow
            have HEL := Lib.hid hel
            have HIB := Lib.hid (HI.out.fut HFX.out)
            have hbl := HL.out
            have hbx : (([] : List Int).length : Int) ≤ 5 := by omega
            have HRP : Hid (0 < (ordT n m (([] : List Int) ++ [(i : Int)])).length) := Lib.hid (List.length_pos_iff.2 (ordT_ne n m _ (by have := HL.out; simp at this ⊢; omega)))
            have HSZ : Hid ((segT n m [] i).length + (ordT n m (([] : List Int) ++ [(i : Int)])).length ≤ 5000) := Lib.hid (by
              have h1 := segT_le n m ([] : List Int) _ (fun h' => ordT_le n m h') i
              have h2 := ordT_le n m (([] : List Int) ++ [(i : Int)])
              have h3 := pow_le (n := n) (m := m) hn HM4.out
              have h4 : i * n ^ m ≤ 5 * 625 := Nat.mul_le_mul (by omega) h3
              omega)
            generalize hRes : ordT n m (([] : List Int) ++ [(i : Int)]) = Res at *
            have HRes := Lib.hid hRes
            clear hRes hrow hel hbl
            go_wp2_with fail
            refine HH.out.mono ?_
            rintro _ w1 ⟨rfl, rfl⟩
            have HW : ((wr.alloc (.cells #[] 3)).alloc (.cells #[.int .i64 (i : Int)] 3)).ownsRow wr.heap.size 3 1 (.slice (some ⟨wr.heap.size, 0, none⟩) 0 0) 0 [] := World.ownsRow.alloc (World.ownsRow_lit (base := wr.heap.size) (e := 3) (size := 1) wr #[] 0 (Nat.le_refl _) (by unfold maxLen; omega) rfl) _
            have FW : Fut wr ((wr.alloc (.cells #[] 3)).alloc (.cells #[.int .i64 (i : Int)] 3)) := (Fut.alloc _ _).trans (Fut.alloc _ _)
            go_wp2_with (at_builtin; refine wpList_append_lies _ rfl _ _ 28 rfl wr.heap.size 3 i0 (.int .i64 0) 1 8 Try.underlying28 hi0 hz0 hz1 hz2 rfl (by decide) _ 0 [] rfl HW ⟨wr.heap.size + 1, 0, none⟩ 1 1 [.int .i64 (i : Int)] rfl rfl (cell_one (by simp [go_sem])) (by simp [Value.oneCell']) (by omega) (by unfold maxLen; omega) (by omega) (RowKit.Below.size FW) _ rfl ?_)
            intro g6 c6 w6 hown6 hgrow6 _ hg6
            have hO6 : Owns w6 0 (.slice (some ⟨g6, 0, none⟩) (([] : List Int) ++ [(i : Int)]).length c6) (([] : List Int) ++ [(i : Int)]) := by
              refine Owns.base (B := wr.heap.size) ?_ (Nat.zero_le _)
              unfold Owns
              simpa using hown6
            have F6 : Fut wr w6 := RowKit.Below.grown FW hgrow6 (RowKit.Below.size FW) fun q hq => (World.ownsRow.lt HW q hq).1
            have hcall := HIH.out (some ⟨g6, 0, none⟩) c6 (([] : List Int) ++ [(i : Int)]) w6 (by have := HL.out; simp at this ⊢; omega) (fun _ => hO6) (by obtain ⟨_, _, e, hI⟩ := hO6.ints; simp only [Value.slice.injEq, true_and] at e; obtain ⟨rfl, _⟩ := e; exact hI)
            rw [show (([] : List Int) ++ [(i : Int)]).length = ([] : List Int).length + 1 by simp, HRes.out] at hcall
            have HCALL := Lib.hid hcall
            clear hown6 hgrow6 hO6 hcall hg6 HW FW
            go_wp2_with fail
            refine HCALL.out.mono ?_
            rintro _ w7 ⟨v7, rfl, hX7, F7⟩
            obtain ⟨g7, c7, vals7, rfl, hv7, hc7, hel7⟩ := hX7.take HRP.out
            have F27 : Fut wr w7 := F6.trans F7
            have HROW7 := Lib.hid (row_fut HROW.out F27)
            have HEL7 := Lib.hid (HEL.out.fut F27)
            have HELN := Lib.hid hel7
            have HFW7 := Lib.hid (HFX.out.trans F27)
            have HC7 := Lib.hid hc7
            have HS7 := Lib.hid (RowKit.Below.size HFW7.out)
            clear hX7 F7 F6 hc7 hel7 F27 HCALL HROW HEL
            go_wp2_with (at_builtin; refine wpList_append_lies _ rfl _ _ 22 rfl w.heap.size 28 i1 (.slice none 0 0) 1 24 Try.underlying22 hi1 hy0 hy1 hy2 rfl (by decide) _ (segT n m [] i).length vals rfl HROW7.out ⟨g7, 0, none⟩ Res.length c7 vals7 rfl (by omega) HC7.out HELN.out.cells HRP.out (by have := HSZ.out; unfold maxLen; omega) (by have := HSZ.out; omega) HS7.out _ rfl ?_)
            intro g8 c8 w8 hown8 hgrow8 _ _
            have HX8 : Hid (OwnX w8 w.heap.size (.slice (some ⟨g8, 0, none⟩) ((segT n m [] i).length + Res.length) c8) (segT n m [] i ++ Res)) := Lib.hid ⟨vals ++ vals7, by rw [List.length_append]; exact hown8, HEL7.out.cat HELN.out HROW7.out hgrow8⟩
            have HF8 : Hid (Fut w w8) := Lib.hid (RowKit.Below.grown HFW7.out hgrow8 HS7.out fun q hq => (World.ownsRow.lt HROW7.out q hq).1)
            clear hown8 hgrow8 HROW7 HEL7 HELN HC7 HFW7 HS7 hv7
            go_wp2
            go_round
            case rel => exact ⟨i + 1, by omega, by go_num, by rw [HSS.out]; exact HX8, HF8⟩
            case measure => simp [intOf]; omega
          · rw [hc] at HH HSS
            simp only [if_true, List.append_nil] at HSS
            clear hc
            go_wp2_with fail
            refine HH.out.mono ?_
            rintro _ w1 ⟨rfl, rfl⟩
            go_wp2
            go_round
            case rel => exact ⟨i + 1, by omega, by go_num, by rw [HSS.out]; exact HOX, HFX⟩
            case measure => simp [intOf]; omega
        · obtain rfl : i = n := by omega
          go_wp2
          go_ret
          exact ⟨_, rfl, HOX.out, HFX.out⟩
    | some ad =>
      have HI := Lib.hid hI
      have HL := Lib.hid hl
      have HIH := Lib.hid ih
      have hne : ((begun.length : Int) == (n : Int)) = false := by simp; omega
      have hnx : (n : Int) ≤ 5 := by omega
      clear hI hl ih
      go_enter Try.func114, Try.ntmps114
      go_wp2_with fail
      go_loopw [5, 6] (fun ov iv wx => ∃ i : Nat, i ≤ n ∧ iv = .int .i64 i ∧ Hid (OwnX wx w.heap.size ov (segT n m begun i)) ∧ Hid (Fut w wx)) (fun _ iv _ => n - (intOf iv).toNat)
      case atStart => exact ⟨0, Nat.zero_le _, rfl, Lib.hid (OwnX.nil _ _), Lib.hid Fut.rfl⟩
      case round =>
        obtain ⟨i, hin, rfl, HOX, HFX⟩ := hrel
        by_cases hlt : i < n
        · have hix : (i : Int) < n := by omega
          have HH := Lib.hid (rhas_any (some ad) bc begun i wr (HI.out.fut HFX.out) (by have := HL.out; omega))
          have HSS := Lib.hid (segT_succ n m begun i)
          cases hc : begun.contains (i : Int)
          · rw [hc] at HH HSS
            simp only [Bool.false_eq_true, if_false] at HSS
            clear hc
            obtain ⟨vals, hrow, hel⟩ := HOX.out
            have HROW := Lib.hid hrow
            have HEL := Lib.hid hel
            have HIB := Lib.hid (HI.out.fut HFX.out)
            have hbl := HL.out
            have hbx : (begun.length : Int) ≤ 5 := by omega
            have HRP : Hid (0 < (ordT n m (begun ++ [(i : Int)])).length) := Lib.hid (List.length_pos_iff.2 (ordT_ne n m _ (by have := HL.out; simp at this ⊢; omega)))
            have HSZ : Hid ((segT n m begun i).length + (ordT n m (begun ++ [(i : Int)])).length ≤ 5000) := Lib.hid (by
              have h1 := segT_le n m begun _ (fun h' => ordT_le n m h') i
              have h2 := ordT_le n m (begun ++ [(i : Int)])
              have h3 := pow_le (n := n) (m := m) hn HM4.out
              have h4 : i * n ^ m ≤ 5 * 625 := Nat.mul_le_mul (by omega) h3
              omega)
            generalize hRes : ordT n m (begun ++ [(i : Int)]) = Res at *
            have HRes := Lib.hid hRes
            clear hRes hrow hel hbl
            go_wp2_with fail
            refine HH.out.mono ?_
            rintro _ w1 ⟨rfl, rfl⟩
            have HNW : Hid (∀ j u, (begun.map (Value.int .i64))[j]? = some u → (wr.alloc (.cells #[] 3)).cell? (ad.add j) = some u) := Lib.hid (fun j u hj => by
              have hlt : j < begun.length := by simpa using (List.getElem?_eq_some_iff.1 hj).1
              obtain ⟨b, off, e, _⟩ := HIB.out 0 (by omega)
              simp at e
              subst e
              rw [Addr.add_lit]
              exact ints_news (HIB.out.fut (Fut.alloc _ _)) j u hj)
            have HW0 : (wr.alloc (.cells #[] 3)).ownsRow wr.heap.size 3 1 (.slice (some ⟨wr.heap.size, 0, none⟩) 0 0) 0 [] := World.ownsRow_lit (base := wr.heap.size) (e := 3) (size := 1) wr #[] 0 (Nat.le_refl _) (by unfold maxLen; omega) rfl
            have FW0 : Fut wr (wr.alloc (.cells #[] 3)) := Fut.alloc _ _
            go_wp2_with (at_builtin; refine wpList_append_own _ rfl _ _ 28 rfl wr.heap.size 3 i0 (.int .i64 0) 1 8 Try.underlying28 hi0 hz0 hz1 hz2 rfl (by decide) _ 0 [] rfl HW0 ad begun.length bc (begun.map (.int .i64)) rfl (by simp) HNW.out (by intro u hu; obtain ⟨z, _, rfl⟩ := List.mem_map.1 hu; rfl) (by unfold maxLen; omega) (by omega) (RowKit.Below.size FW0) ?_)
            intro v5 w5 hown5 hgrow5 hnil5
            have F5 : Fut wr w5 := RowKit.Below.grown FW0 hgrow5 (RowKit.Below.size FW0) fun q hq => (World.ownsRow.lt HW0 q hq).1
            obtain ⟨g5, c5, rfl⟩ : ∃ g5 c5, v5 = .slice (some ⟨g5, 0, none⟩) begun.length c5 := by
              rcases hown5.2 with ⟨e, _⟩ | ⟨g, c, _, e, _⟩
              · exact (hnil5 e).elim
              · exact ⟨g, c, e⟩
            have HW : (w5.alloc (.cells #[.int .i64 (i : Int)] 3)).ownsRow wr.heap.size 3 1 (.slice (some ⟨g5, 0, none⟩) begun.length c5) begun.length (begun.map (Value.int .i64)) := World.ownsRow.alloc hown5 _
            have FW : Fut wr (w5.alloc (.cells #[.int .i64 (i : Int)] 3)) := F5.trans (Fut.alloc _ _)
            clear HNW HW0 FW0 hown5 hgrow5 F5 hnil5
            go_wp2_with (at_builtin; refine wpList_append_lies _ rfl _ _ 28 rfl wr.heap.size 3 i0 (.int .i64 0) 1 8 Try.underlying28 hi0 hz0 hz1 hz2 rfl (by decide) _ begun.length (begun.map (Value.int .i64)) rfl HW ⟨w5.heap.size, 0, none⟩ 1 1 [.int .i64 (i : Int)] rfl rfl (cell_one (by simp [go_sem])) (by simp [Value.oneCell']) (by omega) (by unfold maxLen; omega) (by omega) (RowKit.Below.size FW) _ rfl ?_)
            intro g6 c6 w6 hown6 hgrow6 _ hg6
            have hO6 : Owns w6 0 (.slice (some ⟨g6, 0, none⟩) (begun ++ [(i : Int)]).length c6) (begun ++ [(i : Int)]) := by
              refine Owns.base (B := wr.heap.size) ?_ (Nat.zero_le _)
              unfold Owns
              simpa using hown6
            have F6 : Fut wr w6 := RowKit.Below.grown FW hgrow6 (RowKit.Below.size FW) fun q hq => (World.ownsRow.lt HW q hq).1
            have hcall := HIH.out (some ⟨g6, 0, none⟩) c6 (begun ++ [(i : Int)]) w6 (by have := HL.out; simp at this ⊢; omega) (fun _ => hO6) (by obtain ⟨_, _, e, hI⟩ := hO6.ints; simp only [Value.slice.injEq, true_and] at e; obtain ⟨rfl, _⟩ := e; exact hI)
            rw [show (begun ++ [(i : Int)]).length = begun.length + 1 by simp, HRes.out] at hcall
            have HCALL := Lib.hid hcall
            clear hown6 hgrow6 hO6 hcall hg6 HW FW
            go_wp2_with fail
            refine HCALL.out.mono ?_
            rintro _ w7 ⟨v7, rfl, hX7, F7⟩
            obtain ⟨g7, c7, vals7, rfl, hv7, hc7, hel7⟩ := hX7.take HRP.out
            have F27 : Fut wr w7 := F6.trans F7
            have HROW7 := Lib.hid (row_fut HROW.out F27)
            have HEL7 := Lib.hid (HEL.out.fut F27)
            have HELN := Lib.hid hel7
            have HFW7 := Lib.hid (HFX.out.trans F27)
            have HC7 := Lib.hid hc7
            have HS7 := Lib.hid (RowKit.Below.size HFW7.out)
            clear hX7 F7 F6 hc7 hel7 F27 HCALL HROW HEL
            go_wp2_with (at_builtin; refine wpList_append_lies _ rfl _ _ 22 rfl w.heap.size 28 i1 (.slice none 0 0) 1 24 Try.underlying22 hi1 hy0 hy1 hy2 rfl (by decide) _ (segT n m begun i).length vals rfl HROW7.out ⟨g7, 0, none⟩ Res.length c7 vals7 rfl (by omega) HC7.out HELN.out.cells HRP.out (by have := HSZ.out; unfold maxLen; omega) (by have := HSZ.out; omega) HS7.out _ rfl ?_)
            intro g8 c8 w8 hown8 hgrow8 _ _
            have HX8 : Hid (OwnX w8 w.heap.size (.slice (some ⟨g8, 0, none⟩) ((segT n m begun i).length + Res.length) c8) (segT n m begun i ++ Res)) := Lib.hid ⟨vals ++ vals7, by rw [List.length_append]; exact hown8, HEL7.out.cat HELN.out HROW7.out hgrow8⟩
            have HF8 : Hid (Fut w w8) := Lib.hid (RowKit.Below.grown HFW7.out hgrow8 HS7.out fun q hq => (World.ownsRow.lt HROW7.out q hq).1)
            clear hown8 hgrow8 HROW7 HEL7 HELN HC7 HFW7 HS7 hv7
            go_wp2
            go_round
            case rel => exact ⟨i + 1, by omega, by go_num, by rw [HSS.out]; exact HX8, HF8⟩
            case measure => simp [intOf]; omega
          · rw [hc] at HH HSS
            simp only [if_true, List.append_nil] at HSS
            clear hc
            go_wp2_with fail
            refine HH.out.mono ?_
            rintro _ w1 ⟨rfl, rfl⟩
            go_wp2
            go_round
            case rel => exact ⟨i + 1, by omega, by go_num, by rw [HSS.out]; exact HOX, HFX⟩
            case measure => simp [intOf]; omega
        · obtain rfl : i = n := by omega
          go_wp2
          go_ret
          exact ⟨_, rfl, HOX.out, HFX.out⟩
end Go.Proofs.Ytpgifeaejjjjnaa
