/- the reference's barred 94: barred_any -/
import Derived.Test.YtflllkamdihfaaaLCH
namespace Go.Proofs.Ytflllkamdihfaaa
open Go.RowKit Go.Sort
/-- a list found, and whether it was. -/
abbrev TupF (E : Option (List Int)) (w : World) (e : Ending) (w' : World) : Prop := ∃ l lc n, e = .returned (.tuple #[.slice l n lc, .bool E.isSome]) ∧ (∀ R, E = some R → n = R.length ∧ n ≤ lc ∧ IntsAt w' l R) ∧ Fut w w'
theorem rbL_step (g : List Int → Nat → Option (List Int)) (b : List Int) (f i : Nat) : rbL g b (f + 1) i = match g (b ++ [(i : Int)]) (i + 1) with | some R => some R | none => rbL g b f (i + 1) := rfl
theorem ints_src {w : World} {ba : Option Addr} {bc : Nat} {b : List Int} (h : IntsAt w ba b) (h0 : ba = none → bc = 0) : SrcL w (.slice ba b.length bc) b.length (b.map (Value.int .i64)) := by
  cases ba with
  | none =>
    have hb : b = [] := by
      cases b with
      | nil => rfl
      | cons p t => obtain ⟨_, _, e, _⟩ := h 0 (by simp); cases e
    subst hb
    rw [h0 rfl]
    exact .inl ⟨rfl, rfl, rfl⟩
  | some ad =>
    refine .inr ⟨ad, bc, rfl, by simp, fun j u hj => ?_, fun u hu => by obtain ⟨z, _, rfl⟩ := List.mem_map.1 hu; rfl⟩
    have hlt : j < b.length := by simpa using (List.getElem?_eq_some_iff.1 hj).1
    obtain ⟨b0, o0, e, _⟩ := h 0 (by omega)
    simp at e
    subst e
    rw [Addr.add_lit]
    exact ints_news h j u hj
set_option maxRecDepth 100000 in
set_option maxHeartbeats 8000000 in
theorem barred_any (r c : Int) (a : Option Addr) (cap : Nat) (S : List Int) (ya : Option Addr) (yc : Nat) (Y : List Int) (ta : Option Addr) (tc : Nat) (T : List Int) (G : ChkG r c S Y T) : ∀ (k : Nat) (b : List Int) (ba : Option Addr) (bc i : Nat) (w : World), b.length + k < Y.length → ((b = [] ∧ i = 0) ∨ (0 < b.length ∧ lst b + 1 = i ∧ 0 ≤ lst b)) → (i : Int) ≤ r * c → IntsAt w ba b → b.length ≤ bc → (ba = none → bc = 0) → InPQ w a S ya yc Y ta tc T →
    Calls Try.prog 94 #[parV r c a S.length cap, plaV ya Y.length yc ta T.length tc, .slice ba b.length bc, .int .i64 (b.length + k : Nat)] w (TupF (rbE c (r * c) S Y T k b i) w) := by
  intro k
  induction k with
  | zero =>
    intro b ba bc i w hbk hbi him hI hbc hn0 h
    have hA : Fut w ((w.alloc (.cells #[.int .i64 r, .int .i64 c, .slice a S.length cap] 29)).alloc (.cells #[.slice ya Y.length yc, .slice ta T.length tc] 30)) := (Fut.alloc _ _).trans (Fut.alloc _ _)
    have hBP := (BoxR.new w r c a S.length cap).fut (Fut.alloc _ (.cells #[.slice ya Y.length yc, .slice ta T.length tc] 30))
    have hBQ := BoxT.new (w.alloc (.cells #[.int .i64 r, .int .i64 c, .slice a S.length cap] 29)) ya Y.length yc ta T.length tc
    rw [World.size_alloc] at hBQ
    have HCK := Lib.hid (fun W (F : Fut w W) => rchk_any r c a cap S ya yc Y ta tc T W (h.fut F))
    have HA := Lib.hid hA
    have HBP := Lib.hid hBP
    have HBQ := Lib.hid hBQ
    have HIN := Lib.hid h
    obtain ⟨_, p0, p1, p2⟩ := hBP
    obtain ⟨_, q0, q1⟩ := hBQ
    clear HCK
    have hbx : (b.length : Int) ≤ 3 := by have := G.three; omega
    have HBA := Lib.hid (fun W F => bars_any r c a cap S ya yc Y ta tc T ba bc b W (h.fut F) G (hI.fut F) (by have := G.three; omega))
    have HB : Hid (barR c (r * c) S Y T b = (rbE c (r * c) S Y T 0 b i).isSome) := Lib.hid (by
      unfold barR rbE
      rw [if_neg (by omega)]
      split <;> rename_i q <;> simp [q])
    have HE2 : Hid (∀ R, rbE c (r * c) S Y T 0 b i = some R → R = b) := Lib.hid (fun R hR => by
      unfold rbE at hR
      split at hR
      · cases hR; rfl
      · cases hR)
    rw [HB.out] at HBA
    generalize rbE c (r * c) S Y T 0 b i = E at *
    have HI := Lib.hid hI
    have hbcx : (b.length : Int) ≤ bc := by omega
    rw [Nat.add_zero]
    clear h hA hI hbi him HB hn0
    go_enter Try.func94, Try.ntmps94
    go_wp2_with fail
    refine (HBA.out _ HA.out).mono ?_
    rintro _ w2 ⟨rfl, F⟩
    have HF2 := Lib.hid (HA.out.trans F)
    clear F p0 p1 p2 q0 q1
    go_wp2_with fail
    go_ret2
    exact ⟨ba, bc, b.length, rfl, fun R hR => by rw [HE2.out R hR]; exact ⟨rfl, hbc, HI.out.fut HF2.out⟩, HF2.out⟩
  | succ k ih =>
    intro b ba bc i w hbk hbi him hI hbc hn0 h
    obtain ⟨i0, hi0, hz0, hz1, hz2⟩ := info_parts info3
    have hA : Fut w ((w.alloc (.cells #[.int .i64 r, .int .i64 c, .slice a S.length cap] 29)).alloc (.cells #[.slice ya Y.length yc, .slice ta T.length tc] 30)) := (Fut.alloc _ _).trans (Fut.alloc _ _)
    have hBP := (BoxR.new w r c a S.length cap).fut (Fut.alloc _ (.cells #[.slice ya Y.length yc, .slice ta T.length tc] 30))
    have hBQ := BoxT.new (w.alloc (.cells #[.int .i64 r, .int .i64 c, .slice a S.length cap] 29)) ya Y.length yc ta T.length tc
    rw [World.size_alloc] at hBQ
    have HCK := Lib.hid (fun W (F : Fut w W) => rchk_any r c a cap S ya yc Y ta tc T W (h.fut F))
    have HA := Lib.hid hA
    have HBP := Lib.hid hBP
    have HBQ := Lib.hid hBQ
    have HIN := Lib.hid h
    obtain ⟨_, p0, p1, p2⟩ := hBP
    obtain ⟨_, q0, q1⟩ := hBQ
    clear HCK
    have hne : ((b.length : Int) == ((b.length + (k + 1) : Nat) : Int)) = false := by simp; omega
    have hne2 : ((b.length : Int) == (b.length : Int) + ((k : Int) + 1)) = false := by simp; omega
    have hbx : (b.length : Int) ≤ 3 := by have := G.three; omega
    have hm5 := G.side.2.2.2.2
    have hmm := side_m G.side
    have HRE : Hid (rbE c (r * c) S Y T (k + 1) b i = rbL (fun b' i' => rbE c (r * c) S Y T k b' i') b ((r * c).toNat - i) i) := Lib.hid rfl
    have HSB0 := Lib.hid (ints_src hI hn0)
    have HBL : Hid (b.length ≤ 3) := Lib.hid (by have := G.three; omega)
    have HIH0 : Hid (∀ (n : Nat) av ac W, (n : Int) < r * c → Fut w W → Owns W 0 (.slice av (b ++ [(n : Int)]).length ac) (b ++ [(n : Int)]) → Calls Try.prog 94 #[parV r c a S.length cap, plaV ya Y.length yc ta T.length tc, .slice av (b.length + 1) ac, .int .i64 (b.length + (k + 1) : Nat)] W (TupF (rbE c (r * c) S Y T k (b ++ [(n : Int)]) (n + 1)) W)) := Lib.hid (fun n av ac W hn F hO => by
      obtain ⟨_, _, e', q1, _, hI2⟩ := hO.form
      simp only [Value.slice.injEq, true_and] at e'
      obtain ⟨rfl, rfl⟩ := e'
      have hav : av = none → ac = 0 := fun e => by
        subst e
        obtain ⟨_, _, e3, _⟩ := hI2 0 (by simp)
        cases e3
      have := ih (b ++ [(n : Int)]) av ac (n + 1) W (by rw [List.length_append, List.length_singleton]; omega) (.inr ⟨by simp, by rw [lst_app]; omega, by rw [lst_app]; omega⟩) (by omega) hI2 q1 hav (h.fut F)
      rw [List.length_append, List.length_singleton, Nat.add_assoc, Nat.add_comm 1 k] at this
      exact this)
    have HI := Lib.hid hI
    have HBI := Lib.hid hbi
    have HIM := Lib.hid him
    have HMM := Lib.hid hmm
    generalize rbE c (r * c) S Y T (k + 1) b i = E at *
    generalize hm : r * c = m at HRE HIH0 HIM HMM
    have hwm : IntKind.i64.wrap (r * c) = m := by rw [hm]; exact IntWalk.i64_in _ ⟨by have := HMM.out; omega, by have := HMM.out; omega⟩
    clear h hA hI hbi him hm5 hmm ih hbk hn0 hm
    go_enter Try.func94, Try.ntmps94
    go_upto_if 25 with fail
    generalize (w.alloc (.cells #[.int .i64 r, .int .i64 c, .slice a S.length cap] 29)).alloc (.cells #[.slice ya Y.length yc, .slice ta T.length tc] 30) = W1 at *
    go_cut [10] from 25 to 33 (fun s10 wx => s10 = .int .i64 (i : Nat) ∧ Hid (Fut W1 wx))
    case first =>
      rcases HBI.out with ⟨hb0, rfl⟩ | ⟨hb0, hbl, hbl0⟩
      · have hbz : ¬ (0 : Int) < b.length := by rw [hb0]; simp
        clear hb0
        go_wp2_with fail
        go_meet
        exact ⟨rfl, Lib.hid Fut.rfl⟩
      · have hbp : (0 : Int) < b.length := by omega
        have hwr : IntKind.i64.wrap ((b.length : Int) - 1) = ((b.length - 1 : Nat) : Int) := by rw [IntWalk.i64_in _ ⟨by omega, by omega⟩]; omega
        have hwlx : ((b.length - 1 : Nat) : Int) < b.length := by omega
        have hwln : (0 : Int) ≤ ((b.length - 1 : Nat) : Int) := by omega
        obtain ⟨bb, bo, eb, _, cb⟩ := (HI.out.fut HA.out) (b.length - 1) (by omega)
        subst eb
        have hll : nth b (b.length - 1) = lst b := rfl
        rw [hll] at cb
        have hwi : IntKind.i64.wrap (lst b + 1) = lst b + 1 := IntWalk.i64_in _ ⟨by omega, by have := HIM.out; have := HMM.out; omega⟩
        have HLB := Lib.hid hbl
        clear hll hbl hbl0
        generalize lst b = x at *
        go_wp2_with fail
        go_meet
        exact ⟨by rw [HLB.out], Lib.hid Fut.rfl⟩
    case rest =>
      obtain ⟨rfl, HF0⟩ := hcut
      obtain ⟨w1, hw1⟩ : ∃ w1, w1 = wc := ⟨_, rfl⟩
      subst hw1
      clear p0 p1 p2 q0 q1
      have HRL0 : Hid (rbL (fun b' i' => rbE c m S Y T k b' i') b (m.toNat - i) i = E) := Lib.hid HRE.out.symm
      have him2 : (i : Int) ≤ m := HIM.out
      go_wp2_with fail
      go_loopw [11, 12, 13] (fun nv _ _ wr => ∃ n : Nat, i ≤ n ∧ (n : Int) ≤ m ∧ nv = .int .i64 (n : Nat) ∧ Hid (rbL (fun b' i' => rbE c m S Y T k b' i') b (m.toNat - n) n = E) ∧ Hid (Fut W1 wr)) (fun nv _ _ _ => (m - intOf nv).toNat)
      case atStart => exact ⟨i, Nat.le_refl _, him2, rfl, HRL0, HF0⟩
      case round =>
        obtain ⟨n, hin, hnm, rfl, HRL, HFX⟩ := hrel
        obtain ⟨wo, hwo⟩ : ∃ wo, wo = wr := ⟨_, rfl⟩
        subst hwo
        have HPX := Lib.hid (HBP.out.fut HFX.out)
        have HQX := Lib.hid (HBQ.out.fut HFX.out)
        obtain ⟨_, p0, p1, p2⟩ := HPX.out
        obtain ⟨_, q0, q1⟩ := HQX.out
        by_cases hlt : (n : Int) < m
        · have e1 : m.toNat - n = (m.toNat - (n + 1)) + 1 := by omega
          rw [e1, rbL_step] at HRL
          have hwn : IntKind.i64.wrap ((n : Int) + 1) = (n : Int) + 1 := IntWalk.i64_in _ ⟨by omega, by have := HMM.out; omega⟩
          have HCL0 := Lib.hid (fun av ac W F hO => HIH0.out n av ac W hlt (HA.out.trans (HFX.out.trans F)) hO)
          clear e1
          go_upto_region 9 with fail
          have FD : Fut wo wo.drew := below_drewN Fut.rfl 1
          have HFX0 := Lib.hid (HFX.out.trans FD)
          have HSB := Lib.hid (HSB0.out.fut (HA.out.trans HFX0.out))
          have HCALL := Lib.hid (fun av ac W F hO => HCL0.out av ac W (FD.trans F) hO)
          have keep9 : ∀ W', Fut wo.drew W' → (fun w' => BoxP w' w.heap.size r c a S.length cap ∧ BoxQ w' (w.heap.size + 1) ya Y.length yc ta T.length tc) W' := fun W' F => ⟨(HPX.out.fut FD).fut F, (HQX.out.fut FD).fut F⟩
          clear p0 p1 p2 q0 q1 FD HCL0
          refine wp_region_held_drew (S := (fun w' => BoxP w' w.heap.size r c a S.length cap ∧ BoxQ w' (w.heap.size + 1) ya Y.length yc ta T.length tc)) (by kernel_rfl) ?_ (fun hHeld => ?_)
          · exact keep9 _ Fut.rfl
          generalize wo.drew = u0 at *
          refine wpAnyH_take (i := 0) (oi := { dst := some 44, op := Op.load 29 (Operand.tmp 4), type := 29, pos := "ref.go:384", after := #[], guard := none }) (v := ?_) rfl (by kernel_rfl) (by kernel_rfl) (by kernel_rfl) (fun _ _ _ h => h) (Or.inl ⟨by rfl, ?_⟩) (by assumption) ?_
          rotate_left
          · (intro w hSw; obtain ⟨⟨_, s0, s1, s2⟩, ⟨_, s3, s4⟩⟩ := hSw; go_simp <;> with_reducible rfl)
          try simp only [Act.put, List.setIfInBounds_toArray, List.set_cons_zero, List.set_cons_succ]
          refine wpAnyH_take (i := 1) (oi := { dst := some 45, op := Op.load 30 (Operand.tmp 5), type := 30, pos := "ref.go:384", after := #[], guard := none }) (v := ?_) rfl (by kernel_rfl) (by kernel_rfl) (by kernel_rfl) (fun _ _ _ h => h) (Or.inl ⟨by rfl, ?_⟩) (by assumption) ?_
          rotate_left
          · (intro w hSw; obtain ⟨⟨_, s0, s1, s2⟩, ⟨_, s3, s4⟩⟩ := hSw; go_simp <;> with_reducible rfl)
          try simp only [Act.put, List.setIfInBounds_toArray, List.set_cons_zero, List.set_cons_succ]
          refine wpAnyH_take (i := 3) (oi := { dst := some 47, op := Op.move (Operand.tmp 2), type := 22, pos := "ref.go:384", after := #[], guard := none }) (v := ?_) rfl (by kernel_rfl) (by kernel_rfl) (by kernel_rfl) (fun _ _ _ h => h) (Or.inl ⟨by rfl, ?_⟩) (by assumption) ?_
          rotate_left
          · (intro w hSw; obtain ⟨⟨_, s0, s1, s2⟩, ⟨_, s3, s4⟩⟩ := hSw; go_simp <;> with_reducible rfl)
          try simp only [Act.put, List.setIfInBounds_toArray, List.set_cons_zero, List.set_cons_succ]
          refine wpAnyH_take (i := 5) (oi := { dst := some 49, op := Op.move (Operand.tmp 11), type := 3, pos := "ref.go:384", after := #[], guard := none }) (v := ?_) rfl (by kernel_rfl) (by kernel_rfl) (by kernel_rfl) (fun _ _ _ h => h) (Or.inl ⟨by rfl, ?_⟩) (by assumption) ?_
          rotate_left
          · (intro w hSw; obtain ⟨⟨_, s0, s1, s2⟩, ⟨_, s3, s4⟩⟩ := hSw; go_simp <;> with_reducible rfl)
          try simp only [Act.put, List.setIfInBounds_toArray, List.set_cons_zero, List.set_cons_succ]
          refine wpAnyH_take (i := 8) (oi := { dst := some 52, op := Op.move (Operand.tmp 3), type := 3, pos := "ref.go:384", after := #[], guard := none }) (v := ?_) rfl (by kernel_rfl) (by kernel_rfl) (by kernel_rfl) (fun _ _ _ h => h) (Or.inl ⟨by rfl, ?_⟩) (by assumption) ?_
          rotate_left
          · (intro w hSw; obtain ⟨⟨_, s0, s1, s2⟩, ⟨_, s3, s4⟩⟩ := hSw; go_simp <;> with_reducible rfl)
          try simp only [Act.put, List.setIfInBounds_toArray, List.set_cons_zero, List.set_cons_succ]
          refine wpAnyH_ready (rs := [2, 6]) (by kernel_rfl) (by simp) ?_
          refine AllReadyH.cons (o := { dst := some 46, op := Op.buildSlice 22 0 #[], type := 22, pos := "ref.go:384", after := #[], guard := none }) rfl (fun K hK => ?_) (AllReadyH.cons (o := { dst := some 50, op := Op.buildSlice 22 1 #[(0, Operand.tmp 49)], type := 22, pos := "ref.go:384", after := #[{ on := 5, ground := Ground.data }], guard := none }) rfl (fun K hK => ?_) (AllReadyH.nil))
          · go_simp
            refine hK.out _ _ ?_ (fun hHeld => ?_)
            · exact keep9 _ (Fut.alloc u0 (.cells #[] 3))
            clear hK K
            try simp only [Act.put, List.setIfInBounds_toArray, List.set_cons_zero, List.set_cons_succ]
            refine wpAnyH_ready (rs := [4, 6]) (by kernel_rfl) (by simp) ?_
            refine AllReadyH.cons (o := { dst := some 48, op := Op.call { callee := Callee.builtin Builtin.append, args := #[Operand.tmp 46, Operand.tmp 47], argTypes := #[22, 22] }, type := 22, pos := "ref.go:384", after := #[{ on := 2, ground := Ground.data }, { on := 3, ground := Ground.data }], guard := none }) rfl (fun K hK => ?_) (AllReadyH.cons (o := { dst := some 50, op := Op.buildSlice 22 1 #[(0, Operand.tmp 49)], type := 22, pos := "ref.go:384", after := #[{ on := 5, ground := Ground.data }], guard := none }) rfl (fun K hK => ?_) (AllReadyH.nil))
            · have FW : Fut u0 (u0.alloc (.cells #[] 3)) := Fut.alloc u0 (.cells #[] 3)
              have HW : (u0.alloc (.cells #[] 3)).ownsRow u0.heap.size 3 1 (.slice (some ⟨u0.heap.size, 0, none⟩) 0 0) 0 [] := World.ownsRow_lit (base := u0.heap.size) (e := 3) (size := 1) u0 #[] 0 (Nat.le_refl _) (by unfold maxLen; omega) rfl
              refine step_append_src rfl _ _ 22 rfl u0.heap.size 3 i0 (.int .i64 0) 8 Try.underlying22 hi0 hz0 hz1 hz2 rfl _ 0 [] rfl HW _ b.length (b.map (Value.int .i64)) rfl (HSB.out.fut FW) ?_ ?_ ?_ ?_
              · have := HBL.out; unfold maxLen; omega
              · have := HBL.out; omega
              · exact RowKit.Below.size FW
              intro av ac w5 hown5 hgr5x
              have hgr5 : (u0.alloc (.cells #[] 3)).grownBy w5 (some u0.heap.size) := hgr5x
              clear hgr5x
              simp only [Nat.zero_add, List.nil_append] at hown5
              have F5 : Fut u0 w5 := RowKit.Below.grown FW hgr5 (RowKit.Below.size FW) fun q hq => (World.ownsRow.lt HW q hq).1
              have HO5 := Lib.hid hown5
              have HF5 := Lib.hid F5
              clear hown5 hgr5 HW FW F5
              simp only [Nat.zero_add]
              refine hK.out _ _ ?_ (fun hHeld => ?_)
              · exact keep9 _ HF5.out
              clear hK K
              try simp only [Act.put, List.setIfInBounds_toArray, List.set_cons_zero, List.set_cons_succ]
              refine wpAnyH_ready (rs := [6]) (by kernel_rfl) (by simp) ?_
              refine AllReadyH.cons (o := { dst := some 50, op := Op.buildSlice 22 1 #[(0, Operand.tmp 49)], type := 22, pos := "ref.go:384", after := #[{ on := 5, ground := Ground.data }], guard := none }) rfl (fun K hK => ?_) AllReadyH.nil
              go_simp
              refine hK.out _ _ ?_ (fun hHeld => ?_)
              · exact keep9 _ (HF5.out.trans (Fut.alloc _ (.cells #[.int .i64 (n : Nat)] 3)))
              clear hK K
              try simp only [Act.put, List.setIfInBounds_toArray, List.set_cons_zero, List.set_cons_succ]
              refine wpAnyH_ready (rs := [7]) (by kernel_rfl) (by simp) ?_
              refine AllReadyH.cons (o := { dst := some 51, op := Op.call { callee := Callee.builtin Builtin.append, args := #[Operand.tmp 48, Operand.tmp 50], argTypes := #[22, 22] }, type := 22, pos := "ref.go:384", after := #[{ on := 4, ground := Ground.data }, { on := 6, ground := Ground.data }, { on := 4, ground := Ground.chain }], guard := none }) rfl (fun K hK => ?_) AllReadyH.nil
              have FW : Fut u0 (w5.alloc (.cells #[.int .i64 (n : Nat)] 3)) := HF5.out.trans (Fut.alloc _ (.cells #[.int .i64 (n : Nat)] 3))
              have HW : (w5.alloc (.cells #[.int .i64 (n : Nat)] 3)).ownsRow u0.heap.size 3 1 (.slice av b.length ac) b.length (b.map (Value.int .i64)) := World.ownsRow.alloc HO5.out (.cells #[.int .i64 (n : Nat)] 3)
              refine step_append_src rfl _ _ 22 rfl u0.heap.size 3 i0 (.int .i64 0) 8 Try.underlying22 hi0 hz0 hz1 hz2 rfl (.slice av b.length ac) b.length (b.map (Value.int .i64)) rfl HW _ 1 [.int .i64 (n : Nat)] rfl (.inr ⟨⟨w5.heap.size, 0, none⟩, 1, rfl, rfl, cell_one (by simp [go_sem]), by simp [Value.oneCell']⟩) ?_ ?_ ?_ ?_
              · have := HBL.out; unfold maxLen; omega
              · have := HBL.out; omega
              · exact RowKit.Below.size FW
              intro av7 ac7 w7 hown7 hgr7
              have HF7 : Hid (Fut u0 w7) := Lib.hid (RowKit.Below.grown FW hgr7 (RowKit.Below.size FW) fun q hq => (World.ownsRow.lt HW q hq).1)
              have HO7 : Hid (Owns w7 0 (.slice av7 (b ++ [(n : Int)]).length ac7) (b ++ [(n : Int)])) := Lib.hid (Owns.base (B := u0.heap.size) (by unfold Owns; rw [List.length_append, List.length_singleton, List.map_append]; exact hown7) (Nat.zero_le _))
              clear hown7 hgr7 HW FW
              refine hK.out _ _ ?_ (fun hHeld => ?_)
              · exact keep9 _ HF7.out
              clear hK K
              try simp only [Act.put, List.setIfInBounds_toArray, List.set_cons_zero, List.set_cons_succ]
              refine wpAnyH_ready (rs := [9]) (by kernel_rfl) (by simp) ?_
              refine AllReadyH.cons (o := { dst := some 53, op := Op.call { callee := Callee.value (Operand.func 94), args := #[Operand.tmp 44, Operand.tmp 45, Operand.tmp 51, Operand.tmp 52], argTypes := #[29, 30, 22, 3] }, type := 116, pos := "ref.go:384", after := #[{ on := 0, ground := Ground.data }, { on := 1, ground := Ground.data }, { on := 7, ground := Ground.data }, { on := 8, ground := Ground.data }, { on := 7, ground := Ground.chain }], guard := none }) rfl (fun K hK => ?_) AllReadyH.nil
              go_simp
              go_at_call 94
              refine (HCALL.out av7 ac7 w7 HF7.out HO7.out).mono ?_
              rintro _ w9 ⟨l9, lc9, n9, rfl, hR9, F9⟩
              have HF9 := Lib.hid (HF7.out.trans F9)
              have HR9 := Lib.hid hR9
              clear hR9 F9
              try go_wp2_with fail
              refine hK.out _ _ ?_ (fun hHeld => ?_)
              · exact keep9 _ HF9.out
              clear hK K
              try simp only [Act.put, List.setIfInBounds_toArray, List.set_cons_zero, List.set_cons_succ]
              refine wpAnyH_take (i := 10) (oi := { dst := some 43, op := Op.move (Operand.tmp 53), type := 116, pos := "ref.go:384", after := #[{ on := 9, ground := Ground.data }], guard := none }) (v := ?_) rfl (by kernel_rfl) (by kernel_rfl) (by kernel_rfl) (fun _ _ _ h => h) (Or.inl ⟨by rfl, ?_⟩) (by assumption) ?_
              rotate_left
              · (intro w hSw; obtain ⟨⟨_, s0, s1, s2⟩, ⟨_, s3, s4⟩⟩ := hSw; go_simp <;> with_reducible rfl)
              try simp only [Act.put, List.setIfInBounds_toArray, List.set_cons_zero, List.set_cons_succ]
              refine wpAnyH_take (i := 11) (oi := { dst := some 54, op := Op.extract (Operand.tmp 43) 0, type := 22, pos := "ref.go:384", after := #[{ on := 10, ground := Ground.data }], guard := none }) (v := ?_) rfl (by kernel_rfl) (by kernel_rfl) (by kernel_rfl) (fun _ _ _ h => h) (Or.inl ⟨by rfl, ?_⟩) (by assumption) ?_
              rotate_left
              · (intro w hSw; obtain ⟨⟨_, s0, s1, s2⟩, ⟨_, s3, s4⟩⟩ := hSw; go_simp <;> with_reducible rfl)
              try simp only [Act.put, List.setIfInBounds_toArray, List.set_cons_zero, List.set_cons_succ]
              refine wpAnyH_take (i := 12) (oi := { dst := some 55, op := Op.extract (Operand.tmp 43) 1, type := 4, pos := "ref.go:384", after := #[{ on := 10, ground := Ground.data }, { on := 13, ground := Ground.gcOnly Departure.lateStores }], guard := none }) (v := ?_) rfl (by kernel_rfl) (by kernel_rfl) (by kernel_rfl) (fun _ _ _ h => h) (Or.inl ⟨by rfl, ?_⟩) (by assumption) ?_
              rotate_left
              · (intro w hSw; obtain ⟨⟨_, s0, s1, s2⟩, ⟨_, s3, s4⟩⟩ := hSw; go_simp <;> with_reducible rfl)
              try simp only [Act.put, List.setIfInBounds_toArray, List.set_cons_zero, List.set_cons_succ]
              refine wpAnyH_ready (rs := [13]) (by kernel_rfl) (by simp) ?_
              refine AllReadyH.cons (o := { dst := some 12, op := Op.assign (Operand.tmp 54), type := 22, pos := "ref.go:384", after := #[{ on := 11, ground := Ground.data }, { on := 9, ground := Ground.chain }, { on := 0, ground := Ground.phase }, { on := 1, ground := Ground.phase }, { on := 2, ground := Ground.phase }, { on := 3, ground := Ground.phase }, { on := 4, ground := Ground.phase }, { on := 5, ground := Ground.phase }, { on := 6, ground := Ground.phase }, { on := 7, ground := Ground.phase }, { on := 8, ground := Ground.phase }, { on := 9, ground := Ground.phase }, { on := 10, ground := Ground.phase }, { on := 11, ground := Ground.phase }, { on := 12, ground := Ground.textOnly Departure.lateStores }], guard := none }) rfl (fun K hK => ?_) AllReadyH.nil
              go_simp
              refine hK.out _ _ ?_ (fun hHeld => ?_)
              · exact keep9 _ HF9.out
              clear hK K
              try simp only [Act.put, List.setIfInBounds_toArray, List.set_cons_zero, List.set_cons_succ]
              refine wpAnyH_ready (rs := [14]) (by kernel_rfl) (by simp) ?_
              refine AllReadyH.cons (o := { dst := some 13, op := Op.assign (Operand.tmp 55), type := 4, pos := "ref.go:384", after := #[{ on := 12, ground := Ground.data }, { on := 13, ground := Ground.chain }, { on := 0, ground := Ground.phase }, { on := 1, ground := Ground.phase }, { on := 2, ground := Ground.phase }, { on := 3, ground := Ground.phase }, { on := 4, ground := Ground.phase }, { on := 5, ground := Ground.phase }, { on := 6, ground := Ground.phase }, { on := 7, ground := Ground.phase }, { on := 8, ground := Ground.phase }, { on := 9, ground := Ground.phase }, { on := 10, ground := Ground.phase }, { on := 11, ground := Ground.phase }, { on := 12, ground := Ground.phase }, { on := 13, ground := Ground.phase }], guard := none }) rfl (fun K hK => ?_) AllReadyH.nil
              go_simp
              refine hK.out _ _ ?_ (fun hHeld => ?_)
              · exact keep9 _ HF9.out
              clear hK K
              try simp only [Act.put, List.setIfInBounds_toArray, List.set_cons_zero, List.set_cons_succ]
              refine wpAnyH_done (by kernel_rfl) ?_ _
              clear HF5 HO5 HF7 HO7
              have HFN := Lib.hid (HFX0.out.trans HF9.out)
              cases hG : rbE c m S Y T k (b ++ [(n : Int)]) (n + 1) with
              | none =>
                rw [hG] at HRL
                have HNX := HRL
                rw [show (none : Option (List Int)).isSome = false from rfl]
                clear hG HRL HR9
                go_wp2
                go_round
                case rel =>
                  first
                  | exact ⟨n + 1, by omega, by omega, by go_num, HNX, HFN⟩
                  | exact ⟨_, _, _, ⟨n + 1, by omega, by omega, rfl, HNX⟩, rfl, rfl, by go_num⟩
                  | exact ⟨_, _, _, ⟨n + 1, by omega, by omega, rfl, HNX, HFN⟩, rfl, rfl, by go_num⟩
                case measure => simp [intOf]; omega
              | some R =>
                rw [hG] at HRL
                have hE : E = some R := HRL.out.symm
                obtain ⟨r1, r2, r3⟩ := HR9.out R hG
                subst hE
                rw [show (some R).isSome = true from rfl]
                have HR3 := Lib.hid r3
                clear hG HRL HR9 r3
                go_wp2_with fail
                go_ret2
                exact ⟨l9, lc9, n9, rfl, fun R' e => (by cases e; exact ⟨r1, r2, HR3.out⟩), HA.out.trans HFN.out⟩
            · go_simp
              refine hK.out _ _ ?_ (fun hHeld => ?_)
              · exact keep9 _ ((Fut.alloc u0 (.cells #[] 3)).trans (Fut.alloc _ (.cells #[.int .i64 (n : Nat)] 3)))
              clear hK K
              try simp only [Act.put, List.setIfInBounds_toArray, List.set_cons_zero, List.set_cons_succ]
              refine wpAnyH_ready (rs := [4]) (by kernel_rfl) (by simp) ?_
              refine AllReadyH.cons (o := { dst := some 48, op := Op.call { callee := Callee.builtin Builtin.append, args := #[Operand.tmp 46, Operand.tmp 47], argTypes := #[22, 22] }, type := 22, pos := "ref.go:384", after := #[{ on := 2, ground := Ground.data }, { on := 3, ground := Ground.data }], guard := none }) rfl (fun K hK => ?_) AllReadyH.nil
              have FW : Fut u0 ((u0.alloc (.cells #[] 3)).alloc (.cells #[.int .i64 (n : Nat)] 3)) := (Fut.alloc u0 (.cells #[] 3)).trans (Fut.alloc _ (.cells #[.int .i64 (n : Nat)] 3))
              have HW : ((u0.alloc (.cells #[] 3)).alloc (.cells #[.int .i64 (n : Nat)] 3)).ownsRow u0.heap.size 3 1 (.slice (some ⟨u0.heap.size, 0, none⟩) 0 0) 0 [] := World.ownsRow.alloc (World.ownsRow_lit (base := u0.heap.size) (e := 3) (size := 1) u0 #[] 0 (Nat.le_refl _) (by unfold maxLen; omega) rfl) (.cells #[.int .i64 (n : Nat)] 3)
              refine step_append_src rfl _ _ 22 rfl u0.heap.size 3 i0 (.int .i64 0) 8 Try.underlying22 hi0 hz0 hz1 hz2 rfl _ 0 [] rfl HW _ b.length (b.map (Value.int .i64)) rfl (HSB.out.fut FW) ?_ ?_ ?_ ?_
              · have := HBL.out; unfold maxLen; omega
              · have := HBL.out; omega
              · exact RowKit.Below.size FW
              intro av ac w5 hown5 hgr5x
              have hgr5 : ((u0.alloc (.cells #[] 3)).alloc (.cells #[.int .i64 (n : Nat)] 3)).grownBy w5 (some u0.heap.size) := hgr5x
              clear hgr5x
              simp only [Nat.zero_add, List.nil_append] at hown5
              have F5 : Fut u0 w5 := RowKit.Below.grown FW hgr5 (RowKit.Below.size FW) fun q hq => (World.ownsRow.lt HW q hq).1
              have n0 : ((u0.alloc (.cells #[] 3)).alloc (.cells #[.int .i64 (n : Nat)] 3)).cell? ⟨(u0.heap.size + 1), 0, none⟩ = some (.int .i64 (n : Nat)) := by simp [go_sem]
              have n1 : w5.cell? ⟨(u0.heap.size + 1), 0, none⟩ = some (.int .i64 (n : Nat)) := (World.cell?_of_block (a := ⟨(u0.heap.size + 1), 0, none⟩) (hgr5.block (u0.heap.size + 1) (by simp only [World.size_alloc]; omega) (fun e => by
                have e2 : (u0.heap.size + 1) = u0.heap.size := Option.some.inj e
                omega))).trans n0
              clear n0
              have HO5 := Lib.hid hown5
              have HF5 := Lib.hid F5
              clear hown5 hgr5 HW FW F5
              simp only [Nat.zero_add]
              refine hK.out _ _ ?_ (fun hHeld => ?_)
              · exact keep9 _ HF5.out
              clear hK K
              try simp only [Act.put, List.setIfInBounds_toArray, List.set_cons_zero, List.set_cons_succ]
              refine wpAnyH_ready (rs := [7]) (by kernel_rfl) (by simp) ?_
              refine AllReadyH.cons (o := { dst := some 51, op := Op.call { callee := Callee.builtin Builtin.append, args := #[Operand.tmp 48, Operand.tmp 50], argTypes := #[22, 22] }, type := 22, pos := "ref.go:384", after := #[{ on := 4, ground := Ground.data }, { on := 6, ground := Ground.data }, { on := 4, ground := Ground.chain }], guard := none }) rfl (fun K hK => ?_) AllReadyH.nil
              have FW : Fut u0 w5 := HF5.out
              have HW : w5.ownsRow u0.heap.size 3 1 (.slice av b.length ac) b.length (b.map (Value.int .i64)) := HO5.out
              refine step_append_src rfl _ _ 22 rfl u0.heap.size 3 i0 (.int .i64 0) 8 Try.underlying22 hi0 hz0 hz1 hz2 rfl (.slice av b.length ac) b.length (b.map (Value.int .i64)) rfl HW _ 1 [.int .i64 (n : Nat)] rfl (.inr ⟨⟨(u0.heap.size + 1), 0, none⟩, 1, rfl, rfl, cell_one n1, by simp [Value.oneCell']⟩) ?_ ?_ ?_ ?_
              · have := HBL.out; unfold maxLen; omega
              · have := HBL.out; omega
              · exact RowKit.Below.size FW
              intro av7 ac7 w7 hown7 hgr7
              have HF7 : Hid (Fut u0 w7) := Lib.hid (RowKit.Below.grown FW hgr7 (RowKit.Below.size FW) fun q hq => (World.ownsRow.lt HW q hq).1)
              have HO7 : Hid (Owns w7 0 (.slice av7 (b ++ [(n : Int)]).length ac7) (b ++ [(n : Int)])) := Lib.hid (Owns.base (B := u0.heap.size) (by unfold Owns; rw [List.length_append, List.length_singleton, List.map_append]; exact hown7) (Nat.zero_le _))
              clear hown7 hgr7 HW FW
              refine hK.out _ _ ?_ (fun hHeld => ?_)
              · exact keep9 _ HF7.out
              clear hK K
              try simp only [Act.put, List.setIfInBounds_toArray, List.set_cons_zero, List.set_cons_succ]
              refine wpAnyH_ready (rs := [9]) (by kernel_rfl) (by simp) ?_
              refine AllReadyH.cons (o := { dst := some 53, op := Op.call { callee := Callee.value (Operand.func 94), args := #[Operand.tmp 44, Operand.tmp 45, Operand.tmp 51, Operand.tmp 52], argTypes := #[29, 30, 22, 3] }, type := 116, pos := "ref.go:384", after := #[{ on := 0, ground := Ground.data }, { on := 1, ground := Ground.data }, { on := 7, ground := Ground.data }, { on := 8, ground := Ground.data }, { on := 7, ground := Ground.chain }], guard := none }) rfl (fun K hK => ?_) AllReadyH.nil
              go_simp
              go_at_call 94
              refine (HCALL.out av7 ac7 w7 HF7.out HO7.out).mono ?_
              rintro _ w9 ⟨l9, lc9, n9, rfl, hR9, F9⟩
              have HF9 := Lib.hid (HF7.out.trans F9)
              have HR9 := Lib.hid hR9
              clear hR9 F9
              try go_wp2_with fail
              refine hK.out _ _ ?_ (fun hHeld => ?_)
              · exact keep9 _ HF9.out
              clear hK K
              try simp only [Act.put, List.setIfInBounds_toArray, List.set_cons_zero, List.set_cons_succ]
              refine wpAnyH_take (i := 10) (oi := { dst := some 43, op := Op.move (Operand.tmp 53), type := 116, pos := "ref.go:384", after := #[{ on := 9, ground := Ground.data }], guard := none }) (v := ?_) rfl (by kernel_rfl) (by kernel_rfl) (by kernel_rfl) (fun _ _ _ h => h) (Or.inl ⟨by rfl, ?_⟩) (by assumption) ?_
              rotate_left
              · (intro w hSw; obtain ⟨⟨_, s0, s1, s2⟩, ⟨_, s3, s4⟩⟩ := hSw; go_simp <;> with_reducible rfl)
              try simp only [Act.put, List.setIfInBounds_toArray, List.set_cons_zero, List.set_cons_succ]
              refine wpAnyH_take (i := 11) (oi := { dst := some 54, op := Op.extract (Operand.tmp 43) 0, type := 22, pos := "ref.go:384", after := #[{ on := 10, ground := Ground.data }], guard := none }) (v := ?_) rfl (by kernel_rfl) (by kernel_rfl) (by kernel_rfl) (fun _ _ _ h => h) (Or.inl ⟨by rfl, ?_⟩) (by assumption) ?_
              rotate_left
              · (intro w hSw; obtain ⟨⟨_, s0, s1, s2⟩, ⟨_, s3, s4⟩⟩ := hSw; go_simp <;> with_reducible rfl)
              try simp only [Act.put, List.setIfInBounds_toArray, List.set_cons_zero, List.set_cons_succ]
              refine wpAnyH_take (i := 12) (oi := { dst := some 55, op := Op.extract (Operand.tmp 43) 1, type := 4, pos := "ref.go:384", after := #[{ on := 10, ground := Ground.data }, { on := 13, ground := Ground.gcOnly Departure.lateStores }], guard := none }) (v := ?_) rfl (by kernel_rfl) (by kernel_rfl) (by kernel_rfl) (fun _ _ _ h => h) (Or.inl ⟨by rfl, ?_⟩) (by assumption) ?_
              rotate_left
              · (intro w hSw; obtain ⟨⟨_, s0, s1, s2⟩, ⟨_, s3, s4⟩⟩ := hSw; go_simp <;> with_reducible rfl)
              try simp only [Act.put, List.setIfInBounds_toArray, List.set_cons_zero, List.set_cons_succ]
              refine wpAnyH_ready (rs := [13]) (by kernel_rfl) (by simp) ?_
              refine AllReadyH.cons (o := { dst := some 12, op := Op.assign (Operand.tmp 54), type := 22, pos := "ref.go:384", after := #[{ on := 11, ground := Ground.data }, { on := 9, ground := Ground.chain }, { on := 0, ground := Ground.phase }, { on := 1, ground := Ground.phase }, { on := 2, ground := Ground.phase }, { on := 3, ground := Ground.phase }, { on := 4, ground := Ground.phase }, { on := 5, ground := Ground.phase }, { on := 6, ground := Ground.phase }, { on := 7, ground := Ground.phase }, { on := 8, ground := Ground.phase }, { on := 9, ground := Ground.phase }, { on := 10, ground := Ground.phase }, { on := 11, ground := Ground.phase }, { on := 12, ground := Ground.textOnly Departure.lateStores }], guard := none }) rfl (fun K hK => ?_) AllReadyH.nil
              go_simp
              refine hK.out _ _ ?_ (fun hHeld => ?_)
              · exact keep9 _ HF9.out
              clear hK K
              try simp only [Act.put, List.setIfInBounds_toArray, List.set_cons_zero, List.set_cons_succ]
              refine wpAnyH_ready (rs := [14]) (by kernel_rfl) (by simp) ?_
              refine AllReadyH.cons (o := { dst := some 13, op := Op.assign (Operand.tmp 55), type := 4, pos := "ref.go:384", after := #[{ on := 12, ground := Ground.data }, { on := 13, ground := Ground.chain }, { on := 0, ground := Ground.phase }, { on := 1, ground := Ground.phase }, { on := 2, ground := Ground.phase }, { on := 3, ground := Ground.phase }, { on := 4, ground := Ground.phase }, { on := 5, ground := Ground.phase }, { on := 6, ground := Ground.phase }, { on := 7, ground := Ground.phase }, { on := 8, ground := Ground.phase }, { on := 9, ground := Ground.phase }, { on := 10, ground := Ground.phase }, { on := 11, ground := Ground.phase }, { on := 12, ground := Ground.phase }, { on := 13, ground := Ground.phase }], guard := none }) rfl (fun K hK => ?_) AllReadyH.nil
              go_simp
              refine hK.out _ _ ?_ (fun hHeld => ?_)
              · exact keep9 _ HF9.out
              clear hK K
              try simp only [Act.put, List.setIfInBounds_toArray, List.set_cons_zero, List.set_cons_succ]
              refine wpAnyH_done (by kernel_rfl) ?_ _
              clear HF5 HO5 HF7 HO7
              have HFN := Lib.hid (HFX0.out.trans HF9.out)
              cases hG : rbE c m S Y T k (b ++ [(n : Int)]) (n + 1) with
              | none =>
                rw [hG] at HRL
                have HNX := HRL
                rw [show (none : Option (List Int)).isSome = false from rfl]
                clear hG HRL HR9
                go_wp2
                go_round
                case rel =>
                  first
                  | exact ⟨n + 1, by omega, by omega, by go_num, HNX, HFN⟩
                  | exact ⟨_, _, _, ⟨n + 1, by omega, by omega, rfl, HNX⟩, rfl, rfl, by go_num⟩
                  | exact ⟨_, _, _, ⟨n + 1, by omega, by omega, rfl, HNX, HFN⟩, rfl, rfl, by go_num⟩
                case measure => simp [intOf]; omega
              | some R =>
                rw [hG] at HRL
                have hE : E = some R := HRL.out.symm
                obtain ⟨r1, r2, r3⟩ := HR9.out R hG
                subst hE
                rw [show (some R).isSome = true from rfl]
                have HR3 := Lib.hid r3
                clear hG HRL HR9 r3
                go_wp2_with fail
                go_ret2
                exact ⟨l9, lc9, n9, rfl, fun R' e => (by cases e; exact ⟨r1, r2, HR3.out⟩), HA.out.trans HFN.out⟩
          · go_simp
            refine hK.out _ _ ?_ (fun hHeld => ?_)
            · exact keep9 _ (Fut.alloc u0 (.cells #[.int .i64 (n : Nat)] 3))
            clear hK K
            try simp only [Act.put, List.setIfInBounds_toArray, List.set_cons_zero, List.set_cons_succ]
            refine wpAnyH_ready (rs := [2]) (by kernel_rfl) (by simp) ?_
            refine AllReadyH.cons (o := { dst := some 46, op := Op.buildSlice 22 0 #[], type := 22, pos := "ref.go:384", after := #[], guard := none }) rfl (fun K hK => ?_) AllReadyH.nil
            go_simp
            refine hK.out _ _ ?_ (fun hHeld => ?_)
            · exact keep9 _ ((Fut.alloc u0 (.cells #[.int .i64 (n : Nat)] 3)).trans (Fut.alloc _ (.cells #[] 3)))
            clear hK K
            try simp only [Act.put, List.setIfInBounds_toArray, List.set_cons_zero, List.set_cons_succ]
            refine wpAnyH_ready (rs := [4]) (by kernel_rfl) (by simp) ?_
            refine AllReadyH.cons (o := { dst := some 48, op := Op.call { callee := Callee.builtin Builtin.append, args := #[Operand.tmp 46, Operand.tmp 47], argTypes := #[22, 22] }, type := 22, pos := "ref.go:384", after := #[{ on := 2, ground := Ground.data }, { on := 3, ground := Ground.data }], guard := none }) rfl (fun K hK => ?_) AllReadyH.nil
            have FW : Fut u0 ((u0.alloc (.cells #[.int .i64 (n : Nat)] 3)).alloc (.cells #[] 3)) := (Fut.alloc u0 (.cells #[.int .i64 (n : Nat)] 3)).trans (Fut.alloc _ (.cells #[] 3))
            have HW : ((u0.alloc (.cells #[.int .i64 (n : Nat)] 3)).alloc (.cells #[] 3)).ownsRow u0.heap.size 3 1 (.slice (some ⟨(u0.heap.size + 1), 0, none⟩) 0 0) 0 [] := by
              have h := World.ownsRow_lit (base := u0.heap.size) (e := 3) (size := 1) (u0.alloc (.cells #[.int .i64 (n : Nat)] 3)) #[] 0 (by simp) (by unfold maxLen; omega) rfl
              rw [World.size_alloc] at h
              exact row_base h (by omega)
            refine step_append_src rfl _ _ 22 rfl u0.heap.size 3 i0 (.int .i64 0) 8 Try.underlying22 hi0 hz0 hz1 hz2 rfl _ 0 [] rfl HW _ b.length (b.map (Value.int .i64)) rfl (HSB.out.fut FW) ?_ ?_ ?_ ?_
            · have := HBL.out; unfold maxLen; omega
            · have := HBL.out; omega
            · exact RowKit.Below.size FW
            intro av ac w5 hown5 hgr5x
            have hgr5 : ((u0.alloc (.cells #[.int .i64 (n : Nat)] 3)).alloc (.cells #[] 3)).grownBy w5 (some (u0.heap.size + 1)) := hgr5x
            clear hgr5x
            simp only [Nat.zero_add, List.nil_append] at hown5
            have F5 : Fut u0 w5 := RowKit.Below.grown FW hgr5 (RowKit.Below.size FW) fun q hq => (World.ownsRow.lt HW q hq).1
            have n0 : ((u0.alloc (.cells #[.int .i64 (n : Nat)] 3)).alloc (.cells #[] 3)).cell? ⟨u0.heap.size, 0, none⟩ = some (.int .i64 (n : Nat)) := alloc_old _ _ (alloc_cell u0 _ _)
            have n1 : w5.cell? ⟨u0.heap.size, 0, none⟩ = some (.int .i64 (n : Nat)) := (World.cell?_of_block (a := ⟨u0.heap.size, 0, none⟩) (hgr5.block u0.heap.size (by simp only [World.size_alloc]; omega) (fun e => by
              have e2 : u0.heap.size = (u0.heap.size + 1) := Option.some.inj e
              omega))).trans n0
            clear n0
            have HO5 := Lib.hid hown5
            have HF5 := Lib.hid F5
            clear hown5 hgr5 HW FW F5
            simp only [Nat.zero_add]
            refine hK.out _ _ ?_ (fun hHeld => ?_)
            · exact keep9 _ HF5.out
            clear hK K
            try simp only [Act.put, List.setIfInBounds_toArray, List.set_cons_zero, List.set_cons_succ]
            refine wpAnyH_ready (rs := [7]) (by kernel_rfl) (by simp) ?_
            refine AllReadyH.cons (o := { dst := some 51, op := Op.call { callee := Callee.builtin Builtin.append, args := #[Operand.tmp 48, Operand.tmp 50], argTypes := #[22, 22] }, type := 22, pos := "ref.go:384", after := #[{ on := 4, ground := Ground.data }, { on := 6, ground := Ground.data }, { on := 4, ground := Ground.chain }], guard := none }) rfl (fun K hK => ?_) AllReadyH.nil
            have FW : Fut u0 w5 := HF5.out
            have HW : w5.ownsRow u0.heap.size 3 1 (.slice av b.length ac) b.length (b.map (Value.int .i64)) := HO5.out
            refine step_append_src rfl _ _ 22 rfl u0.heap.size 3 i0 (.int .i64 0) 8 Try.underlying22 hi0 hz0 hz1 hz2 rfl (.slice av b.length ac) b.length (b.map (Value.int .i64)) rfl HW _ 1 [.int .i64 (n : Nat)] rfl (.inr ⟨⟨u0.heap.size, 0, none⟩, 1, rfl, rfl, cell_one n1, by simp [Value.oneCell']⟩) ?_ ?_ ?_ ?_
            · have := HBL.out; unfold maxLen; omega
            · have := HBL.out; omega
            · exact RowKit.Below.size FW
            intro av7 ac7 w7 hown7 hgr7
            have HF7 : Hid (Fut u0 w7) := Lib.hid (RowKit.Below.grown FW hgr7 (RowKit.Below.size FW) fun q hq => (World.ownsRow.lt HW q hq).1)
            have HO7 : Hid (Owns w7 0 (.slice av7 (b ++ [(n : Int)]).length ac7) (b ++ [(n : Int)])) := Lib.hid (Owns.base (B := u0.heap.size) (by unfold Owns; rw [List.length_append, List.length_singleton, List.map_append]; exact hown7) (Nat.zero_le _))
            clear hown7 hgr7 HW FW
            refine hK.out _ _ ?_ (fun hHeld => ?_)
            · exact keep9 _ HF7.out
            clear hK K
            try simp only [Act.put, List.setIfInBounds_toArray, List.set_cons_zero, List.set_cons_succ]
            refine wpAnyH_ready (rs := [9]) (by kernel_rfl) (by simp) ?_
            refine AllReadyH.cons (o := { dst := some 53, op := Op.call { callee := Callee.value (Operand.func 94), args := #[Operand.tmp 44, Operand.tmp 45, Operand.tmp 51, Operand.tmp 52], argTypes := #[29, 30, 22, 3] }, type := 116, pos := "ref.go:384", after := #[{ on := 0, ground := Ground.data }, { on := 1, ground := Ground.data }, { on := 7, ground := Ground.data }, { on := 8, ground := Ground.data }, { on := 7, ground := Ground.chain }], guard := none }) rfl (fun K hK => ?_) AllReadyH.nil
            go_simp
            go_at_call 94
            refine (HCALL.out av7 ac7 w7 HF7.out HO7.out).mono ?_
            rintro _ w9 ⟨l9, lc9, n9, rfl, hR9, F9⟩
            have HF9 := Lib.hid (HF7.out.trans F9)
            have HR9 := Lib.hid hR9
            clear hR9 F9
            try go_wp2_with fail
            refine hK.out _ _ ?_ (fun hHeld => ?_)
            · exact keep9 _ HF9.out
            clear hK K
            try simp only [Act.put, List.setIfInBounds_toArray, List.set_cons_zero, List.set_cons_succ]
            refine wpAnyH_take (i := 10) (oi := { dst := some 43, op := Op.move (Operand.tmp 53), type := 116, pos := "ref.go:384", after := #[{ on := 9, ground := Ground.data }], guard := none }) (v := ?_) rfl (by kernel_rfl) (by kernel_rfl) (by kernel_rfl) (fun _ _ _ h => h) (Or.inl ⟨by rfl, ?_⟩) (by assumption) ?_
            rotate_left
            · (intro w hSw; obtain ⟨⟨_, s0, s1, s2⟩, ⟨_, s3, s4⟩⟩ := hSw; go_simp <;> with_reducible rfl)
            try simp only [Act.put, List.setIfInBounds_toArray, List.set_cons_zero, List.set_cons_succ]
            refine wpAnyH_take (i := 11) (oi := { dst := some 54, op := Op.extract (Operand.tmp 43) 0, type := 22, pos := "ref.go:384", after := #[{ on := 10, ground := Ground.data }], guard := none }) (v := ?_) rfl (by kernel_rfl) (by kernel_rfl) (by kernel_rfl) (fun _ _ _ h => h) (Or.inl ⟨by rfl, ?_⟩) (by assumption) ?_
            rotate_left
            · (intro w hSw; obtain ⟨⟨_, s0, s1, s2⟩, ⟨_, s3, s4⟩⟩ := hSw; go_simp <;> with_reducible rfl)
            try simp only [Act.put, List.setIfInBounds_toArray, List.set_cons_zero, List.set_cons_succ]
            refine wpAnyH_take (i := 12) (oi := { dst := some 55, op := Op.extract (Operand.tmp 43) 1, type := 4, pos := "ref.go:384", after := #[{ on := 10, ground := Ground.data }, { on := 13, ground := Ground.gcOnly Departure.lateStores }], guard := none }) (v := ?_) rfl (by kernel_rfl) (by kernel_rfl) (by kernel_rfl) (fun _ _ _ h => h) (Or.inl ⟨by rfl, ?_⟩) (by assumption) ?_
            rotate_left
            · (intro w hSw; obtain ⟨⟨_, s0, s1, s2⟩, ⟨_, s3, s4⟩⟩ := hSw; go_simp <;> with_reducible rfl)
            try simp only [Act.put, List.setIfInBounds_toArray, List.set_cons_zero, List.set_cons_succ]
            refine wpAnyH_ready (rs := [13]) (by kernel_rfl) (by simp) ?_
            refine AllReadyH.cons (o := { dst := some 12, op := Op.assign (Operand.tmp 54), type := 22, pos := "ref.go:384", after := #[{ on := 11, ground := Ground.data }, { on := 9, ground := Ground.chain }, { on := 0, ground := Ground.phase }, { on := 1, ground := Ground.phase }, { on := 2, ground := Ground.phase }, { on := 3, ground := Ground.phase }, { on := 4, ground := Ground.phase }, { on := 5, ground := Ground.phase }, { on := 6, ground := Ground.phase }, { on := 7, ground := Ground.phase }, { on := 8, ground := Ground.phase }, { on := 9, ground := Ground.phase }, { on := 10, ground := Ground.phase }, { on := 11, ground := Ground.phase }, { on := 12, ground := Ground.textOnly Departure.lateStores }], guard := none }) rfl (fun K hK => ?_) AllReadyH.nil
            go_simp
            refine hK.out _ _ ?_ (fun hHeld => ?_)
            · exact keep9 _ HF9.out
            clear hK K
            try simp only [Act.put, List.setIfInBounds_toArray, List.set_cons_zero, List.set_cons_succ]
            refine wpAnyH_ready (rs := [14]) (by kernel_rfl) (by simp) ?_
            refine AllReadyH.cons (o := { dst := some 13, op := Op.assign (Operand.tmp 55), type := 4, pos := "ref.go:384", after := #[{ on := 12, ground := Ground.data }, { on := 13, ground := Ground.chain }, { on := 0, ground := Ground.phase }, { on := 1, ground := Ground.phase }, { on := 2, ground := Ground.phase }, { on := 3, ground := Ground.phase }, { on := 4, ground := Ground.phase }, { on := 5, ground := Ground.phase }, { on := 6, ground := Ground.phase }, { on := 7, ground := Ground.phase }, { on := 8, ground := Ground.phase }, { on := 9, ground := Ground.phase }, { on := 10, ground := Ground.phase }, { on := 11, ground := Ground.phase }, { on := 12, ground := Ground.phase }, { on := 13, ground := Ground.phase }], guard := none }) rfl (fun K hK => ?_) AllReadyH.nil
            go_simp
            refine hK.out _ _ ?_ (fun hHeld => ?_)
            · exact keep9 _ HF9.out
            clear hK K
            try simp only [Act.put, List.setIfInBounds_toArray, List.set_cons_zero, List.set_cons_succ]
            refine wpAnyH_done (by kernel_rfl) ?_ _
            clear HF5 HO5 HF7 HO7
            have HFN := Lib.hid (HFX0.out.trans HF9.out)
            cases hG : rbE c m S Y T k (b ++ [(n : Int)]) (n + 1) with
            | none =>
              rw [hG] at HRL
              have HNX := HRL
              rw [show (none : Option (List Int)).isSome = false from rfl]
              clear hG HRL HR9
              go_wp2
              go_round
              case rel =>
                first
                | exact ⟨n + 1, by omega, by omega, by go_num, HNX, HFN⟩
                | exact ⟨_, _, _, ⟨n + 1, by omega, by omega, rfl, HNX⟩, rfl, rfl, by go_num⟩
                | exact ⟨_, _, _, ⟨n + 1, by omega, by omega, rfl, HNX, HFN⟩, rfl, rfl, by go_num⟩
              case measure => simp [intOf]; omega
            | some R =>
              rw [hG] at HRL
              have hE : E = some R := HRL.out.symm
              obtain ⟨r1, r2, r3⟩ := HR9.out R hG
              subst hE
              rw [show (some R).isSome = true from rfl]
              have HR3 := Lib.hid r3
              clear hG HRL HR9 r3
              go_wp2_with fail
              go_ret2
              exact ⟨l9, lc9, n9, rfl, fun R' e => (by cases e; exact ⟨r1, r2, HR3.out⟩), HA.out.trans HFN.out⟩
        · have hnm2 : (n : Int) = m := by omega
          have e0 : m.toNat - n = 0 := by omega
          rw [e0] at HRL
          have hE : E = none := HRL.out.symm
          have hnl : ¬ (n : Int) < m := hlt
          subst hE
          clear e0 hnm2
          go_wp2
          go_ret2
          exact ⟨none, 0, 0, rfl, fun R e => (by cases e), HA.out.trans HFX.out⟩
end Go.Proofs.Ytflllkamdihfaaa
