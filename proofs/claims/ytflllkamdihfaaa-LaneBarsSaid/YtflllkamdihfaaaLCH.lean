/- the reference's bars 97: bars_any -/
import Derived.Test.YtflllkamdihfaaaLCG
namespace Go.Proofs.Ytflllkamdihfaaa
open Go.RowKit Go.Sort
/-- are some corners in all ways (the reference)? -/
def barR (c m : Int) (S Y T C : List Int) : Bool := if Y.length ≤ C.length then false else rbrs c m S Y T C
set_option maxRecDepth 100000 in
set_option maxHeartbeats 8000000 in
theorem bars_any (r c : Int) (a : Option Addr) (cap : Nat) (S : List Int) (ya : Option Addr) (yc : Nat) (Y : List Int) (ta : Option Addr) (tc : Nat) (T : List Int) (la : Option Addr) (lc : Nat) (C : List Int) (w : World) (h : InPQ w a S ya yc Y ta tc T) (G : ChkG r c S Y T) (hC : IntsAt w la C) (hCl : C.length ≤ 1000) :
    Calls Try.prog 97 #[parV r c a S.length cap, plaV ya Y.length yc ta T.length tc, .slice la C.length lc] w fun e w' => e = .returned (.bool (barR c (r * c) S Y T C)) ∧ Fut w w' := by
  have hA : Fut w ((w.alloc (.cells #[.int .i64 r, .int .i64 c, .slice a S.length cap] 29)).alloc (.cells #[.slice ya Y.length yc, .slice ta T.length tc] 30)) := (Fut.alloc _ _).trans (Fut.alloc _ _)
  have hBP := (BoxR.new w r c a S.length cap).fut (Fut.alloc _ (.cells #[.slice ya Y.length yc, .slice ta T.length tc] 30))
  have hBQ := BoxT.new (w.alloc (.cells #[.int .i64 r, .int .i64 c, .slice a S.length cap] 29)) ya Y.length yc ta T.length tc
  rw [World.size_alloc] at hBQ
  have HCK := Lib.hid (fun W (F : Fut w W) => rchk_any r c a cap S ya yc Y ta tc T W (h.fut F))
  have HA := Lib.hid hA
  have HBP := Lib.hid hBP
  have HBQ := Lib.hid hBQ
  have HIN := Lib.hid h
  obtain ⟨_, p0, p1, p2⟩ := hBP
  obtain ⟨_, q0, q1⟩ := hBQ
  clear HCK
  obtain ⟨E, HE⟩ : ∃ E, Hid (barR c (r * c) S Y T C = E) := ⟨_, Lib.hid rfl⟩
  rw [HE.out]
  unfold barR rbrs at HE
  have hcx : (C.length : Int) ≤ 1000 := by omega
  have hyx : (Y.length : Int) ≤ 3 := by have := G.three; omega
  by_cases hge : Y.length ≤ C.length
  · have hgx : (Y.length : Int) ≤ C.length := by omega
    rw [if_pos hge] at HE
    obtain rfl : E = false := HE.out.symm
    clear h hA
    go_enter Try.func97, Try.ntmps97
    go_wp2_with fail
    go_ret
    exact ⟨rfl, HA.out⟩
  · have hgx : ¬ (Y.length : Int) ≤ C.length := by omega
    rw [if_neg hge] at HE
    have HG := Lib.hid G
    have HCC := Lib.hid hC
    have HCL := Lib.hid hCl
    have HFY0 := Lib.hid (fun i (hi : i < Y.length) W F => fromYard_own r c a cap S ya yc Y ta tc T (nth Y i) W (h.fut F) G.side (G.y _ (nth_mem hi)) (by have := G.len; have := G.one; omega) (by have := G.len; have := G.three; omega))
    have HFS0 := Lib.hid (fun y => fyF_short c (r * c) S y T)
    have HFL0 := Lib.hid (fun y => fyF_le c (r * c) S y T [])
    have HT3 : Hid (T.length ≤ 3) := Lib.hid (by have := G.len; have := G.three; omega)
    have HYD := Lib.hid (fun i (hi : i < Y.length) => nth_drop Y i hi)
    obtain ⟨yb, yo, eya, _, _⟩ := h.y 0 (by have := G.one; omega)
    subst eya
    clear h hA G hC hCl
    generalize stL c (r * c) S = st at *
    go_enter Try.func97, Try.ntmps97
    go_wp2_with fail
    generalize (w.alloc (.cells #[.int .i64 r, .int .i64 c, .slice a S.length cap] 29)).alloc (.cells #[.slice (some ⟨yb, yo, none⟩) Y.length yc, .slice ta T.length tc] 30) = W1 at *
    go_loopw [7, 8, 9] (fun iv _ _ wr => ∃ i : Nat, i ≤ Y.length ∧ iv = .int .i64 i ∧ Hid (((Y.drop i).all fun y => (fyL st T y).all fun z => metW z C) = E) ∧ Hid (Fut W1 wr)) (fun iv _ _ _ => Y.length - (intOf iv).toNat)
    case atStart => exact ⟨0, Nat.zero_le _, rfl, HE, Lib.hid Fut.rfl⟩
    case round =>
      obtain ⟨i, hi, rfl, HEi, HFX⟩ := hrel
      obtain ⟨wo, hwo⟩ : ∃ wo, wo = wr := ⟨_, rfl⟩
      subst hwo
      have HPX := Lib.hid (HBP.out.fut HFX.out)
      have HQX := Lib.hid (HBQ.out.fut HFX.out)
      clear p0 p1 p2 q0 q1
      obtain ⟨_, p0, p1, p2⟩ := HPX.out
      obtain ⟨_, q0, q1⟩ := HQX.out
      by_cases hlt : i < Y.length
      · have hix : (i : Int) < Y.length := by omega
        have HFY := Lib.hid (fun W F => HFY0.out i hlt W (HA.out.trans (HFX.out.trans F)))
        have HFS := Lib.hid (HFS0.out (nth Y i))
        have HFL : Hid ((fyL st T (nth Y i)).length ≤ 200000) := Lib.hid (by have h1 := HFL0.out (nth Y i); have h2 := HT3.out; unfold fyL; simp at h1; omega)
        obtain ⟨B2, HB2⟩ : ∃ B2, Hid (((Y.drop (i + 1)).all fun y => (fyL st T y).all fun z => metW z C) = B2) := ⟨_, Lib.hid rfl⟩
        rw [HYD.out i hlt, List.all_cons, HB2.out] at HEi
        have cy := ints_cell ((HIN.out.y.fut HA.out).fut HFX.out) hlt
        have HFS1 : Hid (∀ z ∈ fyL st T (nth Y i), z.length ≤ 16) := Lib.hid HFS.out
        clear HFS
        have HFS := HFS1
        clear HFS1
        generalize nth Y i = y at *
        generalize fyL st T y = FY at *
        have HEE : Hid (((FY.drop 0).all (fun z => metW z C) && B2) = E) := HEi
        have HFW1 := HA
        have keepI : ∀ W', Fut wo W' → (fun w' => (BoxP w' w.heap.size r c a S.length cap ∧ BoxQ w' (w.heap.size + 1) (some ⟨yb, yo, none⟩) Y.length yc ta T.length tc) ∧ w'.cell? ⟨yb, yo + i, none⟩ = some (.int .i64 y)) W' := fun W' F => ⟨⟨HPX.out.fut F, HQX.out.fut F⟩, (RowKit.Below.cell F (p := ⟨yb, yo + i, none⟩) cy.1).trans cy.2⟩
        go_upto_region 6 with fail
        have FD : Fut wo wo.drew := below_drewN Fut.rfl 1
        have HFU := Lib.hid FD
        have HFX0 := Lib.hid (HFX.out.trans FD)
        have keep6 : ∀ W', Fut wo.drew W' → (fun w' => (BoxP w' w.heap.size r c a S.length cap ∧ BoxQ w' (w.heap.size + 1) (some ⟨yb, yo, none⟩) Y.length yc ta T.length tc) ∧ w'.cell? ⟨yb, yo + i, none⟩ = some (.int .i64 y)) W' := fun W' F => keepI W' (FD.trans F)
        clear p0 p1 p2 q0 q1 cy FD
        refine wp_region_held_drew (S := (fun w' => (BoxP w' w.heap.size r c a S.length cap ∧ BoxQ w' (w.heap.size + 1) (some ⟨yb, yo, none⟩) Y.length yc ta T.length tc) ∧ w'.cell? ⟨yb, yo + i, none⟩ = some (.int .i64 y))) (by kernel_rfl) ?_ (fun hHeld => ?_)
        · exact keep6 _ Fut.rfl
        generalize wo.drew = u0 at *
        refine wpAnyH_take (i := 0) (oi := { dst := some 23, op := Op.load 29 (Operand.tmp 3), type := 29, pos := "ref.go:364", after := #[], guard := none }) (v := ?_) rfl (by kernel_rfl) (by kernel_rfl) (by kernel_rfl) (fun _ _ _ h => h) (Or.inl ⟨by rfl, ?_⟩) (by assumption) ?_
        rotate_left
        · (intro w hSw; obtain ⟨⟨⟨_, s0, s1, s2⟩, ⟨_, s3, s4⟩⟩, s5⟩ := hSw; go_simp <;> with_reducible rfl)
        try simp only [Act.put, List.setIfInBounds_toArray, List.set_cons_zero, List.set_cons_succ]
        refine wpAnyH_take (i := 1) (oi := { dst := some 24, op := Op.load 30 (Operand.tmp 4), type := 30, pos := "ref.go:364", after := #[], guard := none }) (v := ?_) rfl (by kernel_rfl) (by kernel_rfl) (by kernel_rfl) (fun _ _ _ h => h) (Or.inl ⟨by rfl, ?_⟩) (by assumption) ?_
        rotate_left
        · (intro w hSw; obtain ⟨⟨⟨_, s0, s1, s2⟩, ⟨_, s3, s4⟩⟩, s5⟩ := hSw; go_simp <;> with_reducible rfl)
        try simp only [Act.put, List.setIfInBounds_toArray, List.set_cons_zero, List.set_cons_succ]
        refine wpAnyH_take (i := 2) (oi := { dst := some 25, op := Op.fieldAddr 30 (Operand.tmp 4) 0, type := 0, pos := "ref.go:364", after := #[], guard := none }) (v := ?_) rfl (by kernel_rfl) (by kernel_rfl) (by kernel_rfl) (fun _ _ _ h => h) (Or.inl ⟨by rfl, ?_⟩) (by assumption) ?_
        rotate_left
        · (intro w hSw; obtain ⟨⟨⟨_, s0, s1, s2⟩, ⟨_, s3, s4⟩⟩, s5⟩ := hSw; go_simp <;> with_reducible rfl)
        try simp only [Act.put, List.setIfInBounds_toArray, List.set_cons_zero, List.set_cons_succ]
        refine wpAnyH_take (i := 3) (oi := { dst := some 26, op := Op.load 22 (Operand.tmp 25), type := 22, pos := "ref.go:364", after := #[{ on := 2, ground := Ground.data }], guard := none }) (v := ?_) rfl (by kernel_rfl) (by kernel_rfl) (by kernel_rfl) (fun _ _ _ h => h) (Or.inl ⟨by rfl, ?_⟩) (by assumption) ?_
        rotate_left
        · (intro w hSw; obtain ⟨⟨⟨_, s0, s1, s2⟩, ⟨_, s3, s4⟩⟩, s5⟩ := hSw; go_simp <;> with_reducible rfl)
        try simp only [Act.put, List.setIfInBounds_toArray, List.set_cons_zero, List.set_cons_succ]
        refine wpAnyH_take (i := 4) (oi := { dst := some 27, op := Op.move (Operand.tmp 7), type := 3, pos := "ref.go:364", after := #[], guard := none }) (v := ?_) rfl (by kernel_rfl) (by kernel_rfl) (by kernel_rfl) (fun _ _ _ h => h) (Or.inl ⟨by rfl, ?_⟩) (by assumption) ?_
        rotate_left
        · (intro w hSw; obtain ⟨⟨⟨_, s0, s1, s2⟩, ⟨_, s3, s4⟩⟩, s5⟩ := hSw; go_simp <;> with_reducible rfl)
        try simp only [Act.put, List.setIfInBounds_toArray, List.set_cons_zero, List.set_cons_succ]
        refine wpAnyH_take (i := 5) (oi := { dst := some 28, op := Op.indexAddr 22 (Operand.tmp 26) (Operand.tmp 27), type := 0, pos := "ref.go:364", after := #[{ on := 3, ground := Ground.data }, { on := 4, ground := Ground.data }], guard := none }) (v := ?_) rfl (by kernel_rfl) (by kernel_rfl) (by kernel_rfl) (fun _ _ _ h => h) (Or.inl ⟨by rfl, ?_⟩) (by assumption) ?_
        rotate_left
        · (intro w hSw; obtain ⟨⟨⟨_, s0, s1, s2⟩, ⟨_, s3, s4⟩⟩, s5⟩ := hSw; go_simp <;> with_reducible rfl)
        try simp only [Act.put, List.setIfInBounds_toArray, List.set_cons_zero, List.set_cons_succ]
        refine wpAnyH_take (i := 6) (oi := { dst := some 29, op := Op.load 3 (Operand.tmp 28), type := 3, pos := "ref.go:364", after := #[{ on := 5, ground := Ground.data }], guard := none }) (v := ?_) rfl (by kernel_rfl) (by kernel_rfl) (by kernel_rfl) (fun _ _ _ h => h) (Or.inl ⟨by rfl, ?_⟩) (by assumption) ?_
        rotate_left
        · (intro w hSw; obtain ⟨⟨⟨_, s0, s1, s2⟩, ⟨_, s3, s4⟩⟩, s5⟩ := hSw; go_simp <;> with_reducible rfl)
        try simp only [Act.put, List.setIfInBounds_toArray, List.set_cons_zero, List.set_cons_succ]
        refine wpAnyH_ready (rs := [7]) (by kernel_rfl) (by simp) ?_
        refine AllReadyH.cons (o := { dst := some 30, op := Op.call { callee := Callee.value (Operand.func 112), args := #[Operand.tmp 23, Operand.tmp 24, Operand.tmp 29], argTypes := #[29, 30, 3] }, type := 35, pos := "ref.go:364", after := #[{ on := 0, ground := Ground.data }, { on := 1, ground := Ground.data }, { on := 6, ground := Ground.data }], guard := none }) rfl (fun K hK => ?_) AllReadyH.nil
        go_simp
        go_at_call 112
        refine (HFY.out u0 HFU.out).mono ?_
        rintro _ w5 ⟨v5, rfl, hX5, F5⟩
        have HF5 := Lib.hid F5
        have HX5 := Lib.hid hX5
        clear hX5 F5
        try go_wp2_with fail
        refine hK.out _ _ ?_ (fun hHeld => ?_)
        · exact keep6 _ HF5.out
        clear hK K
        try simp only [Act.put, List.setIfInBounds_toArray, List.set_cons_zero, List.set_cons_succ]
        refine wpAnyH_ready (rs := [8]) (by kernel_rfl) (by simp) ?_
        refine AllReadyH.cons (o := { dst := some 8, op := Op.assign (Operand.tmp 30), type := 35, pos := "ref.go:364", after := #[{ on := 7, ground := Ground.data }, { on := 7, ground := Ground.chain }, { on := 0, ground := Ground.phase }, { on := 1, ground := Ground.phase }, { on := 2, ground := Ground.phase }, { on := 3, ground := Ground.phase }, { on := 4, ground := Ground.phase }, { on := 5, ground := Ground.phase }, { on := 6, ground := Ground.phase }, { on := 7, ground := Ground.phase }], guard := none }) rfl (fun K hK => ?_) AllReadyH.nil
        go_simp
        refine hK.out _ _ ?_ (fun hHeld => ?_)
        · exact keep6 _ HF5.out
        clear hK K
        try simp only [Act.put, List.setIfInBounds_toArray, List.set_cons_zero, List.set_cons_succ]
        refine wpAnyH_done (by kernel_rfl) ?_ _
        have HFW5 := Lib.hid (HFX0.out.trans HF5.out)
        have HCI := Lib.hid (HCC.out.fut (HFW1.out.trans HFW5.out))
        obtain ⟨va, vc, rfl, hLst⟩ : ∃ va vc, v5 = .slice va FY.length vc ∧ LstAt w5 va FY := by
          obtain ⟨l, lc, e, _, _, h⟩ := HX5.out.listsC
          exact ⟨l, lc, e, h.lst⟩
        have HLL := Lib.hid hLst
        have hfx : (FY.length : Int) ≤ 200000 := by have := HFL.out; omega
        clear hLst HX5 HFX0 HF5
        go_wp2_with fail
        go_loopw [9] (fun kv wx => ∃ k : Nat, k ≤ FY.length ∧ kv = .int .i64 k ∧ Hid (((FY.drop k).all (fun z => metW z C) && B2) = E) ∧ Hid (Fut w5 wx)) (fun kv _ => FY.length - (intOf kv).toNat)
        case atStart => exact ⟨0, Nat.zero_le _, rfl, HEE, Lib.hid Fut.rfl⟩
        case round =>
          obtain ⟨k, hk, rfl, HE6, HF6⟩ := hrel
          obtain ⟨w6, hw6⟩ : ∃ w6, w6 = wr := ⟨_, rfl⟩
          subst hw6
          by_cases hkl : k < FY.length
          · have hkx : (k : Int) < FY.length := by omega
            obtain ⟨b, off, zl, zlc, ea, hb, cz, hIz⟩ := (HLL.out.fut HF6.out) k hkl
            subst ea
            have HM := Lib.hid (meet_any zl la zlc lc (lth FY k) C w6 hIz (HCI.out.fut HF6.out) (Nat.le_trans (HFS.out _ (lth_mem' hkl)) (by omega)) (by have := HCL.out; omega))
            rw [lth_drop FY k hkl, List.all_cons] at HE6
            clear hIz
            generalize lth FY k = z at *
            cases hq : metW z C
            · rw [hq] at HM HE6
              simp only [Bool.false_and] at HE6
              obtain rfl : E = false := HE6.out.symm
              clear hq
              go_wp2_with fail
              refine HM.out.mono ?_
              rintro _ _ ⟨rfl, rfl⟩
              go_wp2
              go_ret
              exact ⟨rfl, (HA.out.trans HFW5.out).trans HF6.out⟩
            · rw [hq] at HM HE6
              simp only [Bool.true_and] at HE6
              clear hq
              go_wp2_with fail
              refine HM.out.mono ?_
              rintro _ _ ⟨rfl, rfl⟩
              go_wp2
              go_round
              case rel => exact ⟨k + 1, by omega, by go_num, HE6, HF6⟩
              case measure => simp [intOf]; omega
          · obtain rfl : FY.length = k := by omega
            rw [List.drop_of_length_le (Nat.le_refl _), List.all_nil, Bool.true_and] at HE6
            have HF9 := Lib.hid (HFW5.out.trans HF6.out)
            rw [← HB2.out] at HE6
            go_wp2
            go_round
            case rel => exact ⟨i + 1, by omega, by go_num, HE6, HF9⟩
            case measure => simp [intOf]; omega
      · obtain rfl : Y.length = i := by omega
        rw [List.drop_of_length_le (Nat.le_refl _), List.all_nil] at HEi
        obtain rfl : E = true := HEi.out.symm
        go_wp2
        go_ret
        exact ⟨rfl, HA.out.trans HFX.out⟩
end Go.Proofs.Ytflllkamdihfaaa
