/- the reference's Table 19: rtable_any -/
import Derived.Test.YtflllkamdihfaaaLCB
import Derived.Test.YtflllkamdihfaaaLMA
namespace Go.Proofs.Ytflllkamdihfaaa
open Go.RowKit Go.Sort
theorem BoxQ.kept {w w' : World} {B : Nat} {ya : Option Addr} {yn yc : Nat} {ta : Option Addr} {tn tc : Nat} {row : Option Nat} (h : BoxQ w B ya yn yc ta tn tc) (g : w.grownBy w' row) (hne : row ≠ some B) : BoxQ w' B ya yn yc ta tn tc := by
  have k := g.block B h.lt (fun e => hne e.symm)
  exact ⟨Nat.lt_of_lt_of_le h.lt g.size, (World.cell?_of_block (a := ⟨B, 0, none⟩) k).trans h.c0, (World.cell?_of_block (a := ⟨B, 1, none⟩) k).trans h.c1⟩
theorem ints_cell {w : World} {b o : Nat} {zs : List Int} (h : IntsAt w (some ⟨b, o, none⟩) zs) {j : Nat} (hj : j < zs.length) : b < w.heap.size ∧ w.cell? ⟨b, o + j, none⟩ = some (.int .i64 (nth zs j)) := by
  obtain ⟨b', o', e, h1, h2⟩ := h j hj
  simp only [Option.some.injEq, Addr.mk.injEq, and_true] at e
  obtain ⟨rfl, rfl⟩ := e
  exact ⟨h1, h2⟩
set_option maxRecDepth 100000 in
set_option maxHeartbeats 8000000 in
theorem rtable_any (r c : Int) (a : Option Addr) (cap : Nat) (S : List Int) (ya : Option Addr) (yc : Nat) (Y : List Int) (ta : Option Addr) (tc : Nat) (T : List Int) (w : World) (h : InPQ w a S ya yc Y ta tc T) :
    Calls Try.prog 19 #[parV r c a S.length cap, plaV ya Y.length yc ta T.length tc] w (TupLC (chkP r c S Y T) (tabL r c S Y T) w) := by
  obtain ⟨i0, hi0, hz0, hz1, hz2⟩ := info_parts info3
  obtain ⟨i1, hi1, hy0, hy1, hy2⟩ := info_parts info22
  have hA : Fut w ((w.alloc (.cells #[.int .i64 r, .int .i64 c, .slice a S.length cap] 29)).alloc (.cells #[.slice ya Y.length yc, .slice ta T.length tc] 30)) := (Fut.alloc _ _).trans (Fut.alloc _ _)
  have hBP := (BoxR.new w r c a S.length cap).fut (Fut.alloc _ (.cells #[.slice ya Y.length yc, .slice ta T.length tc] 30))
  have hBQ := BoxT.new (w.alloc (.cells #[.int .i64 r, .int .i64 c, .slice a S.length cap] 29)) ya Y.length yc ta T.length tc
  rw [World.size_alloc] at hBQ
  have HCK := Lib.hid (fun W (F : Fut w W) => rchk_any r c a cap S ya yc Y ta tc T W (h.fut F))
  have HA := Lib.hid hA
  have HBP := Lib.hid hBP
  have HBQ := Lib.hid hBQ
  have HIN := Lib.hid h
  obtain ⟨_, p0, p1, p2⟩ := hBP
  obtain ⟨_, q0, q1⟩ := hBQ
  unfold tabL
  by_cases hc : chkP r c S Y T = 0
  · rw [if_pos hc, hc]
    rw [hc] at HCK
    have HG := Lib.hid (chk_all hc)
    have hyx : (Y.length : Int) ≤ 1000 := by have := h.yl; omega
    have htx : (T.length : Int) ≤ 1000 := by have := h.tl; omega
    have HLN := Lib.hid (fun k s (hk : k < Y.length) => show (rwL c (r * c) S (nth T s) 16 [nth Y k]).length = wayN c (r * c) S (nth Y k) (nth T s) by
      have hb := HG.out.y _ (nth_mem hk)
      rw [rw_wy HG.out.side S _ _ hb.1, wayN_len HG.out.side S _ _ ⟨hb.1, hb.2.1⟩])
    have HRW0 := Lib.hid (fun k s (hk : k < Y.length) W (F : Fut w W) => rways_own r c _ HG.out.side a cap S h.sl (nth T s) 16 [nth Y k] (some ⟨W.heap.size, 0, none⟩) 1 (W.alloc (.cells #[.int .i64 (nth Y k)] 3)) (by simp) (by simp)
      (HG.out.y _ (nth_mem hk)).1 (HG.out.y _ (nth_mem hk)).2.1 (by have := (side_m HG.out.side).2; have := (HG.out.y _ (nth_mem hk)).1; show r * c - nth [nth Y k] 0 ≤ _; simp [nth] at this ⊢; omega)
      (World.ownsRow_lit (base := 0) (e := 3) (size := 1) W #[.int .i64 (nth Y k)] 1 (Nat.zero_le _) (by unfold maxLen; omega) rfl) ((h.s.fut F).fut (Fut.alloc _ _)))
    have HRS := Lib.hid (fun k s hs => rowT_succ c (r * c) S Y T k s hs)
    have HRL0 := Lib.hid (fun k s => rowT_len c (r * c) S Y T k s)
    have HEND : Hid ((List.range Y.length).map (fun k => rowT c (r * c) S Y T k T.length) = (List.range Y.length).map (fun k => rowT c (r * c) S Y T k T.length)) := Lib.hid rfl
    generalize r * c = m at *
    clear hc h hA
    obtain ⟨yb, yo, eya, _, _⟩ := HIN.out.y 0 (by have := HG.out.one; omega)
    subst eya
    obtain ⟨tb, to_, eta, _, _⟩ := HIN.out.t 0 (by have := HG.out.one; have := HG.out.len; omega)
    subst eta
    go_enter Try.func19, Try.ntmps19
    go_wp2_with fail
    refine (HCK.out _ HA.out).mono ?_
    rintro _ w2 ⟨rfl, F⟩
    have HF2 := Lib.hid (HA.out.trans F)
    have HBP2 := Lib.hid (HBP.out.fut F)
    have HBQ2 := Lib.hid (HBQ.out.fut F)
    clear p0 p1 p2 q0 q1 F
    obtain ⟨_, p0, p1, p2⟩ := HBP2.out
    obtain ⟨_, q0, q1⟩ := HBQ2.out
    go_wp2_with fail
    go_loopw [7, 8, 9, 10] (fun ov iv _ _ wr => ∃ k : Nat, k ≤ Y.length ∧ iv = .int .i64 k ∧ Hid (OwnX wr (w.heap.size + 2) ov ((List.range k).map fun k => rowT c m S Y T k T.length)) ∧ Hid (Fut w wr) ∧ Hid (BoxP wr w.heap.size r c a S.length cap) ∧ Hid (BoxQ wr (w.heap.size + 1) (some ⟨yb, yo, none⟩) Y.length yc (some ⟨tb, to_, none⟩) T.length tc)) (fun _ iv _ _ _ => Y.length - (intOf iv).toNat)
    case atStart => exact ⟨0, Nat.zero_le _, rfl, Lib.hid (OwnX.nil _ _), HF2, HBP2, HBQ2⟩
    case round =>
      obtain ⟨k, hk, rfl, HX, HFX, HPX, HQX⟩ := hrel
      obtain ⟨wo, hwo⟩ : ∃ wo, wo = wr := ⟨_, rfl⟩
      subst hwo
      clear p0 p1 p2 q0 q1
      obtain ⟨_, p0, p1, p2⟩ := HPX.out
      obtain ⟨_, q0, q1⟩ := HQX.out
      by_cases hlt : k < Y.length
      · have hkx : (k : Int) < Y.length := by omega
        have HACC : Hid ((List.range (k + 1)).map (fun k => rowT c m S Y T k T.length) = ((List.range k).map fun k => rowT c m S Y T k T.length) ++ [rowT c m S Y T k T.length]) := Lib.hid (by rw [List.range_succ, List.map_append]; rfl)
        have HAL : Hid (((List.range k).map fun k => rowT c m S Y T k T.length).length ≤ 3) := Lib.hid (by rw [List.length_map, List.length_range]; have := HG.out.three; omega)
        generalize hacc : (List.range k).map (fun k => rowT c m S Y T k T.length) = acc at *
        clear hacc
        obtain ⟨oa, oc, rfl⟩ : ∃ oa oc, u7 = .slice oa acc.length oc := by
          obtain ⟨vals, hrow, _⟩ := HX.out
          exact row_form hrow
        have hR0 : rowT c m S Y T k 0 = [] := rfl
        have HR0 : Hid (Owns wo wo.heap.size (.slice none 0 0) (rowT c m S Y T k 0)) := Lib.hid (by rw [hR0]; exact World.ownsRow_nil _ _ _ _)
        clear hR0
        go_wp2_with fail
        go_loopw [9, 10] (fun lv sv wx => ∃ (s : Nat) (la : Option Addr) (lc : Nat), s ≤ T.length ∧ lv = .slice la (rowT c m S Y T k s).length lc ∧ sv = .int .i64 s ∧ Hid (Owns wx wo.heap.size (.slice la (rowT c m S Y T k s).length lc) (rowT c m S Y T k s)) ∧ Hid (Fut wo wx)) (fun _ sv _ => T.length - (intOf sv).toNat)
        case atStart => exact ⟨0, none, 0, Nat.zero_le _, rfl, rfl, HR0, Lib.hid Fut.rfl⟩
        case round =>
          obtain ⟨s, la, lc, hs, rfl, rfl, HR, HFI⟩ := hrel
          obtain ⟨ws, hws⟩ : ∃ ws, ws = wr := ⟨_, rfl⟩
          subst hws
          have HPS := Lib.hid (HPX.out.fut HFI.out)
          have HQS := Lib.hid (HQX.out.fut HFI.out)
          clear p0 p1 p2 q0 q1
          obtain ⟨_, p0, p1, p2⟩ := HPS.out
          obtain ⟨_, q0, q1⟩ := HQS.out
          by_cases hst : s < T.length
          · have hsx : (s : Int) < T.length := by omega
            have HRT := Lib.hid (HRS.out k s hst)
            have hrl := HRL0.out k s
            have HRL : Hid ((rowT c m S Y T k s).length ≤ 1000) := Lib.hid (by have := HIN.out.tl; omega)
            have HRW := Lib.hid (HRW0.out k s hlt)
            have HL2 := Lib.hid (HLN.out k s hlt)
            have cy := (ints_cell (HIN.out.y.fut HFX.out) hlt)
            have ct := (ints_cell (HIN.out.t.fut HFX.out) hst)
            rw [← HL2.out] at HRT
            generalize nth Y k = y at *
            generalize nth T s = tz at *
            generalize hrow : rowT c m S Y T k s = row at *
            generalize rwL c m S tz 16 [y] = R at *
            have keepI : ∀ W', Fut wo W' → (fun w' => BoxP w' w.heap.size r c a S.length cap ∧ BoxQ w' (w.heap.size + 1) (some ⟨yb, yo, none⟩) Y.length yc (some ⟨tb, to_, none⟩) T.length tc ∧ w'.cell? ⟨yb, yo + k, none⟩ = some (.int .i64 y) ∧ w'.cell? ⟨tb, to_ + s, none⟩ = some (.int .i64 tz)) W' := fun W' F =>
              ⟨HPX.out.fut F, HQX.out.fut F, (RowKit.Below.cell F (p := ⟨yb, yo + k, none⟩) cy.1).trans cy.2, (RowKit.Below.cell F (p := ⟨tb, to_ + s, none⟩) ct.1).trans ct.2⟩
            go_upto_region 12 with fail
            have FD : Fut ws ws.drew := below_drewN Fut.rfl 1
            have HFI0 := Lib.hid (HFI.out.trans FD)
            have HFU := Lib.hid (HFX.out.trans HFI0.out)
            have HO0 := Lib.hid (HR.out.fut FD)
            have keep : ∀ W', Fut ws.drew W' → (fun w' => BoxP w' w.heap.size r c a S.length cap ∧ BoxQ w' (w.heap.size + 1) (some ⟨yb, yo, none⟩) Y.length yc (some ⟨tb, to_, none⟩) T.length tc ∧ w'.cell? ⟨yb, yo + k, none⟩ = some (.int .i64 y) ∧ w'.cell? ⟨tb, to_ + s, none⟩ = some (.int .i64 tz)) W' := fun W' F => keepI W' (HFI0.out.trans F)
            clear p0 p1 p2 q0 q1 hrl cy ct
            refine wp_region_held_drew (S := (fun w' => BoxP w' w.heap.size r c a S.length cap ∧ BoxQ w' (w.heap.size + 1) (some ⟨yb, yo, none⟩) Y.length yc (some ⟨tb, to_, none⟩) T.length tc ∧ w'.cell? ⟨yb, yo + k, none⟩ = some (.int .i64 y) ∧ w'.cell? ⟨tb, to_ + s, none⟩ = some (.int .i64 tz))) (by kernel_rfl) ?_ (fun hHeld => ?_)
            · exact keepI _ (HFI.out.trans FD)
            generalize ws.drew = u0 at *
            refine wpAnyH_take (i := 0) (oi := { dst := some 31, op := Op.move (Operand.tmp 9), type := 22, pos := "ref.go:140", after := #[], guard := none }) (v := ?_) rfl (by kernel_rfl) (by kernel_rfl) (by kernel_rfl) (fun _ _ _ h => h) (Or.inl ⟨by rfl, ?_⟩) (by assumption) ?_
            rotate_left
            · (intro w hSw; obtain ⟨⟨_, s0, s1, s2⟩, ⟨_, s3, s4⟩, s5, s6⟩ := hSw; go_simp <;> with_reducible rfl)
            try simp only [Act.put, List.setIfInBounds_toArray, List.set_cons_zero, List.set_cons_succ]
            refine wpAnyH_take (i := 1) (oi := { dst := some 32, op := Op.load 29 (Operand.tmp 2), type := 29, pos := "ref.go:140", after := #[], guard := none }) (v := ?_) rfl (by kernel_rfl) (by kernel_rfl) (by kernel_rfl) (fun _ _ _ h => h) (Or.inl ⟨by rfl, ?_⟩) (by assumption) ?_
            rotate_left
            · (intro w hSw; obtain ⟨⟨_, s0, s1, s2⟩, ⟨_, s3, s4⟩, s5, s6⟩ := hSw; go_simp <;> with_reducible rfl)
            try simp only [Act.put, List.setIfInBounds_toArray, List.set_cons_zero, List.set_cons_succ]
            refine wpAnyH_take (i := 2) (oi := { dst := some 33, op := Op.fieldAddr 30 (Operand.tmp 3) 0, type := 0, pos := "ref.go:140", after := #[], guard := none }) (v := ?_) rfl (by kernel_rfl) (by kernel_rfl) (by kernel_rfl) (fun _ _ _ h => h) (Or.inl ⟨by rfl, ?_⟩) (by assumption) ?_
            rotate_left
            · (intro w hSw; obtain ⟨⟨_, s0, s1, s2⟩, ⟨_, s3, s4⟩, s5, s6⟩ := hSw; go_simp <;> with_reducible rfl)
            try simp only [Act.put, List.setIfInBounds_toArray, List.set_cons_zero, List.set_cons_succ]
            refine wpAnyH_take (i := 3) (oi := { dst := some 34, op := Op.load 22 (Operand.tmp 33), type := 22, pos := "ref.go:140", after := #[{ on := 2, ground := Ground.data }], guard := none }) (v := ?_) rfl (by kernel_rfl) (by kernel_rfl) (by kernel_rfl) (fun _ _ _ h => h) (Or.inl ⟨by rfl, ?_⟩) (by assumption) ?_
            rotate_left
            · (intro w hSw; obtain ⟨⟨_, s0, s1, s2⟩, ⟨_, s3, s4⟩, s5, s6⟩ := hSw; go_simp <;> with_reducible rfl)
            try simp only [Act.put, List.setIfInBounds_toArray, List.set_cons_zero, List.set_cons_succ]
            refine wpAnyH_take (i := 4) (oi := { dst := some 35, op := Op.move (Operand.tmp 8), type := 3, pos := "ref.go:140", after := #[], guard := none }) (v := ?_) rfl (by kernel_rfl) (by kernel_rfl) (by kernel_rfl) (fun _ _ _ h => h) (Or.inl ⟨by rfl, ?_⟩) (by assumption) ?_
            rotate_left
            · (intro w hSw; obtain ⟨⟨_, s0, s1, s2⟩, ⟨_, s3, s4⟩, s5, s6⟩ := hSw; go_simp <;> with_reducible rfl)
            try simp only [Act.put, List.setIfInBounds_toArray, List.set_cons_zero, List.set_cons_succ]
            refine wpAnyH_take (i := 5) (oi := { dst := some 36, op := Op.indexAddr 22 (Operand.tmp 34) (Operand.tmp 35), type := 0, pos := "ref.go:140", after := #[{ on := 3, ground := Ground.data }, { on := 4, ground := Ground.data }], guard := none }) (v := ?_) rfl (by kernel_rfl) (by kernel_rfl) (by kernel_rfl) (fun _ _ _ h => h) (Or.inl ⟨by rfl, ?_⟩) (by assumption) ?_
            rotate_left
            · (intro w hSw; obtain ⟨⟨_, s0, s1, s2⟩, ⟨_, s3, s4⟩, s5, s6⟩ := hSw; go_simp <;> with_reducible rfl)
            try simp only [Act.put, List.setIfInBounds_toArray, List.set_cons_zero, List.set_cons_succ]
            refine wpAnyH_take (i := 6) (oi := { dst := some 37, op := Op.load 3 (Operand.tmp 36), type := 3, pos := "ref.go:140", after := #[{ on := 5, ground := Ground.data }], guard := none }) (v := ?_) rfl (by kernel_rfl) (by kernel_rfl) (by kernel_rfl) (fun _ _ _ h => h) (Or.inl ⟨by rfl, ?_⟩) (by assumption) ?_
            rotate_left
            · (intro w hSw; obtain ⟨⟨_, s0, s1, s2⟩, ⟨_, s3, s4⟩, s5, s6⟩ := hSw; go_simp <;> with_reducible rfl)
            try simp only [Act.put, List.setIfInBounds_toArray, List.set_cons_zero, List.set_cons_succ]
            refine wpAnyH_take (i := 8) (oi := { dst := some 39, op := Op.fieldAddr 30 (Operand.tmp 3) 1, type := 0, pos := "ref.go:140", after := #[], guard := none }) (v := ?_) rfl (by kernel_rfl) (by kernel_rfl) (by kernel_rfl) (fun _ _ _ h => h) (Or.inl ⟨by rfl, ?_⟩) (by assumption) ?_
            rotate_left
            · (intro w hSw; obtain ⟨⟨_, s0, s1, s2⟩, ⟨_, s3, s4⟩, s5, s6⟩ := hSw; go_simp <;> with_reducible rfl)
            try simp only [Act.put, List.setIfInBounds_toArray, List.set_cons_zero, List.set_cons_succ]
            refine wpAnyH_take (i := 9) (oi := { dst := some 40, op := Op.load 22 (Operand.tmp 39), type := 22, pos := "ref.go:140", after := #[{ on := 8, ground := Ground.data }], guard := none }) (v := ?_) rfl (by kernel_rfl) (by kernel_rfl) (by kernel_rfl) (fun _ _ _ h => h) (Or.inl ⟨by rfl, ?_⟩) (by assumption) ?_
            rotate_left
            · (intro w hSw; obtain ⟨⟨_, s0, s1, s2⟩, ⟨_, s3, s4⟩, s5, s6⟩ := hSw; go_simp <;> with_reducible rfl)
            try simp only [Act.put, List.setIfInBounds_toArray, List.set_cons_zero, List.set_cons_succ]
            refine wpAnyH_take (i := 10) (oi := { dst := some 41, op := Op.move (Operand.tmp 10), type := 3, pos := "ref.go:140", after := #[], guard := none }) (v := ?_) rfl (by kernel_rfl) (by kernel_rfl) (by kernel_rfl) (fun _ _ _ h => h) (Or.inl ⟨by rfl, ?_⟩) (by assumption) ?_
            rotate_left
            · (intro w hSw; obtain ⟨⟨_, s0, s1, s2⟩, ⟨_, s3, s4⟩, s5, s6⟩ := hSw; go_simp <;> with_reducible rfl)
            try simp only [Act.put, List.setIfInBounds_toArray, List.set_cons_zero, List.set_cons_succ]
            refine wpAnyH_take (i := 11) (oi := { dst := some 42, op := Op.indexAddr 22 (Operand.tmp 40) (Operand.tmp 41), type := 0, pos := "ref.go:140", after := #[{ on := 9, ground := Ground.data }, { on := 10, ground := Ground.data }], guard := none }) (v := ?_) rfl (by kernel_rfl) (by kernel_rfl) (by kernel_rfl) (fun _ _ _ h => h) (Or.inl ⟨by rfl, ?_⟩) (by assumption) ?_
            rotate_left
            · (intro w hSw; obtain ⟨⟨_, s0, s1, s2⟩, ⟨_, s3, s4⟩, s5, s6⟩ := hSw; go_simp <;> with_reducible rfl)
            try simp only [Act.put, List.setIfInBounds_toArray, List.set_cons_zero, List.set_cons_succ]
            refine wpAnyH_take (i := 12) (oi := { dst := some 43, op := Op.load 3 (Operand.tmp 42), type := 3, pos := "ref.go:140", after := #[{ on := 11, ground := Ground.data }], guard := none }) (v := ?_) rfl (by kernel_rfl) (by kernel_rfl) (by kernel_rfl) (fun _ _ _ h => h) (Or.inl ⟨by rfl, ?_⟩) (by assumption) ?_
            rotate_left
            · (intro w hSw; obtain ⟨⟨_, s0, s1, s2⟩, ⟨_, s3, s4⟩, s5, s6⟩ := hSw; go_simp <;> with_reducible rfl)
            try simp only [Act.put, List.setIfInBounds_toArray, List.set_cons_zero, List.set_cons_succ]
            refine wpAnyH_ready (rs := [7]) (by kernel_rfl) (by simp) ?_
            refine AllReadyH.cons (o := { dst := some 38, op := Op.buildSlice 22 1 #[(0, Operand.tmp 37)], type := 22, pos := "ref.go:140", after := #[{ on := 6, ground := Ground.data }], guard := none }) rfl (fun K hK => ?_) AllReadyH.nil
            go_simp
            refine hK.out _ _ ?_ (fun hHeld => ?_)
            · exact keep (u0.alloc (.cells #[.int .i64 y] 3)) (Fut.alloc u0 (.cells #[.int .i64 y] 3))
            clear hK K
            try simp only [Act.put, List.setIfInBounds_toArray, List.set_cons_zero, List.set_cons_succ]
            refine wpAnyH_ready (rs := [13]) (by kernel_rfl) (by simp) ?_
            refine AllReadyH.cons (o := { dst := some 44, op := Op.call { callee := Callee.value (Operand.func 72), args := #[Operand.tmp 32, Operand.tmp 38, Operand.tmp 43], argTypes := #[29, 22, 3] }, type := 35, pos := "ref.go:140", after := #[{ on := 1, ground := Ground.data }, { on := 7, ground := Ground.data }, { on := 12, ground := Ground.data }], guard := none }) rfl (fun K hK => ?_) AllReadyH.nil
            go_simp
            go_at_call 72
            refine (HRW.out u0 HFU.out).mono ?_
            rintro _ w5 ⟨v5, rfl, hX5, F5⟩
            obtain ⟨va, vc, rfl⟩ : ∃ va vc, v5 = .slice va R.length vc := by
              obtain ⟨vals, hrow, _⟩ := hX5
              exact row_form hrow
            have HF5 : Hid (Fut u0 w5) := Lib.hid ((Fut.alloc u0 (.cells #[.int .i64 y] 3)).trans F5)
            clear hX5 F5
            try go_wp2_with fail
            refine hK.out _ _ ?_ (fun hHeld => ?_)
            · exact keep w5 HF5.out
            clear hK K
            try simp only [Act.put, List.setIfInBounds_toArray, List.set_cons_zero, List.set_cons_succ]
            refine wpAnyH_ready (rs := [14]) (by kernel_rfl) (by simp) ?_
            refine AllReadyH.cons (o := { dst := some 45, op := Op.call { callee := Callee.builtin Builtin.len, args := #[Operand.tmp 44], argTypes := #[35] }, type := 3, pos := "ref.go:140", after := #[{ on := 13, ground := Ground.data }], guard := none }) rfl (fun K hK => ?_) AllReadyH.nil
            go_simp
            refine hK.out _ _ ?_ (fun hHeld => ?_)
            · exact keep w5 HF5.out
            clear hK K
            try simp only [Act.put, List.setIfInBounds_toArray, List.set_cons_zero, List.set_cons_succ]
            refine wpAnyH_ready (rs := [15]) (by kernel_rfl) (by simp) ?_
            refine AllReadyH.cons (o := { dst := some 46, op := Op.buildSlice 22 1 #[(0, Operand.tmp 45)], type := 22, pos := "ref.go:140", after := #[{ on := 14, ground := Ground.data }], guard := none }) rfl (fun K hK => ?_) AllReadyH.nil
            go_simp
            refine hK.out _ _ ?_ (fun hHeld => ?_)
            · exact keep (w5.alloc (.cells #[.int .i64 (R.length : Nat)] 3)) (HF5.out.trans (Fut.alloc w5 (.cells #[.int .i64 (R.length : Nat)] 3)))
            clear hK K
            try simp only [Act.put, List.setIfInBounds_toArray, List.set_cons_zero, List.set_cons_succ]
            refine wpAnyH_ready (rs := [16]) (by kernel_rfl) (by simp) ?_
            refine AllReadyH.cons (o := { dst := some 47, op := Op.call { callee := Callee.builtin Builtin.append, args := #[Operand.tmp 31, Operand.tmp 46], argTypes := #[22, 22] }, type := 22, pos := "ref.go:140", after := #[{ on := 0, ground := Ground.data }, { on := 15, ground := Ground.data }, { on := 13, ground := Ground.chain }], guard := none }) rfl (fun K hK => ?_) AllReadyH.nil
            have HR : Hid ((w5.alloc (.cells #[.int .i64 (R.length : Nat)] 3)).ownsRow wo.heap.size 3 1 (.slice la row.length lc) row.length (row.map (Value.int .i64))) := Lib.hid (row_fut HO0.out (HF5.out.trans (Fut.alloc w5 (.cells #[.int .i64 (R.length : Nat)] 3))))
            refine step_append_src rfl _ _ 22 rfl wo.heap.size 3 i0 (.int .i64 0) 8 Try.underlying22 hi0 hz0 hz1 hz2 rfl _ row.length (row.map (Value.int .i64)) rfl HR.out _ 1 [.int .i64 (R.length : Nat)] rfl (.inr ⟨⟨w5.heap.size, 0, none⟩, 1, rfl, rfl, cell_one (by simp [go_sem]), by simp [Value.oneCell']⟩) ?_ ?_ ?_ ?_
            · have := HRL.out; unfold maxLen; omega
            · have := HRL.out; omega
            · exact RowKit.Below.size (HFI0.out.trans (HF5.out.trans (Fut.alloc w5 (.cells #[.int .i64 (R.length : Nat)] 3))))
            intro av ac w6 hown6 hgr6
            have HF6 : Hid (Fut wo w6) := Lib.hid (RowKit.Below.grown (HFI0.out.trans (HF5.out.trans (Fut.alloc w5 (.cells #[.int .i64 (R.length : Nat)] 3)))) hgr6 (RowKit.Below.size (HFI0.out.trans (HF5.out.trans (Fut.alloc w5 (.cells #[.int .i64 (R.length : Nat)] 3))))) fun q hq => (World.ownsRow.lt HR.out q hq).1)
            have HO6 : Hid (Owns w6 wo.heap.size (.slice av (row ++ [((R.length : Nat) : Int)]).length ac) (row ++ [((R.length : Nat) : Int)])) := Lib.hid (by unfold Owns; rw [List.length_append, List.length_singleton, List.map_append]; exact hown6)
            clear hown6 hgr6 HR
            refine hK.out _ _ ?_ (fun hHeld => ?_)
            · exact keepI w6 HF6.out
            clear hK K
            try simp only [Act.put, List.setIfInBounds_toArray, List.set_cons_zero, List.set_cons_succ]
            refine wpAnyH_ready (rs := [17]) (by kernel_rfl) (by simp) ?_
            refine AllReadyH.cons (o := { dst := some 9, op := Op.assign (Operand.tmp 47), type := 22, pos := "ref.go:140", after := #[{ on := 16, ground := Ground.data }, { on := 16, ground := Ground.chain }, { on := 0, ground := Ground.phase }, { on := 1, ground := Ground.phase }, { on := 2, ground := Ground.phase }, { on := 3, ground := Ground.phase }, { on := 4, ground := Ground.phase }, { on := 5, ground := Ground.phase }, { on := 6, ground := Ground.phase }, { on := 7, ground := Ground.phase }, { on := 8, ground := Ground.phase }, { on := 9, ground := Ground.phase }, { on := 10, ground := Ground.phase }, { on := 11, ground := Ground.phase }, { on := 12, ground := Ground.phase }, { on := 13, ground := Ground.phase }, { on := 14, ground := Ground.phase }, { on := 15, ground := Ground.phase }, { on := 16, ground := Ground.phase }], guard := none }) rfl (fun K hK => ?_) AllReadyH.nil
            go_simp
            refine hK.out _ _ ?_ (fun hHeld => ?_)
            · exact keepI w6 HF6.out
            clear hK K
            try simp only [Act.put, List.setIfInBounds_toArray, List.set_cons_zero, List.set_cons_succ]
            refine wpAnyH_done (by kernel_rfl) ?_ _
            clear HF5
            have hO7 : Owns w6 wo.heap.size (.slice av (row.length + 1) ac) (rowT c m S Y T k (s + 1)) := by
              have h := HO6.out
              rw [HRT.out]
              rwa [List.length_append, List.length_singleton] at h
            have HO7 := Lib.hid hO7
            clear hO7 HO6
            have hrl7 : row.length + 1 = (rowT c m S Y T k (s + 1)).length := by rw [HRT.out, List.length_append, List.length_singleton]
            rw [hrl7] at HO7 ⊢
            clear hrl7
            go_wp2
            go_round
            case rel => exact ⟨s + 1, _, _, by omega, rfl, by go_num, HO7, HF6⟩
            case measure => simp [intOf]; omega
          · obtain rfl : T.length = s := by omega
            obtain ⟨vals, hrow, hel⟩ := HX.out.fut HFI.out
            have HROW := Lib.hid hrow
            have HEL := Lib.hid hel
            have HFS := Lib.hid (HFX.out.trans HFI.out)
            have HZ : Hid (w.heap.size + 2 ≤ ws.heap.size) := Lib.hid HQS.out.lt
            clear hrow hel
            generalize hrw : rowT c m S Y T k T.length = row at *
            clear hrw
            go_wp2_with (at_builtin; refine wpList_append_lies _ rfl _ _ 35 rfl (w.heap.size + 2) 22 i1 (.slice none 0 0) 1 24 Try.underlying35 hi1 hy0 hy1 hy2 rfl (by decide) _ acc.length vals rfl (row_fut HROW.out (Fut.alloc _ _)) ⟨ws.heap.size, 0, none⟩ 1 1 [.slice la row.length lc] rfl rfl (cell_one (by simp [go_sem])) (by simp [Value.oneCell']) (by omega) (by have := HAL.out; unfold maxLen; omega) (by have := HAL.out; omega) (Nat.le_trans HZ.out (RowKit.Below.size (Fut.alloc _ _))) _ rfl ?_)
            intro g8 c8 w8 hown8 hgrow8 _ _
            have FA := Fut.alloc ws (.cells #[.slice la row.length lc] 22)
            have HX8 : Hid (OwnX w8 (w.heap.size + 2) (.slice (some ⟨g8, 0, none⟩) (acc.length + 1) c8) (acc ++ [row])) := Lib.hid ⟨vals ++ [.slice la row.length lc], by rw [List.length_append]; exact hown8, (HEL.out.fut FA).cat (vals' := [.slice la row.length lc]) (zss' := [row]) ⟨rfl, fun j hj => by
              obtain rfl : j = 0 := by simp at hj; exact hj
              exact ⟨_, rfl, (HR.out.base (Nat.zero_le _)).fut FA⟩⟩ (row_fut HROW.out FA) hgrow8⟩
            have HF8 : Hid (Fut w w8) := Lib.hid (RowKit.Below.grown (HFS.out.trans FA) hgrow8 (RowKit.Below.size (HFS.out.trans FA)) fun q hq => by have := (World.ownsRow.lt HROW.out q hq).1; omega)
            have HP8 := Lib.hid ((HPS.out.fut FA).kept hgrow8 (fun q => by have := (World.ownsRow.lt HROW.out _ q).1; omega))
            have HQ8 := Lib.hid ((HQS.out.fut FA).kept hgrow8 (fun q => by have := (World.ownsRow.lt HROW.out _ q).1; omega))
            rw [← HACC.out] at HX8
            clear hown8 hgrow8 FA HROW HEL HFS HFI HR HPS HQS
            go_wp2
            go_round
            case rel => exact ⟨k + 1, by omega, by go_num, HX8, HF8, HP8, HQ8⟩
            case measure => simp [intOf]; omega
      · obtain rfl : Y.length = k := by omega
        obtain ⟨l, lc, rfl, g1, g2, g3⟩ := HX.out.listsC
        rw [List.length_map, List.length_range] at g1
        rw [List.length_map, List.length_range]
        go_wp2_with fail
        go_ret2
        exact ⟨l, lc, by simp only [List.length_map, List.length_range]; rfl, by simpa using g1, g2, g3, HFX.out⟩
  · rw [if_neg hc]
    generalize chkP r c S Y T = ck at *
    clear h hA
    have hcn : (ck != 0) = true := by simpa using hc
    go_enter Try.func19, Try.ntmps19
    go_wp2_with fail
    refine (HCK.out _ HA.out).mono ?_
    rintro _ w2 ⟨rfl, F⟩
    have HF2 := Lib.hid (HA.out.trans F)
    have HBP2 := Lib.hid (HBP.out.fut F)
    have HBQ2 := Lib.hid (HBQ.out.fut F)
    clear p0 p1 p2 q0 q1 F
    obtain ⟨_, p0, p1, p2⟩ := HBP2.out
    obtain ⟨_, q0, q1⟩ := HBQ2.out
    go_wp2_with fail
    go_ret2
    exact TupLC.nil ck HF2.out
end Go.Proofs.Ytflllkamdihfaaa
