/- read -/
import Derived.Test.YtjapconhehdcjaaSW
import Derived.Deep.DeepCutAuto
import Derived.Deep.AppendLies
namespace Go.Proofs.Ytjapconhehdcjaa
open Go.RowKit Go.Sort
/-- reads the list of a tree of a span: what comes behind it. -/
def rdI : Nat → Int → Int → List Int → Option (List Int)
  | 0, _, _, _ => none
  | _ + 1, x, y, [] => if x = y then some [] else none
  | d + 1, x, y, s :: r => if x = y then some (s :: r) else if x ≤ s ∧ s < y then (match rdI d x s r with | none => none | some r' => rdI d (s + 1) y r') else none
abbrev RdP (o : Option (List Int)) (n : Nat) (w : World) (e : Ending) (w' : World) : Prop := ∃ lb lcb, e = .returned (.tuple #[.slice lb (o.getD []).length lcb, .bool o.isSome]) ∧ (o.getD []).length ≤ lcb ∧ (o.getD []).length ≤ n ∧ IntsAt w' lb (o.getD []) ∧ Fut w w'
theorem ints_from {w : World} {b o k cap : Nat} {zs : List Int} (h : IntsAt w (some ⟨b, o, none⟩) zs) (hc : zs.length ≤ cap) : IntsAt w (some ⟨b, offK o k cap, none⟩) (zs.drop k) := fun j hj => by
  rw [List.length_drop] at hj
  obtain ⟨b', o', e, h1, h2⟩ := h (k + j) (by omega)
  simp only [Option.some.injEq, Addr.mk.injEq, and_true] at e
  obtain ⟨rfl, rfl⟩ := e
  have e2 : nth (zs.drop k) j = nth zs (k + j) := by rw [nth_eq, List.getElem?_drop, nth_eq]
  rw [e2]
  refine ⟨b, offK o k cap, rfl, h1, ?_⟩
  unfold offK
  rw [if_neg (by omega), Nat.add_assoc]
  exact h2
set_option maxRecDepth 100000 in
set_option maxHeartbeats 4000000 in
theorem read_any : ∀ (d : Nat) (x y : Int), 0 ≤ x → x ≤ y → y ≤ 100 → y - x < d → ∀ (la : Option Addr) (zs : List Int) (lc : Nat) (w : World), IntsAt w la zs → zs.length ≤ lc → zs.length ≤ 1000 →
    Calls Try.prog 75 #[spV x y, .slice la zs.length lc] w fun e w' => RdP (rdI d x y zs) zs.length w e w'
  | 0, x, y, _, _, _, h => fun _ _ _ _ _ _ _ => absurd h (by omega)
  | d + 1, x, y, hx, hxy, hy, hd => fun la zs lc w hA hlc hl => by
    have HRC := Lib.hid (fun x' y' h1 h2 h3 h4 la' zs' lc' W h5 h6 h7 => read_any d x' y' h1 h2 h3 h4 la' zs' lc' W h5 h6 h7)
    obtain ⟨W0, hW0⟩ : ∃ W0, W0 = w.alloc (.cells #[.int .i64 x, .int .i64 y] 69) := ⟨_, rfl⟩
    obtain ⟨H, hH⟩ : ∃ H, H = w.heap.size := ⟨_, rfl⟩
    have HF0 : Hid (Fut w W0) := Lib.hid (by rw [hW0]; exact Fut.alloc _ _)
    have HBX : Hid (W0.heap[H]? = some (.cells #[.int .i64 x, .int .i64 y] 69)) := Lib.hid (by rw [hH, hW0]; exact World.alloc_heap_new w _)
    have HW := Lib.hid hW0
    have HHH := Lib.hid hH
    have HIN := Lib.hid (fun W (k : Fut w W) => hA.fut k)
    have HIS := Lib.hid (fun W => isOne_any x y W)
    have hlx : (zs.length : Int) ≤ 1000 := by omega
    have HLC := Lib.hid hlc
    clear hW0 hH hA read_any hlc
    by_cases hone : x = y
    · have HIS2 : Hid (∀ W, Calls Try.prog 97 #[spV x y] W fun e w' => e = .returned (.bool true) ∧ Fut W w') := Lib.hid (fun W => by have h := HIS.out W; rw [show (x == y) = true by simpa using hone] at h; exact h)
      have HR : Hid (rdI (d + 1) x y zs = some zs) := Lib.hid (by cases zs <;> rw [rdI, if_pos hone])
      clear hone HIS
      go_enter Try.func75, Try.ntmps75
      go_upto_region 1 with fail
      rw [← HW.out, ← HHH.out]
      obtain ⟨c0, c1, _⟩ := two_cell HBX.out
      go_wp2_with fail
      refine (HIS2.out _).mono ?_
      rintro _ w1 ⟨rfl, F1⟩
      go_wp2_with fail
      go_ret2
      rw [HR.out]
      exact ⟨la, lc, rfl, HLC.out, Nat.le_refl _, HIN.out _ (HF0.out.trans F1), HF0.out.trans F1⟩
    have HIS2 : Hid (∀ W, Calls Try.prog 97 #[spV x y] W fun e w' => e = .returned (.bool false) ∧ Fut W w') := Lib.hid (fun W => by have h := HIS.out W; rw [show (x == y) = false by simpa using hone] at h; exact h)
    cases zs with
    | nil =>
      have HR : Hid (rdI (d + 1) x y [] = none) := Lib.hid (by rw [rdI, if_neg hone])
      clear hone HIS
      go_enter Try.func75, Try.ntmps75
      go_upto_region 1 with fail
      rw [← HW.out, ← HHH.out]
      obtain ⟨c0, c1, _⟩ := two_cell HBX.out
      go_wp2_with fail
      refine (HIS2.out _).mono ?_
      rintro _ w1 ⟨rfl, F1⟩
      go_upto_region 3 with fail
      have HF1 := Lib.hid (HF0.out.trans F1)
      refine region_fut (by kernel_rfl) (by kernel_rfl) ?_
      repeat (go_big_quiet_step (first | with_reducible rfl))
      refine wpQuiet_nil ?_
      intro w4 hw'
      have F4 := after_fut hw'
      clear hw'
      go_wp2_with fail
      go_ret2
      rw [HR.out]
      exact ⟨none, 0, rfl, Nat.le_refl _, Nat.le_refl _, nil_ints _ _, HF1.out.trans F4⟩
    | cons s r =>
      have HR0 : Hid (rdI (d + 1) x y (s :: r) = if x ≤ s ∧ s < y then (match rdI d x s r with | none => none | some r' => rdI d (s + 1) y r') else none) := Lib.hid (by rw [rdI, if_neg hone])
      obtain ⟨b, o, rfl, _, _⟩ := HIN.out w Fut.rfl 0 (by simp)
      have HCS : Hid (∀ W, Fut w W → W.cell? ⟨b, o, none⟩ = some (.int .i64 s)) := Lib.hid (fun W k => by
        obtain ⟨b', o', e, _, h⟩ := HIN.out W k 0 (by simp)
        simp only [Option.some.injEq, Addr.mk.injEq, and_true] at e
        obtain ⟨rfl, rfl⟩ := e
        exact h)
      have HFR : Hid (∀ W, Fut w W → IntsAt W (some ⟨b, offK o 1 lc, none⟩) r) := Lib.hid (fun W k => ints_from (k := 1) (HIN.out W k) HLC.out)
      obtain ⟨n, hn⟩ : ∃ n, n = (s :: r).length := ⟨_, rfl⟩
      have hn1 : n = r.length + 1 := by rw [hn]; rfl
      rw [← hn] at hlx ⊢
      have HLC2 : Hid (r.length + 1 ≤ lc ∧ r.length + 1 ≤ 1000 ∧ n = r.length + 1) := Lib.hid ⟨by rw [← hn1, hn]; exact HLC.out, by rw [← hn1, hn]; exact hl, hn1⟩
      have HSL : Hid (∀ W, (Instr.sliceAt 22 (.slice (some ⟨b, o, none⟩) n lc) (some (.int .i64 (1 : Int))) none none).run Try.prog W = .ok (.slice (some ⟨b, offK o 1 lc, none⟩) r.length (lc - 1)) W) := Lib.hid (fun W => by
        have h := slice_fromI b o n lc 1 (by omega) (by have := HLC2.out; omega) W
        rw [show n - 1 = r.length by omega] at h
        exact h)
      have h0x : ¬ (n : Int) = 0 := by omega
      have d1 : decide ((n : Int) = 0) = false := decide_eq_false h0x
      have d2 : decide (n = 0) = false := decide_eq_false (by omega)
      have d3 : ¬ n = 0 := by omega
      have d4 : ((n : Int) == 0) = false := by simpa using h0x
      have h0y : (0 : Int) < n := by omega
      have h0z : 0 < n := by omega
      have hl2 : r.length ≤ 1000 := by omega
      clear hone HIS hn hn1 hl HIN HLC
      obtain ⟨Dv, hDv⟩ : ∃ Dv, Dv = decide (x ≤ s ∧ s < y) := ⟨_, rfl⟩
      have HDI := Lib.hid (fun W => isDiv_any x y s W)
      rw [← hDv] at HDI
      have HDv := Lib.hid hDv
      clear hDv
      go_enter Try.func75, Try.ntmps75
      go_upto_region 1 with fail
      rw [← HW.out, ← HHH.out]
      obtain ⟨c0, c1, _⟩ := two_cell HBX.out
      go_wp2_with fail
      refine (HIS2.out _).mono ?_
      rintro _ w1 ⟨rfl, F1⟩
      go_upto_region 3 with fail
      have HF1 := Lib.hid (HF0.out.trans F1)
      have HBX1 := Lib.hid (heap_fut HBX.out F1)
      clear c0 c1 F1 HF0 HBX HW
      obtain ⟨p0, p1, _⟩ := two_cell HBX1.out
      have p2 := HCS.out w1 HF1.out
      have y0 := cell_after p0
      have y1 := cell_after p1
      have y2 := cell_after p2
      have HD2 := Lib.hid (fun p : After w1 => HDI.out p.w')
      refine region_fut (by kernel_rfl) (by kernel_rfl) ?_
      repeat (go_big_quiet_step (first | with_reducible rfl | (with_reducible (go_at_call 98; rename_i p; exact after_of (HD2.out p)))))
      refine wpQuiet_nil ?_
      intro w4 hw'
      have F4 := after_fut hw'
      have HF4 := Lib.hid (HF1.out.trans F4)
      have HBX4 := Lib.hid (heap_fut HBX1.out F4)
      clear hw' F4 y0 y1 y2 p0 p1 p2 HD2 HDI HBX1 HF1
      cases hDb : Dv with
      | false =>
        have HR : Hid (rdI (d + 1) x y (s :: r) = none) := Lib.hid (by
          have h := HDv.out
          rw [hDb] at h
          rw [HR0.out, if_neg (of_decide_eq_false h.symm)])
        subst hDb
        go_wp2_with fail
        go_ret2
        rw [HR.out]
        exact ⟨none, 0, rfl, Nat.le_refl _, by simp, nil_ints _ _, HF4.out⟩
      | true =>
        have hxs : x ≤ s ∧ s < y := by have h := HDv.out; rw [hDb] at h; exact of_decide_eq_true h.symm
        have HR : Hid (rdI (d + 1) x y (s :: r) = (match rdI d x s r with | none => none | some r' => rdI d (s + 1) y r')) := Lib.hid (by rw [HR0.out, if_pos hxs])
        clear HDv
        subst hDb
        have HPT := Lib.hid (fun W => parts_any x y s ⟨by omega, by omega⟩ W)
        have HFD : Hid (Fut w w4.drew) := Lib.hid (HF4.out.trans (below_drewN Fut.rfl 1))
        have keep : ∀ v, Fut w4.drew v → (v.cell? ⟨H, 0, none⟩ = some (.int .i64 x) ∧ v.cell? ⟨H, 1, none⟩ = some (.int .i64 y)) ∧ v.cell? ⟨b, o, none⟩ = some (.int .i64 s) := fun v k => by
          obtain ⟨m1, m2, _⟩ := two_cell (heap_fut HBX4.out ((below_drewN Fut.rfl 1 : Fut w4 w4.drew).trans k))
          exact ⟨⟨m1, m2⟩, HCS.out v (HFD.out.trans k)⟩
        go_upto_region 5 with fail
        refine wp_region_held_drew (S := (fun w' => (w'.cell? ⟨H, 0, none⟩ = some (.int .i64 x) ∧ w'.cell? ⟨H, 1, none⟩ = some (.int .i64 y)) ∧ w'.cell? ⟨b, o, none⟩ = some (.int .i64 s))) (by kernel_rfl) ?_ (fun hHeld => ?_)
        · exact keep _ Fut.rfl
        generalize w4.drew = u0 at *
        refine wpAnyH_take (i := 0) (oi := { dst := some 23, op := Op.load 69 (Operand.tmp 2), type := 69, pos := "span.go:62", after := #[], guard := none }) (v := ?_) rfl (by kernel_rfl) (by kernel_rfl) (by kernel_rfl) (fun _ _ _ h => h) (Or.inl ⟨by rfl, ?_⟩) (by assumption) ?_
        rotate_left
        · (intro w hSw; obtain ⟨⟨s0, s1⟩, s2⟩ := hSw; go_simp <;> with_reducible rfl)
        try simp only [Act.put, List.setIfInBounds_toArray, List.set_cons_zero, List.set_cons_succ]
        refine wpAnyH_take (i := 1) (oi := { dst := some 24, op := Op.move (Operand.tmp 1), type := 22, pos := "span.go:62", after := #[], guard := none }) (v := ?_) rfl (by kernel_rfl) (by kernel_rfl) (by kernel_rfl) (fun _ _ _ h => h) (Or.inl ⟨by rfl, ?_⟩) (by assumption) ?_
        rotate_left
        · (intro w hSw; obtain ⟨⟨s0, s1⟩, s2⟩ := hSw; go_simp <;> with_reducible rfl)
        try simp only [Act.put, List.setIfInBounds_toArray, List.set_cons_zero, List.set_cons_succ]
        refine wpAnyH_take (i := 2) (oi := { dst := some 25, op := Op.indexAddr 22 (Operand.tmp 24) (Operand.const (Value.int IntKind.i64 0)), type := 0, pos := "span.go:62", after := #[{ on := 1, ground := Ground.data }], guard := none }) (v := ?_) rfl (by kernel_rfl) (by kernel_rfl) (by kernel_rfl) (fun _ _ _ h => h) (Or.inl ⟨by rfl, ?_⟩) (by assumption) ?_
        rotate_left
        · (intro w hSw; obtain ⟨⟨s0, s1⟩, s2⟩ := hSw; go_simp <;> with_reducible rfl)
        try simp only [Act.put, List.setIfInBounds_toArray, List.set_cons_zero, List.set_cons_succ]
        refine wpAnyH_take (i := 3) (oi := { dst := some 26, op := Op.load 3 (Operand.tmp 25), type := 3, pos := "span.go:62", after := #[{ on := 2, ground := Ground.data }], guard := none }) (v := ?_) rfl (by kernel_rfl) (by kernel_rfl) (by kernel_rfl) (fun _ _ _ h => h) (Or.inl ⟨by rfl, ?_⟩) (by assumption) ?_
        rotate_left
        · (intro w hSw; obtain ⟨⟨s0, s1⟩, s2⟩ := hSw; go_simp <;> with_reducible rfl)
        try simp only [Act.put, List.setIfInBounds_toArray, List.set_cons_zero, List.set_cons_succ]
        refine wpAnyH_ready (rs := [4, 8, 9]) (by kernel_rfl) (by simp) ?_
        refine AllReadyH.cons (o := { dst := some 27, op := Op.call { callee := Callee.value (Operand.func 95), args := #[Operand.tmp 23, Operand.tmp 26], argTypes := #[69, 3] }, type := 110, pos := "span.go:62", after := #[{ on := 0, ground := Ground.data }, { on := 3, ground := Ground.data }], guard := none }) rfl (fun K hK => ?_) (AllReadyH.cons (o := { dst := some 6, op := Op.alloc 69, type := 0, pos := "span.go:62", after := #[], guard := none }) rfl (fun K hK => ?_) (AllReadyH.cons (o := { dst := some 7, op := Op.alloc 69, type := 0, pos := "span.go:62", after := #[], guard := none }) rfl (fun K hK => ?_) (AllReadyH.nil)))
        · go_simp
          go_at_call 95
          refine (HPT.out u0).mono ?_
          rintro _ v4 ⟨rfl, T4⟩
          have G4 := Lib.hid ((Fut.rfl).trans T4)
          replace T4 := Lib.hid T4
          try go_wp2_with fail
          refine hK.out _ _ ?_ (fun hHeld => ?_)
          · exact keep _ G4.out
          clear hK K
          try simp only [Act.put, List.setIfInBounds_toArray, List.set_cons_zero, List.set_cons_succ]
          refine wpAnyH_take (i := 5) (oi := { dst := some 22, op := Op.move (Operand.tmp 27), type := 110, pos := "span.go:62", after := #[{ on := 4, ground := Ground.data }], guard := none }) (v := ?_) rfl (by kernel_rfl) (by kernel_rfl) (by kernel_rfl) (fun _ _ _ h => h) (Or.inl ⟨by rfl, ?_⟩) (by assumption) ?_
          rotate_left
          · (intro w hSw; obtain ⟨⟨s0, s1⟩, s2⟩ := hSw; go_simp <;> with_reducible rfl)
          try simp only [Act.put, List.setIfInBounds_toArray, List.set_cons_zero, List.set_cons_succ]
          refine wpAnyH_take (i := 6) (oi := { dst := some 28, op := Op.extract (Operand.tmp 22) 0, type := 69, pos := "span.go:62", after := #[{ on := 5, ground := Ground.data }], guard := none }) (v := ?_) rfl (by kernel_rfl) (by kernel_rfl) (by kernel_rfl) (fun _ _ _ h => h) (Or.inl ⟨by rfl, ?_⟩) (by assumption) ?_
          rotate_left
          · (intro w hSw; obtain ⟨⟨s0, s1⟩, s2⟩ := hSw; go_simp <;> with_reducible rfl)
          try simp only [Act.put, List.setIfInBounds_toArray, List.set_cons_zero, List.set_cons_succ]
          refine wpAnyH_take (i := 7) (oi := { dst := some 29, op := Op.extract (Operand.tmp 22) 1, type := 69, pos := "span.go:62", after := #[{ on := 5, ground := Ground.data }, { on := 10, ground := Ground.gcOnly Departure.lateStores }], guard := none }) (v := ?_) rfl (by kernel_rfl) (by kernel_rfl) (by kernel_rfl) (fun _ _ _ h => h) (Or.inl ⟨by rfl, ?_⟩) (by assumption) ?_
          rotate_left
          · (intro w hSw; obtain ⟨⟨s0, s1⟩, s2⟩ := hSw; go_simp <;> with_reducible rfl)
          try simp only [Act.put, List.setIfInBounds_toArray, List.set_cons_zero, List.set_cons_succ]
          refine wpAnyH_ready (rs := [8, 9]) (by kernel_rfl) (by simp) ?_
          refine AllReadyH.cons (o := { dst := some 6, op := Op.alloc 69, type := 0, pos := "span.go:62", after := #[], guard := none }) rfl (fun K hK => ?_) (AllReadyH.cons (o := { dst := some 7, op := Op.alloc 69, type := 0, pos := "span.go:62", after := #[], guard := none }) rfl (fun K hK => ?_) (AllReadyH.nil))
          · go_simp
            obtain ⟨v8, hv8⟩ : ∃ W, W = v4.alloc (.cells #[.int .i64 0, .int .i64 0] 69) := ⟨_, rfl⟩
            have T8 : Hid (Fut v4 v8) := Lib.hid (by rw [hv8]; exact Fut.alloc _ _)
            have G8 : Hid (Fut u0 v8) := Lib.hid ((G4.out).trans T8.out)
            have N8 : Hid (v8.heap[v4.heap.size]? = some (.cells #[.int .i64 0, .int .i64 0] 69)) := Lib.hid (by rw [hv8]; exact World.alloc_heap_new v4 _)
            obtain ⟨a8, ha8⟩ : ∃ s, s = v4.heap.size := ⟨_, rfl⟩
            have Z8 : Hid (u0.heap.size ≤ a8 ∧ a8 < v8.heap.size) := Lib.hid (by rw [ha8]; exact ⟨RowKit.Below.size (G4.out : Fut u0 v4), by rw [hv8, World.size_alloc]; omega⟩)
            rw [← hv8]
            rw [← ha8] at N8 ⊢
            clear hv8 ha8
            refine hK.out _ _ ?_ (fun hHeld => ?_)
            · exact keep _ G8.out
            clear hK K
            try simp only [Act.put, List.setIfInBounds_toArray, List.set_cons_zero, List.set_cons_succ]
            refine wpAnyH_ready (rs := [9]) (by kernel_rfl) (by simp) ?_
            refine AllReadyH.cons (o := { dst := some 7, op := Op.alloc 69, type := 0, pos := "span.go:62", after := #[], guard := none }) rfl (fun K hK => ?_) AllReadyH.nil
            go_simp
            obtain ⟨v9, hv9⟩ : ∃ W, W = v8.alloc (.cells #[.int .i64 0, .int .i64 0] 69) := ⟨_, rfl⟩
            have T9 : Hid (Fut v8 v9) := Lib.hid (by rw [hv9]; exact Fut.alloc _ _)
            have G9 : Hid (Fut u0 v9) := Lib.hid ((G8.out).trans T9.out)
            have N9 : Hid (v9.heap[v8.heap.size]? = some (.cells #[.int .i64 0, .int .i64 0] 69)) := Lib.hid (by rw [hv9]; exact World.alloc_heap_new v8 _)
            obtain ⟨a9, ha9⟩ : ∃ s, s = v8.heap.size := ⟨_, rfl⟩
            have Z9 : Hid (u0.heap.size ≤ a9 ∧ a9 < v9.heap.size) := Lib.hid (by rw [ha9]; exact ⟨RowKit.Below.size (G8.out : Fut u0 v8), by rw [hv9, World.size_alloc]; omega⟩)
            rw [← hv9]
            rw [← ha9] at N9 ⊢
            have NE : Hid (a8 ≠ a9) := Lib.hid (by rw [ha9]; have e1 := Z8.out.2; have e2 : v8.heap.size ≤ v8.heap.size := RowKit.Below.size (Fut.rfl : Fut v8 v8); omega)
            clear hv9 ha9
            refine hK.out _ _ ?_ (fun hHeld => ?_)
            · exact keep _ G9.out
            clear hK K
            try simp only [Act.put, List.setIfInBounds_toArray, List.set_cons_zero, List.set_cons_succ]
            refine wpAnyH_ready (rs := [10]) (by kernel_rfl) (by simp) ?_
            refine AllReadyH.cons (o := { dst := none, op := Op.store 69 (Operand.tmp 6) (Operand.tmp 28), type := 0, pos := "span.go:62", after := #[{ on := 8, ground := Ground.data }, { on := 6, ground := Ground.data }, { on := 4, ground := Ground.chain }, { on := 0, ground := Ground.phase }, { on := 1, ground := Ground.phase }, { on := 2, ground := Ground.phase }, { on := 3, ground := Ground.phase }, { on := 4, ground := Ground.phase }, { on := 5, ground := Ground.phase }, { on := 6, ground := Ground.phase }, { on := 7, ground := Ground.textOnly Departure.lateStores }, { on := 8, ground := Ground.phase }, { on := 9, ground := Ground.phase }], guard := none }) rfl (fun K hK => ?_) AllReadyH.nil
            obtain ⟨⟨y1, y2⟩, ⟨y3, y4⟩, y5⟩ := set2_both (.int .i64 x) (.int .i64 s) (heap_fut N8.out (T9.out))
            have P8 := Lib.hid y5
            have P9 := Lib.hid (heap_kept (heap_kept (heap_fut N9.out (Fut.rfl)) (set_grown v9 a8 0 (.int .i64 x)) (fun e => NE.out (Option.some.inj e))) (set_grown (v9.setCell ⟨a8, 0, none⟩ (.int .i64 x)) a8 1 (.int .i64 s)) (fun e => NE.out (Option.some.inj e)))
            have G10 : Hid (Fut u0 ((v9.setCell ⟨a8, 0, none⟩ (.int .i64 x)).setCell ⟨a8, 1, none⟩ (.int .i64 s))) := Lib.hid (RowKit.Below.setCell (p := ⟨a8, 1, none⟩) (RowKit.Below.setCell (p := ⟨a8, 0, none⟩) (G9.out) Z8.out.1 _) Z8.out.1 _)
            go_simp
            clear y1 y2 y3 y4 y5
            generalize (v9.setCell ⟨a8, 0, none⟩ (.int .i64 x)).setCell ⟨a8, 1, none⟩ (.int .i64 s) = v10 at *
            refine hK.out _ _ ?_ (fun hHeld => ?_)
            · exact keep _ G10.out
            clear hK K
            try simp only [Act.put, List.setIfInBounds_toArray, List.set_cons_zero, List.set_cons_succ]
            refine wpAnyH_ready (rs := [11]) (by kernel_rfl) (by simp) ?_
            refine AllReadyH.cons (o := { dst := none, op := Op.store 69 (Operand.tmp 7) (Operand.tmp 29), type := 0, pos := "span.go:62", after := #[{ on := 9, ground := Ground.data }, { on := 7, ground := Ground.data }, { on := 10, ground := Ground.chain }, { on := 0, ground := Ground.phase }, { on := 1, ground := Ground.phase }, { on := 2, ground := Ground.phase }, { on := 3, ground := Ground.phase }, { on := 4, ground := Ground.phase }, { on := 5, ground := Ground.phase }, { on := 6, ground := Ground.phase }, { on := 7, ground := Ground.phase }, { on := 8, ground := Ground.phase }, { on := 9, ground := Ground.phase }, { on := 10, ground := Ground.phase }], guard := none }) rfl (fun K hK => ?_) AllReadyH.nil
            obtain ⟨⟨y1, y2⟩, ⟨y3, y4⟩, y5⟩ := set2_both (.int .i64 (s + 1)) (.int .i64 y) P9.out
            have Q9 := Lib.hid y5
            have Q8 := Lib.hid (heap_kept (heap_kept P8.out (set_grown v10 a9 0 (.int .i64 (s + 1))) (fun e => NE.out (Option.some.inj e).symm)) (set_grown (v10.setCell ⟨a9, 0, none⟩ (.int .i64 (s + 1))) a9 1 (.int .i64 y)) (fun e => NE.out (Option.some.inj e).symm))
            have G11 : Hid (Fut u0 ((v10.setCell ⟨a9, 0, none⟩ (.int .i64 (s + 1))).setCell ⟨a9, 1, none⟩ (.int .i64 y))) := Lib.hid (RowKit.Below.setCell (p := ⟨a9, 1, none⟩) (RowKit.Below.setCell (p := ⟨a9, 0, none⟩) G10.out Z9.out.1 _) Z9.out.1 _)
            go_simp
            clear y1 y2 y3 y4 y5 P8 P9
            generalize (v10.setCell ⟨a9, 0, none⟩ (.int .i64 (s + 1))).setCell ⟨a9, 1, none⟩ (.int .i64 y) = v11 at *
            refine hK.out _ _ ?_ (fun hHeld => ?_)
            · exact keep _ G11.out
            clear hK K
            try simp only [Act.put, List.setIfInBounds_toArray, List.set_cons_zero, List.set_cons_succ]
            refine wpAnyH_done (by kernel_rfl) ?_ _
            go_upto_region 6 with fail
            have HFu : Hid (Fut w v11.drew) := Lib.hid ((HFD.out.trans G11.out).trans (below_drewN Fut.rfl 1))
            have R8 : Hid (v11.drew.heap[a8]? = some (.cells #[.int .i64 x, .int .i64 s] 69)) := Lib.hid (heap_fut Q8.out (below_drewN Fut.rfl 1 : Fut v11 v11.drew))
            have R9 : Hid (v11.drew.heap[a9]? = some (.cells #[.int .i64 (s + 1), .int .i64 y] 69)) := Lib.hid (heap_fut Q9.out (below_drewN Fut.rfl 1 : Fut v11 v11.drew))
            have HC1 : Hid (∀ W, Fut v11.drew W → Calls Try.prog 75 #[spV x s, .slice (some ⟨b, offK o 1 lc, none⟩) r.length (lc - 1)] W fun e w' => RdP (rdI d x s r) r.length W e w') := Lib.hid (fun W k => HRC.out x s hx hxs.1 (by omega) (by omega) _ r (lc - 1) W (HFR.out W (HFu.out.trans k)) (by have := HLC2.out; omega) hl2)
            have hsl := HSL.out
            clear Q8 Q9 G11
            refine wp_region_held_drew (S := (fun w' => w'.cell? ⟨a8, 0, none⟩ = some (.int .i64 x) ∧ w'.cell? ⟨a8, 1, none⟩ = some (.int .i64 s))) (by kernel_rfl) ?_ (fun hHeld => ?_)
            · exact ⟨(two_cell R8.out).1, (two_cell R8.out).2.1⟩
            generalize v11.drew = u1 at *
            refine wpAnyH_take (i := 0) (oi := { dst := some 31, op := Op.load 69 (Operand.tmp 6), type := 69, pos := "span.go:63", after := #[], guard := none }) (v := ?_) rfl (by kernel_rfl) (by kernel_rfl) (by kernel_rfl) (fun _ _ _ h => h) (Or.inl ⟨by rfl, ?_⟩) (by assumption) ?_
            rotate_left
            · (intro w hSw; obtain ⟨s0, s1⟩ := hSw; go_simp <;> with_reducible rfl)
            try simp only [Act.put, List.setIfInBounds_toArray, List.set_cons_zero, List.set_cons_succ]
            refine wpAnyH_take (i := 1) (oi := { dst := some 32, op := Op.move (Operand.tmp 1), type := 22, pos := "span.go:63", after := #[], guard := none }) (v := ?_) rfl (by kernel_rfl) (by kernel_rfl) (by kernel_rfl) (fun _ _ _ h => h) (Or.inl ⟨by rfl, ?_⟩) (by assumption) ?_
            rotate_left
            · (intro w hSw; obtain ⟨s0, s1⟩ := hSw; go_simp <;> with_reducible rfl)
            try simp only [Act.put, List.setIfInBounds_toArray, List.set_cons_zero, List.set_cons_succ]
            refine wpAnyH_take (i := 2) (oi := { dst := some 33, op := Op.slice 22 (Operand.tmp 32) (some (Operand.const (Value.int IntKind.i64 1))) none none, type := 22, pos := "span.go:63", after := #[{ on := 1, ground := Ground.data }], guard := none }) (v := ?_) rfl (by kernel_rfl) (by kernel_rfl) (by kernel_rfl) (fun _ _ _ h => h) (Or.inl ⟨by rfl, ?_⟩) (by assumption) ?_
            rotate_left
            · (intro w hSw; obtain ⟨s0, s1⟩ := hSw; go_simp <;> with_reducible rfl)
            try simp only [Act.put, List.setIfInBounds_toArray, List.set_cons_zero, List.set_cons_succ]
            refine wpAnyH_ready (rs := [3]) (by kernel_rfl) (by simp) ?_
            refine AllReadyH.cons (o := { dst := some 34, op := Op.call { callee := Callee.value (Operand.func 75), args := #[Operand.tmp 31, Operand.tmp 33], argTypes := #[69, 22] }, type := 89, pos := "span.go:63", after := #[{ on := 0, ground := Ground.data }, { on := 2, ground := Ground.data }], guard := none }) rfl (fun K hK => ?_) AllReadyH.nil
            go_simp
            go_at_call 75
            refine (HC1.out u1 Fut.rfl).mono ?_
            rintro _ v12 ⟨lb, lcb, rfl, hR1, hR2, hI, T12⟩
            have G12 := Lib.hid T12
            have I12 := Lib.hid hI
            clear T12 hI
            try go_wp2_with fail
            refine hK.out _ _ ?_ (fun hHeld => ?_)
            · exact ⟨(two_cell (heap_fut R8.out G12.out)).1, (two_cell (heap_fut R8.out G12.out)).2.1⟩
            clear hK K
            try simp only [Act.put, List.setIfInBounds_toArray, List.set_cons_zero, List.set_cons_succ]
            refine wpAnyH_take (i := 4) (oi := { dst := some 30, op := Op.move (Operand.tmp 34), type := 89, pos := "span.go:63", after := #[{ on := 3, ground := Ground.data }], guard := none }) (v := ?_) rfl (by kernel_rfl) (by kernel_rfl) (by kernel_rfl) (fun _ _ _ h => h) (Or.inl ⟨by rfl, ?_⟩) (by assumption) ?_
            rotate_left
            · (intro w hSw; obtain ⟨s0, s1⟩ := hSw; go_simp <;> with_reducible rfl)
            try simp only [Act.put, List.setIfInBounds_toArray, List.set_cons_zero, List.set_cons_succ]
            refine wpAnyH_take (i := 5) (oi := { dst := some 35, op := Op.extract (Operand.tmp 30) 0, type := 22, pos := "span.go:63", after := #[{ on := 4, ground := Ground.data }], guard := none }) (v := ?_) rfl (by kernel_rfl) (by kernel_rfl) (by kernel_rfl) (fun _ _ _ h => h) (Or.inl ⟨by rfl, ?_⟩) (by assumption) ?_
            rotate_left
            · (intro w hSw; obtain ⟨s0, s1⟩ := hSw; go_simp <;> with_reducible rfl)
            try simp only [Act.put, List.setIfInBounds_toArray, List.set_cons_zero, List.set_cons_succ]
            refine wpAnyH_take (i := 6) (oi := { dst := some 36, op := Op.extract (Operand.tmp 30) 1, type := 4, pos := "span.go:63", after := #[{ on := 4, ground := Ground.data }, { on := 7, ground := Ground.gcOnly Departure.lateStores }], guard := none }) (v := ?_) rfl (by kernel_rfl) (by kernel_rfl) (by kernel_rfl) (fun _ _ _ h => h) (Or.inl ⟨by rfl, ?_⟩) (by assumption) ?_
            rotate_left
            · (intro w hSw; obtain ⟨s0, s1⟩ := hSw; go_simp <;> with_reducible rfl)
            try simp only [Act.put, List.setIfInBounds_toArray, List.set_cons_zero, List.set_cons_succ]
            refine wpAnyH_ready (rs := [7]) (by kernel_rfl) (by simp) ?_
            refine AllReadyH.cons (o := { dst := some 4, op := Op.assign (Operand.tmp 35), type := 22, pos := "span.go:63", after := #[{ on := 5, ground := Ground.data }, { on := 3, ground := Ground.chain }, { on := 0, ground := Ground.phase }, { on := 1, ground := Ground.phase }, { on := 2, ground := Ground.phase }, { on := 3, ground := Ground.phase }, { on := 4, ground := Ground.phase }, { on := 5, ground := Ground.phase }, { on := 6, ground := Ground.textOnly Departure.lateStores }], guard := none }) rfl (fun K hK => ?_) AllReadyH.nil
            go_simp
            refine hK.out _ _ ?_ (fun hHeld => ?_)
            · exact ⟨(two_cell (heap_fut R8.out G12.out)).1, (two_cell (heap_fut R8.out G12.out)).2.1⟩
            clear hK K
            try simp only [Act.put, List.setIfInBounds_toArray, List.set_cons_zero, List.set_cons_succ]
            refine wpAnyH_ready (rs := [8]) (by kernel_rfl) (by simp) ?_
            refine AllReadyH.cons (o := { dst := some 5, op := Op.assign (Operand.tmp 36), type := 4, pos := "span.go:63", after := #[{ on := 6, ground := Ground.data }, { on := 7, ground := Ground.chain }, { on := 0, ground := Ground.phase }, { on := 1, ground := Ground.phase }, { on := 2, ground := Ground.phase }, { on := 3, ground := Ground.phase }, { on := 4, ground := Ground.phase }, { on := 5, ground := Ground.phase }, { on := 6, ground := Ground.phase }, { on := 7, ground := Ground.phase }], guard := none }) rfl (fun K hK => ?_) AllReadyH.nil
            go_simp
            refine hK.out _ _ ?_ (fun hHeld => ?_)
            · exact ⟨(two_cell (heap_fut R8.out G12.out)).1, (two_cell (heap_fut R8.out G12.out)).2.1⟩
            clear hK K
            try simp only [Act.put, List.setIfInBounds_toArray, List.set_cons_zero, List.set_cons_succ]
            refine wpAnyH_done (by kernel_rfl) ?_ _
            cases hrd : rdI d x s r with
            | none =>
              have HRN : Hid (rdI (d + 1) x y (s :: r) = none) := Lib.hid (by rw [HR.out, hrd])
              rw [hrd] at hR1 hR2 I12
              simp only [Option.getD_none, Option.isSome_none, List.length_nil]
              go_wp2_with fail
              go_ret2
              rw [HRN.out]
              exact ⟨none, 0, rfl, Nat.le_refl _, by simp, nil_ints _ _, HFu.out.trans G12.out⟩
            | some r' =>
              have HRN : Hid (rdI (d + 1) x y (s :: r) = rdI d (s + 1) y r') := Lib.hid (by rw [HR.out, hrd])
              rw [hrd] at hR1 hR2 I12
              simp only [Option.getD_some, Option.isSome_some] at hR1 hR2 I12 ⊢
              have HC2 : Hid (∀ W, Fut v12 W → Calls Try.prog 75 #[spV (s + 1) y, .slice lb r'.length lcb] W fun e w' => RdP (rdI d (s + 1) y r') r'.length W e w') := Lib.hid (fun W k => HRC.out (s + 1) y (by omega) (by omega) hy (by omega) lb r' lcb W (I12.out.fut k) hR1 (by omega))
              obtain ⟨z0, z1, _⟩ := two_cell (heap_fut R9.out G12.out)
              go_wp2_with fail
              refine (HC2.out _ Fut.rfl).mono ?_
              rintro _ v13 ⟨lb3, lcb3, rfl, hR3, hR4, hI3, T13⟩
              have I13 := Lib.hid hI3
              have G13 := Lib.hid T13
              clear hI3 T13
              go_wp2_with fail
              go_ret2
              rw [HRN.out]
              exact ⟨lb3, lcb3, rfl, hR3, by have := HLC2.out; omega, I13.out, (HFu.out.trans G12.out).trans G13.out⟩
          · go_simp
            obtain ⟨v9, hv9⟩ : ∃ W, W = v4.alloc (.cells #[.int .i64 0, .int .i64 0] 69) := ⟨_, rfl⟩
            have T9 : Hid (Fut v4 v9) := Lib.hid (by rw [hv9]; exact Fut.alloc _ _)
            have G9 : Hid (Fut u0 v9) := Lib.hid ((G4.out).trans T9.out)
            have N9 : Hid (v9.heap[v4.heap.size]? = some (.cells #[.int .i64 0, .int .i64 0] 69)) := Lib.hid (by rw [hv9]; exact World.alloc_heap_new v4 _)
            obtain ⟨a9, ha9⟩ : ∃ s, s = v4.heap.size := ⟨_, rfl⟩
            have Z9 : Hid (u0.heap.size ≤ a9 ∧ a9 < v9.heap.size) := Lib.hid (by rw [ha9]; exact ⟨RowKit.Below.size (G4.out : Fut u0 v4), by rw [hv9, World.size_alloc]; omega⟩)
            rw [← hv9]
            rw [← ha9] at N9 ⊢
            clear hv9 ha9
            refine hK.out _ _ ?_ (fun hHeld => ?_)
            · exact keep _ G9.out
            clear hK K
            try simp only [Act.put, List.setIfInBounds_toArray, List.set_cons_zero, List.set_cons_succ]
            refine wpAnyH_ready (rs := [8]) (by kernel_rfl) (by simp) ?_
            refine AllReadyH.cons (o := { dst := some 6, op := Op.alloc 69, type := 0, pos := "span.go:62", after := #[], guard := none }) rfl (fun K hK => ?_) AllReadyH.nil
            go_simp
            obtain ⟨v8, hv8⟩ : ∃ W, W = v9.alloc (.cells #[.int .i64 0, .int .i64 0] 69) := ⟨_, rfl⟩
            have T8 : Hid (Fut v9 v8) := Lib.hid (by rw [hv8]; exact Fut.alloc _ _)
            have G8 : Hid (Fut u0 v8) := Lib.hid ((G9.out).trans T8.out)
            have N8 : Hid (v8.heap[v9.heap.size]? = some (.cells #[.int .i64 0, .int .i64 0] 69)) := Lib.hid (by rw [hv8]; exact World.alloc_heap_new v9 _)
            obtain ⟨a8, ha8⟩ : ∃ s, s = v9.heap.size := ⟨_, rfl⟩
            have Z8 : Hid (u0.heap.size ≤ a8 ∧ a8 < v8.heap.size) := Lib.hid (by rw [ha8]; exact ⟨RowKit.Below.size (G9.out : Fut u0 v9), by rw [hv8, World.size_alloc]; omega⟩)
            rw [← hv8]
            rw [← ha8] at N8 ⊢
            have NE : Hid (a8 ≠ a9) := Lib.hid (by rw [ha8]; have e1 := Z9.out.2; have e2 : v9.heap.size ≤ v9.heap.size := RowKit.Below.size (Fut.rfl : Fut v9 v9); omega)
            clear hv8 ha8
            refine hK.out _ _ ?_ (fun hHeld => ?_)
            · exact keep _ G8.out
            clear hK K
            try simp only [Act.put, List.setIfInBounds_toArray, List.set_cons_zero, List.set_cons_succ]
            refine wpAnyH_ready (rs := [10]) (by kernel_rfl) (by simp) ?_
            refine AllReadyH.cons (o := { dst := none, op := Op.store 69 (Operand.tmp 6) (Operand.tmp 28), type := 0, pos := "span.go:62", after := #[{ on := 8, ground := Ground.data }, { on := 6, ground := Ground.data }, { on := 4, ground := Ground.chain }, { on := 0, ground := Ground.phase }, { on := 1, ground := Ground.phase }, { on := 2, ground := Ground.phase }, { on := 3, ground := Ground.phase }, { on := 4, ground := Ground.phase }, { on := 5, ground := Ground.phase }, { on := 6, ground := Ground.phase }, { on := 7, ground := Ground.textOnly Departure.lateStores }, { on := 8, ground := Ground.phase }, { on := 9, ground := Ground.phase }], guard := none }) rfl (fun K hK => ?_) AllReadyH.nil
            obtain ⟨⟨y1, y2⟩, ⟨y3, y4⟩, y5⟩ := set2_both (.int .i64 x) (.int .i64 s) (heap_fut N8.out (Fut.rfl))
            have P8 := Lib.hid y5
            have P9 := Lib.hid (heap_kept (heap_kept (heap_fut N9.out (T8.out)) (set_grown v8 a8 0 (.int .i64 x)) (fun e => NE.out (Option.some.inj e))) (set_grown (v8.setCell ⟨a8, 0, none⟩ (.int .i64 x)) a8 1 (.int .i64 s)) (fun e => NE.out (Option.some.inj e)))
            have G10 : Hid (Fut u0 ((v8.setCell ⟨a8, 0, none⟩ (.int .i64 x)).setCell ⟨a8, 1, none⟩ (.int .i64 s))) := Lib.hid (RowKit.Below.setCell (p := ⟨a8, 1, none⟩) (RowKit.Below.setCell (p := ⟨a8, 0, none⟩) (G8.out) Z8.out.1 _) Z8.out.1 _)
            go_simp
            clear y1 y2 y3 y4 y5
            generalize (v8.setCell ⟨a8, 0, none⟩ (.int .i64 x)).setCell ⟨a8, 1, none⟩ (.int .i64 s) = v10 at *
            refine hK.out _ _ ?_ (fun hHeld => ?_)
            · exact keep _ G10.out
            clear hK K
            try simp only [Act.put, List.setIfInBounds_toArray, List.set_cons_zero, List.set_cons_succ]
            refine wpAnyH_ready (rs := [11]) (by kernel_rfl) (by simp) ?_
            refine AllReadyH.cons (o := { dst := none, op := Op.store 69 (Operand.tmp 7) (Operand.tmp 29), type := 0, pos := "span.go:62", after := #[{ on := 9, ground := Ground.data }, { on := 7, ground := Ground.data }, { on := 10, ground := Ground.chain }, { on := 0, ground := Ground.phase }, { on := 1, ground := Ground.phase }, { on := 2, ground := Ground.phase }, { on := 3, ground := Ground.phase }, { on := 4, ground := Ground.phase }, { on := 5, ground := Ground.phase }, { on := 6, ground := Ground.phase }, { on := 7, ground := Ground.phase }, { on := 8, ground := Ground.phase }, { on := 9, ground := Ground.phase }, { on := 10, ground := Ground.phase }], guard := none }) rfl (fun K hK => ?_) AllReadyH.nil
            obtain ⟨⟨y1, y2⟩, ⟨y3, y4⟩, y5⟩ := set2_both (.int .i64 (s + 1)) (.int .i64 y) P9.out
            have Q9 := Lib.hid y5
            have Q8 := Lib.hid (heap_kept (heap_kept P8.out (set_grown v10 a9 0 (.int .i64 (s + 1))) (fun e => NE.out (Option.some.inj e).symm)) (set_grown (v10.setCell ⟨a9, 0, none⟩ (.int .i64 (s + 1))) a9 1 (.int .i64 y)) (fun e => NE.out (Option.some.inj e).symm))
            have G11 : Hid (Fut u0 ((v10.setCell ⟨a9, 0, none⟩ (.int .i64 (s + 1))).setCell ⟨a9, 1, none⟩ (.int .i64 y))) := Lib.hid (RowKit.Below.setCell (p := ⟨a9, 1, none⟩) (RowKit.Below.setCell (p := ⟨a9, 0, none⟩) G10.out Z9.out.1 _) Z9.out.1 _)
            go_simp
            clear y1 y2 y3 y4 y5 P8 P9
            generalize (v10.setCell ⟨a9, 0, none⟩ (.int .i64 (s + 1))).setCell ⟨a9, 1, none⟩ (.int .i64 y) = v11 at *
            refine hK.out _ _ ?_ (fun hHeld => ?_)
            · exact keep _ G11.out
            clear hK K
            try simp only [Act.put, List.setIfInBounds_toArray, List.set_cons_zero, List.set_cons_succ]
            refine wpAnyH_done (by kernel_rfl) ?_ _
            go_upto_region 6 with fail
            have HFu : Hid (Fut w v11.drew) := Lib.hid ((HFD.out.trans G11.out).trans (below_drewN Fut.rfl 1))
            have R8 : Hid (v11.drew.heap[a8]? = some (.cells #[.int .i64 x, .int .i64 s] 69)) := Lib.hid (heap_fut Q8.out (below_drewN Fut.rfl 1 : Fut v11 v11.drew))
            have R9 : Hid (v11.drew.heap[a9]? = some (.cells #[.int .i64 (s + 1), .int .i64 y] 69)) := Lib.hid (heap_fut Q9.out (below_drewN Fut.rfl 1 : Fut v11 v11.drew))
            have HC1 : Hid (∀ W, Fut v11.drew W → Calls Try.prog 75 #[spV x s, .slice (some ⟨b, offK o 1 lc, none⟩) r.length (lc - 1)] W fun e w' => RdP (rdI d x s r) r.length W e w') := Lib.hid (fun W k => HRC.out x s hx hxs.1 (by omega) (by omega) _ r (lc - 1) W (HFR.out W (HFu.out.trans k)) (by have := HLC2.out; omega) hl2)
            have hsl := HSL.out
            clear Q8 Q9 G11
            refine wp_region_held_drew (S := (fun w' => w'.cell? ⟨a8, 0, none⟩ = some (.int .i64 x) ∧ w'.cell? ⟨a8, 1, none⟩ = some (.int .i64 s))) (by kernel_rfl) ?_ (fun hHeld => ?_)
            · exact ⟨(two_cell R8.out).1, (two_cell R8.out).2.1⟩
            generalize v11.drew = u1 at *
            refine wpAnyH_take (i := 0) (oi := { dst := some 31, op := Op.load 69 (Operand.tmp 6), type := 69, pos := "span.go:63", after := #[], guard := none }) (v := ?_) rfl (by kernel_rfl) (by kernel_rfl) (by kernel_rfl) (fun _ _ _ h => h) (Or.inl ⟨by rfl, ?_⟩) (by assumption) ?_
            rotate_left
            · (intro w hSw; obtain ⟨s0, s1⟩ := hSw; go_simp <;> with_reducible rfl)
            try simp only [Act.put, List.setIfInBounds_toArray, List.set_cons_zero, List.set_cons_succ]
            refine wpAnyH_take (i := 1) (oi := { dst := some 32, op := Op.move (Operand.tmp 1), type := 22, pos := "span.go:63", after := #[], guard := none }) (v := ?_) rfl (by kernel_rfl) (by kernel_rfl) (by kernel_rfl) (fun _ _ _ h => h) (Or.inl ⟨by rfl, ?_⟩) (by assumption) ?_
            rotate_left
            · (intro w hSw; obtain ⟨s0, s1⟩ := hSw; go_simp <;> with_reducible rfl)
            try simp only [Act.put, List.setIfInBounds_toArray, List.set_cons_zero, List.set_cons_succ]
            refine wpAnyH_take (i := 2) (oi := { dst := some 33, op := Op.slice 22 (Operand.tmp 32) (some (Operand.const (Value.int IntKind.i64 1))) none none, type := 22, pos := "span.go:63", after := #[{ on := 1, ground := Ground.data }], guard := none }) (v := ?_) rfl (by kernel_rfl) (by kernel_rfl) (by kernel_rfl) (fun _ _ _ h => h) (Or.inl ⟨by rfl, ?_⟩) (by assumption) ?_
            rotate_left
            · (intro w hSw; obtain ⟨s0, s1⟩ := hSw; go_simp <;> with_reducible rfl)
            try simp only [Act.put, List.setIfInBounds_toArray, List.set_cons_zero, List.set_cons_succ]
            refine wpAnyH_ready (rs := [3]) (by kernel_rfl) (by simp) ?_
            refine AllReadyH.cons (o := { dst := some 34, op := Op.call { callee := Callee.value (Operand.func 75), args := #[Operand.tmp 31, Operand.tmp 33], argTypes := #[69, 22] }, type := 89, pos := "span.go:63", after := #[{ on := 0, ground := Ground.data }, { on := 2, ground := Ground.data }], guard := none }) rfl (fun K hK => ?_) AllReadyH.nil
            go_simp
            go_at_call 75
            refine (HC1.out u1 Fut.rfl).mono ?_
            rintro _ v12 ⟨lb, lcb, rfl, hR1, hR2, hI, T12⟩
            have G12 := Lib.hid T12
            have I12 := Lib.hid hI
            clear T12 hI
            try go_wp2_with fail
            refine hK.out _ _ ?_ (fun hHeld => ?_)
            · exact ⟨(two_cell (heap_fut R8.out G12.out)).1, (two_cell (heap_fut R8.out G12.out)).2.1⟩
            clear hK K
            try simp only [Act.put, List.setIfInBounds_toArray, List.set_cons_zero, List.set_cons_succ]
            refine wpAnyH_take (i := 4) (oi := { dst := some 30, op := Op.move (Operand.tmp 34), type := 89, pos := "span.go:63", after := #[{ on := 3, ground := Ground.data }], guard := none }) (v := ?_) rfl (by kernel_rfl) (by kernel_rfl) (by kernel_rfl) (fun _ _ _ h => h) (Or.inl ⟨by rfl, ?_⟩) (by assumption) ?_
            rotate_left
            · (intro w hSw; obtain ⟨s0, s1⟩ := hSw; go_simp <;> with_reducible rfl)
            try simp only [Act.put, List.setIfInBounds_toArray, List.set_cons_zero, List.set_cons_succ]
            refine wpAnyH_take (i := 5) (oi := { dst := some 35, op := Op.extract (Operand.tmp 30) 0, type := 22, pos := "span.go:63", after := #[{ on := 4, ground := Ground.data }], guard := none }) (v := ?_) rfl (by kernel_rfl) (by kernel_rfl) (by kernel_rfl) (fun _ _ _ h => h) (Or.inl ⟨by rfl, ?_⟩) (by assumption) ?_
            rotate_left
            · (intro w hSw; obtain ⟨s0, s1⟩ := hSw; go_simp <;> with_reducible rfl)
            try simp only [Act.put, List.setIfInBounds_toArray, List.set_cons_zero, List.set_cons_succ]
            refine wpAnyH_take (i := 6) (oi := { dst := some 36, op := Op.extract (Operand.tmp 30) 1, type := 4, pos := "span.go:63", after := #[{ on := 4, ground := Ground.data }, { on := 7, ground := Ground.gcOnly Departure.lateStores }], guard := none }) (v := ?_) rfl (by kernel_rfl) (by kernel_rfl) (by kernel_rfl) (fun _ _ _ h => h) (Or.inl ⟨by rfl, ?_⟩) (by assumption) ?_
            rotate_left
            · (intro w hSw; obtain ⟨s0, s1⟩ := hSw; go_simp <;> with_reducible rfl)
            try simp only [Act.put, List.setIfInBounds_toArray, List.set_cons_zero, List.set_cons_succ]
            refine wpAnyH_ready (rs := [7]) (by kernel_rfl) (by simp) ?_
            refine AllReadyH.cons (o := { dst := some 4, op := Op.assign (Operand.tmp 35), type := 22, pos := "span.go:63", after := #[{ on := 5, ground := Ground.data }, { on := 3, ground := Ground.chain }, { on := 0, ground := Ground.phase }, { on := 1, ground := Ground.phase }, { on := 2, ground := Ground.phase }, { on := 3, ground := Ground.phase }, { on := 4, ground := Ground.phase }, { on := 5, ground := Ground.phase }, { on := 6, ground := Ground.textOnly Departure.lateStores }], guard := none }) rfl (fun K hK => ?_) AllReadyH.nil
            go_simp
            refine hK.out _ _ ?_ (fun hHeld => ?_)
            · exact ⟨(two_cell (heap_fut R8.out G12.out)).1, (two_cell (heap_fut R8.out G12.out)).2.1⟩
            clear hK K
            try simp only [Act.put, List.setIfInBounds_toArray, List.set_cons_zero, List.set_cons_succ]
            refine wpAnyH_ready (rs := [8]) (by kernel_rfl) (by simp) ?_
            refine AllReadyH.cons (o := { dst := some 5, op := Op.assign (Operand.tmp 36), type := 4, pos := "span.go:63", after := #[{ on := 6, ground := Ground.data }, { on := 7, ground := Ground.chain }, { on := 0, ground := Ground.phase }, { on := 1, ground := Ground.phase }, { on := 2, ground := Ground.phase }, { on := 3, ground := Ground.phase }, { on := 4, ground := Ground.phase }, { on := 5, ground := Ground.phase }, { on := 6, ground := Ground.phase }, { on := 7, ground := Ground.phase }], guard := none }) rfl (fun K hK => ?_) AllReadyH.nil
            go_simp
            refine hK.out _ _ ?_ (fun hHeld => ?_)
            · exact ⟨(two_cell (heap_fut R8.out G12.out)).1, (two_cell (heap_fut R8.out G12.out)).2.1⟩
            clear hK K
            try simp only [Act.put, List.setIfInBounds_toArray, List.set_cons_zero, List.set_cons_succ]
            refine wpAnyH_done (by kernel_rfl) ?_ _
            cases hrd : rdI d x s r with
            | none =>
              have HRN : Hid (rdI (d + 1) x y (s :: r) = none) := Lib.hid (by rw [HR.out, hrd])
              rw [hrd] at hR1 hR2 I12
              simp only [Option.getD_none, Option.isSome_none, List.length_nil]
              go_wp2_with fail
              go_ret2
              rw [HRN.out]
              exact ⟨none, 0, rfl, Nat.le_refl _, by simp, nil_ints _ _, HFu.out.trans G12.out⟩
            | some r' =>
              have HRN : Hid (rdI (d + 1) x y (s :: r) = rdI d (s + 1) y r') := Lib.hid (by rw [HR.out, hrd])
              rw [hrd] at hR1 hR2 I12
              simp only [Option.getD_some, Option.isSome_some] at hR1 hR2 I12 ⊢
              have HC2 : Hid (∀ W, Fut v12 W → Calls Try.prog 75 #[spV (s + 1) y, .slice lb r'.length lcb] W fun e w' => RdP (rdI d (s + 1) y r') r'.length W e w') := Lib.hid (fun W k => HRC.out (s + 1) y (by omega) (by omega) hy (by omega) lb r' lcb W (I12.out.fut k) hR1 (by omega))
              obtain ⟨z0, z1, _⟩ := two_cell (heap_fut R9.out G12.out)
              go_wp2_with fail
              refine (HC2.out _ Fut.rfl).mono ?_
              rintro _ v13 ⟨lb3, lcb3, rfl, hR3, hR4, hI3, T13⟩
              have I13 := Lib.hid hI3
              have G13 := Lib.hid T13
              clear hI3 T13
              go_wp2_with fail
              go_ret2
              rw [HRN.out]
              exact ⟨lb3, lcb3, rfl, hR3, by have := HLC2.out; omega, I13.out, (HFu.out.trans G12.out).trans G13.out⟩
        · go_simp
          obtain ⟨v8, hv8⟩ : ∃ W, W = u0.alloc (.cells #[.int .i64 0, .int .i64 0] 69) := ⟨_, rfl⟩
          have T8 : Hid (Fut u0 v8) := Lib.hid (by rw [hv8]; exact Fut.alloc _ _)
          have G8 : Hid (Fut u0 v8) := Lib.hid ((Fut.rfl).trans T8.out)
          have N8 : Hid (v8.heap[u0.heap.size]? = some (.cells #[.int .i64 0, .int .i64 0] 69)) := Lib.hid (by rw [hv8]; exact World.alloc_heap_new u0 _)
          obtain ⟨a8, ha8⟩ : ∃ s, s = u0.heap.size := ⟨_, rfl⟩
          have Z8 : Hid (u0.heap.size ≤ a8 ∧ a8 < v8.heap.size) := Lib.hid (by rw [ha8]; exact ⟨RowKit.Below.size (Fut.rfl : Fut u0 u0), by rw [hv8, World.size_alloc]; omega⟩)
          rw [← hv8]
          rw [← ha8] at N8 ⊢
          clear hv8 ha8
          refine hK.out _ _ ?_ (fun hHeld => ?_)
          · exact keep _ G8.out
          clear hK K
          try simp only [Act.put, List.setIfInBounds_toArray, List.set_cons_zero, List.set_cons_succ]
          refine wpAnyH_ready (rs := [4, 9]) (by kernel_rfl) (by simp) ?_
          refine AllReadyH.cons (o := { dst := some 27, op := Op.call { callee := Callee.value (Operand.func 95), args := #[Operand.tmp 23, Operand.tmp 26], argTypes := #[69, 3] }, type := 110, pos := "span.go:62", after := #[{ on := 0, ground := Ground.data }, { on := 3, ground := Ground.data }], guard := none }) rfl (fun K hK => ?_) (AllReadyH.cons (o := { dst := some 7, op := Op.alloc 69, type := 0, pos := "span.go:62", after := #[], guard := none }) rfl (fun K hK => ?_) (AllReadyH.nil))
          · go_simp
            go_at_call 95
            refine (HPT.out v8).mono ?_
            rintro _ v4 ⟨rfl, T4⟩
            have G4 := Lib.hid ((G8.out).trans T4)
            replace T4 := Lib.hid T4
            try go_wp2_with fail
            refine hK.out _ _ ?_ (fun hHeld => ?_)
            · exact keep _ G4.out
            clear hK K
            try simp only [Act.put, List.setIfInBounds_toArray, List.set_cons_zero, List.set_cons_succ]
            refine wpAnyH_take (i := 5) (oi := { dst := some 22, op := Op.move (Operand.tmp 27), type := 110, pos := "span.go:62", after := #[{ on := 4, ground := Ground.data }], guard := none }) (v := ?_) rfl (by kernel_rfl) (by kernel_rfl) (by kernel_rfl) (fun _ _ _ h => h) (Or.inl ⟨by rfl, ?_⟩) (by assumption) ?_
            rotate_left
            · (intro w hSw; obtain ⟨⟨s0, s1⟩, s2⟩ := hSw; go_simp <;> with_reducible rfl)
            try simp only [Act.put, List.setIfInBounds_toArray, List.set_cons_zero, List.set_cons_succ]
            refine wpAnyH_take (i := 6) (oi := { dst := some 28, op := Op.extract (Operand.tmp 22) 0, type := 69, pos := "span.go:62", after := #[{ on := 5, ground := Ground.data }], guard := none }) (v := ?_) rfl (by kernel_rfl) (by kernel_rfl) (by kernel_rfl) (fun _ _ _ h => h) (Or.inl ⟨by rfl, ?_⟩) (by assumption) ?_
            rotate_left
            · (intro w hSw; obtain ⟨⟨s0, s1⟩, s2⟩ := hSw; go_simp <;> with_reducible rfl)
            try simp only [Act.put, List.setIfInBounds_toArray, List.set_cons_zero, List.set_cons_succ]
            refine wpAnyH_take (i := 7) (oi := { dst := some 29, op := Op.extract (Operand.tmp 22) 1, type := 69, pos := "span.go:62", after := #[{ on := 5, ground := Ground.data }, { on := 10, ground := Ground.gcOnly Departure.lateStores }], guard := none }) (v := ?_) rfl (by kernel_rfl) (by kernel_rfl) (by kernel_rfl) (fun _ _ _ h => h) (Or.inl ⟨by rfl, ?_⟩) (by assumption) ?_
            rotate_left
            · (intro w hSw; obtain ⟨⟨s0, s1⟩, s2⟩ := hSw; go_simp <;> with_reducible rfl)
            try simp only [Act.put, List.setIfInBounds_toArray, List.set_cons_zero, List.set_cons_succ]
            refine wpAnyH_ready (rs := [9]) (by kernel_rfl) (by simp) ?_
            refine AllReadyH.cons (o := { dst := some 7, op := Op.alloc 69, type := 0, pos := "span.go:62", after := #[], guard := none }) rfl (fun K hK => ?_) AllReadyH.nil
            go_simp
            obtain ⟨v9, hv9⟩ : ∃ W, W = v4.alloc (.cells #[.int .i64 0, .int .i64 0] 69) := ⟨_, rfl⟩
            have T9 : Hid (Fut v4 v9) := Lib.hid (by rw [hv9]; exact Fut.alloc _ _)
            have G9 : Hid (Fut u0 v9) := Lib.hid ((G4.out).trans T9.out)
            have N9 : Hid (v9.heap[v4.heap.size]? = some (.cells #[.int .i64 0, .int .i64 0] 69)) := Lib.hid (by rw [hv9]; exact World.alloc_heap_new v4 _)
            obtain ⟨a9, ha9⟩ : ∃ s, s = v4.heap.size := ⟨_, rfl⟩
            have Z9 : Hid (u0.heap.size ≤ a9 ∧ a9 < v9.heap.size) := Lib.hid (by rw [ha9]; exact ⟨RowKit.Below.size (G4.out : Fut u0 v4), by rw [hv9, World.size_alloc]; omega⟩)
            rw [← hv9]
            rw [← ha9] at N9 ⊢
            have NE : Hid (a8 ≠ a9) := Lib.hid (by rw [ha9]; have e1 := Z8.out.2; have e2 : v8.heap.size ≤ v4.heap.size := RowKit.Below.size (T4.out : Fut v8 v4); omega)
            clear hv9 ha9
            refine hK.out _ _ ?_ (fun hHeld => ?_)
            · exact keep _ G9.out
            clear hK K
            try simp only [Act.put, List.setIfInBounds_toArray, List.set_cons_zero, List.set_cons_succ]
            refine wpAnyH_ready (rs := [10]) (by kernel_rfl) (by simp) ?_
            refine AllReadyH.cons (o := { dst := none, op := Op.store 69 (Operand.tmp 6) (Operand.tmp 28), type := 0, pos := "span.go:62", after := #[{ on := 8, ground := Ground.data }, { on := 6, ground := Ground.data }, { on := 4, ground := Ground.chain }, { on := 0, ground := Ground.phase }, { on := 1, ground := Ground.phase }, { on := 2, ground := Ground.phase }, { on := 3, ground := Ground.phase }, { on := 4, ground := Ground.phase }, { on := 5, ground := Ground.phase }, { on := 6, ground := Ground.phase }, { on := 7, ground := Ground.textOnly Departure.lateStores }, { on := 8, ground := Ground.phase }, { on := 9, ground := Ground.phase }], guard := none }) rfl (fun K hK => ?_) AllReadyH.nil
            obtain ⟨⟨y1, y2⟩, ⟨y3, y4⟩, y5⟩ := set2_both (.int .i64 x) (.int .i64 s) (heap_fut N8.out ((T4.out.trans T9.out)))
            have P8 := Lib.hid y5
            have P9 := Lib.hid (heap_kept (heap_kept (heap_fut N9.out (Fut.rfl)) (set_grown v9 a8 0 (.int .i64 x)) (fun e => NE.out (Option.some.inj e))) (set_grown (v9.setCell ⟨a8, 0, none⟩ (.int .i64 x)) a8 1 (.int .i64 s)) (fun e => NE.out (Option.some.inj e)))
            have G10 : Hid (Fut u0 ((v9.setCell ⟨a8, 0, none⟩ (.int .i64 x)).setCell ⟨a8, 1, none⟩ (.int .i64 s))) := Lib.hid (RowKit.Below.setCell (p := ⟨a8, 1, none⟩) (RowKit.Below.setCell (p := ⟨a8, 0, none⟩) (G9.out) Z8.out.1 _) Z8.out.1 _)
            go_simp
            clear y1 y2 y3 y4 y5
            generalize (v9.setCell ⟨a8, 0, none⟩ (.int .i64 x)).setCell ⟨a8, 1, none⟩ (.int .i64 s) = v10 at *
            refine hK.out _ _ ?_ (fun hHeld => ?_)
            · exact keep _ G10.out
            clear hK K
            try simp only [Act.put, List.setIfInBounds_toArray, List.set_cons_zero, List.set_cons_succ]
            refine wpAnyH_ready (rs := [11]) (by kernel_rfl) (by simp) ?_
            refine AllReadyH.cons (o := { dst := none, op := Op.store 69 (Operand.tmp 7) (Operand.tmp 29), type := 0, pos := "span.go:62", after := #[{ on := 9, ground := Ground.data }, { on := 7, ground := Ground.data }, { on := 10, ground := Ground.chain }, { on := 0, ground := Ground.phase }, { on := 1, ground := Ground.phase }, { on := 2, ground := Ground.phase }, { on := 3, ground := Ground.phase }, { on := 4, ground := Ground.phase }, { on := 5, ground := Ground.phase }, { on := 6, ground := Ground.phase }, { on := 7, ground := Ground.phase }, { on := 8, ground := Ground.phase }, { on := 9, ground := Ground.phase }, { on := 10, ground := Ground.phase }], guard := none }) rfl (fun K hK => ?_) AllReadyH.nil
            obtain ⟨⟨y1, y2⟩, ⟨y3, y4⟩, y5⟩ := set2_both (.int .i64 (s + 1)) (.int .i64 y) P9.out
            have Q9 := Lib.hid y5
            have Q8 := Lib.hid (heap_kept (heap_kept P8.out (set_grown v10 a9 0 (.int .i64 (s + 1))) (fun e => NE.out (Option.some.inj e).symm)) (set_grown (v10.setCell ⟨a9, 0, none⟩ (.int .i64 (s + 1))) a9 1 (.int .i64 y)) (fun e => NE.out (Option.some.inj e).symm))
            have G11 : Hid (Fut u0 ((v10.setCell ⟨a9, 0, none⟩ (.int .i64 (s + 1))).setCell ⟨a9, 1, none⟩ (.int .i64 y))) := Lib.hid (RowKit.Below.setCell (p := ⟨a9, 1, none⟩) (RowKit.Below.setCell (p := ⟨a9, 0, none⟩) G10.out Z9.out.1 _) Z9.out.1 _)
            go_simp
            clear y1 y2 y3 y4 y5 P8 P9
            generalize (v10.setCell ⟨a9, 0, none⟩ (.int .i64 (s + 1))).setCell ⟨a9, 1, none⟩ (.int .i64 y) = v11 at *
            refine hK.out _ _ ?_ (fun hHeld => ?_)
            · exact keep _ G11.out
            clear hK K
            try simp only [Act.put, List.setIfInBounds_toArray, List.set_cons_zero, List.set_cons_succ]
            refine wpAnyH_done (by kernel_rfl) ?_ _
            go_upto_region 6 with fail
            have HFu : Hid (Fut w v11.drew) := Lib.hid ((HFD.out.trans G11.out).trans (below_drewN Fut.rfl 1))
            have R8 : Hid (v11.drew.heap[a8]? = some (.cells #[.int .i64 x, .int .i64 s] 69)) := Lib.hid (heap_fut Q8.out (below_drewN Fut.rfl 1 : Fut v11 v11.drew))
            have R9 : Hid (v11.drew.heap[a9]? = some (.cells #[.int .i64 (s + 1), .int .i64 y] 69)) := Lib.hid (heap_fut Q9.out (below_drewN Fut.rfl 1 : Fut v11 v11.drew))
            have HC1 : Hid (∀ W, Fut v11.drew W → Calls Try.prog 75 #[spV x s, .slice (some ⟨b, offK o 1 lc, none⟩) r.length (lc - 1)] W fun e w' => RdP (rdI d x s r) r.length W e w') := Lib.hid (fun W k => HRC.out x s hx hxs.1 (by omega) (by omega) _ r (lc - 1) W (HFR.out W (HFu.out.trans k)) (by have := HLC2.out; omega) hl2)
            have hsl := HSL.out
            clear Q8 Q9 G11
            refine wp_region_held_drew (S := (fun w' => w'.cell? ⟨a8, 0, none⟩ = some (.int .i64 x) ∧ w'.cell? ⟨a8, 1, none⟩ = some (.int .i64 s))) (by kernel_rfl) ?_ (fun hHeld => ?_)
            · exact ⟨(two_cell R8.out).1, (two_cell R8.out).2.1⟩
            generalize v11.drew = u1 at *
            refine wpAnyH_take (i := 0) (oi := { dst := some 31, op := Op.load 69 (Operand.tmp 6), type := 69, pos := "span.go:63", after := #[], guard := none }) (v := ?_) rfl (by kernel_rfl) (by kernel_rfl) (by kernel_rfl) (fun _ _ _ h => h) (Or.inl ⟨by rfl, ?_⟩) (by assumption) ?_
            rotate_left
            · (intro w hSw; obtain ⟨s0, s1⟩ := hSw; go_simp <;> with_reducible rfl)
            try simp only [Act.put, List.setIfInBounds_toArray, List.set_cons_zero, List.set_cons_succ]
            refine wpAnyH_take (i := 1) (oi := { dst := some 32, op := Op.move (Operand.tmp 1), type := 22, pos := "span.go:63", after := #[], guard := none }) (v := ?_) rfl (by kernel_rfl) (by kernel_rfl) (by kernel_rfl) (fun _ _ _ h => h) (Or.inl ⟨by rfl, ?_⟩) (by assumption) ?_
            rotate_left
            · (intro w hSw; obtain ⟨s0, s1⟩ := hSw; go_simp <;> with_reducible rfl)
            try simp only [Act.put, List.setIfInBounds_toArray, List.set_cons_zero, List.set_cons_succ]
            refine wpAnyH_take (i := 2) (oi := { dst := some 33, op := Op.slice 22 (Operand.tmp 32) (some (Operand.const (Value.int IntKind.i64 1))) none none, type := 22, pos := "span.go:63", after := #[{ on := 1, ground := Ground.data }], guard := none }) (v := ?_) rfl (by kernel_rfl) (by kernel_rfl) (by kernel_rfl) (fun _ _ _ h => h) (Or.inl ⟨by rfl, ?_⟩) (by assumption) ?_
            rotate_left
            · (intro w hSw; obtain ⟨s0, s1⟩ := hSw; go_simp <;> with_reducible rfl)
            try simp only [Act.put, List.setIfInBounds_toArray, List.set_cons_zero, List.set_cons_succ]
            refine wpAnyH_ready (rs := [3]) (by kernel_rfl) (by simp) ?_
            refine AllReadyH.cons (o := { dst := some 34, op := Op.call { callee := Callee.value (Operand.func 75), args := #[Operand.tmp 31, Operand.tmp 33], argTypes := #[69, 22] }, type := 89, pos := "span.go:63", after := #[{ on := 0, ground := Ground.data }, { on := 2, ground := Ground.data }], guard := none }) rfl (fun K hK => ?_) AllReadyH.nil
            go_simp
            go_at_call 75
            refine (HC1.out u1 Fut.rfl).mono ?_
            rintro _ v12 ⟨lb, lcb, rfl, hR1, hR2, hI, T12⟩
            have G12 := Lib.hid T12
            have I12 := Lib.hid hI
            clear T12 hI
            try go_wp2_with fail
            refine hK.out _ _ ?_ (fun hHeld => ?_)
            · exact ⟨(two_cell (heap_fut R8.out G12.out)).1, (two_cell (heap_fut R8.out G12.out)).2.1⟩
            clear hK K
            try simp only [Act.put, List.setIfInBounds_toArray, List.set_cons_zero, List.set_cons_succ]
            refine wpAnyH_take (i := 4) (oi := { dst := some 30, op := Op.move (Operand.tmp 34), type := 89, pos := "span.go:63", after := #[{ on := 3, ground := Ground.data }], guard := none }) (v := ?_) rfl (by kernel_rfl) (by kernel_rfl) (by kernel_rfl) (fun _ _ _ h => h) (Or.inl ⟨by rfl, ?_⟩) (by assumption) ?_
            rotate_left
            · (intro w hSw; obtain ⟨s0, s1⟩ := hSw; go_simp <;> with_reducible rfl)
            try simp only [Act.put, List.setIfInBounds_toArray, List.set_cons_zero, List.set_cons_succ]
            refine wpAnyH_take (i := 5) (oi := { dst := some 35, op := Op.extract (Operand.tmp 30) 0, type := 22, pos := "span.go:63", after := #[{ on := 4, ground := Ground.data }], guard := none }) (v := ?_) rfl (by kernel_rfl) (by kernel_rfl) (by kernel_rfl) (fun _ _ _ h => h) (Or.inl ⟨by rfl, ?_⟩) (by assumption) ?_
            rotate_left
            · (intro w hSw; obtain ⟨s0, s1⟩ := hSw; go_simp <;> with_reducible rfl)
            try simp only [Act.put, List.setIfInBounds_toArray, List.set_cons_zero, List.set_cons_succ]
            refine wpAnyH_take (i := 6) (oi := { dst := some 36, op := Op.extract (Operand.tmp 30) 1, type := 4, pos := "span.go:63", after := #[{ on := 4, ground := Ground.data }, { on := 7, ground := Ground.gcOnly Departure.lateStores }], guard := none }) (v := ?_) rfl (by kernel_rfl) (by kernel_rfl) (by kernel_rfl) (fun _ _ _ h => h) (Or.inl ⟨by rfl, ?_⟩) (by assumption) ?_
            rotate_left
            · (intro w hSw; obtain ⟨s0, s1⟩ := hSw; go_simp <;> with_reducible rfl)
            try simp only [Act.put, List.setIfInBounds_toArray, List.set_cons_zero, List.set_cons_succ]
            refine wpAnyH_ready (rs := [7]) (by kernel_rfl) (by simp) ?_
            refine AllReadyH.cons (o := { dst := some 4, op := Op.assign (Operand.tmp 35), type := 22, pos := "span.go:63", after := #[{ on := 5, ground := Ground.data }, { on := 3, ground := Ground.chain }, { on := 0, ground := Ground.phase }, { on := 1, ground := Ground.phase }, { on := 2, ground := Ground.phase }, { on := 3, ground := Ground.phase }, { on := 4, ground := Ground.phase }, { on := 5, ground := Ground.phase }, { on := 6, ground := Ground.textOnly Departure.lateStores }], guard := none }) rfl (fun K hK => ?_) AllReadyH.nil
            go_simp
            refine hK.out _ _ ?_ (fun hHeld => ?_)
            · exact ⟨(two_cell (heap_fut R8.out G12.out)).1, (two_cell (heap_fut R8.out G12.out)).2.1⟩
            clear hK K
            try simp only [Act.put, List.setIfInBounds_toArray, List.set_cons_zero, List.set_cons_succ]
            refine wpAnyH_ready (rs := [8]) (by kernel_rfl) (by simp) ?_
            refine AllReadyH.cons (o := { dst := some 5, op := Op.assign (Operand.tmp 36), type := 4, pos := "span.go:63", after := #[{ on := 6, ground := Ground.data }, { on := 7, ground := Ground.chain }, { on := 0, ground := Ground.phase }, { on := 1, ground := Ground.phase }, { on := 2, ground := Ground.phase }, { on := 3, ground := Ground.phase }, { on := 4, ground := Ground.phase }, { on := 5, ground := Ground.phase }, { on := 6, ground := Ground.phase }, { on := 7, ground := Ground.phase }], guard := none }) rfl (fun K hK => ?_) AllReadyH.nil
            go_simp
            refine hK.out _ _ ?_ (fun hHeld => ?_)
            · exact ⟨(two_cell (heap_fut R8.out G12.out)).1, (two_cell (heap_fut R8.out G12.out)).2.1⟩
            clear hK K
            try simp only [Act.put, List.setIfInBounds_toArray, List.set_cons_zero, List.set_cons_succ]
            refine wpAnyH_done (by kernel_rfl) ?_ _
            cases hrd : rdI d x s r with
            | none =>
              have HRN : Hid (rdI (d + 1) x y (s :: r) = none) := Lib.hid (by rw [HR.out, hrd])
              rw [hrd] at hR1 hR2 I12
              simp only [Option.getD_none, Option.isSome_none, List.length_nil]
              go_wp2_with fail
              go_ret2
              rw [HRN.out]
              exact ⟨none, 0, rfl, Nat.le_refl _, by simp, nil_ints _ _, HFu.out.trans G12.out⟩
            | some r' =>
              have HRN : Hid (rdI (d + 1) x y (s :: r) = rdI d (s + 1) y r') := Lib.hid (by rw [HR.out, hrd])
              rw [hrd] at hR1 hR2 I12
              simp only [Option.getD_some, Option.isSome_some] at hR1 hR2 I12 ⊢
              have HC2 : Hid (∀ W, Fut v12 W → Calls Try.prog 75 #[spV (s + 1) y, .slice lb r'.length lcb] W fun e w' => RdP (rdI d (s + 1) y r') r'.length W e w') := Lib.hid (fun W k => HRC.out (s + 1) y (by omega) (by omega) hy (by omega) lb r' lcb W (I12.out.fut k) hR1 (by omega))
              obtain ⟨z0, z1, _⟩ := two_cell (heap_fut R9.out G12.out)
              go_wp2_with fail
              refine (HC2.out _ Fut.rfl).mono ?_
              rintro _ v13 ⟨lb3, lcb3, rfl, hR3, hR4, hI3, T13⟩
              have I13 := Lib.hid hI3
              have G13 := Lib.hid T13
              clear hI3 T13
              go_wp2_with fail
              go_ret2
              rw [HRN.out]
              exact ⟨lb3, lcb3, rfl, hR3, by have := HLC2.out; omega, I13.out, (HFu.out.trans G12.out).trans G13.out⟩
          · go_simp
            obtain ⟨v9, hv9⟩ : ∃ W, W = v8.alloc (.cells #[.int .i64 0, .int .i64 0] 69) := ⟨_, rfl⟩
            have T9 : Hid (Fut v8 v9) := Lib.hid (by rw [hv9]; exact Fut.alloc _ _)
            have G9 : Hid (Fut u0 v9) := Lib.hid ((G8.out).trans T9.out)
            have N9 : Hid (v9.heap[v8.heap.size]? = some (.cells #[.int .i64 0, .int .i64 0] 69)) := Lib.hid (by rw [hv9]; exact World.alloc_heap_new v8 _)
            obtain ⟨a9, ha9⟩ : ∃ s, s = v8.heap.size := ⟨_, rfl⟩
            have Z9 : Hid (u0.heap.size ≤ a9 ∧ a9 < v9.heap.size) := Lib.hid (by rw [ha9]; exact ⟨RowKit.Below.size (G8.out : Fut u0 v8), by rw [hv9, World.size_alloc]; omega⟩)
            rw [← hv9]
            rw [← ha9] at N9 ⊢
            have NE : Hid (a8 ≠ a9) := Lib.hid (by rw [ha9]; have e1 := Z8.out.2; have e2 : v8.heap.size ≤ v8.heap.size := RowKit.Below.size (Fut.rfl : Fut v8 v8); omega)
            clear hv9 ha9
            refine hK.out _ _ ?_ (fun hHeld => ?_)
            · exact keep _ G9.out
            clear hK K
            try simp only [Act.put, List.setIfInBounds_toArray, List.set_cons_zero, List.set_cons_succ]
            refine wpAnyH_ready (rs := [4]) (by kernel_rfl) (by simp) ?_
            refine AllReadyH.cons (o := { dst := some 27, op := Op.call { callee := Callee.value (Operand.func 95), args := #[Operand.tmp 23, Operand.tmp 26], argTypes := #[69, 3] }, type := 110, pos := "span.go:62", after := #[{ on := 0, ground := Ground.data }, { on := 3, ground := Ground.data }], guard := none }) rfl (fun K hK => ?_) AllReadyH.nil
            go_simp
            go_at_call 95
            refine (HPT.out v9).mono ?_
            rintro _ v4 ⟨rfl, T4⟩
            have G4 := Lib.hid ((G9.out).trans T4)
            replace T4 := Lib.hid T4
            try go_wp2_with fail
            refine hK.out _ _ ?_ (fun hHeld => ?_)
            · exact keep _ G4.out
            clear hK K
            try simp only [Act.put, List.setIfInBounds_toArray, List.set_cons_zero, List.set_cons_succ]
            refine wpAnyH_take (i := 5) (oi := { dst := some 22, op := Op.move (Operand.tmp 27), type := 110, pos := "span.go:62", after := #[{ on := 4, ground := Ground.data }], guard := none }) (v := ?_) rfl (by kernel_rfl) (by kernel_rfl) (by kernel_rfl) (fun _ _ _ h => h) (Or.inl ⟨by rfl, ?_⟩) (by assumption) ?_
            rotate_left
            · (intro w hSw; obtain ⟨⟨s0, s1⟩, s2⟩ := hSw; go_simp <;> with_reducible rfl)
            try simp only [Act.put, List.setIfInBounds_toArray, List.set_cons_zero, List.set_cons_succ]
            refine wpAnyH_take (i := 6) (oi := { dst := some 28, op := Op.extract (Operand.tmp 22) 0, type := 69, pos := "span.go:62", after := #[{ on := 5, ground := Ground.data }], guard := none }) (v := ?_) rfl (by kernel_rfl) (by kernel_rfl) (by kernel_rfl) (fun _ _ _ h => h) (Or.inl ⟨by rfl, ?_⟩) (by assumption) ?_
            rotate_left
            · (intro w hSw; obtain ⟨⟨s0, s1⟩, s2⟩ := hSw; go_simp <;> with_reducible rfl)
            try simp only [Act.put, List.setIfInBounds_toArray, List.set_cons_zero, List.set_cons_succ]
            refine wpAnyH_take (i := 7) (oi := { dst := some 29, op := Op.extract (Operand.tmp 22) 1, type := 69, pos := "span.go:62", after := #[{ on := 5, ground := Ground.data }, { on := 10, ground := Ground.gcOnly Departure.lateStores }], guard := none }) (v := ?_) rfl (by kernel_rfl) (by kernel_rfl) (by kernel_rfl) (fun _ _ _ h => h) (Or.inl ⟨by rfl, ?_⟩) (by assumption) ?_
            rotate_left
            · (intro w hSw; obtain ⟨⟨s0, s1⟩, s2⟩ := hSw; go_simp <;> with_reducible rfl)
            try simp only [Act.put, List.setIfInBounds_toArray, List.set_cons_zero, List.set_cons_succ]
            refine wpAnyH_ready (rs := [10]) (by kernel_rfl) (by simp) ?_
            refine AllReadyH.cons (o := { dst := none, op := Op.store 69 (Operand.tmp 6) (Operand.tmp 28), type := 0, pos := "span.go:62", after := #[{ on := 8, ground := Ground.data }, { on := 6, ground := Ground.data }, { on := 4, ground := Ground.chain }, { on := 0, ground := Ground.phase }, { on := 1, ground := Ground.phase }, { on := 2, ground := Ground.phase }, { on := 3, ground := Ground.phase }, { on := 4, ground := Ground.phase }, { on := 5, ground := Ground.phase }, { on := 6, ground := Ground.phase }, { on := 7, ground := Ground.textOnly Departure.lateStores }, { on := 8, ground := Ground.phase }, { on := 9, ground := Ground.phase }], guard := none }) rfl (fun K hK => ?_) AllReadyH.nil
            obtain ⟨⟨y1, y2⟩, ⟨y3, y4⟩, y5⟩ := set2_both (.int .i64 x) (.int .i64 s) (heap_fut N8.out ((T9.out.trans T4.out)))
            have P8 := Lib.hid y5
            have P9 := Lib.hid (heap_kept (heap_kept (heap_fut N9.out (T4.out)) (set_grown v4 a8 0 (.int .i64 x)) (fun e => NE.out (Option.some.inj e))) (set_grown (v4.setCell ⟨a8, 0, none⟩ (.int .i64 x)) a8 1 (.int .i64 s)) (fun e => NE.out (Option.some.inj e)))
            have G10 : Hid (Fut u0 ((v4.setCell ⟨a8, 0, none⟩ (.int .i64 x)).setCell ⟨a8, 1, none⟩ (.int .i64 s))) := Lib.hid (RowKit.Below.setCell (p := ⟨a8, 1, none⟩) (RowKit.Below.setCell (p := ⟨a8, 0, none⟩) (G4.out) Z8.out.1 _) Z8.out.1 _)
            go_simp
            clear y1 y2 y3 y4 y5
            generalize (v4.setCell ⟨a8, 0, none⟩ (.int .i64 x)).setCell ⟨a8, 1, none⟩ (.int .i64 s) = v10 at *
            refine hK.out _ _ ?_ (fun hHeld => ?_)
            · exact keep _ G10.out
            clear hK K
            try simp only [Act.put, List.setIfInBounds_toArray, List.set_cons_zero, List.set_cons_succ]
            refine wpAnyH_ready (rs := [11]) (by kernel_rfl) (by simp) ?_
            refine AllReadyH.cons (o := { dst := none, op := Op.store 69 (Operand.tmp 7) (Operand.tmp 29), type := 0, pos := "span.go:62", after := #[{ on := 9, ground := Ground.data }, { on := 7, ground := Ground.data }, { on := 10, ground := Ground.chain }, { on := 0, ground := Ground.phase }, { on := 1, ground := Ground.phase }, { on := 2, ground := Ground.phase }, { on := 3, ground := Ground.phase }, { on := 4, ground := Ground.phase }, { on := 5, ground := Ground.phase }, { on := 6, ground := Ground.phase }, { on := 7, ground := Ground.phase }, { on := 8, ground := Ground.phase }, { on := 9, ground := Ground.phase }, { on := 10, ground := Ground.phase }], guard := none }) rfl (fun K hK => ?_) AllReadyH.nil
            obtain ⟨⟨y1, y2⟩, ⟨y3, y4⟩, y5⟩ := set2_both (.int .i64 (s + 1)) (.int .i64 y) P9.out
            have Q9 := Lib.hid y5
            have Q8 := Lib.hid (heap_kept (heap_kept P8.out (set_grown v10 a9 0 (.int .i64 (s + 1))) (fun e => NE.out (Option.some.inj e).symm)) (set_grown (v10.setCell ⟨a9, 0, none⟩ (.int .i64 (s + 1))) a9 1 (.int .i64 y)) (fun e => NE.out (Option.some.inj e).symm))
            have G11 : Hid (Fut u0 ((v10.setCell ⟨a9, 0, none⟩ (.int .i64 (s + 1))).setCell ⟨a9, 1, none⟩ (.int .i64 y))) := Lib.hid (RowKit.Below.setCell (p := ⟨a9, 1, none⟩) (RowKit.Below.setCell (p := ⟨a9, 0, none⟩) G10.out Z9.out.1 _) Z9.out.1 _)
            go_simp
            clear y1 y2 y3 y4 y5 P8 P9
            generalize (v10.setCell ⟨a9, 0, none⟩ (.int .i64 (s + 1))).setCell ⟨a9, 1, none⟩ (.int .i64 y) = v11 at *
            refine hK.out _ _ ?_ (fun hHeld => ?_)
            · exact keep _ G11.out
            clear hK K
            try simp only [Act.put, List.setIfInBounds_toArray, List.set_cons_zero, List.set_cons_succ]
            refine wpAnyH_done (by kernel_rfl) ?_ _
            go_upto_region 6 with fail
            have HFu : Hid (Fut w v11.drew) := Lib.hid ((HFD.out.trans G11.out).trans (below_drewN Fut.rfl 1))
            have R8 : Hid (v11.drew.heap[a8]? = some (.cells #[.int .i64 x, .int .i64 s] 69)) := Lib.hid (heap_fut Q8.out (below_drewN Fut.rfl 1 : Fut v11 v11.drew))
            have R9 : Hid (v11.drew.heap[a9]? = some (.cells #[.int .i64 (s + 1), .int .i64 y] 69)) := Lib.hid (heap_fut Q9.out (below_drewN Fut.rfl 1 : Fut v11 v11.drew))
            have HC1 : Hid (∀ W, Fut v11.drew W → Calls Try.prog 75 #[spV x s, .slice (some ⟨b, offK o 1 lc, none⟩) r.length (lc - 1)] W fun e w' => RdP (rdI d x s r) r.length W e w') := Lib.hid (fun W k => HRC.out x s hx hxs.1 (by omega) (by omega) _ r (lc - 1) W (HFR.out W (HFu.out.trans k)) (by have := HLC2.out; omega) hl2)
            have hsl := HSL.out
            clear Q8 Q9 G11
            refine wp_region_held_drew (S := (fun w' => w'.cell? ⟨a8, 0, none⟩ = some (.int .i64 x) ∧ w'.cell? ⟨a8, 1, none⟩ = some (.int .i64 s))) (by kernel_rfl) ?_ (fun hHeld => ?_)
            · exact ⟨(two_cell R8.out).1, (two_cell R8.out).2.1⟩
            generalize v11.drew = u1 at *
            refine wpAnyH_take (i := 0) (oi := { dst := some 31, op := Op.load 69 (Operand.tmp 6), type := 69, pos := "span.go:63", after := #[], guard := none }) (v := ?_) rfl (by kernel_rfl) (by kernel_rfl) (by kernel_rfl) (fun _ _ _ h => h) (Or.inl ⟨by rfl, ?_⟩) (by assumption) ?_
            rotate_left
            · (intro w hSw; obtain ⟨s0, s1⟩ := hSw; go_simp <;> with_reducible rfl)
            try simp only [Act.put, List.setIfInBounds_toArray, List.set_cons_zero, List.set_cons_succ]
            refine wpAnyH_take (i := 1) (oi := { dst := some 32, op := Op.move (Operand.tmp 1), type := 22, pos := "span.go:63", after := #[], guard := none }) (v := ?_) rfl (by kernel_rfl) (by kernel_rfl) (by kernel_rfl) (fun _ _ _ h => h) (Or.inl ⟨by rfl, ?_⟩) (by assumption) ?_
            rotate_left
            · (intro w hSw; obtain ⟨s0, s1⟩ := hSw; go_simp <;> with_reducible rfl)
            try simp only [Act.put, List.setIfInBounds_toArray, List.set_cons_zero, List.set_cons_succ]
            refine wpAnyH_take (i := 2) (oi := { dst := some 33, op := Op.slice 22 (Operand.tmp 32) (some (Operand.const (Value.int IntKind.i64 1))) none none, type := 22, pos := "span.go:63", after := #[{ on := 1, ground := Ground.data }], guard := none }) (v := ?_) rfl (by kernel_rfl) (by kernel_rfl) (by kernel_rfl) (fun _ _ _ h => h) (Or.inl ⟨by rfl, ?_⟩) (by assumption) ?_
            rotate_left
            · (intro w hSw; obtain ⟨s0, s1⟩ := hSw; go_simp <;> with_reducible rfl)
            try simp only [Act.put, List.setIfInBounds_toArray, List.set_cons_zero, List.set_cons_succ]
            refine wpAnyH_ready (rs := [3]) (by kernel_rfl) (by simp) ?_
            refine AllReadyH.cons (o := { dst := some 34, op := Op.call { callee := Callee.value (Operand.func 75), args := #[Operand.tmp 31, Operand.tmp 33], argTypes := #[69, 22] }, type := 89, pos := "span.go:63", after := #[{ on := 0, ground := Ground.data }, { on := 2, ground := Ground.data }], guard := none }) rfl (fun K hK => ?_) AllReadyH.nil
            go_simp
            go_at_call 75
            refine (HC1.out u1 Fut.rfl).mono ?_
            rintro _ v12 ⟨lb, lcb, rfl, hR1, hR2, hI, T12⟩
            have G12 := Lib.hid T12
            have I12 := Lib.hid hI
            clear T12 hI
            try go_wp2_with fail
            refine hK.out _ _ ?_ (fun hHeld => ?_)
            · exact ⟨(two_cell (heap_fut R8.out G12.out)).1, (two_cell (heap_fut R8.out G12.out)).2.1⟩
            clear hK K
            try simp only [Act.put, List.setIfInBounds_toArray, List.set_cons_zero, List.set_cons_succ]
            refine wpAnyH_take (i := 4) (oi := { dst := some 30, op := Op.move (Operand.tmp 34), type := 89, pos := "span.go:63", after := #[{ on := 3, ground := Ground.data }], guard := none }) (v := ?_) rfl (by kernel_rfl) (by kernel_rfl) (by kernel_rfl) (fun _ _ _ h => h) (Or.inl ⟨by rfl, ?_⟩) (by assumption) ?_
            rotate_left
            · (intro w hSw; obtain ⟨s0, s1⟩ := hSw; go_simp <;> with_reducible rfl)
            try simp only [Act.put, List.setIfInBounds_toArray, List.set_cons_zero, List.set_cons_succ]
            refine wpAnyH_take (i := 5) (oi := { dst := some 35, op := Op.extract (Operand.tmp 30) 0, type := 22, pos := "span.go:63", after := #[{ on := 4, ground := Ground.data }], guard := none }) (v := ?_) rfl (by kernel_rfl) (by kernel_rfl) (by kernel_rfl) (fun _ _ _ h => h) (Or.inl ⟨by rfl, ?_⟩) (by assumption) ?_
            rotate_left
            · (intro w hSw; obtain ⟨s0, s1⟩ := hSw; go_simp <;> with_reducible rfl)
            try simp only [Act.put, List.setIfInBounds_toArray, List.set_cons_zero, List.set_cons_succ]
            refine wpAnyH_take (i := 6) (oi := { dst := some 36, op := Op.extract (Operand.tmp 30) 1, type := 4, pos := "span.go:63", after := #[{ on := 4, ground := Ground.data }, { on := 7, ground := Ground.gcOnly Departure.lateStores }], guard := none }) (v := ?_) rfl (by kernel_rfl) (by kernel_rfl) (by kernel_rfl) (fun _ _ _ h => h) (Or.inl ⟨by rfl, ?_⟩) (by assumption) ?_
            rotate_left
            · (intro w hSw; obtain ⟨s0, s1⟩ := hSw; go_simp <;> with_reducible rfl)
            try simp only [Act.put, List.setIfInBounds_toArray, List.set_cons_zero, List.set_cons_succ]
            refine wpAnyH_ready (rs := [7]) (by kernel_rfl) (by simp) ?_
            refine AllReadyH.cons (o := { dst := some 4, op := Op.assign (Operand.tmp 35), type := 22, pos := "span.go:63", after := #[{ on := 5, ground := Ground.data }, { on := 3, ground := Ground.chain }, { on := 0, ground := Ground.phase }, { on := 1, ground := Ground.phase }, { on := 2, ground := Ground.phase }, { on := 3, ground := Ground.phase }, { on := 4, ground := Ground.phase }, { on := 5, ground := Ground.phase }, { on := 6, ground := Ground.textOnly Departure.lateStores }], guard := none }) rfl (fun K hK => ?_) AllReadyH.nil
            go_simp
            refine hK.out _ _ ?_ (fun hHeld => ?_)
            · exact ⟨(two_cell (heap_fut R8.out G12.out)).1, (two_cell (heap_fut R8.out G12.out)).2.1⟩
            clear hK K
            try simp only [Act.put, List.setIfInBounds_toArray, List.set_cons_zero, List.set_cons_succ]
            refine wpAnyH_ready (rs := [8]) (by kernel_rfl) (by simp) ?_
            refine AllReadyH.cons (o := { dst := some 5, op := Op.assign (Operand.tmp 36), type := 4, pos := "span.go:63", after := #[{ on := 6, ground := Ground.data }, { on := 7, ground := Ground.chain }, { on := 0, ground := Ground.phase }, { on := 1, ground := Ground.phase }, { on := 2, ground := Ground.phase }, { on := 3, ground := Ground.phase }, { on := 4, ground := Ground.phase }, { on := 5, ground := Ground.phase }, { on := 6, ground := Ground.phase }, { on := 7, ground := Ground.phase }], guard := none }) rfl (fun K hK => ?_) AllReadyH.nil
            go_simp
            refine hK.out _ _ ?_ (fun hHeld => ?_)
            · exact ⟨(two_cell (heap_fut R8.out G12.out)).1, (two_cell (heap_fut R8.out G12.out)).2.1⟩
            clear hK K
            try simp only [Act.put, List.setIfInBounds_toArray, List.set_cons_zero, List.set_cons_succ]
            refine wpAnyH_done (by kernel_rfl) ?_ _
            cases hrd : rdI d x s r with
            | none =>
              have HRN : Hid (rdI (d + 1) x y (s :: r) = none) := Lib.hid (by rw [HR.out, hrd])
              rw [hrd] at hR1 hR2 I12
              simp only [Option.getD_none, Option.isSome_none, List.length_nil]
              go_wp2_with fail
              go_ret2
              rw [HRN.out]
              exact ⟨none, 0, rfl, Nat.le_refl _, by simp, nil_ints _ _, HFu.out.trans G12.out⟩
            | some r' =>
              have HRN : Hid (rdI (d + 1) x y (s :: r) = rdI d (s + 1) y r') := Lib.hid (by rw [HR.out, hrd])
              rw [hrd] at hR1 hR2 I12
              simp only [Option.getD_some, Option.isSome_some] at hR1 hR2 I12 ⊢
              have HC2 : Hid (∀ W, Fut v12 W → Calls Try.prog 75 #[spV (s + 1) y, .slice lb r'.length lcb] W fun e w' => RdP (rdI d (s + 1) y r') r'.length W e w') := Lib.hid (fun W k => HRC.out (s + 1) y (by omega) (by omega) hy (by omega) lb r' lcb W (I12.out.fut k) hR1 (by omega))
              obtain ⟨z0, z1, _⟩ := two_cell (heap_fut R9.out G12.out)
              go_wp2_with fail
              refine (HC2.out _ Fut.rfl).mono ?_
              rintro _ v13 ⟨lb3, lcb3, rfl, hR3, hR4, hI3, T13⟩
              have I13 := Lib.hid hI3
              have G13 := Lib.hid T13
              clear hI3 T13
              go_wp2_with fail
              go_ret2
              rw [HRN.out]
              exact ⟨lb3, lcb3, rfl, hR3, by have := HLC2.out; omega, I13.out, (HFu.out.trans G12.out).trans G13.out⟩
        · go_simp
          obtain ⟨v9, hv9⟩ : ∃ W, W = u0.alloc (.cells #[.int .i64 0, .int .i64 0] 69) := ⟨_, rfl⟩
          have T9 : Hid (Fut u0 v9) := Lib.hid (by rw [hv9]; exact Fut.alloc _ _)
          have G9 : Hid (Fut u0 v9) := Lib.hid ((Fut.rfl).trans T9.out)
          have N9 : Hid (v9.heap[u0.heap.size]? = some (.cells #[.int .i64 0, .int .i64 0] 69)) := Lib.hid (by rw [hv9]; exact World.alloc_heap_new u0 _)
          obtain ⟨a9, ha9⟩ : ∃ s, s = u0.heap.size := ⟨_, rfl⟩
          have Z9 : Hid (u0.heap.size ≤ a9 ∧ a9 < v9.heap.size) := Lib.hid (by rw [ha9]; exact ⟨RowKit.Below.size (Fut.rfl : Fut u0 u0), by rw [hv9, World.size_alloc]; omega⟩)
          rw [← hv9]
          rw [← ha9] at N9 ⊢
          clear hv9 ha9
          refine hK.out _ _ ?_ (fun hHeld => ?_)
          · exact keep _ G9.out
          clear hK K
          try simp only [Act.put, List.setIfInBounds_toArray, List.set_cons_zero, List.set_cons_succ]
          refine wpAnyH_ready (rs := [4, 8]) (by kernel_rfl) (by simp) ?_
          refine AllReadyH.cons (o := { dst := some 27, op := Op.call { callee := Callee.value (Operand.func 95), args := #[Operand.tmp 23, Operand.tmp 26], argTypes := #[69, 3] }, type := 110, pos := "span.go:62", after := #[{ on := 0, ground := Ground.data }, { on := 3, ground := Ground.data }], guard := none }) rfl (fun K hK => ?_) (AllReadyH.cons (o := { dst := some 6, op := Op.alloc 69, type := 0, pos := "span.go:62", after := #[], guard := none }) rfl (fun K hK => ?_) (AllReadyH.nil))
          · go_simp
            go_at_call 95
            refine (HPT.out v9).mono ?_
            rintro _ v4 ⟨rfl, T4⟩
            have G4 := Lib.hid ((G9.out).trans T4)
            replace T4 := Lib.hid T4
            try go_wp2_with fail
            refine hK.out _ _ ?_ (fun hHeld => ?_)
            · exact keep _ G4.out
            clear hK K
            try simp only [Act.put, List.setIfInBounds_toArray, List.set_cons_zero, List.set_cons_succ]
            refine wpAnyH_take (i := 5) (oi := { dst := some 22, op := Op.move (Operand.tmp 27), type := 110, pos := "span.go:62", after := #[{ on := 4, ground := Ground.data }], guard := none }) (v := ?_) rfl (by kernel_rfl) (by kernel_rfl) (by kernel_rfl) (fun _ _ _ h => h) (Or.inl ⟨by rfl, ?_⟩) (by assumption) ?_
            rotate_left
            · (intro w hSw; obtain ⟨⟨s0, s1⟩, s2⟩ := hSw; go_simp <;> with_reducible rfl)
            try simp only [Act.put, List.setIfInBounds_toArray, List.set_cons_zero, List.set_cons_succ]
            refine wpAnyH_take (i := 6) (oi := { dst := some 28, op := Op.extract (Operand.tmp 22) 0, type := 69, pos := "span.go:62", after := #[{ on := 5, ground := Ground.data }], guard := none }) (v := ?_) rfl (by kernel_rfl) (by kernel_rfl) (by kernel_rfl) (fun _ _ _ h => h) (Or.inl ⟨by rfl, ?_⟩) (by assumption) ?_
            rotate_left
            · (intro w hSw; obtain ⟨⟨s0, s1⟩, s2⟩ := hSw; go_simp <;> with_reducible rfl)
            try simp only [Act.put, List.setIfInBounds_toArray, List.set_cons_zero, List.set_cons_succ]
            refine wpAnyH_take (i := 7) (oi := { dst := some 29, op := Op.extract (Operand.tmp 22) 1, type := 69, pos := "span.go:62", after := #[{ on := 5, ground := Ground.data }, { on := 10, ground := Ground.gcOnly Departure.lateStores }], guard := none }) (v := ?_) rfl (by kernel_rfl) (by kernel_rfl) (by kernel_rfl) (fun _ _ _ h => h) (Or.inl ⟨by rfl, ?_⟩) (by assumption) ?_
            rotate_left
            · (intro w hSw; obtain ⟨⟨s0, s1⟩, s2⟩ := hSw; go_simp <;> with_reducible rfl)
            try simp only [Act.put, List.setIfInBounds_toArray, List.set_cons_zero, List.set_cons_succ]
            refine wpAnyH_ready (rs := [8]) (by kernel_rfl) (by simp) ?_
            refine AllReadyH.cons (o := { dst := some 6, op := Op.alloc 69, type := 0, pos := "span.go:62", after := #[], guard := none }) rfl (fun K hK => ?_) AllReadyH.nil
            go_simp
            obtain ⟨v8, hv8⟩ : ∃ W, W = v4.alloc (.cells #[.int .i64 0, .int .i64 0] 69) := ⟨_, rfl⟩
            have T8 : Hid (Fut v4 v8) := Lib.hid (by rw [hv8]; exact Fut.alloc _ _)
            have G8 : Hid (Fut u0 v8) := Lib.hid ((G4.out).trans T8.out)
            have N8 : Hid (v8.heap[v4.heap.size]? = some (.cells #[.int .i64 0, .int .i64 0] 69)) := Lib.hid (by rw [hv8]; exact World.alloc_heap_new v4 _)
            obtain ⟨a8, ha8⟩ : ∃ s, s = v4.heap.size := ⟨_, rfl⟩
            have Z8 : Hid (u0.heap.size ≤ a8 ∧ a8 < v8.heap.size) := Lib.hid (by rw [ha8]; exact ⟨RowKit.Below.size (G4.out : Fut u0 v4), by rw [hv8, World.size_alloc]; omega⟩)
            rw [← hv8]
            rw [← ha8] at N8 ⊢
            have NE : Hid (a8 ≠ a9) := Lib.hid (by rw [ha8]; have e1 := Z9.out.2; have e2 : v9.heap.size ≤ v4.heap.size := RowKit.Below.size (T4.out : Fut v9 v4); omega)
            clear hv8 ha8
            refine hK.out _ _ ?_ (fun hHeld => ?_)
            · exact keep _ G8.out
            clear hK K
            try simp only [Act.put, List.setIfInBounds_toArray, List.set_cons_zero, List.set_cons_succ]
            refine wpAnyH_ready (rs := [10]) (by kernel_rfl) (by simp) ?_
            refine AllReadyH.cons (o := { dst := none, op := Op.store 69 (Operand.tmp 6) (Operand.tmp 28), type := 0, pos := "span.go:62", after := #[{ on := 8, ground := Ground.data }, { on := 6, ground := Ground.data }, { on := 4, ground := Ground.chain }, { on := 0, ground := Ground.phase }, { on := 1, ground := Ground.phase }, { on := 2, ground := Ground.phase }, { on := 3, ground := Ground.phase }, { on := 4, ground := Ground.phase }, { on := 5, ground := Ground.phase }, { on := 6, ground := Ground.phase }, { on := 7, ground := Ground.textOnly Departure.lateStores }, { on := 8, ground := Ground.phase }, { on := 9, ground := Ground.phase }], guard := none }) rfl (fun K hK => ?_) AllReadyH.nil
            obtain ⟨⟨y1, y2⟩, ⟨y3, y4⟩, y5⟩ := set2_both (.int .i64 x) (.int .i64 s) (heap_fut N8.out (Fut.rfl))
            have P8 := Lib.hid y5
            have P9 := Lib.hid (heap_kept (heap_kept (heap_fut N9.out ((T4.out.trans T8.out))) (set_grown v8 a8 0 (.int .i64 x)) (fun e => NE.out (Option.some.inj e))) (set_grown (v8.setCell ⟨a8, 0, none⟩ (.int .i64 x)) a8 1 (.int .i64 s)) (fun e => NE.out (Option.some.inj e)))
            have G10 : Hid (Fut u0 ((v8.setCell ⟨a8, 0, none⟩ (.int .i64 x)).setCell ⟨a8, 1, none⟩ (.int .i64 s))) := Lib.hid (RowKit.Below.setCell (p := ⟨a8, 1, none⟩) (RowKit.Below.setCell (p := ⟨a8, 0, none⟩) (G8.out) Z8.out.1 _) Z8.out.1 _)
            go_simp
            clear y1 y2 y3 y4 y5
            generalize (v8.setCell ⟨a8, 0, none⟩ (.int .i64 x)).setCell ⟨a8, 1, none⟩ (.int .i64 s) = v10 at *
            refine hK.out _ _ ?_ (fun hHeld => ?_)
            · exact keep _ G10.out
            clear hK K
            try simp only [Act.put, List.setIfInBounds_toArray, List.set_cons_zero, List.set_cons_succ]
            refine wpAnyH_ready (rs := [11]) (by kernel_rfl) (by simp) ?_
            refine AllReadyH.cons (o := { dst := none, op := Op.store 69 (Operand.tmp 7) (Operand.tmp 29), type := 0, pos := "span.go:62", after := #[{ on := 9, ground := Ground.data }, { on := 7, ground := Ground.data }, { on := 10, ground := Ground.chain }, { on := 0, ground := Ground.phase }, { on := 1, ground := Ground.phase }, { on := 2, ground := Ground.phase }, { on := 3, ground := Ground.phase }, { on := 4, ground := Ground.phase }, { on := 5, ground := Ground.phase }, { on := 6, ground := Ground.phase }, { on := 7, ground := Ground.phase }, { on := 8, ground := Ground.phase }, { on := 9, ground := Ground.phase }, { on := 10, ground := Ground.phase }], guard := none }) rfl (fun K hK => ?_) AllReadyH.nil
            obtain ⟨⟨y1, y2⟩, ⟨y3, y4⟩, y5⟩ := set2_both (.int .i64 (s + 1)) (.int .i64 y) P9.out
            have Q9 := Lib.hid y5
            have Q8 := Lib.hid (heap_kept (heap_kept P8.out (set_grown v10 a9 0 (.int .i64 (s + 1))) (fun e => NE.out (Option.some.inj e).symm)) (set_grown (v10.setCell ⟨a9, 0, none⟩ (.int .i64 (s + 1))) a9 1 (.int .i64 y)) (fun e => NE.out (Option.some.inj e).symm))
            have G11 : Hid (Fut u0 ((v10.setCell ⟨a9, 0, none⟩ (.int .i64 (s + 1))).setCell ⟨a9, 1, none⟩ (.int .i64 y))) := Lib.hid (RowKit.Below.setCell (p := ⟨a9, 1, none⟩) (RowKit.Below.setCell (p := ⟨a9, 0, none⟩) G10.out Z9.out.1 _) Z9.out.1 _)
            go_simp
            clear y1 y2 y3 y4 y5 P8 P9
            generalize (v10.setCell ⟨a9, 0, none⟩ (.int .i64 (s + 1))).setCell ⟨a9, 1, none⟩ (.int .i64 y) = v11 at *
            refine hK.out _ _ ?_ (fun hHeld => ?_)
            · exact keep _ G11.out
            clear hK K
            try simp only [Act.put, List.setIfInBounds_toArray, List.set_cons_zero, List.set_cons_succ]
            refine wpAnyH_done (by kernel_rfl) ?_ _
            go_upto_region 6 with fail
            have HFu : Hid (Fut w v11.drew) := Lib.hid ((HFD.out.trans G11.out).trans (below_drewN Fut.rfl 1))
            have R8 : Hid (v11.drew.heap[a8]? = some (.cells #[.int .i64 x, .int .i64 s] 69)) := Lib.hid (heap_fut Q8.out (below_drewN Fut.rfl 1 : Fut v11 v11.drew))
            have R9 : Hid (v11.drew.heap[a9]? = some (.cells #[.int .i64 (s + 1), .int .i64 y] 69)) := Lib.hid (heap_fut Q9.out (below_drewN Fut.rfl 1 : Fut v11 v11.drew))
            have HC1 : Hid (∀ W, Fut v11.drew W → Calls Try.prog 75 #[spV x s, .slice (some ⟨b, offK o 1 lc, none⟩) r.length (lc - 1)] W fun e w' => RdP (rdI d x s r) r.length W e w') := Lib.hid (fun W k => HRC.out x s hx hxs.1 (by omega) (by omega) _ r (lc - 1) W (HFR.out W (HFu.out.trans k)) (by have := HLC2.out; omega) hl2)
            have hsl := HSL.out
            clear Q8 Q9 G11
            refine wp_region_held_drew (S := (fun w' => w'.cell? ⟨a8, 0, none⟩ = some (.int .i64 x) ∧ w'.cell? ⟨a8, 1, none⟩ = some (.int .i64 s))) (by kernel_rfl) ?_ (fun hHeld => ?_)
            · exact ⟨(two_cell R8.out).1, (two_cell R8.out).2.1⟩
            generalize v11.drew = u1 at *
            refine wpAnyH_take (i := 0) (oi := { dst := some 31, op := Op.load 69 (Operand.tmp 6), type := 69, pos := "span.go:63", after := #[], guard := none }) (v := ?_) rfl (by kernel_rfl) (by kernel_rfl) (by kernel_rfl) (fun _ _ _ h => h) (Or.inl ⟨by rfl, ?_⟩) (by assumption) ?_
            rotate_left
            · (intro w hSw; obtain ⟨s0, s1⟩ := hSw; go_simp <;> with_reducible rfl)
            try simp only [Act.put, List.setIfInBounds_toArray, List.set_cons_zero, List.set_cons_succ]
            refine wpAnyH_take (i := 1) (oi := { dst := some 32, op := Op.move (Operand.tmp 1), type := 22, pos := "span.go:63", after := #[], guard := none }) (v := ?_) rfl (by kernel_rfl) (by kernel_rfl) (by kernel_rfl) (fun _ _ _ h => h) (Or.inl ⟨by rfl, ?_⟩) (by assumption) ?_
            rotate_left
            · (intro w hSw; obtain ⟨s0, s1⟩ := hSw; go_simp <;> with_reducible rfl)
            try simp only [Act.put, List.setIfInBounds_toArray, List.set_cons_zero, List.set_cons_succ]
            refine wpAnyH_take (i := 2) (oi := { dst := some 33, op := Op.slice 22 (Operand.tmp 32) (some (Operand.const (Value.int IntKind.i64 1))) none none, type := 22, pos := "span.go:63", after := #[{ on := 1, ground := Ground.data }], guard := none }) (v := ?_) rfl (by kernel_rfl) (by kernel_rfl) (by kernel_rfl) (fun _ _ _ h => h) (Or.inl ⟨by rfl, ?_⟩) (by assumption) ?_
            rotate_left
            · (intro w hSw; obtain ⟨s0, s1⟩ := hSw; go_simp <;> with_reducible rfl)
            try simp only [Act.put, List.setIfInBounds_toArray, List.set_cons_zero, List.set_cons_succ]
            refine wpAnyH_ready (rs := [3]) (by kernel_rfl) (by simp) ?_
            refine AllReadyH.cons (o := { dst := some 34, op := Op.call { callee := Callee.value (Operand.func 75), args := #[Operand.tmp 31, Operand.tmp 33], argTypes := #[69, 22] }, type := 89, pos := "span.go:63", after := #[{ on := 0, ground := Ground.data }, { on := 2, ground := Ground.data }], guard := none }) rfl (fun K hK => ?_) AllReadyH.nil
            go_simp
            go_at_call 75
            refine (HC1.out u1 Fut.rfl).mono ?_
            rintro _ v12 ⟨lb, lcb, rfl, hR1, hR2, hI, T12⟩
            have G12 := Lib.hid T12
            have I12 := Lib.hid hI
            clear T12 hI
            try go_wp2_with fail
            refine hK.out _ _ ?_ (fun hHeld => ?_)
            · exact ⟨(two_cell (heap_fut R8.out G12.out)).1, (two_cell (heap_fut R8.out G12.out)).2.1⟩
            clear hK K
            try simp only [Act.put, List.setIfInBounds_toArray, List.set_cons_zero, List.set_cons_succ]
            refine wpAnyH_take (i := 4) (oi := { dst := some 30, op := Op.move (Operand.tmp 34), type := 89, pos := "span.go:63", after := #[{ on := 3, ground := Ground.data }], guard := none }) (v := ?_) rfl (by kernel_rfl) (by kernel_rfl) (by kernel_rfl) (fun _ _ _ h => h) (Or.inl ⟨by rfl, ?_⟩) (by assumption) ?_
            rotate_left
            · (intro w hSw; obtain ⟨s0, s1⟩ := hSw; go_simp <;> with_reducible rfl)
            try simp only [Act.put, List.setIfInBounds_toArray, List.set_cons_zero, List.set_cons_succ]
            refine wpAnyH_take (i := 5) (oi := { dst := some 35, op := Op.extract (Operand.tmp 30) 0, type := 22, pos := "span.go:63", after := #[{ on := 4, ground := Ground.data }], guard := none }) (v := ?_) rfl (by kernel_rfl) (by kernel_rfl) (by kernel_rfl) (fun _ _ _ h => h) (Or.inl ⟨by rfl, ?_⟩) (by assumption) ?_
            rotate_left
            · (intro w hSw; obtain ⟨s0, s1⟩ := hSw; go_simp <;> with_reducible rfl)
            try simp only [Act.put, List.setIfInBounds_toArray, List.set_cons_zero, List.set_cons_succ]
            refine wpAnyH_take (i := 6) (oi := { dst := some 36, op := Op.extract (Operand.tmp 30) 1, type := 4, pos := "span.go:63", after := #[{ on := 4, ground := Ground.data }, { on := 7, ground := Ground.gcOnly Departure.lateStores }], guard := none }) (v := ?_) rfl (by kernel_rfl) (by kernel_rfl) (by kernel_rfl) (fun _ _ _ h => h) (Or.inl ⟨by rfl, ?_⟩) (by assumption) ?_
            rotate_left
            · (intro w hSw; obtain ⟨s0, s1⟩ := hSw; go_simp <;> with_reducible rfl)
            try simp only [Act.put, List.setIfInBounds_toArray, List.set_cons_zero, List.set_cons_succ]
            refine wpAnyH_ready (rs := [7]) (by kernel_rfl) (by simp) ?_
            refine AllReadyH.cons (o := { dst := some 4, op := Op.assign (Operand.tmp 35), type := 22, pos := "span.go:63", after := #[{ on := 5, ground := Ground.data }, { on := 3, ground := Ground.chain }, { on := 0, ground := Ground.phase }, { on := 1, ground := Ground.phase }, { on := 2, ground := Ground.phase }, { on := 3, ground := Ground.phase }, { on := 4, ground := Ground.phase }, { on := 5, ground := Ground.phase }, { on := 6, ground := Ground.textOnly Departure.lateStores }], guard := none }) rfl (fun K hK => ?_) AllReadyH.nil
            go_simp
            refine hK.out _ _ ?_ (fun hHeld => ?_)
            · exact ⟨(two_cell (heap_fut R8.out G12.out)).1, (two_cell (heap_fut R8.out G12.out)).2.1⟩
            clear hK K
            try simp only [Act.put, List.setIfInBounds_toArray, List.set_cons_zero, List.set_cons_succ]
            refine wpAnyH_ready (rs := [8]) (by kernel_rfl) (by simp) ?_
            refine AllReadyH.cons (o := { dst := some 5, op := Op.assign (Operand.tmp 36), type := 4, pos := "span.go:63", after := #[{ on := 6, ground := Ground.data }, { on := 7, ground := Ground.chain }, { on := 0, ground := Ground.phase }, { on := 1, ground := Ground.phase }, { on := 2, ground := Ground.phase }, { on := 3, ground := Ground.phase }, { on := 4, ground := Ground.phase }, { on := 5, ground := Ground.phase }, { on := 6, ground := Ground.phase }, { on := 7, ground := Ground.phase }], guard := none }) rfl (fun K hK => ?_) AllReadyH.nil
            go_simp
            refine hK.out _ _ ?_ (fun hHeld => ?_)
            · exact ⟨(two_cell (heap_fut R8.out G12.out)).1, (two_cell (heap_fut R8.out G12.out)).2.1⟩
            clear hK K
            try simp only [Act.put, List.setIfInBounds_toArray, List.set_cons_zero, List.set_cons_succ]
            refine wpAnyH_done (by kernel_rfl) ?_ _
            cases hrd : rdI d x s r with
            | none =>
              have HRN : Hid (rdI (d + 1) x y (s :: r) = none) := Lib.hid (by rw [HR.out, hrd])
              rw [hrd] at hR1 hR2 I12
              simp only [Option.getD_none, Option.isSome_none, List.length_nil]
              go_wp2_with fail
              go_ret2
              rw [HRN.out]
              exact ⟨none, 0, rfl, Nat.le_refl _, by simp, nil_ints _ _, HFu.out.trans G12.out⟩
            | some r' =>
              have HRN : Hid (rdI (d + 1) x y (s :: r) = rdI d (s + 1) y r') := Lib.hid (by rw [HR.out, hrd])
              rw [hrd] at hR1 hR2 I12
              simp only [Option.getD_some, Option.isSome_some] at hR1 hR2 I12 ⊢
              have HC2 : Hid (∀ W, Fut v12 W → Calls Try.prog 75 #[spV (s + 1) y, .slice lb r'.length lcb] W fun e w' => RdP (rdI d (s + 1) y r') r'.length W e w') := Lib.hid (fun W k => HRC.out (s + 1) y (by omega) (by omega) hy (by omega) lb r' lcb W (I12.out.fut k) hR1 (by omega))
              obtain ⟨z0, z1, _⟩ := two_cell (heap_fut R9.out G12.out)
              go_wp2_with fail
              refine (HC2.out _ Fut.rfl).mono ?_
              rintro _ v13 ⟨lb3, lcb3, rfl, hR3, hR4, hI3, T13⟩
              have I13 := Lib.hid hI3
              have G13 := Lib.hid T13
              clear hI3 T13
              go_wp2_with fail
              go_ret2
              rw [HRN.out]
              exact ⟨lb3, lcb3, rfl, hR3, by have := HLC2.out; omega, I13.out, (HFu.out.trans G12.out).trans G13.out⟩
          · go_simp
            obtain ⟨v8, hv8⟩ : ∃ W, W = v9.alloc (.cells #[.int .i64 0, .int .i64 0] 69) := ⟨_, rfl⟩
            have T8 : Hid (Fut v9 v8) := Lib.hid (by rw [hv8]; exact Fut.alloc _ _)
            have G8 : Hid (Fut u0 v8) := Lib.hid ((G9.out).trans T8.out)
            have N8 : Hid (v8.heap[v9.heap.size]? = some (.cells #[.int .i64 0, .int .i64 0] 69)) := Lib.hid (by rw [hv8]; exact World.alloc_heap_new v9 _)
            obtain ⟨a8, ha8⟩ : ∃ s, s = v9.heap.size := ⟨_, rfl⟩
            have Z8 : Hid (u0.heap.size ≤ a8 ∧ a8 < v8.heap.size) := Lib.hid (by rw [ha8]; exact ⟨RowKit.Below.size (G9.out : Fut u0 v9), by rw [hv8, World.size_alloc]; omega⟩)
            rw [← hv8]
            rw [← ha8] at N8 ⊢
            have NE : Hid (a8 ≠ a9) := Lib.hid (by rw [ha8]; have e1 := Z9.out.2; have e2 : v9.heap.size ≤ v9.heap.size := RowKit.Below.size (Fut.rfl : Fut v9 v9); omega)
            clear hv8 ha8
            refine hK.out _ _ ?_ (fun hHeld => ?_)
            · exact keep _ G8.out
            clear hK K
            try simp only [Act.put, List.setIfInBounds_toArray, List.set_cons_zero, List.set_cons_succ]
            refine wpAnyH_ready (rs := [4]) (by kernel_rfl) (by simp) ?_
            refine AllReadyH.cons (o := { dst := some 27, op := Op.call { callee := Callee.value (Operand.func 95), args := #[Operand.tmp 23, Operand.tmp 26], argTypes := #[69, 3] }, type := 110, pos := "span.go:62", after := #[{ on := 0, ground := Ground.data }, { on := 3, ground := Ground.data }], guard := none }) rfl (fun K hK => ?_) AllReadyH.nil
            go_simp
            go_at_call 95
            refine (HPT.out v8).mono ?_
            rintro _ v4 ⟨rfl, T4⟩
            have G4 := Lib.hid ((G8.out).trans T4)
            replace T4 := Lib.hid T4
            try go_wp2_with fail
            refine hK.out _ _ ?_ (fun hHeld => ?_)
            · exact keep _ G4.out
            clear hK K
            try simp only [Act.put, List.setIfInBounds_toArray, List.set_cons_zero, List.set_cons_succ]
            refine wpAnyH_take (i := 5) (oi := { dst := some 22, op := Op.move (Operand.tmp 27), type := 110, pos := "span.go:62", after := #[{ on := 4, ground := Ground.data }], guard := none }) (v := ?_) rfl (by kernel_rfl) (by kernel_rfl) (by kernel_rfl) (fun _ _ _ h => h) (Or.inl ⟨by rfl, ?_⟩) (by assumption) ?_
            rotate_left
            · (intro w hSw; obtain ⟨⟨s0, s1⟩, s2⟩ := hSw; go_simp <;> with_reducible rfl)
            try simp only [Act.put, List.setIfInBounds_toArray, List.set_cons_zero, List.set_cons_succ]
            refine wpAnyH_take (i := 6) (oi := { dst := some 28, op := Op.extract (Operand.tmp 22) 0, type := 69, pos := "span.go:62", after := #[{ on := 5, ground := Ground.data }], guard := none }) (v := ?_) rfl (by kernel_rfl) (by kernel_rfl) (by kernel_rfl) (fun _ _ _ h => h) (Or.inl ⟨by rfl, ?_⟩) (by assumption) ?_
            rotate_left
            · (intro w hSw; obtain ⟨⟨s0, s1⟩, s2⟩ := hSw; go_simp <;> with_reducible rfl)
            try simp only [Act.put, List.setIfInBounds_toArray, List.set_cons_zero, List.set_cons_succ]
            refine wpAnyH_take (i := 7) (oi := { dst := some 29, op := Op.extract (Operand.tmp 22) 1, type := 69, pos := "span.go:62", after := #[{ on := 5, ground := Ground.data }, { on := 10, ground := Ground.gcOnly Departure.lateStores }], guard := none }) (v := ?_) rfl (by kernel_rfl) (by kernel_rfl) (by kernel_rfl) (fun _ _ _ h => h) (Or.inl ⟨by rfl, ?_⟩) (by assumption) ?_
            rotate_left
            · (intro w hSw; obtain ⟨⟨s0, s1⟩, s2⟩ := hSw; go_simp <;> with_reducible rfl)
            try simp only [Act.put, List.setIfInBounds_toArray, List.set_cons_zero, List.set_cons_succ]
            refine wpAnyH_ready (rs := [10]) (by kernel_rfl) (by simp) ?_
            refine AllReadyH.cons (o := { dst := none, op := Op.store 69 (Operand.tmp 6) (Operand.tmp 28), type := 0, pos := "span.go:62", after := #[{ on := 8, ground := Ground.data }, { on := 6, ground := Ground.data }, { on := 4, ground := Ground.chain }, { on := 0, ground := Ground.phase }, { on := 1, ground := Ground.phase }, { on := 2, ground := Ground.phase }, { on := 3, ground := Ground.phase }, { on := 4, ground := Ground.phase }, { on := 5, ground := Ground.phase }, { on := 6, ground := Ground.phase }, { on := 7, ground := Ground.textOnly Departure.lateStores }, { on := 8, ground := Ground.phase }, { on := 9, ground := Ground.phase }], guard := none }) rfl (fun K hK => ?_) AllReadyH.nil
            obtain ⟨⟨y1, y2⟩, ⟨y3, y4⟩, y5⟩ := set2_both (.int .i64 x) (.int .i64 s) (heap_fut N8.out (T4.out))
            have P8 := Lib.hid y5
            have P9 := Lib.hid (heap_kept (heap_kept (heap_fut N9.out ((T8.out.trans T4.out))) (set_grown v4 a8 0 (.int .i64 x)) (fun e => NE.out (Option.some.inj e))) (set_grown (v4.setCell ⟨a8, 0, none⟩ (.int .i64 x)) a8 1 (.int .i64 s)) (fun e => NE.out (Option.some.inj e)))
            have G10 : Hid (Fut u0 ((v4.setCell ⟨a8, 0, none⟩ (.int .i64 x)).setCell ⟨a8, 1, none⟩ (.int .i64 s))) := Lib.hid (RowKit.Below.setCell (p := ⟨a8, 1, none⟩) (RowKit.Below.setCell (p := ⟨a8, 0, none⟩) (G4.out) Z8.out.1 _) Z8.out.1 _)
            go_simp
            clear y1 y2 y3 y4 y5
            generalize (v4.setCell ⟨a8, 0, none⟩ (.int .i64 x)).setCell ⟨a8, 1, none⟩ (.int .i64 s) = v10 at *
            refine hK.out _ _ ?_ (fun hHeld => ?_)
            · exact keep _ G10.out
            clear hK K
            try simp only [Act.put, List.setIfInBounds_toArray, List.set_cons_zero, List.set_cons_succ]
            refine wpAnyH_ready (rs := [11]) (by kernel_rfl) (by simp) ?_
            refine AllReadyH.cons (o := { dst := none, op := Op.store 69 (Operand.tmp 7) (Operand.tmp 29), type := 0, pos := "span.go:62", after := #[{ on := 9, ground := Ground.data }, { on := 7, ground := Ground.data }, { on := 10, ground := Ground.chain }, { on := 0, ground := Ground.phase }, { on := 1, ground := Ground.phase }, { on := 2, ground := Ground.phase }, { on := 3, ground := Ground.phase }, { on := 4, ground := Ground.phase }, { on := 5, ground := Ground.phase }, { on := 6, ground := Ground.phase }, { on := 7, ground := Ground.phase }, { on := 8, ground := Ground.phase }, { on := 9, ground := Ground.phase }, { on := 10, ground := Ground.phase }], guard := none }) rfl (fun K hK => ?_) AllReadyH.nil
            obtain ⟨⟨y1, y2⟩, ⟨y3, y4⟩, y5⟩ := set2_both (.int .i64 (s + 1)) (.int .i64 y) P9.out
            have Q9 := Lib.hid y5
            have Q8 := Lib.hid (heap_kept (heap_kept P8.out (set_grown v10 a9 0 (.int .i64 (s + 1))) (fun e => NE.out (Option.some.inj e).symm)) (set_grown (v10.setCell ⟨a9, 0, none⟩ (.int .i64 (s + 1))) a9 1 (.int .i64 y)) (fun e => NE.out (Option.some.inj e).symm))
            have G11 : Hid (Fut u0 ((v10.setCell ⟨a9, 0, none⟩ (.int .i64 (s + 1))).setCell ⟨a9, 1, none⟩ (.int .i64 y))) := Lib.hid (RowKit.Below.setCell (p := ⟨a9, 1, none⟩) (RowKit.Below.setCell (p := ⟨a9, 0, none⟩) G10.out Z9.out.1 _) Z9.out.1 _)
            go_simp
            clear y1 y2 y3 y4 y5 P8 P9
            generalize (v10.setCell ⟨a9, 0, none⟩ (.int .i64 (s + 1))).setCell ⟨a9, 1, none⟩ (.int .i64 y) = v11 at *
            refine hK.out _ _ ?_ (fun hHeld => ?_)
            · exact keep _ G11.out
            clear hK K
            try simp only [Act.put, List.setIfInBounds_toArray, List.set_cons_zero, List.set_cons_succ]
            refine wpAnyH_done (by kernel_rfl) ?_ _
            go_upto_region 6 with fail
            have HFu : Hid (Fut w v11.drew) := Lib.hid ((HFD.out.trans G11.out).trans (below_drewN Fut.rfl 1))
            have R8 : Hid (v11.drew.heap[a8]? = some (.cells #[.int .i64 x, .int .i64 s] 69)) := Lib.hid (heap_fut Q8.out (below_drewN Fut.rfl 1 : Fut v11 v11.drew))
            have R9 : Hid (v11.drew.heap[a9]? = some (.cells #[.int .i64 (s + 1), .int .i64 y] 69)) := Lib.hid (heap_fut Q9.out (below_drewN Fut.rfl 1 : Fut v11 v11.drew))
            have HC1 : Hid (∀ W, Fut v11.drew W → Calls Try.prog 75 #[spV x s, .slice (some ⟨b, offK o 1 lc, none⟩) r.length (lc - 1)] W fun e w' => RdP (rdI d x s r) r.length W e w') := Lib.hid (fun W k => HRC.out x s hx hxs.1 (by omega) (by omega) _ r (lc - 1) W (HFR.out W (HFu.out.trans k)) (by have := HLC2.out; omega) hl2)
            have hsl := HSL.out
            clear Q8 Q9 G11
            refine wp_region_held_drew (S := (fun w' => w'.cell? ⟨a8, 0, none⟩ = some (.int .i64 x) ∧ w'.cell? ⟨a8, 1, none⟩ = some (.int .i64 s))) (by kernel_rfl) ?_ (fun hHeld => ?_)
            · exact ⟨(two_cell R8.out).1, (two_cell R8.out).2.1⟩
            generalize v11.drew = u1 at *
            refine wpAnyH_take (i := 0) (oi := { dst := some 31, op := Op.load 69 (Operand.tmp 6), type := 69, pos := "span.go:63", after := #[], guard := none }) (v := ?_) rfl (by kernel_rfl) (by kernel_rfl) (by kernel_rfl) (fun _ _ _ h => h) (Or.inl ⟨by rfl, ?_⟩) (by assumption) ?_
            rotate_left
            · (intro w hSw; obtain ⟨s0, s1⟩ := hSw; go_simp <;> with_reducible rfl)
            try simp only [Act.put, List.setIfInBounds_toArray, List.set_cons_zero, List.set_cons_succ]
            refine wpAnyH_take (i := 1) (oi := { dst := some 32, op := Op.move (Operand.tmp 1), type := 22, pos := "span.go:63", after := #[], guard := none }) (v := ?_) rfl (by kernel_rfl) (by kernel_rfl) (by kernel_rfl) (fun _ _ _ h => h) (Or.inl ⟨by rfl, ?_⟩) (by assumption) ?_
            rotate_left
            · (intro w hSw; obtain ⟨s0, s1⟩ := hSw; go_simp <;> with_reducible rfl)
            try simp only [Act.put, List.setIfInBounds_toArray, List.set_cons_zero, List.set_cons_succ]
            refine wpAnyH_take (i := 2) (oi := { dst := some 33, op := Op.slice 22 (Operand.tmp 32) (some (Operand.const (Value.int IntKind.i64 1))) none none, type := 22, pos := "span.go:63", after := #[{ on := 1, ground := Ground.data }], guard := none }) (v := ?_) rfl (by kernel_rfl) (by kernel_rfl) (by kernel_rfl) (fun _ _ _ h => h) (Or.inl ⟨by rfl, ?_⟩) (by assumption) ?_
            rotate_left
            · (intro w hSw; obtain ⟨s0, s1⟩ := hSw; go_simp <;> with_reducible rfl)
            try simp only [Act.put, List.setIfInBounds_toArray, List.set_cons_zero, List.set_cons_succ]
            refine wpAnyH_ready (rs := [3]) (by kernel_rfl) (by simp) ?_
            refine AllReadyH.cons (o := { dst := some 34, op := Op.call { callee := Callee.value (Operand.func 75), args := #[Operand.tmp 31, Operand.tmp 33], argTypes := #[69, 22] }, type := 89, pos := "span.go:63", after := #[{ on := 0, ground := Ground.data }, { on := 2, ground := Ground.data }], guard := none }) rfl (fun K hK => ?_) AllReadyH.nil
            go_simp
            go_at_call 75
            refine (HC1.out u1 Fut.rfl).mono ?_
            rintro _ v12 ⟨lb, lcb, rfl, hR1, hR2, hI, T12⟩
            have G12 := Lib.hid T12
            have I12 := Lib.hid hI
            clear T12 hI
            try go_wp2_with fail
            refine hK.out _ _ ?_ (fun hHeld => ?_)
            · exact ⟨(two_cell (heap_fut R8.out G12.out)).1, (two_cell (heap_fut R8.out G12.out)).2.1⟩
            clear hK K
            try simp only [Act.put, List.setIfInBounds_toArray, List.set_cons_zero, List.set_cons_succ]
            refine wpAnyH_take (i := 4) (oi := { dst := some 30, op := Op.move (Operand.tmp 34), type := 89, pos := "span.go:63", after := #[{ on := 3, ground := Ground.data }], guard := none }) (v := ?_) rfl (by kernel_rfl) (by kernel_rfl) (by kernel_rfl) (fun _ _ _ h => h) (Or.inl ⟨by rfl, ?_⟩) (by assumption) ?_
            rotate_left
            · (intro w hSw; obtain ⟨s0, s1⟩ := hSw; go_simp <;> with_reducible rfl)
            try simp only [Act.put, List.setIfInBounds_toArray, List.set_cons_zero, List.set_cons_succ]
            refine wpAnyH_take (i := 5) (oi := { dst := some 35, op := Op.extract (Operand.tmp 30) 0, type := 22, pos := "span.go:63", after := #[{ on := 4, ground := Ground.data }], guard := none }) (v := ?_) rfl (by kernel_rfl) (by kernel_rfl) (by kernel_rfl) (fun _ _ _ h => h) (Or.inl ⟨by rfl, ?_⟩) (by assumption) ?_
            rotate_left
            · (intro w hSw; obtain ⟨s0, s1⟩ := hSw; go_simp <;> with_reducible rfl)
            try simp only [Act.put, List.setIfInBounds_toArray, List.set_cons_zero, List.set_cons_succ]
            refine wpAnyH_take (i := 6) (oi := { dst := some 36, op := Op.extract (Operand.tmp 30) 1, type := 4, pos := "span.go:63", after := #[{ on := 4, ground := Ground.data }, { on := 7, ground := Ground.gcOnly Departure.lateStores }], guard := none }) (v := ?_) rfl (by kernel_rfl) (by kernel_rfl) (by kernel_rfl) (fun _ _ _ h => h) (Or.inl ⟨by rfl, ?_⟩) (by assumption) ?_
            rotate_left
            · (intro w hSw; obtain ⟨s0, s1⟩ := hSw; go_simp <;> with_reducible rfl)
            try simp only [Act.put, List.setIfInBounds_toArray, List.set_cons_zero, List.set_cons_succ]
            refine wpAnyH_ready (rs := [7]) (by kernel_rfl) (by simp) ?_
            refine AllReadyH.cons (o := { dst := some 4, op := Op.assign (Operand.tmp 35), type := 22, pos := "span.go:63", after := #[{ on := 5, ground := Ground.data }, { on := 3, ground := Ground.chain }, { on := 0, ground := Ground.phase }, { on := 1, ground := Ground.phase }, { on := 2, ground := Ground.phase }, { on := 3, ground := Ground.phase }, { on := 4, ground := Ground.phase }, { on := 5, ground := Ground.phase }, { on := 6, ground := Ground.textOnly Departure.lateStores }], guard := none }) rfl (fun K hK => ?_) AllReadyH.nil
            go_simp
            refine hK.out _ _ ?_ (fun hHeld => ?_)
            · exact ⟨(two_cell (heap_fut R8.out G12.out)).1, (two_cell (heap_fut R8.out G12.out)).2.1⟩
            clear hK K
            try simp only [Act.put, List.setIfInBounds_toArray, List.set_cons_zero, List.set_cons_succ]
            refine wpAnyH_ready (rs := [8]) (by kernel_rfl) (by simp) ?_
            refine AllReadyH.cons (o := { dst := some 5, op := Op.assign (Operand.tmp 36), type := 4, pos := "span.go:63", after := #[{ on := 6, ground := Ground.data }, { on := 7, ground := Ground.chain }, { on := 0, ground := Ground.phase }, { on := 1, ground := Ground.phase }, { on := 2, ground := Ground.phase }, { on := 3, ground := Ground.phase }, { on := 4, ground := Ground.phase }, { on := 5, ground := Ground.phase }, { on := 6, ground := Ground.phase }, { on := 7, ground := Ground.phase }], guard := none }) rfl (fun K hK => ?_) AllReadyH.nil
            go_simp
            refine hK.out _ _ ?_ (fun hHeld => ?_)
            · exact ⟨(two_cell (heap_fut R8.out G12.out)).1, (two_cell (heap_fut R8.out G12.out)).2.1⟩
            clear hK K
            try simp only [Act.put, List.setIfInBounds_toArray, List.set_cons_zero, List.set_cons_succ]
            refine wpAnyH_done (by kernel_rfl) ?_ _
            cases hrd : rdI d x s r with
            | none =>
              have HRN : Hid (rdI (d + 1) x y (s :: r) = none) := Lib.hid (by rw [HR.out, hrd])
              rw [hrd] at hR1 hR2 I12
              simp only [Option.getD_none, Option.isSome_none, List.length_nil]
              go_wp2_with fail
              go_ret2
              rw [HRN.out]
              exact ⟨none, 0, rfl, Nat.le_refl _, by simp, nil_ints _ _, HFu.out.trans G12.out⟩
            | some r' =>
              have HRN : Hid (rdI (d + 1) x y (s :: r) = rdI d (s + 1) y r') := Lib.hid (by rw [HR.out, hrd])
              rw [hrd] at hR1 hR2 I12
              simp only [Option.getD_some, Option.isSome_some] at hR1 hR2 I12 ⊢
              have HC2 : Hid (∀ W, Fut v12 W → Calls Try.prog 75 #[spV (s + 1) y, .slice lb r'.length lcb] W fun e w' => RdP (rdI d (s + 1) y r') r'.length W e w') := Lib.hid (fun W k => HRC.out (s + 1) y (by omega) (by omega) hy (by omega) lb r' lcb W (I12.out.fut k) hR1 (by omega))
              obtain ⟨z0, z1, _⟩ := two_cell (heap_fut R9.out G12.out)
              go_wp2_with fail
              refine (HC2.out _ Fut.rfl).mono ?_
              rintro _ v13 ⟨lb3, lcb3, rfl, hR3, hR4, hI3, T13⟩
              have I13 := Lib.hid hI3
              have G13 := Lib.hid T13
              clear hI3 T13
              go_wp2_with fail
              go_ret2
              rw [HRN.out]
              exact ⟨lb3, lcb3, rfl, hR3, by have := HLC2.out; omega, I13.out, (HFu.out.trans G12.out).trans G13.out⟩
end Go.Proofs.Ytjapconhehdcjaa
