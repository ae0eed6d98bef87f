/- LaneBars: law6_any -/
import Derived.Test.YtflllkamdihfaaaLCJ
import Derived.Test.YtflllkamdihfaaaLCD
import Derived.Test.YtflllkamdihfaaaLBI
namespace Go.Proofs.Ytflllkamdihfaaa
open Go.RowKit Go.Sort
theorem brR_len (r c : Int) (S Y T : List Int) : (brR r c S Y T).length ≤ 1000 := by
  unfold brR
  by_cases h : chkP r c S Y T = 0
  · rw [if_pos h]
    have h3 := (chk_all h).three
    unfold brO
    have key : ∀ f k R, k + f ≤ 3 → brL c (r * c) S Y T f k = some R → R.length ≤ 3 := fun f => by
      induction f with
      | zero => intro k R _ e; cases e
      | succ f ih =>
        intro k R hk e
        unfold brL at e
        cases hf : fbE c (r * c) Y T k S 0 with
        | none => rw [hf] at e; exact ih (k + 1) R (by omega) e
        | some R' =>
          rw [hf] at e
          cases e
          have := fb_len c (r * c) Y T k S 0 _ hf
          omega
    cases hb : brL c (r * c) S Y T Y.length 0 with
    | none => simp
    | some R => have := key Y.length 0 R (by omega) hb; simp; omega
  · rw [if_neg h]; simp
set_option maxRecDepth 100000 in
set_option maxHeartbeats 8000000 in
theorem law6_any (r c : Int) (a : Option Addr) (cap : Nat) (S : List Int) (ya : Option Addr) (yc : Nat) (Y : List Int) (ta : Option Addr) (tc : Nat) (T : List Int) (la : Option Addr) (lc : Nat) (C : List Int) (w : World) (hS : IntsAt w a S) (hY : IntsAt w ya Y) (hT : IntsAt w ta T) (hcy : Y.length ≤ yc) (hct : T.length ≤ tc) (hC : IntsAt w la C) (hcm : C.length ≤ lc ∧ lc ≤ 9223372036854775807) :
    Calls Try.prog 6 #[parV r c a S.length cap, plaV ya Y.length yc ta T.length tc, .slice la C.length lc] w fun e w' => e = .returned (.bool true) ∧ Fut w w' := by
  have hA : Fut w ((w.alloc (.cells #[.int .i64 r, .int .i64 c, .slice a S.length cap] 24)).alloc (.cells #[.slice ya Y.length yc, .slice ta T.length tc] 26)) := (Fut.alloc _ _).trans (Fut.alloc _ _)
  have hBP := (BoxP.new w r c a S.length cap).fut (Fut.alloc _ (.cells #[.slice ya Y.length yc, .slice ta T.length tc] 26))
  have hBQ := BoxQ.new (w.alloc (.cells #[.int .i64 r, .int .i64 c, .slice a S.length cap] 24)) ya Y.length yc ta T.length tc
  rw [World.size_alloc] at hBQ
  have HA := Lib.hid hA
  have HBP := Lib.hid hBP
  have HBQ := Lib.hid hBQ
  obtain ⟨_, p0, p1, p2⟩ := hBP
  obtain ⟨_, q0, q1⟩ := hBQ
  have HLA := Lib.hid (fun W => large_any r c a cap S ya yc Y ta tc T W)
  obtain ⟨hcm1, hcm2⟩ := hcm
  cases hL : larB S Y T
  · obtain ⟨l1, l2, l3⟩ := larB_off hL
    rw [hL] at HLA
    by_cases hbig : 40 < C.length
    · have hbx : (40 : Int) < C.length := by omega
      clear hA hS hY hT hC hL l1 l2 l3 hcy hct
      go_enter Try.func6, Try.ntmps6
      go_wp2_with fail
      refine (HLA.out _).mono ?_
      rintro _ w2 ⟨rfl, F⟩
      have HF2 := Lib.hid (HA.out.trans F)
      clear F p0 p1 p2 q0 q1 HLA
      go_wp2_with fail
      refine (works_any _).mono ?_
      rintro _ w3 ⟨rfl, F⟩
      have HF3 := Lib.hid (HF2.out.trans F)
      clear F
      go_wp2_with fail
      go_ret
      exact ⟨rfl, HF3.out⟩
    · have hbx : ¬ (40 : Int) < C.length := by omega
      have hcl : C.length ≤ 1000 := by omega
      have h : InPQ w a S ya yc Y ta tc T := ⟨hS, by omega, hY, by omega, hcy, hT, by omega, hct⟩
      have HBR := Lib.hid (fun W F => bar_any r c a cap S ya yc Y ta tc T W (h.fut F) (by omega))
      have HRB := Lib.hid (fun W F => rbar_any r c a cap S ya yc Y ta tc T W (h.fut F))
      have HPR := Lib.hid (fun W F => proves_any r c a cap S ya yc Y ta tc T la lc C W (h.fut F) (by omega) (hC.fut F) hcl)
      have HRP := Lib.hid (fun W F => rproves_any r c a cap S ya yc Y ta tc T la lc C W (h.fut F) (hC.fut F) hcl)
      have HRS := Lib.hid (brR_len r c S Y T)
      generalize brE r c S Y T = e at *
      generalize brR r c S Y T = R at *
      generalize prvE r c S Y T C = pe at *
      clear h hS hY hT hcy hct hL l1 l2 l3 hA hC hcl hcm1 hcm2
      go_enter Try.func6, Try.ntmps6
      go_wp2_with fail
      refine (HLA.out _).mono ?_
      rintro _ w2 ⟨rfl, F⟩
      have HF2 := Lib.hid (HA.out.trans F)
      have HBP2 := Lib.hid (HBP.out.fut F)
      have HBQ2 := Lib.hid (HBQ.out.fut F)
      clear p0 p1 p2 q0 q1 F HLA
      obtain ⟨_, p0, p1, p2⟩ := HBP2.out
      obtain ⟨_, q0, q1⟩ := HBQ2.out
      go_upto_region 3 with fail
      have FD : Fut w2 w2.drew := below_drewN Fut.rfl 1
      have HF3 := Lib.hid (HF2.out.trans FD)
      have HBP3 := Lib.hid (HBP2.out.fut FD)
      have HBQ3 := Lib.hid (HBQ2.out.fut FD)
      have keep : ∀ W', Fut w2.drew W' → (fun w' => BoxP w' w.heap.size r c a S.length cap ∧ BoxQ w' (w.heap.size + 1) ya Y.length yc ta T.length tc) W' := fun W' F => ⟨HBP3.out.fut F, HBQ3.out.fut F⟩
      clear p0 p1 p2 q0 q1 FD HF2 HBP2 HBQ2 HA HBP HBQ
      go_cut [7, 8] from 7 to 24 (fun s9 s10 wx => ∃ B9 B10, s9 = .pointer (some ⟨B9, 0, none⟩) ∧ s10 = .pointer (some ⟨B10, 0, none⟩) ∧ Hid (BoxP wx B9 r c a S.length cap) ∧ Hid (BoxQ wx B10 ya Y.length yc ta T.length tc) ∧ Hid (BoxP wx w.heap.size r c a S.length cap) ∧ Hid (BoxQ wx (w.heap.size + 1) ya Y.length yc ta T.length tc) ∧ Hid (Fut w wx))
      case first =>
        refine wp_region_held_drew (S := (fun w' => BoxP w' w.heap.size r c a S.length cap ∧ BoxQ w' (w.heap.size + 1) ya Y.length yc ta T.length tc)) (by kernel_rfl) ?_ (fun hHeld => ?_)
        · exact keep _ Fut.rfl
        generalize w2.drew = u0 at *
        refine wpAnyH_take (i := 0) (oi := { dst := some 22, op := Op.load 24 (Operand.tmp 3), type := 24, pos := "law.go:134", after := #[], guard := none }) (v := ?_) rfl (by kernel_rfl) (by kernel_rfl) (by kernel_rfl) (fun _ _ _ h => h) (Or.inl ⟨by rfl, ?_⟩) (by assumption) ?_
        rotate_left
        · (intro w hSw; obtain ⟨⟨_, s0, s1, s2⟩, ⟨_, s3, s4⟩⟩ := hSw; go_simp <;> with_reducible rfl)
        try simp only [Act.put, List.setIfInBounds_toArray, List.set_cons_zero, List.set_cons_succ]
        refine wpAnyH_take (i := 1) (oi := { dst := some 23, op := Op.load 26 (Operand.tmp 4), type := 26, pos := "law.go:134", after := #[{ on := 4, ground := Ground.gcOnly Departure.lateStores }], guard := none }) (v := ?_) rfl (by kernel_rfl) (by kernel_rfl) (by kernel_rfl) (fun _ _ _ h => h) (Or.inl ⟨by rfl, ?_⟩) (by assumption) ?_
        rotate_left
        · (intro w hSw; obtain ⟨⟨_, s0, s1, s2⟩, ⟨_, s3, s4⟩⟩ := hSw; go_simp <;> with_reducible rfl)
        try simp only [Act.put, List.setIfInBounds_toArray, List.set_cons_zero, List.set_cons_succ]
        refine wpAnyH_ready (rs := [2, 3]) (by kernel_rfl) (by simp) ?_
        refine AllReadyH.cons (o := { dst := some 7, op := Op.alloc 29, type := 0, pos := "law.go:134", after := #[], guard := none }) rfl (fun K hK => ?_) (AllReadyH.cons (o := { dst := some 8, op := Op.alloc 30, type := 0, pos := "law.go:134", after := #[], guard := none }) rfl (fun K hK => ?_) (AllReadyH.nil))
        · go_simp
          refine hK.out _ _ ?_ (fun hHeld => ?_)
          · exact keep _ (Fut.alloc u0 (.cells #[.int .i64 0, .int .i64 0, .slice none 0 0] 29))
          clear hK K
          try simp only [Act.put, List.setIfInBounds_toArray, List.set_cons_zero, List.set_cons_succ]
          refine wpAnyH_ready (rs := [3]) (by kernel_rfl) (by simp) ?_
          refine AllReadyH.cons (o := { dst := some 8, op := Op.alloc 30, type := 0, pos := "law.go:134", after := #[], guard := none }) rfl (fun K hK => ?_) AllReadyH.nil
          go_simp
          refine hK.out _ _ ?_ (fun hHeld => ?_)
          · exact keep _ ((Fut.alloc u0 (.cells #[.int .i64 0, .int .i64 0, .slice none 0 0] 29)).trans (Fut.alloc _ (.cells #[.slice none 0 0, .slice none 0 0] 30)))
          clear hK K
          try simp only [Act.put, List.setIfInBounds_toArray, List.set_cons_zero, List.set_cons_succ]
          refine wpAnyH_ready (rs := [4]) (by kernel_rfl) (by simp) ?_
          refine AllReadyH.cons (o := { dst := none, op := Op.store 29 (Operand.tmp 7) (Operand.tmp 22), type := 0, pos := "law.go:134", after := #[{ on := 2, ground := Ground.data }, { on := 0, ground := Ground.data }, { on := 0, ground := Ground.phase }, { on := 1, ground := Ground.textOnly Departure.lateStores }, { on := 2, ground := Ground.phase }, { on := 3, ground := Ground.phase }], guard := none }) rfl (fun K hK => ?_) AllReadyH.nil
          go_simp
          refine hK.out _ _ ?_ (fun hHeld => ?_)
          · exact keep _ ((Fut.alloc u0 (.cells #[.int .i64 r, .int .i64 c, .slice a S.length cap] 29)).trans (Fut.alloc _ (.cells #[.slice none 0 0, .slice none 0 0] 30)))
          clear hK K
          try simp only [Act.put, List.setIfInBounds_toArray, List.set_cons_zero, List.set_cons_succ]
          refine wpAnyH_ready (rs := [5]) (by kernel_rfl) (by simp) ?_
          refine AllReadyH.cons (o := { dst := none, op := Op.store 30 (Operand.tmp 8) (Operand.tmp 23), type := 0, pos := "law.go:134", after := #[{ on := 3, ground := Ground.data }, { on := 1, ground := Ground.data }, { on := 4, ground := Ground.chain }, { on := 0, ground := Ground.phase }, { on := 1, ground := Ground.phase }, { on := 2, ground := Ground.phase }, { on := 3, ground := Ground.phase }, { on := 4, ground := Ground.phase }], guard := none }) rfl (fun K hK => ?_) AllReadyH.nil
          go_simp
          refine hK.out _ _ ?_ (fun hHeld => ?_)
          · exact keep _ ((Fut.alloc u0 (.cells #[.int .i64 r, .int .i64 c, .slice a S.length cap] 29)).trans (Fut.alloc _ (.cells #[.slice ya Y.length yc, .slice ta T.length tc] 30)))
          clear hK K
          try simp only [Act.put, List.setIfInBounds_toArray, List.set_cons_zero, List.set_cons_succ]
          refine wpAnyH_done (by kernel_rfl) ?_ _
          have F5 : Fut u0 ((u0.alloc (.cells #[.int .i64 r, .int .i64 c, .slice a S.length cap] 29)).alloc (.cells #[.slice ya Y.length yc, .slice ta T.length tc] 30)) := (Fut.alloc u0 (.cells #[.int .i64 r, .int .i64 c, .slice a S.length cap] 29)).trans (Fut.alloc _ (.cells #[.slice ya Y.length yc, .slice ta T.length tc] 30))
          have k6 : ((u0.alloc (.cells #[.int .i64 r, .int .i64 c, .slice a S.length cap] 29)).alloc (.cells #[.slice ya Y.length yc, .slice ta T.length tc] 30)).heap[u0.heap.size]? = some (.cells #[.int .i64 r, .int .i64 c, .slice a S.length cap] 29) := (heap_new1 u0 (.cells #[.int .i64 r, .int .i64 c, .slice a S.length cap] 29) (.cells #[.slice ya Y.length yc, .slice ta T.length tc] 30))
          have k5 : ((u0.alloc (.cells #[.int .i64 r, .int .i64 c, .slice a S.length cap] 29)).alloc (.cells #[.slice ya Y.length yc, .slice ta T.length tc] 30)).heap[(u0.heap.size + 1)]? = some (.cells #[.slice ya Y.length yc, .slice ta T.length tc] 30) := (by have := World.alloc_heap_new (u0.alloc (.cells #[.int .i64 r, .int .i64 c, .slice a S.length cap] 29)) (.cells #[.slice ya Y.length yc, .slice ta T.length tc] 30); rwa [World.size_alloc] at this)
          go_wp2_with fail
          go_meet
          exact ⟨u0.heap.size, (u0.heap.size + 1), rfl, rfl, Lib.hid (boxP_of k6), Lib.hid (boxQ_of k5), Lib.hid (keep _ F5).1, Lib.hid (keep _ F5).2, Lib.hid (HF3.out.trans F5)⟩
        · go_simp
          refine hK.out _ _ ?_ (fun hHeld => ?_)
          · exact keep _ (Fut.alloc u0 (.cells #[.slice none 0 0, .slice none 0 0] 30))
          clear hK K
          try simp only [Act.put, List.setIfInBounds_toArray, List.set_cons_zero, List.set_cons_succ]
          refine wpAnyH_ready (rs := [2]) (by kernel_rfl) (by simp) ?_
          refine AllReadyH.cons (o := { dst := some 7, op := Op.alloc 29, type := 0, pos := "law.go:134", after := #[], guard := none }) rfl (fun K hK => ?_) AllReadyH.nil
          go_simp
          refine hK.out _ _ ?_ (fun hHeld => ?_)
          · exact keep _ ((Fut.alloc u0 (.cells #[.slice none 0 0, .slice none 0 0] 30)).trans (Fut.alloc _ (.cells #[.int .i64 0, .int .i64 0, .slice none 0 0] 29)))
          clear hK K
          try simp only [Act.put, List.setIfInBounds_toArray, List.set_cons_zero, List.set_cons_succ]
          refine wpAnyH_ready (rs := [4]) (by kernel_rfl) (by simp) ?_
          refine AllReadyH.cons (o := { dst := none, op := Op.store 29 (Operand.tmp 7) (Operand.tmp 22), type := 0, pos := "law.go:134", after := #[{ on := 2, ground := Ground.data }, { on := 0, ground := Ground.data }, { on := 0, ground := Ground.phase }, { on := 1, ground := Ground.textOnly Departure.lateStores }, { on := 2, ground := Ground.phase }, { on := 3, ground := Ground.phase }], guard := none }) rfl (fun K hK => ?_) AllReadyH.nil
          go_simp
          refine hK.out _ _ ?_ (fun hHeld => ?_)
          · exact keep _ ((Fut.alloc u0 (.cells #[.slice none 0 0, .slice none 0 0] 30)).trans (Fut.alloc _ (.cells #[.int .i64 r, .int .i64 c, .slice a S.length cap] 29)))
          clear hK K
          try simp only [Act.put, List.setIfInBounds_toArray, List.set_cons_zero, List.set_cons_succ]
          refine wpAnyH_ready (rs := [5]) (by kernel_rfl) (by simp) ?_
          refine AllReadyH.cons (o := { dst := none, op := Op.store 30 (Operand.tmp 8) (Operand.tmp 23), type := 0, pos := "law.go:134", after := #[{ on := 3, ground := Ground.data }, { on := 1, ground := Ground.data }, { on := 4, ground := Ground.chain }, { on := 0, ground := Ground.phase }, { on := 1, ground := Ground.phase }, { on := 2, ground := Ground.phase }, { on := 3, ground := Ground.phase }, { on := 4, ground := Ground.phase }], guard := none }) rfl (fun K hK => ?_) AllReadyH.nil
          go_simp
          refine hK.out _ _ ?_ (fun hHeld => ?_)
          · exact keep _ ((Fut.alloc u0 (.cells #[.slice ya Y.length yc, .slice ta T.length tc] 30)).trans (Fut.alloc _ (.cells #[.int .i64 r, .int .i64 c, .slice a S.length cap] 29)))
          clear hK K
          try simp only [Act.put, List.setIfInBounds_toArray, List.set_cons_zero, List.set_cons_succ]
          refine wpAnyH_done (by kernel_rfl) ?_ _
          have F5 : Fut u0 ((u0.alloc (.cells #[.slice ya Y.length yc, .slice ta T.length tc] 30)).alloc (.cells #[.int .i64 r, .int .i64 c, .slice a S.length cap] 29)) := (Fut.alloc u0 (.cells #[.slice ya Y.length yc, .slice ta T.length tc] 30)).trans (Fut.alloc _ (.cells #[.int .i64 r, .int .i64 c, .slice a S.length cap] 29))
          have k6 : ((u0.alloc (.cells #[.slice ya Y.length yc, .slice ta T.length tc] 30)).alloc (.cells #[.int .i64 r, .int .i64 c, .slice a S.length cap] 29)).heap[(u0.heap.size + 1)]? = some (.cells #[.int .i64 r, .int .i64 c, .slice a S.length cap] 29) := (by have := World.alloc_heap_new (u0.alloc (.cells #[.slice ya Y.length yc, .slice ta T.length tc] 30)) (.cells #[.int .i64 r, .int .i64 c, .slice a S.length cap] 29); rwa [World.size_alloc] at this)
          have k5 : ((u0.alloc (.cells #[.slice ya Y.length yc, .slice ta T.length tc] 30)).alloc (.cells #[.int .i64 r, .int .i64 c, .slice a S.length cap] 29)).heap[u0.heap.size]? = some (.cells #[.slice ya Y.length yc, .slice ta T.length tc] 30) := (heap_new1 u0 (.cells #[.slice ya Y.length yc, .slice ta T.length tc] 30) (.cells #[.int .i64 r, .int .i64 c, .slice a S.length cap] 29))
          go_wp2_with fail
          go_meet
          exact ⟨(u0.heap.size + 1), u0.heap.size, rfl, rfl, Lib.hid (boxP_of k6), Lib.hid (boxQ_of k5), Lib.hid (keep _ F5).1, Lib.hid (keep _ F5).2, Lib.hid (HF3.out.trans F5)⟩
      case rest =>
        obtain ⟨B9, B10, rfl, rfl, HP9_4, HQ10_4, HP4_4, HQ4_4, HF4⟩ := hcut
        obtain ⟨w4, hw4⟩ : ∃ w4, w4 = wc := ⟨_, rfl⟩
        subst hw4
        clear HF3 HBP3 HBQ3 keep
        obtain ⟨_, p0, p1, p2⟩ := HP4_4.out
        obtain ⟨_, q0, q1⟩ := HQ4_4.out
        go_wp2_with fail
        refine (HBR.out _ HF4.out).mono ?_
        rintro _ w5 ⟨l1, lc1, rfl, _, hI1, F⟩
        have HF5 := Lib.hid (HF4.out.trans F)
        have HP4_5 := Lib.hid (HP4_4.out.fut F)
        have HQ4_5 := Lib.hid (HQ4_4.out.fut F)
        have HP9_5 := Lib.hid (HP9_4.out.fut F)
        have HQ10_5 := Lib.hid (HQ10_4.out.fut F)
        have HI1 := Lib.hid hI1
        clear hI1
        clear F p0 p1 p2 q0 q1
        obtain ⟨_, p0, p1, p2⟩ := HP9_5.out
        obtain ⟨_, q0, q1⟩ := HQ10_5.out
        go_wp2_with fail
        refine (HRB.out _ HF5.out).mono ?_
        rintro _ w6 ⟨l2, lc2, rfl, _, hI2, F⟩
        have HF6 := Lib.hid (HF5.out.trans F)
        have HP4_6 := Lib.hid (HP4_5.out.fut F)
        have HQ4_6 := Lib.hid (HQ4_5.out.fut F)
        have HP9_6 := Lib.hid (HP9_5.out.fut F)
        have HQ10_6 := Lib.hid (HQ10_5.out.fut F)
        have HI1b := Lib.hid (HI1.out.fut F)
        have HI2 := Lib.hid hI2
        clear hI2
        clear F p0 p1 p2 q0 q1
        obtain ⟨_, p0, p1, p2⟩ := HP4_6.out
        obtain ⟨_, q0, q1⟩ := HQ4_6.out
        go_upto_region 6 with fail
        have FD : Fut w6 w6.drew := below_drewN Fut.rfl 1
        have keep4 : ∀ W', Fut w6.drew W' → (fun w' => (BoxP w' w.heap.size r c a S.length cap ∧ BoxQ w' (w.heap.size + 1) ya Y.length yc ta T.length tc) ∧ BoxP w' B9 r c a S.length cap ∧ BoxQ w' B10 ya Y.length yc ta T.length tc) W' := fun W' F => ⟨⟨(HP4_6.out.fut FD).fut F, (HQ4_6.out.fut FD).fut F⟩, (HP9_6.out.fut FD).fut F, (HQ10_6.out.fut FD).fut F⟩
        have HFU := Lib.hid (HF6.out.trans FD)
        have HSM := Lib.hid (fun W (F : Fut w6.drew W) => ex_same (cap := lc1) (dap := lc2) R R rfl rfl ⟨HRS.out, HRS.out⟩ W ((HI1b.out.fut FD).fut F) ((HI2.out.fut FD).fut F) true (by unfold sameB; simp))
        clear p0 p1 p2 q0 q1
        refine wp_region_held_drew (S := (fun w' => (BoxP w' w.heap.size r c a S.length cap ∧ BoxQ w' (w.heap.size + 1) ya Y.length yc ta T.length tc) ∧ BoxP w' B9 r c a S.length cap ∧ BoxQ w' B10 ya Y.length yc ta T.length tc)) (by kernel_rfl) ?_ (fun hHeld => ?_)
        · exact keep4 _ Fut.rfl
        generalize w6.drew = u8 at *
        refine wpAnyH_take (i := 0) (oi := { dst := some 36, op := Op.move (Operand.tmp 9), type := 22, pos := "law.go:137", after := #[], guard := none }) (v := ?_) rfl (by kernel_rfl) (by kernel_rfl) (by kernel_rfl) (fun _ _ _ h => h) (Or.inl ⟨by rfl, ?_⟩) (by assumption) ?_
        rotate_left
        · (intro w hSw; obtain ⟨⟨⟨_, s0, s1, s2⟩, ⟨_, s3, s4⟩⟩, ⟨_, s5, s6, s7⟩, ⟨_, s8, s9⟩⟩ := hSw; go_simp <;> with_reducible rfl)
        try simp only [Act.put, List.setIfInBounds_toArray, List.set_cons_zero, List.set_cons_succ]
        refine wpAnyH_take (i := 1) (oi := { dst := some 37, op := Op.move (Operand.tmp 11), type := 22, pos := "law.go:137", after := #[], guard := none }) (v := ?_) rfl (by kernel_rfl) (by kernel_rfl) (by kernel_rfl) (fun _ _ _ h => h) (Or.inl ⟨by rfl, ?_⟩) (by assumption) ?_
        rotate_left
        · (intro w hSw; obtain ⟨⟨⟨_, s0, s1, s2⟩, ⟨_, s3, s4⟩⟩, ⟨_, s5, s6, s7⟩, ⟨_, s8, s9⟩⟩ := hSw; go_simp <;> with_reducible rfl)
        try simp only [Act.put, List.setIfInBounds_toArray, List.set_cons_zero, List.set_cons_succ]
        refine wpAnyH_ready (rs := [2]) (by kernel_rfl) (by simp) ?_
        refine AllReadyH.cons (o := { dst := some 38, op := Op.call { callee := Callee.value (Operand.func 34), args := #[Operand.tmp 36, Operand.tmp 37], argTypes := #[22, 22] }, type := 4, pos := "law.go:137", after := #[{ on := 0, ground := Ground.data }, { on := 1, ground := Ground.data }], guard := none }) rfl (fun K hK => ?_) AllReadyH.nil
        go_simp
        go_at_call 34
        refine (HSM.out _ Fut.rfl).mono ?_
        rintro _ wc0 ⟨rfl, Fc⟩
        have HFc0 := Lib.hid Fc
        clear Fc
        try go_wp2_with fail
        refine hK.out _ _ ?_ (fun hHeld => ?_)
        · exact keep4 _ HFc0.out
        clear hK K
        try simp only [Act.put, List.setIfInBounds_toArray, List.set_cons_zero, List.set_cons_succ]
        refine wpAnyH_take (i := 3) (oi := { dst := some 39, op := Op.move (Operand.tmp 38), type := 4, pos := "law.go:137", after := #[{ on := 2, ground := Ground.data }, { on := 2, ground := Ground.chain }], guard := none }) (v := ?_) rfl (by kernel_rfl) (by kernel_rfl) (by kernel_rfl) (fun _ _ _ h => h) (Or.inl ⟨by rfl, ?_⟩) (by assumption) ?_
        rotate_left
        · (intro w hSw; obtain ⟨⟨⟨_, s0, s1, s2⟩, ⟨_, s3, s4⟩⟩, ⟨_, s5, s6, s7⟩, ⟨_, s8, s9⟩⟩ := hSw; go_simp <;> with_reducible rfl)
        try simp only [Act.put, List.setIfInBounds_toArray, List.set_cons_zero, List.set_cons_succ]
        refine wpAnyH_take (i := 4) (oi := { dst := some 40, op := Op.move (Operand.tmp 10), type := 31, pos := "law.go:137", after := #[{ on := 3, ground := Ground.guard }], guard := some (3, true) }) (v := ?_) rfl (by kernel_rfl) (by kernel_rfl) (by kernel_rfl) (fun _ _ _ h => h) (Or.inl ⟨by rfl, ?_⟩) (by assumption) ?_
        rotate_left
        · (intro w hSw; obtain ⟨⟨⟨_, s0, s1, s2⟩, ⟨_, s3, s4⟩⟩, ⟨_, s5, s6, s7⟩, ⟨_, s8, s9⟩⟩ := hSw; go_simp <;> with_reducible rfl)
        try simp only [Act.put, List.setIfInBounds_toArray, List.set_cons_zero, List.set_cons_succ]
        refine wpAnyH_take (i := 5) (oi := { dst := some 41, op := Op.move (Operand.tmp 12), type := 31, pos := "law.go:137", after := #[{ on := 3, ground := Ground.guard }], guard := some (3, true) }) (v := ?_) rfl (by kernel_rfl) (by kernel_rfl) (by kernel_rfl) (fun _ _ _ h => h) (Or.inl ⟨by rfl, ?_⟩) (by assumption) ?_
        rotate_left
        · (intro w hSw; obtain ⟨⟨⟨_, s0, s1, s2⟩, ⟨_, s3, s4⟩⟩, ⟨_, s5, s6, s7⟩, ⟨_, s8, s9⟩⟩ := hSw; go_simp <;> with_reducible rfl)
        try simp only [Act.put, List.setIfInBounds_toArray, List.set_cons_zero, List.set_cons_succ]
        refine wpAnyH_take (i := 6) (oi := { dst := some 42, op := Op.binOp BinOp.eql 31 (Operand.tmp 40) (Operand.tmp 41) 31, type := 4, pos := "law.go:137", after := #[{ on := 4, ground := Ground.data }, { on := 5, ground := Ground.data }, { on := 3, ground := Ground.guard }], guard := some (3, true) }) (v := ?_) rfl (by kernel_rfl) (by kernel_rfl) (by kernel_rfl) (fun _ _ _ h => h) (Or.inl ⟨by rfl, ?_⟩) (by assumption) ?_
        rotate_left
        · (intro w hSw; obtain ⟨⟨⟨_, s0, s1, s2⟩, ⟨_, s3, s4⟩⟩, ⟨_, s5, s6, s7⟩, ⟨_, s8, s9⟩⟩ := hSw; go_simp <;> with_reducible rfl)
        try simp only [Act.put, List.setIfInBounds_toArray, List.set_cons_zero, List.set_cons_succ]
        refine wpAnyH_take (i := 7) (oi := { dst := some 43, op := Op.pick (Operand.tmp 39) (Operand.tmp 42) (Operand.const (Value.bool false)), type := 4, pos := "law.go:137", after := #[{ on := 3, ground := Ground.data }, { on := 6, ground := Ground.data }], guard := none }) (v := ?_) rfl (by kernel_rfl) (by kernel_rfl) (by kernel_rfl) (fun _ _ _ h => h) (Or.inl ⟨by rfl, ?_⟩) (by assumption) ?_
        rotate_left
        · (intro w hSw; obtain ⟨⟨⟨_, s0, s1, s2⟩, ⟨_, s3, s4⟩⟩, ⟨_, s5, s6, s7⟩, ⟨_, s8, s9⟩⟩ := hSw; go_simp <;> with_reducible rfl)
        try simp only [Act.put, List.setIfInBounds_toArray, List.set_cons_zero, List.set_cons_succ]
        refine wpAnyH_take (i := 8) (oi := { dst := some 44, op := Op.move (Operand.tmp 43), type := 4, pos := "law.go:137", after := #[{ on := 7, ground := Ground.data }, { on := 3, ground := Ground.chain }], guard := none }) (v := ?_) rfl (by kernel_rfl) (by kernel_rfl) (by kernel_rfl) (fun _ _ _ h => h) (Or.inl ⟨by rfl, ?_⟩) (by assumption) ?_
        rotate_left
        · (intro w hSw; obtain ⟨⟨⟨_, s0, s1, s2⟩, ⟨_, s3, s4⟩⟩, ⟨_, s5, s6, s7⟩, ⟨_, s8, s9⟩⟩ := hSw; go_simp <;> with_reducible rfl)
        try simp only [Act.put, List.setIfInBounds_toArray, List.set_cons_zero, List.set_cons_succ]
        refine wpAnyH_take (i := 9) (oi := { dst := some 45, op := Op.load 24 (Operand.tmp 3), type := 24, pos := "law.go:137", after := #[{ on := 8, ground := Ground.guard }], guard := some (8, true) }) (v := ?_) rfl (by kernel_rfl) (by kernel_rfl) (by kernel_rfl) (fun _ _ _ h => h) (Or.inl ⟨by rfl, ?_⟩) (by assumption) ?_
        rotate_left
        · (intro w hSw; obtain ⟨⟨⟨_, s0, s1, s2⟩, ⟨_, s3, s4⟩⟩, ⟨_, s5, s6, s7⟩, ⟨_, s8, s9⟩⟩ := hSw; go_simp <;> with_reducible rfl)
        try simp only [Act.put, List.setIfInBounds_toArray, List.set_cons_zero, List.set_cons_succ]
        refine wpAnyH_take (i := 10) (oi := { dst := some 46, op := Op.load 26 (Operand.tmp 4), type := 26, pos := "law.go:137", after := #[{ on := 8, ground := Ground.guard }], guard := some (8, true) }) (v := ?_) rfl (by kernel_rfl) (by kernel_rfl) (by kernel_rfl) (fun _ _ _ h => h) (Or.inl ⟨by rfl, ?_⟩) (by assumption) ?_
        rotate_left
        · (intro w hSw; obtain ⟨⟨⟨_, s0, s1, s2⟩, ⟨_, s3, s4⟩⟩, ⟨_, s5, s6, s7⟩, ⟨_, s8, s9⟩⟩ := hSw; go_simp <;> with_reducible rfl)
        try simp only [Act.put, List.setIfInBounds_toArray, List.set_cons_zero, List.set_cons_succ]
        refine wpAnyH_take (i := 11) (oi := { dst := some 47, op := Op.move (Operand.tmp 2), type := 22, pos := "law.go:137", after := #[{ on := 8, ground := Ground.guard }], guard := some (8, true) }) (v := ?_) rfl (by kernel_rfl) (by kernel_rfl) (by kernel_rfl) (fun _ _ _ h => h) (Or.inl ⟨by rfl, ?_⟩) (by assumption) ?_
        rotate_left
        · (intro w hSw; obtain ⟨⟨⟨_, s0, s1, s2⟩, ⟨_, s3, s4⟩⟩, ⟨_, s5, s6, s7⟩, ⟨_, s8, s9⟩⟩ := hSw; go_simp <;> with_reducible rfl)
        try simp only [Act.put, List.setIfInBounds_toArray, List.set_cons_zero, List.set_cons_succ]
        refine wpAnyH_take (i := 13) (oi := { dst := some 49, op := Op.load 29 (Operand.tmp 7), type := 29, pos := "law.go:137", after := #[{ on := 8, ground := Ground.guard }], guard := some (8, true) }) (v := ?_) rfl (by kernel_rfl) (by kernel_rfl) (by kernel_rfl) (fun _ _ _ h => h) (Or.inl ⟨by rfl, ?_⟩) (by assumption) ?_
        rotate_left
        · (intro w hSw; obtain ⟨⟨⟨_, s0, s1, s2⟩, ⟨_, s3, s4⟩⟩, ⟨_, s5, s6, s7⟩, ⟨_, s8, s9⟩⟩ := hSw; go_simp <;> with_reducible rfl)
        try simp only [Act.put, List.setIfInBounds_toArray, List.set_cons_zero, List.set_cons_succ]
        refine wpAnyH_take (i := 14) (oi := { dst := some 50, op := Op.load 30 (Operand.tmp 8), type := 30, pos := "law.go:137", after := #[{ on := 8, ground := Ground.guard }], guard := some (8, true) }) (v := ?_) rfl (by kernel_rfl) (by kernel_rfl) (by kernel_rfl) (fun _ _ _ h => h) (Or.inl ⟨by rfl, ?_⟩) (by assumption) ?_
        rotate_left
        · (intro w hSw; obtain ⟨⟨⟨_, s0, s1, s2⟩, ⟨_, s3, s4⟩⟩, ⟨_, s5, s6, s7⟩, ⟨_, s8, s9⟩⟩ := hSw; go_simp <;> with_reducible rfl)
        try simp only [Act.put, List.setIfInBounds_toArray, List.set_cons_zero, List.set_cons_succ]
        refine wpAnyH_take (i := 15) (oi := { dst := some 51, op := Op.move (Operand.tmp 2), type := 22, pos := "law.go:137", after := #[{ on := 8, ground := Ground.guard }], guard := some (8, true) }) (v := ?_) rfl (by kernel_rfl) (by kernel_rfl) (by kernel_rfl) (fun _ _ _ h => h) (Or.inl ⟨by rfl, ?_⟩) (by assumption) ?_
        rotate_left
        · (intro w hSw; obtain ⟨⟨⟨_, s0, s1, s2⟩, ⟨_, s3, s4⟩⟩, ⟨_, s5, s6, s7⟩, ⟨_, s8, s9⟩⟩ := hSw; go_simp <;> with_reducible rfl)
        try simp only [Act.put, List.setIfInBounds_toArray, List.set_cons_zero, List.set_cons_succ]
        refine wpAnyH_ready (rs := [12]) (by kernel_rfl) (by simp) ?_
        refine AllReadyH.cons (o := { dst := some 48, op := Op.call { callee := Callee.value (Operand.func 39), args := #[Operand.tmp 45, Operand.tmp 46, Operand.tmp 47], argTypes := #[24, 26, 22] }, type := 31, pos := "law.go:137", after := #[{ on := 9, ground := Ground.data }, { on := 10, ground := Ground.data }, { on := 11, ground := Ground.data }, { on := 8, ground := Ground.chain }, { on := 8, ground := Ground.guard }], guard := some (8, true) }) rfl (fun K hK => ?_) AllReadyH.nil
        go_simp
        go_at_call 39
        refine (HPR.out _ (HFU.out.trans HFc0.out)).mono ?_
        rintro _ wc1 ⟨rfl, Fc⟩
        have HFc1 := Lib.hid (HFc0.out.trans Fc)
        clear Fc
        try go_wp2_with fail
        refine hK.out _ _ ?_ (fun hHeld => ?_)
        · exact keep4 _ HFc1.out
        clear hK K
        try simp only [Act.put, List.setIfInBounds_toArray, List.set_cons_zero, List.set_cons_succ]
        refine wpAnyH_ready (rs := [16]) (by kernel_rfl) (by simp) ?_
        refine AllReadyH.cons (o := { dst := some 52, op := Op.call { callee := Callee.value (Operand.func 40), args := #[Operand.tmp 49, Operand.tmp 50, Operand.tmp 51], argTypes := #[29, 30, 22] }, type := 31, pos := "law.go:137", after := #[{ on := 13, ground := Ground.data }, { on := 14, ground := Ground.data }, { on := 15, ground := Ground.data }, { on := 12, ground := Ground.chain }, { on := 8, ground := Ground.guard }], guard := some (8, true) }) rfl (fun K hK => ?_) AllReadyH.nil
        go_simp
        go_at_call 40
        refine (HRP.out _ (HFU.out.trans HFc1.out)).mono ?_
        rintro _ wc2 ⟨rfl, Fc⟩
        have HFc2 := Lib.hid (HFc1.out.trans Fc)
        clear Fc
        try go_wp2_with fail
        refine hK.out _ _ ?_ (fun hHeld => ?_)
        · exact keep4 _ HFc2.out
        clear hK K
        try simp only [Act.put, List.setIfInBounds_toArray, List.set_cons_zero, List.set_cons_succ]
        refine wpAnyH_take (i := 17) (oi := { dst := some 53, op := Op.binOp BinOp.eql 31 (Operand.tmp 48) (Operand.tmp 52) 31, type := 4, pos := "law.go:137", after := #[{ on := 12, ground := Ground.data }, { on := 16, ground := Ground.data }, { on := 8, ground := Ground.guard }], guard := some (8, true) }) (v := ?_) rfl (by kernel_rfl) (by kernel_rfl) (by kernel_rfl) (fun _ _ _ h => h) (Or.inl ⟨by rfl, ?_⟩) (by assumption) ?_
        rotate_left
        · (intro w hSw; obtain ⟨⟨⟨_, s0, s1, s2⟩, ⟨_, s3, s4⟩⟩, ⟨_, s5, s6, s7⟩, ⟨_, s8, s9⟩⟩ := hSw; go_simp <;> with_reducible rfl)
        try simp only [Act.put, List.setIfInBounds_toArray, List.set_cons_zero, List.set_cons_succ]
        refine wpAnyH_take (i := 18) (oi := { dst := some 54, op := Op.pick (Operand.tmp 44) (Operand.tmp 53) (Operand.const (Value.bool false)), type := 4, pos := "law.go:137", after := #[{ on := 8, ground := Ground.data }, { on := 17, ground := Ground.data }], guard := none }) (v := ?_) rfl (by kernel_rfl) (by kernel_rfl) (by kernel_rfl) (fun _ _ _ h => h) (Or.inl ⟨by rfl, ?_⟩) (by assumption) ?_
        rotate_left
        · (intro w hSw; obtain ⟨⟨⟨_, s0, s1, s2⟩, ⟨_, s3, s4⟩⟩, ⟨_, s5, s6, s7⟩, ⟨_, s8, s9⟩⟩ := hSw; go_simp <;> with_reducible rfl)
        try simp only [Act.put, List.setIfInBounds_toArray, List.set_cons_zero, List.set_cons_succ]
        refine wpAnyH_take (i := 19) (oi := { dst := some 55, op := Op.move (Operand.tmp 54), type := 4, pos := "law.go:137", after := #[{ on := 18, ground := Ground.data }, { on := 16, ground := Ground.chain }], guard := none }) (v := ?_) rfl (by kernel_rfl) (by kernel_rfl) (by kernel_rfl) (fun _ _ _ h => h) (Or.inl ⟨by rfl, ?_⟩) (by assumption) ?_
        rotate_left
        · (intro w hSw; obtain ⟨⟨⟨_, s0, s1, s2⟩, ⟨_, s3, s4⟩⟩, ⟨_, s5, s6, s7⟩, ⟨_, s8, s9⟩⟩ := hSw; go_simp <;> with_reducible rfl)
        try simp only [Act.put, List.setIfInBounds_toArray, List.set_cons_zero, List.set_cons_succ]
        refine wpAnyH_ready (rs := [20]) (by kernel_rfl) (by simp) ?_
        refine AllReadyH.cons (o := { dst := some 56, op := Op.call { callee := Callee.value (Operand.func 15), args := #[], argTypes := #[] }, type := 4, pos := "law.go:137", after := #[{ on := 19, ground := Ground.chain }, { on := 19, ground := Ground.guard }], guard := some (19, true) }) rfl (fun K hK => ?_) AllReadyH.nil
        go_simp
        go_at_call 15
        refine (works_any _).mono ?_
        rintro _ wc3 ⟨rfl, Fc⟩
        have HFc3 := Lib.hid (HFc2.out.trans Fc)
        clear Fc
        try go_wp2_with fail
        refine hK.out _ _ ?_ (fun hHeld => ?_)
        · exact keep4 _ HFc3.out
        clear hK K
        try simp only [Act.put, List.setIfInBounds_toArray, List.set_cons_zero, List.set_cons_succ]
        refine wpAnyH_take (i := 21) (oi := { dst := some 57, op := Op.pick (Operand.tmp 55) (Operand.tmp 56) (Operand.const (Value.bool false)), type := 4, pos := "law.go:137", after := #[{ on := 19, ground := Ground.data }, { on := 20, ground := Ground.data }], guard := none }) (v := ?_) rfl (by kernel_rfl) (by kernel_rfl) (by kernel_rfl) (fun _ _ _ h => h) (Or.inl ⟨by rfl, ?_⟩) (by assumption) ?_
        rotate_left
        · (intro w hSw; obtain ⟨⟨⟨_, s0, s1, s2⟩, ⟨_, s3, s4⟩⟩, ⟨_, s5, s6, s7⟩, ⟨_, s8, s9⟩⟩ := hSw; go_simp <;> with_reducible rfl)
        try simp only [Act.put, List.setIfInBounds_toArray, List.set_cons_zero, List.set_cons_succ]
        refine wpAnyH_ready (rs := [22]) (by kernel_rfl) (by simp) ?_
        refine AllReadyH.cons (o := { dst := some 6, op := Op.assign (Operand.tmp 57), type := 4, pos := "law.go:137", after := #[{ on := 21, ground := Ground.data }, { on := 20, ground := Ground.chain }, { on := 0, ground := Ground.phase }, { on := 1, ground := Ground.phase }, { on := 2, ground := Ground.phase }, { on := 3, ground := Ground.phase }, { on := 4, ground := Ground.phase }, { on := 5, ground := Ground.phase }, { on := 6, ground := Ground.phase }, { on := 7, ground := Ground.phase }, { on := 8, ground := Ground.phase }, { on := 9, ground := Ground.phase }, { on := 10, ground := Ground.phase }, { on := 11, ground := Ground.phase }, { on := 12, ground := Ground.phase }, { on := 13, ground := Ground.phase }, { on := 14, ground := Ground.phase }, { on := 15, ground := Ground.phase }, { on := 16, ground := Ground.phase }, { on := 17, ground := Ground.phase }, { on := 18, ground := Ground.phase }, { on := 19, ground := Ground.phase }, { on := 20, ground := Ground.phase }, { on := 21, ground := Ground.phase }], guard := none }) rfl (fun K hK => ?_) AllReadyH.nil
        go_simp
        refine hK.out _ _ ?_ (fun hHeld => ?_)
        · exact keep4 _ HFc3.out
        clear hK K
        try simp only [Act.put, List.setIfInBounds_toArray, List.set_cons_zero, List.set_cons_succ]
        refine wpAnyH_done (by kernel_rfl) ?_ _
        go_wp2_with fail
        go_ret
        exact ⟨rfl, HFU.out.trans HFc3.out⟩
  · rw [hL] at HLA
    clear hA hS hY hT hC hL hcy hct
    go_enter Try.func6, Try.ntmps6
    go_wp2_with fail
    refine (HLA.out _).mono ?_
    rintro _ w2 ⟨rfl, F⟩
    have HF2 := Lib.hid (HA.out.trans F)
    clear F p0 p1 p2 q0 q1 HLA
    go_wp2_with fail
    refine (works_any _).mono ?_
    rintro _ w3 ⟨rfl, F⟩
    have HF3 := Lib.hid (HF2.out.trans F)
    clear F
    go_wp2_with fail
    go_ret
    exact ⟨rfl, HF3.out⟩
section
open Go.Joins Go.ChangeShapes Go.WideShapes Go.ChangeAt
set_option maxRecDepth 100000 in
/-- a list of numbers that came in. -/
theorem open_sl22 {H : Type} {enc : TypeId × Value → H} {w : World} {b0 : Nat} {r : Reach} {v : Value} {d : DataW H} {p : List MemPlace}
    (hv : Value.okWide Try.prog w r b0 22 v) (h : DataW.Trod enc Try.prog w 0 (fun _ => true) true 22 v d p) :
    ∃ a cap zs, v = .slice a (List.length zs) cap ∧ zs.length ≤ cap ∧ cap ≤ 9223372036854775807 ∧ IntsAt w a zs := by
  obtain ⟨a0, len0, cap0, rfl⟩ := okWide_slice Try.underlying22 hv
  obtain ⟨fuel, hf⟩ := h
  obtain ⟨a, cap, zs, hcs, hl, hm, hI⟩ := open_slc hf
  simp [Value.cells] at hcs
  obtain ⟨rfl, rfl, rfl⟩ := hcs
  exact ⟨a0, cap0, zs, rfl, hl, hm, hI⟩
end
end Go.Proofs.Ytflllkamdihfaaa
