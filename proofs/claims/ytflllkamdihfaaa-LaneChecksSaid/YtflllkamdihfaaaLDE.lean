/- LaneChecks: law5_any -/
import Derived.Test.YtflllkamdihfaaaLDD
import Derived.Test.YtflllkamdihfaaaLCD
import Derived.Test.YtflllkamdihfaaaLBI
namespace Go.Proofs.Ytflllkamdihfaaa
open Go.RowKit Go.Sort
theorem orG_len (c m : Int) (S Y T : List Int) (FM : List (List Int)) : ∀ (f k : Nat) (o : List Int), (orG c m S Y T FM f k o).2.length ≤ o.length + f
  | 0, _, o => by rw [orG]; exact Nat.le_refl _
  | f + 1, k, o => by
    rw [orG]
    split
    · split
      · split
        · simp
        · have := orG_len c m S Y T FM f (k + 1) (o ++ [idxE T (nth (lth FM k) ((lth FM k).length - 1))])
          rw [List.length_append, List.length_singleton] at this
          omega
      · simp
    · simp
theorem ord_len (r c : Int) (S Y T : List Int) (FM : List (List Int)) (h : FM.length ≤ 20) : (ordP r c S Y T FM).2.length ≤ 1000 := by
  unfold ordP
  split
  · split
    · have := orG_len c (r * c) S Y T FM FM.length 0 []
      simp only [List.length_nil] at this
      omega
    · simp
  · simp
set_option maxRecDepth 100000 in
set_option maxHeartbeats 8000000 in
theorem law5_any (r c : Int) (a : Option Addr) (cap : Nat) (S : List Int) (ya : Option Addr) (yc : Nat) (Y : List Int) (ta : Option Addr) (tc : Nat) (T : List Int) (fa : Option Addr) (fc : Nat) (FM : List (List Int)) (w : World) (hS : IntsAt w a S) (hY : IntsAt w ya Y) (hT : IntsAt w ta T) (hcy : Y.length ≤ yc) (hct : T.length ≤ tc) (hF : LstC w fa FM) :
    Calls Try.prog 5 #[parV r c a S.length cap, plaV ya Y.length yc ta T.length tc, .slice fa FM.length fc] w fun e w' => e = .returned (.bool true) ∧ Fut w w' := by
  have hA : Fut w ((w.alloc (.cells #[.int .i64 r, .int .i64 c, .slice a S.length cap] 24)).alloc (.cells #[.slice ya Y.length yc, .slice ta T.length tc] 26)) := (Fut.alloc _ _).trans (Fut.alloc _ _)
  have hBP := (BoxP.new w r c a S.length cap).fut (Fut.alloc _ (.cells #[.slice ya Y.length yc, .slice ta T.length tc] 26))
  have hBQ := BoxQ.new (w.alloc (.cells #[.int .i64 r, .int .i64 c, .slice a S.length cap] 24)) ya Y.length yc ta T.length tc
  rw [World.size_alloc] at hBQ
  have HA := Lib.hid hA
  have HBP := Lib.hid hBP
  have HBQ := Lib.hid hBQ
  obtain ⟨_, p0, p1, p2⟩ := hBP
  obtain ⟨_, q0, q1⟩ := hBQ
  have HLA := Lib.hid (fun W => large_any r c a cap S ya yc Y ta tc T W)
  have HCW := Lib.hid (fun W (F : Fut w W) => crowded_any fa fc FM W (hF.fut F))
  cases hL : larB S Y T
  · obtain ⟨l1, l2, l3⟩ := larB_off hL
    rw [hL] at HLA
    cases hC : crwB FM
    · obtain ⟨l4, l5⟩ := crw_off hC
      rw [hC] at HCW
      have h : InPQ w a S ya yc Y ta tc T := ⟨hS, by omega, hY, by omega, hcy, hT, by omega, hct⟩
      have hk : ∀ k, k < FM.length → (lth FM k).length ≤ 1000 := fun k q => by have := l5 k q; omega
      have HOR := Lib.hid (fun W F => order_any r c a cap S ya yc Y ta tc T fa fc FM W (h.fut F) (hF.lst.fut F) (by omega) hk)
      have HRO := Lib.hid (fun W F => rorder_any r c a cap S ya yc Y ta tc T fa fc FM W (h.fut F) (hF.lst.fut F) (by omega) hk)
      have HSW := Lib.hid (fun W F => swap_any r c a cap S ya yc Y ta tc T fa fc FM W (h.fut F) (hF.fut F) (by omega) hk)
      have HRS := Lib.hid (fun W F => rswap_any r c a cap S ya yc Y ta tc T fa fc FM W (h.fut F) (hF.fut F) (by omega) hk)
      have HAP := Lib.hid (fun W F => apart_any r c a cap S ya yc Y ta tc T fa fc FM W (h.fut F) (hF.lst.fut F) (by omega) hk)
      have HRA := Lib.hid (fun W F => rapart_any r c a cap S ya yc Y ta tc T fa fc FM W (h.fut F) (hF.lst.fut F) (by omega) hk)
      have HOL := Lib.hid (ord_len r c S Y T FM l4)
      generalize (ordP r c S Y T FM).1 = oe at *
      generalize (ordP r c S Y T FM).2 = OL at *
      generalize swE r c S Y T FM = se at *
      generalize swL r c S Y T FM = SL at *
      generalize aptE r c S Y T FM = ae at *
      clear h hk hS hY hT hcy hct hL l1 l2 l3 l4 l5 hA hC hF
      go_enter Try.func5, Try.ntmps5
      go_wp2_with fail
      refine (HLA.out _).mono ?_
      rintro _ w2 ⟨rfl, F⟩
      have HF2 := Lib.hid (HA.out.trans F)
      have HBP2 := Lib.hid (HBP.out.fut F)
      have HBQ2 := Lib.hid (HBQ.out.fut F)
      clear p0 p1 p2 q0 q1 F HLA
      go_wp2_with fail
      refine (HCW.out _ HF2.out).mono ?_
      rintro _ _ ⟨rfl, rfl⟩
      obtain ⟨_, p0, p1, p2⟩ := HBP2.out
      obtain ⟨_, q0, q1⟩ := HBQ2.out
      go_upto_region 3 with fail
      have FD : Fut w2 w2.drew := below_drewN Fut.rfl 1
      have HF3 := Lib.hid (HF2.out.trans FD)
      have HBP3 := Lib.hid (HBP2.out.fut FD)
      have HBQ3 := Lib.hid (HBQ2.out.fut FD)
      have keep : ∀ W', Fut w2.drew W' → (fun w' => BoxP w' w.heap.size r c a S.length cap ∧ BoxQ w' (w.heap.size + 1) ya Y.length yc ta T.length tc) W' := fun W' F => ⟨HBP3.out.fut F, HBQ3.out.fut F⟩
      clear p0 p1 p2 q0 q1 FD HF2 HBP2 HBQ2 HA HBP HBQ
      go_cut [7, 8] from 7 to 26 (fun s9 s10 wx => ∃ B9 B10, s9 = .pointer (some ⟨B9, 0, none⟩) ∧ s10 = .pointer (some ⟨B10, 0, none⟩) ∧ Hid (BoxP wx B9 r c a S.length cap) ∧ Hid (BoxQ wx B10 ya Y.length yc ta T.length tc) ∧ Hid (BoxP wx w.heap.size r c a S.length cap) ∧ Hid (BoxQ wx (w.heap.size + 1) ya Y.length yc ta T.length tc) ∧ Hid (Fut w wx))
      case first =>
        refine wp_region_held_drew (S := (fun w' => BoxP w' w.heap.size r c a S.length cap ∧ BoxQ w' (w.heap.size + 1) ya Y.length yc ta T.length tc)) (by kernel_rfl) ?_ (fun hHeld => ?_)
        · exact keep _ Fut.rfl
        generalize w2.drew = u0 at *
        refine wpAnyH_take (i := 0) (oi := { dst := some 25, op := Op.load 24 (Operand.tmp 3), type := 24, pos := "law.go:121", after := #[], guard := none }) (v := ?_) rfl (by kernel_rfl) (by kernel_rfl) (by kernel_rfl) (fun _ _ _ h => h) (Or.inl ⟨by rfl, ?_⟩) (by assumption) ?_
        rotate_left
        · (intro w hSw; obtain ⟨⟨_, s0, s1, s2⟩, ⟨_, s3, s4⟩⟩ := hSw; go_simp <;> with_reducible rfl)
        try simp only [Act.put, List.setIfInBounds_toArray, List.set_cons_zero, List.set_cons_succ]
        refine wpAnyH_take (i := 1) (oi := { dst := some 26, op := Op.load 26 (Operand.tmp 4), type := 26, pos := "law.go:121", after := #[{ on := 4, ground := Ground.gcOnly Departure.lateStores }], guard := none }) (v := ?_) rfl (by kernel_rfl) (by kernel_rfl) (by kernel_rfl) (fun _ _ _ h => h) (Or.inl ⟨by rfl, ?_⟩) (by assumption) ?_
        rotate_left
        · (intro w hSw; obtain ⟨⟨_, s0, s1, s2⟩, ⟨_, s3, s4⟩⟩ := hSw; go_simp <;> with_reducible rfl)
        try simp only [Act.put, List.setIfInBounds_toArray, List.set_cons_zero, List.set_cons_succ]
        refine wpAnyH_ready (rs := [2, 3]) (by kernel_rfl) (by simp) ?_
        refine AllReadyH.cons (o := { dst := some 7, op := Op.alloc 29, type := 0, pos := "law.go:121", after := #[], guard := none }) rfl (fun K hK => ?_) (AllReadyH.cons (o := { dst := some 8, op := Op.alloc 30, type := 0, pos := "law.go:121", after := #[], guard := none }) rfl (fun K hK => ?_) (AllReadyH.nil))
        · go_simp
          refine hK.out _ _ ?_ (fun hHeld => ?_)
          · exact keep _ (Fut.alloc u0 (.cells #[.int .i64 0, .int .i64 0, .slice none 0 0] 29))
          clear hK K
          try simp only [Act.put, List.setIfInBounds_toArray, List.set_cons_zero, List.set_cons_succ]
          refine wpAnyH_ready (rs := [3]) (by kernel_rfl) (by simp) ?_
          refine AllReadyH.cons (o := { dst := some 8, op := Op.alloc 30, type := 0, pos := "law.go:121", after := #[], guard := none }) rfl (fun K hK => ?_) AllReadyH.nil
          go_simp
          refine hK.out _ _ ?_ (fun hHeld => ?_)
          · exact keep _ ((Fut.alloc u0 (.cells #[.int .i64 0, .int .i64 0, .slice none 0 0] 29)).trans (Fut.alloc _ (.cells #[.slice none 0 0, .slice none 0 0] 30)))
          clear hK K
          try simp only [Act.put, List.setIfInBounds_toArray, List.set_cons_zero, List.set_cons_succ]
          refine wpAnyH_ready (rs := [4]) (by kernel_rfl) (by simp) ?_
          refine AllReadyH.cons (o := { dst := none, op := Op.store 29 (Operand.tmp 7) (Operand.tmp 25), type := 0, pos := "law.go:121", after := #[{ on := 2, ground := Ground.data }, { on := 0, ground := Ground.data }, { on := 0, ground := Ground.phase }, { on := 1, ground := Ground.textOnly Departure.lateStores }, { on := 2, ground := Ground.phase }, { on := 3, ground := Ground.phase }], guard := none }) rfl (fun K hK => ?_) AllReadyH.nil
          go_simp
          refine hK.out _ _ ?_ (fun hHeld => ?_)
          · exact keep _ ((Fut.alloc u0 (.cells #[.int .i64 r, .int .i64 c, .slice a S.length cap] 29)).trans (Fut.alloc _ (.cells #[.slice none 0 0, .slice none 0 0] 30)))
          clear hK K
          try simp only [Act.put, List.setIfInBounds_toArray, List.set_cons_zero, List.set_cons_succ]
          refine wpAnyH_ready (rs := [5]) (by kernel_rfl) (by simp) ?_
          refine AllReadyH.cons (o := { dst := none, op := Op.store 30 (Operand.tmp 8) (Operand.tmp 26), type := 0, pos := "law.go:121", after := #[{ on := 3, ground := Ground.data }, { on := 1, ground := Ground.data }, { on := 4, ground := Ground.chain }, { on := 0, ground := Ground.phase }, { on := 1, ground := Ground.phase }, { on := 2, ground := Ground.phase }, { on := 3, ground := Ground.phase }, { on := 4, ground := Ground.phase }], guard := none }) rfl (fun K hK => ?_) AllReadyH.nil
          go_simp
          refine hK.out _ _ ?_ (fun hHeld => ?_)
          · exact keep _ ((Fut.alloc u0 (.cells #[.int .i64 r, .int .i64 c, .slice a S.length cap] 29)).trans (Fut.alloc _ (.cells #[.slice ya Y.length yc, .slice ta T.length tc] 30)))
          clear hK K
          try simp only [Act.put, List.setIfInBounds_toArray, List.set_cons_zero, List.set_cons_succ]
          refine wpAnyH_done (by kernel_rfl) ?_ _
          have F5 : Fut u0 ((u0.alloc (.cells #[.int .i64 r, .int .i64 c, .slice a S.length cap] 29)).alloc (.cells #[.slice ya Y.length yc, .slice ta T.length tc] 30)) := (Fut.alloc u0 (.cells #[.int .i64 r, .int .i64 c, .slice a S.length cap] 29)).trans (Fut.alloc _ (.cells #[.slice ya Y.length yc, .slice ta T.length tc] 30))
          have k6 : ((u0.alloc (.cells #[.int .i64 r, .int .i64 c, .slice a S.length cap] 29)).alloc (.cells #[.slice ya Y.length yc, .slice ta T.length tc] 30)).heap[u0.heap.size]? = some (.cells #[.int .i64 r, .int .i64 c, .slice a S.length cap] 29) := (heap_new1 u0 (.cells #[.int .i64 r, .int .i64 c, .slice a S.length cap] 29) (.cells #[.slice ya Y.length yc, .slice ta T.length tc] 30))
          have k5 : ((u0.alloc (.cells #[.int .i64 r, .int .i64 c, .slice a S.length cap] 29)).alloc (.cells #[.slice ya Y.length yc, .slice ta T.length tc] 30)).heap[(u0.heap.size + 1)]? = some (.cells #[.slice ya Y.length yc, .slice ta T.length tc] 30) := (by have := World.alloc_heap_new (u0.alloc (.cells #[.int .i64 r, .int .i64 c, .slice a S.length cap] 29)) (.cells #[.slice ya Y.length yc, .slice ta T.length tc] 30); rwa [World.size_alloc] at this)
          go_wp2_with fail
          go_meet
          exact ⟨u0.heap.size, (u0.heap.size + 1), rfl, rfl, Lib.hid (boxP_of k6), Lib.hid (boxQ_of k5), Lib.hid (keep _ F5).1, Lib.hid (keep _ F5).2, Lib.hid (HF3.out.trans F5)⟩
        · go_simp
          refine hK.out _ _ ?_ (fun hHeld => ?_)
          · exact keep _ (Fut.alloc u0 (.cells #[.slice none 0 0, .slice none 0 0] 30))
          clear hK K
          try simp only [Act.put, List.setIfInBounds_toArray, List.set_cons_zero, List.set_cons_succ]
          refine wpAnyH_ready (rs := [2]) (by kernel_rfl) (by simp) ?_
          refine AllReadyH.cons (o := { dst := some 7, op := Op.alloc 29, type := 0, pos := "law.go:121", after := #[], guard := none }) rfl (fun K hK => ?_) AllReadyH.nil
          go_simp
          refine hK.out _ _ ?_ (fun hHeld => ?_)
          · exact keep _ ((Fut.alloc u0 (.cells #[.slice none 0 0, .slice none 0 0] 30)).trans (Fut.alloc _ (.cells #[.int .i64 0, .int .i64 0, .slice none 0 0] 29)))
          clear hK K
          try simp only [Act.put, List.setIfInBounds_toArray, List.set_cons_zero, List.set_cons_succ]
          refine wpAnyH_ready (rs := [4]) (by kernel_rfl) (by simp) ?_
          refine AllReadyH.cons (o := { dst := none, op := Op.store 29 (Operand.tmp 7) (Operand.tmp 25), type := 0, pos := "law.go:121", after := #[{ on := 2, ground := Ground.data }, { on := 0, ground := Ground.data }, { on := 0, ground := Ground.phase }, { on := 1, ground := Ground.textOnly Departure.lateStores }, { on := 2, ground := Ground.phase }, { on := 3, ground := Ground.phase }], guard := none }) rfl (fun K hK => ?_) AllReadyH.nil
          go_simp
          refine hK.out _ _ ?_ (fun hHeld => ?_)
          · exact keep _ ((Fut.alloc u0 (.cells #[.slice none 0 0, .slice none 0 0] 30)).trans (Fut.alloc _ (.cells #[.int .i64 r, .int .i64 c, .slice a S.length cap] 29)))
          clear hK K
          try simp only [Act.put, List.setIfInBounds_toArray, List.set_cons_zero, List.set_cons_succ]
          refine wpAnyH_ready (rs := [5]) (by kernel_rfl) (by simp) ?_
          refine AllReadyH.cons (o := { dst := none, op := Op.store 30 (Operand.tmp 8) (Operand.tmp 26), type := 0, pos := "law.go:121", after := #[{ on := 3, ground := Ground.data }, { on := 1, ground := Ground.data }, { on := 4, ground := Ground.chain }, { on := 0, ground := Ground.phase }, { on := 1, ground := Ground.phase }, { on := 2, ground := Ground.phase }, { on := 3, ground := Ground.phase }, { on := 4, ground := Ground.phase }], guard := none }) rfl (fun K hK => ?_) AllReadyH.nil
          go_simp
          refine hK.out _ _ ?_ (fun hHeld => ?_)
          · exact keep _ ((Fut.alloc u0 (.cells #[.slice ya Y.length yc, .slice ta T.length tc] 30)).trans (Fut.alloc _ (.cells #[.int .i64 r, .int .i64 c, .slice a S.length cap] 29)))
          clear hK K
          try simp only [Act.put, List.setIfInBounds_toArray, List.set_cons_zero, List.set_cons_succ]
          refine wpAnyH_done (by kernel_rfl) ?_ _
          have F5 : Fut u0 ((u0.alloc (.cells #[.slice ya Y.length yc, .slice ta T.length tc] 30)).alloc (.cells #[.int .i64 r, .int .i64 c, .slice a S.length cap] 29)) := (Fut.alloc u0 (.cells #[.slice ya Y.length yc, .slice ta T.length tc] 30)).trans (Fut.alloc _ (.cells #[.int .i64 r, .int .i64 c, .slice a S.length cap] 29))
          have k6 : ((u0.alloc (.cells #[.slice ya Y.length yc, .slice ta T.length tc] 30)).alloc (.cells #[.int .i64 r, .int .i64 c, .slice a S.length cap] 29)).heap[(u0.heap.size + 1)]? = some (.cells #[.int .i64 r, .int .i64 c, .slice a S.length cap] 29) := (by have := World.alloc_heap_new (u0.alloc (.cells #[.slice ya Y.length yc, .slice ta T.length tc] 30)) (.cells #[.int .i64 r, .int .i64 c, .slice a S.length cap] 29); rwa [World.size_alloc] at this)
          have k5 : ((u0.alloc (.cells #[.slice ya Y.length yc, .slice ta T.length tc] 30)).alloc (.cells #[.int .i64 r, .int .i64 c, .slice a S.length cap] 29)).heap[u0.heap.size]? = some (.cells #[.slice ya Y.length yc, .slice ta T.length tc] 30) := (heap_new1 u0 (.cells #[.slice ya Y.length yc, .slice ta T.length tc] 30) (.cells #[.int .i64 r, .int .i64 c, .slice a S.length cap] 29))
          go_wp2_with fail
          go_meet
          exact ⟨(u0.heap.size + 1), u0.heap.size, rfl, rfl, Lib.hid (boxP_of k6), Lib.hid (boxQ_of k5), Lib.hid (keep _ F5).1, Lib.hid (keep _ F5).2, Lib.hid (HF3.out.trans F5)⟩
      case rest =>
        obtain ⟨B9, B10, rfl, rfl, HP9_4, HQ10_4, HP4_4, HQ4_4, HF4⟩ := hcut
        obtain ⟨w4, hw4⟩ : ∃ w4, w4 = wc := ⟨_, rfl⟩
        subst hw4
        clear HF3 HBP3 HBQ3 keep
        obtain ⟨_, p0, p1, p2⟩ := HP4_4.out
        obtain ⟨_, q0, q1⟩ := HQ4_4.out
        go_wp2_with fail
        refine (HOR.out _ HF4.out).mono ?_
        rintro _ w5 ⟨l1, lc1, rfl, hI1, F⟩
        have HF5 := Lib.hid (HF4.out.trans F)
        have HP4_5 := Lib.hid (HP4_4.out.fut F)
        have HQ4_5 := Lib.hid (HQ4_4.out.fut F)
        have HP9_5 := Lib.hid (HP9_4.out.fut F)
        have HQ10_5 := Lib.hid (HQ10_4.out.fut F)
        have HI1 := Lib.hid hI1
        clear hI1
        clear F p0 p1 p2 q0 q1
        obtain ⟨_, p0, p1, p2⟩ := HP9_5.out
        obtain ⟨_, q0, q1⟩ := HQ10_5.out
        go_wp2_with fail
        refine (HRO.out _ HF5.out).mono ?_
        rintro _ w6 ⟨l2, lc2, rfl, hI2, F⟩
        have HF6 := Lib.hid (HF5.out.trans F)
        have HP4_6 := Lib.hid (HP4_5.out.fut F)
        have HQ4_6 := Lib.hid (HQ4_5.out.fut F)
        have HP9_6 := Lib.hid (HP9_5.out.fut F)
        have HQ10_6 := Lib.hid (HQ10_5.out.fut F)
        have HI1b := Lib.hid (HI1.out.fut F)
        have HI2 := Lib.hid hI2
        clear hI2
        clear F p0 p1 p2 q0 q1
        obtain ⟨_, p0, p1, p2⟩ := HP4_6.out
        obtain ⟨_, q0, q1⟩ := HQ4_6.out
        go_wp2_with fail
        refine (HSW.out _ HF6.out).mono ?_
        rintro _ w7 ⟨l3, lc3, rfl, g1, g2, hL3, F⟩
        have HF7 := Lib.hid (HF6.out.trans F)
        have HP4_7 := Lib.hid (HP4_6.out.fut F)
        have HQ4_7 := Lib.hid (HQ4_6.out.fut F)
        have HP9_7 := Lib.hid (HP9_6.out.fut F)
        have HQ10_7 := Lib.hid (HQ10_6.out.fut F)
        have HI1c := Lib.hid (HI1b.out.fut F)
        have HI2c := Lib.hid (HI2.out.fut F)
        have HL3 := Lib.hid hL3
        clear hL3
        clear F p0 p1 p2 q0 q1
        obtain ⟨_, p0, p1, p2⟩ := HP9_7.out
        obtain ⟨_, q0, q1⟩ := HQ10_7.out
        go_wp2_with fail
        refine (HRS.out _ HF7.out).mono ?_
        rintro _ w8 ⟨l4, lc4, rfl, g3, g4, hL4, F⟩
        have HF8 := Lib.hid (HF7.out.trans F)
        have HP4_8 := Lib.hid (HP4_7.out.fut F)
        have HQ4_8 := Lib.hid (HQ4_7.out.fut F)
        have HP9_8 := Lib.hid (HP9_7.out.fut F)
        have HQ10_8 := Lib.hid (HQ10_7.out.fut F)
        have HI1d := Lib.hid (HI1c.out.fut F)
        have HI2d := Lib.hid (HI2c.out.fut F)
        have HL3b := Lib.hid (HL3.out.fut F)
        have HL4 := Lib.hid hL4
        clear hL4
        clear F p0 p1 p2 q0 q1
        obtain ⟨_, p0, p1, p2⟩ := HP4_8.out
        obtain ⟨_, q0, q1⟩ := HQ4_8.out
        go_upto_region 8 with fail
        have FD : Fut w8 w8.drew := below_drewN Fut.rfl 1
        have keep4 : ∀ W', Fut w8.drew W' → (fun w' => (BoxP w' w.heap.size r c a S.length cap ∧ BoxQ w' (w.heap.size + 1) ya Y.length yc ta T.length tc) ∧ BoxP w' B9 r c a S.length cap ∧ BoxQ w' B10 ya Y.length yc ta T.length tc) W' := fun W' F => ⟨⟨(HP4_8.out.fut FD).fut F, (HQ4_8.out.fut FD).fut F⟩, (HP9_8.out.fut FD).fut F, (HQ10_8.out.fut FD).fut F⟩
        have HFU := Lib.hid (HF8.out.trans FD)
        have HSM := Lib.hid (fun W (F : Fut w8.drew W) => ex_same (cap := lc1) (dap := lc2) OL OL rfl rfl ⟨HOL.out, HOL.out⟩ W ((HI1d.out.fut FD).fut F) ((HI2d.out.fut FD).fut F) true (by unfold sameB; simp))
        have HAL := Lib.hid (fun W (F : Fut w8.drew W) => lists_self (cap := lc3) (dap := lc4) SL W ((HL3b.out.fut FD).fut F) ((HL4.out.fut FD).fut F) (by omega))
        clear p0 p1 p2 q0 q1
        refine wp_region_held_drew (S := (fun w' => (BoxP w' w.heap.size r c a S.length cap ∧ BoxQ w' (w.heap.size + 1) ya Y.length yc ta T.length tc) ∧ BoxP w' B9 r c a S.length cap ∧ BoxQ w' B10 ya Y.length yc ta T.length tc)) (by kernel_rfl) ?_ (fun hHeld => ?_)
        · exact keep4 _ Fut.rfl
        generalize w8.drew = u8 at *
        refine wpAnyH_take (i := 0) (oi := { dst := some 55, op := Op.move (Operand.tmp 9), type := 22, pos := "law.go:126", after := #[], guard := none }) (v := ?_) rfl (by kernel_rfl) (by kernel_rfl) (by kernel_rfl) (fun _ _ _ h => h) (Or.inl ⟨by rfl, ?_⟩) (by assumption) ?_
        rotate_left
        · (intro w hSw; obtain ⟨⟨⟨_, s0, s1, s2⟩, ⟨_, s3, s4⟩⟩, ⟨_, s5, s6, s7⟩, ⟨_, s8, s9⟩⟩ := hSw; go_simp <;> with_reducible rfl)
        try simp only [Act.put, List.setIfInBounds_toArray, List.set_cons_zero, List.set_cons_succ]
        refine wpAnyH_take (i := 1) (oi := { dst := some 56, op := Op.move (Operand.tmp 11), type := 22, pos := "law.go:126", after := #[], guard := none }) (v := ?_) rfl (by kernel_rfl) (by kernel_rfl) (by kernel_rfl) (fun _ _ _ h => h) (Or.inl ⟨by rfl, ?_⟩) (by assumption) ?_
        rotate_left
        · (intro w hSw; obtain ⟨⟨⟨_, s0, s1, s2⟩, ⟨_, s3, s4⟩⟩, ⟨_, s5, s6, s7⟩, ⟨_, s8, s9⟩⟩ := hSw; go_simp <;> with_reducible rfl)
        try simp only [Act.put, List.setIfInBounds_toArray, List.set_cons_zero, List.set_cons_succ]
        refine wpAnyH_ready (rs := [2]) (by kernel_rfl) (by simp) ?_
        refine AllReadyH.cons (o := { dst := some 57, op := Op.call { callee := Callee.value (Operand.func 34), args := #[Operand.tmp 55, Operand.tmp 56], argTypes := #[22, 22] }, type := 4, pos := "law.go:126", after := #[{ on := 0, ground := Ground.data }, { on := 1, ground := Ground.data }], guard := none }) rfl (fun K hK => ?_) AllReadyH.nil
        go_simp
        go_at_call 34
        refine (HSM.out _ Fut.rfl).mono ?_
        rintro _ wc0 ⟨rfl, Fc⟩
        have HFc0 := Lib.hid Fc
        clear Fc
        try go_wp2_with fail
        refine hK.out _ _ ?_ (fun hHeld => ?_)
        · exact keep4 _ HFc0.out
        clear hK K
        try simp only [Act.put, List.setIfInBounds_toArray, List.set_cons_zero, List.set_cons_succ]
        refine wpAnyH_take (i := 3) (oi := { dst := some 58, op := Op.move (Operand.tmp 57), type := 4, pos := "law.go:126", after := #[{ on := 2, ground := Ground.data }, { on := 2, ground := Ground.chain }], guard := none }) (v := ?_) rfl (by kernel_rfl) (by kernel_rfl) (by kernel_rfl) (fun _ _ _ h => h) (Or.inl ⟨by rfl, ?_⟩) (by assumption) ?_
        rotate_left
        · (intro w hSw; obtain ⟨⟨⟨_, s0, s1, s2⟩, ⟨_, s3, s4⟩⟩, ⟨_, s5, s6, s7⟩, ⟨_, s8, s9⟩⟩ := hSw; go_simp <;> with_reducible rfl)
        try simp only [Act.put, List.setIfInBounds_toArray, List.set_cons_zero, List.set_cons_succ]
        refine wpAnyH_take (i := 4) (oi := { dst := some 59, op := Op.move (Operand.tmp 10), type := 31, pos := "law.go:126", after := #[{ on := 3, ground := Ground.guard }], guard := some (3, true) }) (v := ?_) rfl (by kernel_rfl) (by kernel_rfl) (by kernel_rfl) (fun _ _ _ h => h) (Or.inl ⟨by rfl, ?_⟩) (by assumption) ?_
        rotate_left
        · (intro w hSw; obtain ⟨⟨⟨_, s0, s1, s2⟩, ⟨_, s3, s4⟩⟩, ⟨_, s5, s6, s7⟩, ⟨_, s8, s9⟩⟩ := hSw; go_simp <;> with_reducible rfl)
        try simp only [Act.put, List.setIfInBounds_toArray, List.set_cons_zero, List.set_cons_succ]
        refine wpAnyH_take (i := 5) (oi := { dst := some 60, op := Op.move (Operand.tmp 12), type := 31, pos := "law.go:126", after := #[{ on := 3, ground := Ground.guard }], guard := some (3, true) }) (v := ?_) rfl (by kernel_rfl) (by kernel_rfl) (by kernel_rfl) (fun _ _ _ h => h) (Or.inl ⟨by rfl, ?_⟩) (by assumption) ?_
        rotate_left
        · (intro w hSw; obtain ⟨⟨⟨_, s0, s1, s2⟩, ⟨_, s3, s4⟩⟩, ⟨_, s5, s6, s7⟩, ⟨_, s8, s9⟩⟩ := hSw; go_simp <;> with_reducible rfl)
        try simp only [Act.put, List.setIfInBounds_toArray, List.set_cons_zero, List.set_cons_succ]
        refine wpAnyH_take (i := 6) (oi := { dst := some 61, op := Op.binOp BinOp.eql 31 (Operand.tmp 59) (Operand.tmp 60) 31, type := 4, pos := "law.go:126", after := #[{ on := 4, ground := Ground.data }, { on := 5, ground := Ground.data }, { on := 3, ground := Ground.guard }], guard := some (3, true) }) (v := ?_) rfl (by kernel_rfl) (by kernel_rfl) (by kernel_rfl) (fun _ _ _ h => h) (Or.inl ⟨by rfl, ?_⟩) (by assumption) ?_
        rotate_left
        · (intro w hSw; obtain ⟨⟨⟨_, s0, s1, s2⟩, ⟨_, s3, s4⟩⟩, ⟨_, s5, s6, s7⟩, ⟨_, s8, s9⟩⟩ := hSw; go_simp <;> with_reducible rfl)
        try simp only [Act.put, List.setIfInBounds_toArray, List.set_cons_zero, List.set_cons_succ]
        refine wpAnyH_take (i := 7) (oi := { dst := some 62, op := Op.pick (Operand.tmp 58) (Operand.tmp 61) (Operand.const (Value.bool false)), type := 4, pos := "law.go:126", after := #[{ on := 3, ground := Ground.data }, { on := 6, ground := Ground.data }], guard := none }) (v := ?_) rfl (by kernel_rfl) (by kernel_rfl) (by kernel_rfl) (fun _ _ _ h => h) (Or.inl ⟨by rfl, ?_⟩) (by assumption) ?_
        rotate_left
        · (intro w hSw; obtain ⟨⟨⟨_, s0, s1, s2⟩, ⟨_, s3, s4⟩⟩, ⟨_, s5, s6, s7⟩, ⟨_, s8, s9⟩⟩ := hSw; go_simp <;> with_reducible rfl)
        try simp only [Act.put, List.setIfInBounds_toArray, List.set_cons_zero, List.set_cons_succ]
        refine wpAnyH_take (i := 8) (oi := { dst := some 63, op := Op.move (Operand.tmp 62), type := 4, pos := "law.go:126", after := #[{ on := 7, ground := Ground.data }, { on := 3, ground := Ground.chain }], guard := none }) (v := ?_) rfl (by kernel_rfl) (by kernel_rfl) (by kernel_rfl) (fun _ _ _ h => h) (Or.inl ⟨by rfl, ?_⟩) (by assumption) ?_
        rotate_left
        · (intro w hSw; obtain ⟨⟨⟨_, s0, s1, s2⟩, ⟨_, s3, s4⟩⟩, ⟨_, s5, s6, s7⟩, ⟨_, s8, s9⟩⟩ := hSw; go_simp <;> with_reducible rfl)
        try simp only [Act.put, List.setIfInBounds_toArray, List.set_cons_zero, List.set_cons_succ]
        refine wpAnyH_take (i := 9) (oi := { dst := some 64, op := Op.move (Operand.tmp 13), type := 35, pos := "law.go:126", after := #[{ on := 8, ground := Ground.guard }], guard := some (8, true) }) (v := ?_) rfl (by kernel_rfl) (by kernel_rfl) (by kernel_rfl) (fun _ _ _ h => h) (Or.inl ⟨by rfl, ?_⟩) (by assumption) ?_
        rotate_left
        · (intro w hSw; obtain ⟨⟨⟨_, s0, s1, s2⟩, ⟨_, s3, s4⟩⟩, ⟨_, s5, s6, s7⟩, ⟨_, s8, s9⟩⟩ := hSw; go_simp <;> with_reducible rfl)
        try simp only [Act.put, List.setIfInBounds_toArray, List.set_cons_zero, List.set_cons_succ]
        refine wpAnyH_take (i := 10) (oi := { dst := some 65, op := Op.move (Operand.tmp 15), type := 35, pos := "law.go:126", after := #[{ on := 8, ground := Ground.guard }], guard := some (8, true) }) (v := ?_) rfl (by kernel_rfl) (by kernel_rfl) (by kernel_rfl) (fun _ _ _ h => h) (Or.inl ⟨by rfl, ?_⟩) (by assumption) ?_
        rotate_left
        · (intro w hSw; obtain ⟨⟨⟨_, s0, s1, s2⟩, ⟨_, s3, s4⟩⟩, ⟨_, s5, s6, s7⟩, ⟨_, s8, s9⟩⟩ := hSw; go_simp <;> with_reducible rfl)
        try simp only [Act.put, List.setIfInBounds_toArray, List.set_cons_zero, List.set_cons_succ]
        refine wpAnyH_ready (rs := [11]) (by kernel_rfl) (by simp) ?_
        refine AllReadyH.cons (o := { dst := some 66, op := Op.call { callee := Callee.value (Operand.func 20), args := #[Operand.tmp 64, Operand.tmp 65], argTypes := #[35, 35] }, type := 4, pos := "law.go:126", after := #[{ on := 9, ground := Ground.data }, { on := 10, ground := Ground.data }, { on := 8, ground := Ground.chain }, { on := 8, ground := Ground.guard }], guard := some (8, true) }) rfl (fun K hK => ?_) AllReadyH.nil
        go_simp
        go_at_call 20
        refine (HAL.out _ HFc0.out).mono ?_
        rintro _ wc1 ⟨rfl, Fc⟩
        have HFc1 := Lib.hid (HFc0.out.trans Fc)
        clear Fc
        try go_wp2_with fail
        refine hK.out _ _ ?_ (fun hHeld => ?_)
        · exact keep4 _ HFc1.out
        clear hK K
        try simp only [Act.put, List.setIfInBounds_toArray, List.set_cons_zero, List.set_cons_succ]
        refine wpAnyH_take (i := 12) (oi := { dst := some 67, op := Op.pick (Operand.tmp 63) (Operand.tmp 66) (Operand.const (Value.bool false)), type := 4, pos := "law.go:126", after := #[{ on := 8, ground := Ground.data }, { on := 11, ground := Ground.data }], guard := none }) (v := ?_) rfl (by kernel_rfl) (by kernel_rfl) (by kernel_rfl) (fun _ _ _ h => h) (Or.inl ⟨by rfl, ?_⟩) (by assumption) ?_
        rotate_left
        · (intro w hSw; obtain ⟨⟨⟨_, s0, s1, s2⟩, ⟨_, s3, s4⟩⟩, ⟨_, s5, s6, s7⟩, ⟨_, s8, s9⟩⟩ := hSw; go_simp <;> with_reducible rfl)
        try simp only [Act.put, List.setIfInBounds_toArray, List.set_cons_zero, List.set_cons_succ]
        refine wpAnyH_take (i := 13) (oi := { dst := some 68, op := Op.move (Operand.tmp 67), type := 4, pos := "law.go:126", after := #[{ on := 12, ground := Ground.data }, { on := 11, ground := Ground.chain }], guard := none }) (v := ?_) rfl (by kernel_rfl) (by kernel_rfl) (by kernel_rfl) (fun _ _ _ h => h) (Or.inl ⟨by rfl, ?_⟩) (by assumption) ?_
        rotate_left
        · (intro w hSw; obtain ⟨⟨⟨_, s0, s1, s2⟩, ⟨_, s3, s4⟩⟩, ⟨_, s5, s6, s7⟩, ⟨_, s8, s9⟩⟩ := hSw; go_simp <;> with_reducible rfl)
        try simp only [Act.put, List.setIfInBounds_toArray, List.set_cons_zero, List.set_cons_succ]
        refine wpAnyH_take (i := 14) (oi := { dst := some 69, op := Op.move (Operand.tmp 14), type := 31, pos := "law.go:126", after := #[{ on := 13, ground := Ground.guard }], guard := some (13, true) }) (v := ?_) rfl (by kernel_rfl) (by kernel_rfl) (by kernel_rfl) (fun _ _ _ h => h) (Or.inl ⟨by rfl, ?_⟩) (by assumption) ?_
        rotate_left
        · (intro w hSw; obtain ⟨⟨⟨_, s0, s1, s2⟩, ⟨_, s3, s4⟩⟩, ⟨_, s5, s6, s7⟩, ⟨_, s8, s9⟩⟩ := hSw; go_simp <;> with_reducible rfl)
        try simp only [Act.put, List.setIfInBounds_toArray, List.set_cons_zero, List.set_cons_succ]
        refine wpAnyH_take (i := 15) (oi := { dst := some 70, op := Op.move (Operand.tmp 16), type := 31, pos := "law.go:126", after := #[{ on := 13, ground := Ground.guard }], guard := some (13, true) }) (v := ?_) rfl (by kernel_rfl) (by kernel_rfl) (by kernel_rfl) (fun _ _ _ h => h) (Or.inl ⟨by rfl, ?_⟩) (by assumption) ?_
        rotate_left
        · (intro w hSw; obtain ⟨⟨⟨_, s0, s1, s2⟩, ⟨_, s3, s4⟩⟩, ⟨_, s5, s6, s7⟩, ⟨_, s8, s9⟩⟩ := hSw; go_simp <;> with_reducible rfl)
        try simp only [Act.put, List.setIfInBounds_toArray, List.set_cons_zero, List.set_cons_succ]
        refine wpAnyH_take (i := 16) (oi := { dst := some 71, op := Op.binOp BinOp.eql 31 (Operand.tmp 69) (Operand.tmp 70) 31, type := 4, pos := "law.go:126", after := #[{ on := 14, ground := Ground.data }, { on := 15, ground := Ground.data }, { on := 13, ground := Ground.guard }], guard := some (13, true) }) (v := ?_) rfl (by kernel_rfl) (by kernel_rfl) (by kernel_rfl) (fun _ _ _ h => h) (Or.inl ⟨by rfl, ?_⟩) (by assumption) ?_
        rotate_left
        · (intro w hSw; obtain ⟨⟨⟨_, s0, s1, s2⟩, ⟨_, s3, s4⟩⟩, ⟨_, s5, s6, s7⟩, ⟨_, s8, s9⟩⟩ := hSw; go_simp <;> with_reducible rfl)
        try simp only [Act.put, List.setIfInBounds_toArray, List.set_cons_zero, List.set_cons_succ]
        refine wpAnyH_take (i := 17) (oi := { dst := some 72, op := Op.pick (Operand.tmp 68) (Operand.tmp 71) (Operand.const (Value.bool false)), type := 4, pos := "law.go:126", after := #[{ on := 13, ground := Ground.data }, { on := 16, ground := Ground.data }], guard := none }) (v := ?_) rfl (by kernel_rfl) (by kernel_rfl) (by kernel_rfl) (fun _ _ _ h => h) (Or.inl ⟨by rfl, ?_⟩) (by assumption) ?_
        rotate_left
        · (intro w hSw; obtain ⟨⟨⟨_, s0, s1, s2⟩, ⟨_, s3, s4⟩⟩, ⟨_, s5, s6, s7⟩, ⟨_, s8, s9⟩⟩ := hSw; go_simp <;> with_reducible rfl)
        try simp only [Act.put, List.setIfInBounds_toArray, List.set_cons_zero, List.set_cons_succ]
        refine wpAnyH_take (i := 18) (oi := { dst := some 73, op := Op.move (Operand.tmp 72), type := 4, pos := "law.go:126", after := #[{ on := 17, ground := Ground.data }, { on := 13, ground := Ground.chain }], guard := none }) (v := ?_) rfl (by kernel_rfl) (by kernel_rfl) (by kernel_rfl) (fun _ _ _ h => h) (Or.inl ⟨by rfl, ?_⟩) (by assumption) ?_
        rotate_left
        · (intro w hSw; obtain ⟨⟨⟨_, s0, s1, s2⟩, ⟨_, s3, s4⟩⟩, ⟨_, s5, s6, s7⟩, ⟨_, s8, s9⟩⟩ := hSw; go_simp <;> with_reducible rfl)
        try simp only [Act.put, List.setIfInBounds_toArray, List.set_cons_zero, List.set_cons_succ]
        refine wpAnyH_take (i := 19) (oi := { dst := some 74, op := Op.load 24 (Operand.tmp 3), type := 24, pos := "law.go:126", after := #[{ on := 18, ground := Ground.guard }], guard := some (18, true) }) (v := ?_) rfl (by kernel_rfl) (by kernel_rfl) (by kernel_rfl) (fun _ _ _ h => h) (Or.inl ⟨by rfl, ?_⟩) (by assumption) ?_
        rotate_left
        · (intro w hSw; obtain ⟨⟨⟨_, s0, s1, s2⟩, ⟨_, s3, s4⟩⟩, ⟨_, s5, s6, s7⟩, ⟨_, s8, s9⟩⟩ := hSw; go_simp <;> with_reducible rfl)
        try simp only [Act.put, List.setIfInBounds_toArray, List.set_cons_zero, List.set_cons_succ]
        refine wpAnyH_take (i := 20) (oi := { dst := some 75, op := Op.load 26 (Operand.tmp 4), type := 26, pos := "law.go:126", after := #[{ on := 18, ground := Ground.guard }], guard := some (18, true) }) (v := ?_) rfl (by kernel_rfl) (by kernel_rfl) (by kernel_rfl) (fun _ _ _ h => h) (Or.inl ⟨by rfl, ?_⟩) (by assumption) ?_
        rotate_left
        · (intro w hSw; obtain ⟨⟨⟨_, s0, s1, s2⟩, ⟨_, s3, s4⟩⟩, ⟨_, s5, s6, s7⟩, ⟨_, s8, s9⟩⟩ := hSw; go_simp <;> with_reducible rfl)
        try simp only [Act.put, List.setIfInBounds_toArray, List.set_cons_zero, List.set_cons_succ]
        refine wpAnyH_take (i := 21) (oi := { dst := some 76, op := Op.move (Operand.tmp 2), type := 35, pos := "law.go:126", after := #[{ on := 18, ground := Ground.guard }], guard := some (18, true) }) (v := ?_) rfl (by kernel_rfl) (by kernel_rfl) (by kernel_rfl) (fun _ _ _ h => h) (Or.inl ⟨by rfl, ?_⟩) (by assumption) ?_
        rotate_left
        · (intro w hSw; obtain ⟨⟨⟨_, s0, s1, s2⟩, ⟨_, s3, s4⟩⟩, ⟨_, s5, s6, s7⟩, ⟨_, s8, s9⟩⟩ := hSw; go_simp <;> with_reducible rfl)
        try simp only [Act.put, List.setIfInBounds_toArray, List.set_cons_zero, List.set_cons_succ]
        refine wpAnyH_take (i := 23) (oi := { dst := some 78, op := Op.load 29 (Operand.tmp 7), type := 29, pos := "law.go:126", after := #[{ on := 18, ground := Ground.guard }], guard := some (18, true) }) (v := ?_) rfl (by kernel_rfl) (by kernel_rfl) (by kernel_rfl) (fun _ _ _ h => h) (Or.inl ⟨by rfl, ?_⟩) (by assumption) ?_
        rotate_left
        · (intro w hSw; obtain ⟨⟨⟨_, s0, s1, s2⟩, ⟨_, s3, s4⟩⟩, ⟨_, s5, s6, s7⟩, ⟨_, s8, s9⟩⟩ := hSw; go_simp <;> with_reducible rfl)
        try simp only [Act.put, List.setIfInBounds_toArray, List.set_cons_zero, List.set_cons_succ]
        refine wpAnyH_take (i := 24) (oi := { dst := some 79, op := Op.load 30 (Operand.tmp 8), type := 30, pos := "law.go:126", after := #[{ on := 18, ground := Ground.guard }], guard := some (18, true) }) (v := ?_) rfl (by kernel_rfl) (by kernel_rfl) (by kernel_rfl) (fun _ _ _ h => h) (Or.inl ⟨by rfl, ?_⟩) (by assumption) ?_
        rotate_left
        · (intro w hSw; obtain ⟨⟨⟨_, s0, s1, s2⟩, ⟨_, s3, s4⟩⟩, ⟨_, s5, s6, s7⟩, ⟨_, s8, s9⟩⟩ := hSw; go_simp <;> with_reducible rfl)
        try simp only [Act.put, List.setIfInBounds_toArray, List.set_cons_zero, List.set_cons_succ]
        refine wpAnyH_take (i := 25) (oi := { dst := some 80, op := Op.move (Operand.tmp 2), type := 35, pos := "law.go:126", after := #[{ on := 18, ground := Ground.guard }], guard := some (18, true) }) (v := ?_) rfl (by kernel_rfl) (by kernel_rfl) (by kernel_rfl) (fun _ _ _ h => h) (Or.inl ⟨by rfl, ?_⟩) (by assumption) ?_
        rotate_left
        · (intro w hSw; obtain ⟨⟨⟨_, s0, s1, s2⟩, ⟨_, s3, s4⟩⟩, ⟨_, s5, s6, s7⟩, ⟨_, s8, s9⟩⟩ := hSw; go_simp <;> with_reducible rfl)
        try simp only [Act.put, List.setIfInBounds_toArray, List.set_cons_zero, List.set_cons_succ]
        refine wpAnyH_ready (rs := [22]) (by kernel_rfl) (by simp) ?_
        refine AllReadyH.cons (o := { dst := some 77, op := Op.call { callee := Callee.value (Operand.func 35), args := #[Operand.tmp 74, Operand.tmp 75, Operand.tmp 76], argTypes := #[24, 26, 35] }, type := 31, pos := "law.go:126", after := #[{ on := 19, ground := Ground.data }, { on := 20, ground := Ground.data }, { on := 21, ground := Ground.data }, { on := 18, ground := Ground.chain }, { on := 18, ground := Ground.guard }], guard := some (18, true) }) rfl (fun K hK => ?_) AllReadyH.nil
        go_simp
        go_at_call 35
        refine (HAP.out _ (HFU.out.trans HFc1.out)).mono ?_
        rintro _ wc2 ⟨rfl, Fc⟩
        have HFc2 := Lib.hid (HFc1.out.trans Fc)
        clear Fc
        try go_wp2_with fail
        refine hK.out _ _ ?_ (fun hHeld => ?_)
        · exact keep4 _ HFc2.out
        clear hK K
        try simp only [Act.put, List.setIfInBounds_toArray, List.set_cons_zero, List.set_cons_succ]
        refine wpAnyH_ready (rs := [26]) (by kernel_rfl) (by simp) ?_
        refine AllReadyH.cons (o := { dst := some 81, op := Op.call { callee := Callee.value (Operand.func 36), args := #[Operand.tmp 78, Operand.tmp 79, Operand.tmp 80], argTypes := #[29, 30, 35] }, type := 31, pos := "law.go:126", after := #[{ on := 23, ground := Ground.data }, { on := 24, ground := Ground.data }, { on := 25, ground := Ground.data }, { on := 22, ground := Ground.chain }, { on := 18, ground := Ground.guard }], guard := some (18, true) }) rfl (fun K hK => ?_) AllReadyH.nil
        go_simp
        go_at_call 36
        refine (HRA.out _ (HFU.out.trans HFc2.out)).mono ?_
        rintro _ wc3 ⟨rfl, Fc⟩
        have HFc3 := Lib.hid (HFc2.out.trans Fc)
        clear Fc
        try go_wp2_with fail
        refine hK.out _ _ ?_ (fun hHeld => ?_)
        · exact keep4 _ HFc3.out
        clear hK K
        try simp only [Act.put, List.setIfInBounds_toArray, List.set_cons_zero, List.set_cons_succ]
        refine wpAnyH_take (i := 27) (oi := { dst := some 82, op := Op.binOp BinOp.eql 31 (Operand.tmp 77) (Operand.tmp 81) 31, type := 4, pos := "law.go:126", after := #[{ on := 22, ground := Ground.data }, { on := 26, ground := Ground.data }, { on := 18, ground := Ground.guard }], guard := some (18, true) }) (v := ?_) rfl (by kernel_rfl) (by kernel_rfl) (by kernel_rfl) (fun _ _ _ h => h) (Or.inl ⟨by rfl, ?_⟩) (by assumption) ?_
        rotate_left
        · (intro w hSw; obtain ⟨⟨⟨_, s0, s1, s2⟩, ⟨_, s3, s4⟩⟩, ⟨_, s5, s6, s7⟩, ⟨_, s8, s9⟩⟩ := hSw; go_simp <;> with_reducible rfl)
        try simp only [Act.put, List.setIfInBounds_toArray, List.set_cons_zero, List.set_cons_succ]
        refine wpAnyH_take (i := 28) (oi := { dst := some 83, op := Op.pick (Operand.tmp 73) (Operand.tmp 82) (Operand.const (Value.bool false)), type := 4, pos := "law.go:126", after := #[{ on := 18, ground := Ground.data }, { on := 27, ground := Ground.data }], guard := none }) (v := ?_) rfl (by kernel_rfl) (by kernel_rfl) (by kernel_rfl) (fun _ _ _ h => h) (Or.inl ⟨by rfl, ?_⟩) (by assumption) ?_
        rotate_left
        · (intro w hSw; obtain ⟨⟨⟨_, s0, s1, s2⟩, ⟨_, s3, s4⟩⟩, ⟨_, s5, s6, s7⟩, ⟨_, s8, s9⟩⟩ := hSw; go_simp <;> with_reducible rfl)
        try simp only [Act.put, List.setIfInBounds_toArray, List.set_cons_zero, List.set_cons_succ]
        refine wpAnyH_take (i := 29) (oi := { dst := some 84, op := Op.move (Operand.tmp 83), type := 4, pos := "law.go:126", after := #[{ on := 28, ground := Ground.data }, { on := 26, ground := Ground.chain }], guard := none }) (v := ?_) rfl (by kernel_rfl) (by kernel_rfl) (by kernel_rfl) (fun _ _ _ h => h) (Or.inl ⟨by rfl, ?_⟩) (by assumption) ?_
        rotate_left
        · (intro w hSw; obtain ⟨⟨⟨_, s0, s1, s2⟩, ⟨_, s3, s4⟩⟩, ⟨_, s5, s6, s7⟩, ⟨_, s8, s9⟩⟩ := hSw; go_simp <;> with_reducible rfl)
        try simp only [Act.put, List.setIfInBounds_toArray, List.set_cons_zero, List.set_cons_succ]
        refine wpAnyH_ready (rs := [30]) (by kernel_rfl) (by simp) ?_
        refine AllReadyH.cons (o := { dst := some 85, op := Op.call { callee := Callee.value (Operand.func 15), args := #[], argTypes := #[] }, type := 4, pos := "law.go:126", after := #[{ on := 29, ground := Ground.chain }, { on := 29, ground := Ground.guard }], guard := some (29, true) }) rfl (fun K hK => ?_) AllReadyH.nil
        go_simp
        go_at_call 15
        refine (works_any _).mono ?_
        rintro _ wc4 ⟨rfl, Fc⟩
        have HFc4 := Lib.hid (HFc3.out.trans Fc)
        clear Fc
        try go_wp2_with fail
        refine hK.out _ _ ?_ (fun hHeld => ?_)
        · exact keep4 _ HFc4.out
        clear hK K
        try simp only [Act.put, List.setIfInBounds_toArray, List.set_cons_zero, List.set_cons_succ]
        refine wpAnyH_take (i := 31) (oi := { dst := some 86, op := Op.pick (Operand.tmp 84) (Operand.tmp 85) (Operand.const (Value.bool false)), type := 4, pos := "law.go:126", after := #[{ on := 29, ground := Ground.data }, { on := 30, ground := Ground.data }], guard := none }) (v := ?_) rfl (by kernel_rfl) (by kernel_rfl) (by kernel_rfl) (fun _ _ _ h => h) (Or.inl ⟨by rfl, ?_⟩) (by assumption) ?_
        rotate_left
        · (intro w hSw; obtain ⟨⟨⟨_, s0, s1, s2⟩, ⟨_, s3, s4⟩⟩, ⟨_, s5, s6, s7⟩, ⟨_, s8, s9⟩⟩ := hSw; go_simp <;> with_reducible rfl)
        try simp only [Act.put, List.setIfInBounds_toArray, List.set_cons_zero, List.set_cons_succ]
        refine wpAnyH_ready (rs := [32]) (by kernel_rfl) (by simp) ?_
        refine AllReadyH.cons (o := { dst := some 6, op := Op.assign (Operand.tmp 86), type := 4, pos := "law.go:126", after := #[{ on := 31, ground := Ground.data }, { on := 30, ground := Ground.chain }, { on := 0, ground := Ground.phase }, { on := 1, ground := Ground.phase }, { on := 2, ground := Ground.phase }, { on := 3, ground := Ground.phase }, { on := 4, ground := Ground.phase }, { on := 5, ground := Ground.phase }, { on := 6, ground := Ground.phase }, { on := 7, ground := Ground.phase }, { on := 8, ground := Ground.phase }, { on := 9, ground := Ground.phase }, { on := 10, ground := Ground.phase }, { on := 11, ground := Ground.phase }, { on := 12, ground := Ground.phase }, { on := 13, ground := Ground.phase }, { on := 14, ground := Ground.phase }, { on := 15, ground := Ground.phase }, { on := 16, ground := Ground.phase }, { on := 17, ground := Ground.phase }, { on := 18, ground := Ground.phase }, { on := 19, ground := Ground.phase }, { on := 20, ground := Ground.phase }, { on := 21, ground := Ground.phase }, { on := 22, ground := Ground.phase }, { on := 23, ground := Ground.phase }, { on := 24, ground := Ground.phase }, { on := 25, ground := Ground.phase }, { on := 26, ground := Ground.phase }, { on := 27, ground := Ground.phase }, { on := 28, ground := Ground.phase }, { on := 29, ground := Ground.phase }, { on := 30, ground := Ground.phase }, { on := 31, ground := Ground.phase }], guard := none }) rfl (fun K hK => ?_) AllReadyH.nil
        go_simp
        refine hK.out _ _ ?_ (fun hHeld => ?_)
        · exact keep4 _ HFc4.out
        clear hK K
        try simp only [Act.put, List.setIfInBounds_toArray, List.set_cons_zero, List.set_cons_succ]
        refine wpAnyH_done (by kernel_rfl) ?_ _
        go_wp2_with fail
        go_ret
        exact ⟨rfl, HFU.out.trans HFc4.out⟩
    · rw [hC] at HCW
      clear hA hS hY hT hL hcy hct l1 l2 l3 hC hF
      go_enter Try.func5, Try.ntmps5
      go_wp2_with fail
      refine (HLA.out _).mono ?_
      rintro _ w2 ⟨rfl, F⟩
      have HF2 := Lib.hid (HA.out.trans F)
      have HBP2 := Lib.hid (HBP.out.fut F)
      have HBQ2 := Lib.hid (HBQ.out.fut F)
      clear p0 p1 p2 q0 q1 F HLA
      go_wp2_with fail
      refine (HCW.out _ HF2.out).mono ?_
      rintro _ _ ⟨rfl, rfl⟩
      obtain ⟨_, p0, p1, p2⟩ := HBP2.out
      obtain ⟨_, q0, q1⟩ := HBQ2.out
      clear p0 p1 p2 q0 q1 HCW HBP2 HBQ2
      go_wp2_with fail
      refine (works_any _).mono ?_
      rintro _ w3 ⟨rfl, F⟩
      have HF3 := Lib.hid (HF2.out.trans F)
      clear F
      go_wp2_with fail
      go_ret
      exact ⟨rfl, HF3.out⟩
  · rw [hL] at HLA
    clear hA hS hY hT hL hcy hct hF HCW
    go_enter Try.func5, Try.ntmps5
    go_wp2_with fail
    refine (HLA.out _).mono ?_
    rintro _ w2 ⟨rfl, F⟩
    have HF2 := Lib.hid (HA.out.trans F)
    clear F p0 p1 p2 q0 q1 HLA
    go_wp2_with fail
    refine (works_any _).mono ?_
    rintro _ w3 ⟨rfl, F⟩
    have HF3 := Lib.hid (HF2.out.trans F)
    clear F
    go_wp2_with fail
    go_ret
    exact ⟨rfl, HF3.out⟩
end Go.Proofs.Ytflllkamdihfaaa
