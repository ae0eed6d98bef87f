/- LaneCounts: rsgn_any, law4_any -/
import Derived.Test.YtflllkamdihfaaaLDI
import Derived.Test.YtflllkamdihfaaaLCD
import Derived.Test.YtflllkamdihfaaaLBI
namespace Go.Proofs.Ytflllkamdihfaaa
open Go.RowKit Go.Sort
set_option maxRecDepth 100000 in
set_option maxHeartbeats 4000000 in
theorem rsgn_any (r c : Int) (a : Option Addr) (cap : Nat) (S : List Int) (ya : Option Addr) (yc : Nat) (Y : List Int) (ta : Option Addr) (tc : Nat) (T : List Int) (w : World) (h : InPQ w a S ya yc Y ta tc T) :
    Calls Try.prog 24 #[parV r c a S.length cap, plaV ya Y.length yc ta T.length tc] w fun e w' => e = .returned (.tuple #[.int .i64 (sgnV r c S Y T), .int .i64 (chkP r c S Y T)]) ∧ Fut w w' := by
  have hA : Fut w ((w.alloc (.cells #[.int .i64 r, .int .i64 c, .slice a S.length cap] 29)).alloc (.cells #[.slice ya Y.length yc, .slice ta T.length tc] 30)) := (Fut.alloc _ _).trans (Fut.alloc _ _)
  have hBP := (BoxR.new w r c a S.length cap).fut (Fut.alloc _ (.cells #[.slice ya Y.length yc, .slice ta T.length tc] 30))
  have hBQ := BoxT.new (w.alloc (.cells #[.int .i64 r, .int .i64 c, .slice a S.length cap] 29)) ya Y.length yc ta T.length tc
  rw [World.size_alloc] at hBQ
  have HTB := Lib.hid (fun W (F : Fut w W) => rtable_any r c a cap S ya yc Y ta tc T W (h.fut F))
  have HF1 := Lib.hid hA
  have HBP1 := Lib.hid hBP
  have HBQ1 := Lib.hid hBQ
  obtain ⟨_, p0, p1, p2⟩ := hBP
  obtain ⟨_, q0, q1⟩ := hBQ
  clear hA h
  unfold sgnV
  by_cases hc : chkP r c S Y T = 0
  · rw [if_pos hc]
    obtain ⟨t1, _, t3, t4⟩ := tab_good hc
    have hy3 := (chk_all hc).three
    rw [hc] at HTB ⊢
    have HDT := Lib.hid (fun (l : Option Addr) (lc : Nat) W (hL : LstC W l (tabL r c S Y T)) => rsigned_own Y.length hy3 l lc _ t1 t3 t4 Y.length [] (.slice none 0 0) W (by simp) (fun k hk => absurd hk (by simp)) (World.ownsRow_nil _ _ _ _) hL)
    rw [sgR_det _ _ hy3 t1 t3] at HDT
    have HT1 := Lib.hid t1
    generalize detF Y.length (tabL r c S Y T) = dv at *
    generalize tabL r c S Y T = tb at *
    clear t1 t3 t4 hc hy3
    go_enter Try.func24, Try.ntmps24
    go_wp2_with fail
    refine (HTB.out _ HF1.out).mono ?_
    rintro _ w2 ⟨l, lc, rfl, hl1, hl2, hL, F⟩
    have HF2 := Lib.hid (HF1.out.trans F)
    have HD := Lib.hid (HDT.out l lc w2 hL)
    rw [HT1.out]
    clear p0 p1 p2 q0 q1 F hL hl1 hl2
    go_wp2_with fail
    refine HD.out.mono ?_
    rintro _ w3 ⟨rfl, F⟩
    have HF3 := Lib.hid (HF2.out.trans F)
    clear F
    go_wp2_with fail
    go_ret2
    exact ⟨rfl, HF3.out⟩
  · rw [if_neg hc]
    generalize tabL r c S Y T = tb at *
    generalize chkP r c S Y T = ce at *
    have hcn : (ce != 0) = true := by simpa using hc
    have hcn2 : (ce == 0) = false := by simpa using hc
    go_enter Try.func24, Try.ntmps24
    go_wp2_with fail
    refine (HTB.out _ HF1.out).mono ?_
    rintro _ w2 ⟨l, lc, rfl, _, _, _, F⟩
    have HF2 := Lib.hid (HF1.out.trans F)
    clear p0 p1 p2 q0 q1 F
    go_wp2_with fail
    go_ret2
    exact ⟨rfl, HF2.out⟩
set_option maxRecDepth 100000 in
set_option maxHeartbeats 8000000 in
theorem law4_any (r c : Int) (a : Option Addr) (cap : Nat) (S : List Int) (ya : Option Addr) (yc : Nat) (Y : List Int) (ta : Option Addr) (tc : Nat) (T : List Int) (w : World) (hS : IntsAt w a S) (hY : IntsAt w ya Y) (hT : IntsAt w ta T) (hcy : Y.length ≤ yc) (hct : T.length ≤ tc) :
    Calls Try.prog 4 #[parV r c a S.length cap, plaV ya Y.length yc ta T.length tc] w fun e w' => e = .returned (.bool true) ∧ Fut w w' := by
  have hA : Fut w ((w.alloc (.cells #[.int .i64 r, .int .i64 c, .slice a S.length cap] 24)).alloc (.cells #[.slice ya Y.length yc, .slice ta T.length tc] 26)) := (Fut.alloc _ _).trans (Fut.alloc _ _)
  have hBP := (BoxP.new w r c a S.length cap).fut (Fut.alloc _ (.cells #[.slice ya Y.length yc, .slice ta T.length tc] 26))
  have hBQ := BoxQ.new (w.alloc (.cells #[.int .i64 r, .int .i64 c, .slice a S.length cap] 24)) ya Y.length yc ta T.length tc
  rw [World.size_alloc] at hBQ
  have HA := Lib.hid hA
  have HBP := Lib.hid hBP
  have HBQ := Lib.hid hBQ
  obtain ⟨_, p0, p1, p2⟩ := hBP
  obtain ⟨_, q0, q1⟩ := hBQ
  have HLA := Lib.hid (fun W => large_any r c a cap S ya yc Y ta tc T W)
  cases hL : larB S Y T
  · obtain ⟨l1, l2, l3⟩ := larB_off hL
    rw [hL] at HLA
    have h : InPQ w a S ya yc Y ta tc T := ⟨hS, by omega, hY, by omega, hcy, hT, by omega, hct⟩
    have HSG := Lib.hid (fun W F => signed_any r c a cap S ya yc Y ta tc T W (h.fut F))
    have HRG := Lib.hid (fun W F => rsgn_any r c a cap S ya yc Y ta tc T W (h.fut F))
    have HCO := Lib.hid (fun W F => fcount_any r c a cap S ya yc Y ta tc T W (h.fut F))
    have HRC := Lib.hid (fun W F => rcount_any r c a cap S ya yc Y ta tc T W (h.fut F))
    have HFI := Lib.hid (fun W F => first_any r c a cap S ya yc Y ta tc T W (h.fut F))
    have HRF := Lib.hid (fun W F => rfirst_any r c a cap S ya yc Y ta tc T W (h.fut F))
    generalize sgnV r c S Y T = sv at *
    generalize cntN r c S Y T = cn at *
    generalize chkP r c S Y T = ck at *
    generalize fstE r c S Y T = fe at *
    generalize fstL r c S Y T = FL at *
    clear h hS hY hT hcy hct hL l1 l2 l3 hA
    go_enter Try.func4, Try.ntmps4
    go_wp2_with fail
    refine (HLA.out _).mono ?_
    rintro _ w2 ⟨rfl, F⟩
    have HF2 := Lib.hid (HA.out.trans F)
    have HBP2 := Lib.hid (HBP.out.fut F)
    have HBQ2 := Lib.hid (HBQ.out.fut F)
    clear p0 p1 p2 q0 q1 F HLA
    obtain ⟨_, p0, p1, p2⟩ := HBP2.out
    obtain ⟨_, q0, q1⟩ := HBQ2.out
    go_upto_region 3 with fail
    have FD : Fut w2 w2.drew := below_drewN Fut.rfl 1
    have HF3 := Lib.hid (HF2.out.trans FD)
    have HBP3 := Lib.hid (HBP2.out.fut FD)
    have HBQ3 := Lib.hid (HBQ2.out.fut FD)
    have keep : ∀ W', Fut w2.drew W' → (fun w' => BoxP w' w.heap.size r c a S.length cap ∧ BoxQ w' (w.heap.size + 1) ya Y.length yc ta T.length tc) W' := fun W' F => ⟨HBP3.out.fut F, HBQ3.out.fut F⟩
    clear p0 p1 p2 q0 q1 FD HF2 HBP2 HBQ2 HA HBP HBQ
    go_cut [5, 6] from 5 to 24 (fun s9 s10 wx => ∃ B9 B10, s9 = .pointer (some ⟨B9, 0, none⟩) ∧ s10 = .pointer (some ⟨B10, 0, none⟩) ∧ Hid (BoxP wx B9 r c a S.length cap) ∧ Hid (BoxQ wx B10 ya Y.length yc ta T.length tc) ∧ Hid (BoxP wx w.heap.size r c a S.length cap) ∧ Hid (BoxQ wx (w.heap.size + 1) ya Y.length yc ta T.length tc) ∧ Hid (Fut w wx))
    case first =>
      refine wp_region_held_drew (S := (fun w' => BoxP w' w.heap.size r c a S.length cap ∧ BoxQ w' (w.heap.size + 1) ya Y.length yc ta T.length tc)) (by kernel_rfl) ?_ (fun hHeld => ?_)
      · exact keep _ Fut.rfl
      generalize w2.drew = u0 at *
      refine wpAnyH_take (i := 0) (oi := { dst := some 23, op := Op.load 24 (Operand.tmp 2), type := 24, pos := "law.go:106", after := #[], guard := none }) (v := ?_) rfl (by kernel_rfl) (by kernel_rfl) (by kernel_rfl) (fun _ _ _ h => h) (Or.inl ⟨by rfl, ?_⟩) (by assumption) ?_
      rotate_left
      · (intro w hSw; obtain ⟨⟨_, s0, s1, s2⟩, ⟨_, s3, s4⟩⟩ := hSw; go_simp <;> with_reducible rfl)
      try simp only [Act.put, List.setIfInBounds_toArray, List.set_cons_zero, List.set_cons_succ]
      refine wpAnyH_take (i := 1) (oi := { dst := some 24, op := Op.load 26 (Operand.tmp 3), type := 26, pos := "law.go:106", after := #[{ on := 4, ground := Ground.gcOnly Departure.lateStores }], guard := none }) (v := ?_) rfl (by kernel_rfl) (by kernel_rfl) (by kernel_rfl) (fun _ _ _ h => h) (Or.inl ⟨by rfl, ?_⟩) (by assumption) ?_
      rotate_left
      · (intro w hSw; obtain ⟨⟨_, s0, s1, s2⟩, ⟨_, s3, s4⟩⟩ := hSw; go_simp <;> with_reducible rfl)
      try simp only [Act.put, List.setIfInBounds_toArray, List.set_cons_zero, List.set_cons_succ]
      refine wpAnyH_ready (rs := [2, 3]) (by kernel_rfl) (by simp) ?_
      refine AllReadyH.cons (o := { dst := some 5, op := Op.alloc 29, type := 0, pos := "law.go:106", after := #[], guard := none }) rfl (fun K hK => ?_) (AllReadyH.cons (o := { dst := some 6, op := Op.alloc 30, type := 0, pos := "law.go:106", after := #[], guard := none }) rfl (fun K hK => ?_) (AllReadyH.nil))
      · go_simp
        refine hK.out _ _ ?_ (fun hHeld => ?_)
        · exact keep _ (Fut.alloc u0 (.cells #[.int .i64 0, .int .i64 0, .slice none 0 0] 29))
        clear hK K
        try simp only [Act.put, List.setIfInBounds_toArray, List.set_cons_zero, List.set_cons_succ]
        refine wpAnyH_ready (rs := [3]) (by kernel_rfl) (by simp) ?_
        refine AllReadyH.cons (o := { dst := some 6, op := Op.alloc 30, type := 0, pos := "law.go:106", after := #[], guard := none }) rfl (fun K hK => ?_) AllReadyH.nil
        go_simp
        refine hK.out _ _ ?_ (fun hHeld => ?_)
        · exact keep _ ((Fut.alloc u0 (.cells #[.int .i64 0, .int .i64 0, .slice none 0 0] 29)).trans (Fut.alloc _ (.cells #[.slice none 0 0, .slice none 0 0] 30)))
        clear hK K
        try simp only [Act.put, List.setIfInBounds_toArray, List.set_cons_zero, List.set_cons_succ]
        refine wpAnyH_ready (rs := [4]) (by kernel_rfl) (by simp) ?_
        refine AllReadyH.cons (o := { dst := none, op := Op.store 29 (Operand.tmp 5) (Operand.tmp 23), type := 0, pos := "law.go:106", after := #[{ on := 2, ground := Ground.data }, { on := 0, ground := Ground.data }, { on := 0, ground := Ground.phase }, { on := 1, ground := Ground.textOnly Departure.lateStores }, { on := 2, ground := Ground.phase }, { on := 3, ground := Ground.phase }], guard := none }) rfl (fun K hK => ?_) AllReadyH.nil
        go_simp
        refine hK.out _ _ ?_ (fun hHeld => ?_)
        · exact keep _ ((Fut.alloc u0 (.cells #[.int .i64 r, .int .i64 c, .slice a S.length cap] 29)).trans (Fut.alloc _ (.cells #[.slice none 0 0, .slice none 0 0] 30)))
        clear hK K
        try simp only [Act.put, List.setIfInBounds_toArray, List.set_cons_zero, List.set_cons_succ]
        refine wpAnyH_ready (rs := [5]) (by kernel_rfl) (by simp) ?_
        refine AllReadyH.cons (o := { dst := none, op := Op.store 30 (Operand.tmp 6) (Operand.tmp 24), type := 0, pos := "law.go:106", after := #[{ on := 3, ground := Ground.data }, { on := 1, ground := Ground.data }, { on := 4, ground := Ground.chain }, { on := 0, ground := Ground.phase }, { on := 1, ground := Ground.phase }, { on := 2, ground := Ground.phase }, { on := 3, ground := Ground.phase }, { on := 4, ground := Ground.phase }], guard := none }) rfl (fun K hK => ?_) AllReadyH.nil
        go_simp
        refine hK.out _ _ ?_ (fun hHeld => ?_)
        · exact keep _ ((Fut.alloc u0 (.cells #[.int .i64 r, .int .i64 c, .slice a S.length cap] 29)).trans (Fut.alloc _ (.cells #[.slice ya Y.length yc, .slice ta T.length tc] 30)))
        clear hK K
        try simp only [Act.put, List.setIfInBounds_toArray, List.set_cons_zero, List.set_cons_succ]
        refine wpAnyH_done (by kernel_rfl) ?_ _
        have F5 : Fut u0 ((u0.alloc (.cells #[.int .i64 r, .int .i64 c, .slice a S.length cap] 29)).alloc (.cells #[.slice ya Y.length yc, .slice ta T.length tc] 30)) := (Fut.alloc u0 (.cells #[.int .i64 r, .int .i64 c, .slice a S.length cap] 29)).trans (Fut.alloc _ (.cells #[.slice ya Y.length yc, .slice ta T.length tc] 30))
        have k6 : ((u0.alloc (.cells #[.int .i64 r, .int .i64 c, .slice a S.length cap] 29)).alloc (.cells #[.slice ya Y.length yc, .slice ta T.length tc] 30)).heap[u0.heap.size]? = some (.cells #[.int .i64 r, .int .i64 c, .slice a S.length cap] 29) := (heap_new1 u0 (.cells #[.int .i64 r, .int .i64 c, .slice a S.length cap] 29) (.cells #[.slice ya Y.length yc, .slice ta T.length tc] 30))
        have k5 : ((u0.alloc (.cells #[.int .i64 r, .int .i64 c, .slice a S.length cap] 29)).alloc (.cells #[.slice ya Y.length yc, .slice ta T.length tc] 30)).heap[(u0.heap.size + 1)]? = some (.cells #[.slice ya Y.length yc, .slice ta T.length tc] 30) := (by have := World.alloc_heap_new (u0.alloc (.cells #[.int .i64 r, .int .i64 c, .slice a S.length cap] 29)) (.cells #[.slice ya Y.length yc, .slice ta T.length tc] 30); rwa [World.size_alloc] at this)
        go_wp2_with fail
        go_meet
        exact ⟨u0.heap.size, (u0.heap.size + 1), rfl, rfl, Lib.hid (boxP_of k6), Lib.hid (boxQ_of k5), Lib.hid (keep _ F5).1, Lib.hid (keep _ F5).2, Lib.hid (HF3.out.trans F5)⟩
      · go_simp
        refine hK.out _ _ ?_ (fun hHeld => ?_)
        · exact keep _ (Fut.alloc u0 (.cells #[.slice none 0 0, .slice none 0 0] 30))
        clear hK K
        try simp only [Act.put, List.setIfInBounds_toArray, List.set_cons_zero, List.set_cons_succ]
        refine wpAnyH_ready (rs := [2]) (by kernel_rfl) (by simp) ?_
        refine AllReadyH.cons (o := { dst := some 5, op := Op.alloc 29, type := 0, pos := "law.go:106", after := #[], guard := none }) rfl (fun K hK => ?_) AllReadyH.nil
        go_simp
        refine hK.out _ _ ?_ (fun hHeld => ?_)
        · exact keep _ ((Fut.alloc u0 (.cells #[.slice none 0 0, .slice none 0 0] 30)).trans (Fut.alloc _ (.cells #[.int .i64 0, .int .i64 0, .slice none 0 0] 29)))
        clear hK K
        try simp only [Act.put, List.setIfInBounds_toArray, List.set_cons_zero, List.set_cons_succ]
        refine wpAnyH_ready (rs := [4]) (by kernel_rfl) (by simp) ?_
        refine AllReadyH.cons (o := { dst := none, op := Op.store 29 (Operand.tmp 5) (Operand.tmp 23), type := 0, pos := "law.go:106", after := #[{ on := 2, ground := Ground.data }, { on := 0, ground := Ground.data }, { on := 0, ground := Ground.phase }, { on := 1, ground := Ground.textOnly Departure.lateStores }, { on := 2, ground := Ground.phase }, { on := 3, ground := Ground.phase }], guard := none }) rfl (fun K hK => ?_) AllReadyH.nil
        go_simp
        refine hK.out _ _ ?_ (fun hHeld => ?_)
        · exact keep _ ((Fut.alloc u0 (.cells #[.slice none 0 0, .slice none 0 0] 30)).trans (Fut.alloc _ (.cells #[.int .i64 r, .int .i64 c, .slice a S.length cap] 29)))
        clear hK K
        try simp only [Act.put, List.setIfInBounds_toArray, List.set_cons_zero, List.set_cons_succ]
        refine wpAnyH_ready (rs := [5]) (by kernel_rfl) (by simp) ?_
        refine AllReadyH.cons (o := { dst := none, op := Op.store 30 (Operand.tmp 6) (Operand.tmp 24), type := 0, pos := "law.go:106", after := #[{ on := 3, ground := Ground.data }, { on := 1, ground := Ground.data }, { on := 4, ground := Ground.chain }, { on := 0, ground := Ground.phase }, { on := 1, ground := Ground.phase }, { on := 2, ground := Ground.phase }, { on := 3, ground := Ground.phase }, { on := 4, ground := Ground.phase }], guard := none }) rfl (fun K hK => ?_) AllReadyH.nil
        go_simp
        refine hK.out _ _ ?_ (fun hHeld => ?_)
        · exact keep _ ((Fut.alloc u0 (.cells #[.slice ya Y.length yc, .slice ta T.length tc] 30)).trans (Fut.alloc _ (.cells #[.int .i64 r, .int .i64 c, .slice a S.length cap] 29)))
        clear hK K
        try simp only [Act.put, List.setIfInBounds_toArray, List.set_cons_zero, List.set_cons_succ]
        refine wpAnyH_done (by kernel_rfl) ?_ _
        have F5 : Fut u0 ((u0.alloc (.cells #[.slice ya Y.length yc, .slice ta T.length tc] 30)).alloc (.cells #[.int .i64 r, .int .i64 c, .slice a S.length cap] 29)) := (Fut.alloc u0 (.cells #[.slice ya Y.length yc, .slice ta T.length tc] 30)).trans (Fut.alloc _ (.cells #[.int .i64 r, .int .i64 c, .slice a S.length cap] 29))
        have k6 : ((u0.alloc (.cells #[.slice ya Y.length yc, .slice ta T.length tc] 30)).alloc (.cells #[.int .i64 r, .int .i64 c, .slice a S.length cap] 29)).heap[(u0.heap.size + 1)]? = some (.cells #[.int .i64 r, .int .i64 c, .slice a S.length cap] 29) := (by have := World.alloc_heap_new (u0.alloc (.cells #[.slice ya Y.length yc, .slice ta T.length tc] 30)) (.cells #[.int .i64 r, .int .i64 c, .slice a S.length cap] 29); rwa [World.size_alloc] at this)
        have k5 : ((u0.alloc (.cells #[.slice ya Y.length yc, .slice ta T.length tc] 30)).alloc (.cells #[.int .i64 r, .int .i64 c, .slice a S.length cap] 29)).heap[u0.heap.size]? = some (.cells #[.slice ya Y.length yc, .slice ta T.length tc] 30) := (heap_new1 u0 (.cells #[.slice ya Y.length yc, .slice ta T.length tc] 30) (.cells #[.int .i64 r, .int .i64 c, .slice a S.length cap] 29))
        go_wp2_with fail
        go_meet
        exact ⟨(u0.heap.size + 1), u0.heap.size, rfl, rfl, Lib.hid (boxP_of k6), Lib.hid (boxQ_of k5), Lib.hid (keep _ F5).1, Lib.hid (keep _ F5).2, Lib.hid (HF3.out.trans F5)⟩
    case rest =>
      obtain ⟨B9, B10, rfl, rfl, HP9_4, HQ10_4, HP4_4, HQ4_4, HF4⟩ := hcut
      obtain ⟨w4, hw4⟩ : ∃ w4, w4 = wc := ⟨_, rfl⟩
      subst hw4
      clear HF3 HBP3 HBQ3 keep
      obtain ⟨_, p0, p1, p2⟩ := HP4_4.out
      obtain ⟨_, q0, q1⟩ := HQ4_4.out
      go_wp2_with fail
      refine (HSG.out _ HF4.out).mono ?_
      rintro _ w5 ⟨rfl, F⟩
      have HF5 := Lib.hid (HF4.out.trans F)
      have HP4_5 := Lib.hid (HP4_4.out.fut F)
      have HQ4_5 := Lib.hid (HQ4_4.out.fut F)
      have HP9_5 := Lib.hid (HP9_4.out.fut F)
      have HQ10_5 := Lib.hid (HQ10_4.out.fut F)
      clear F p0 p1 p2 q0 q1
      obtain ⟨_, p0, p1, p2⟩ := HP9_5.out
      obtain ⟨_, q0, q1⟩ := HQ10_5.out
      go_wp2_with fail
      refine (HRG.out _ HF5.out).mono ?_
      rintro _ w6 ⟨rfl, F⟩
      have HF6 := Lib.hid (HF5.out.trans F)
      have HP4_6 := Lib.hid (HP4_5.out.fut F)
      have HQ4_6 := Lib.hid (HQ4_5.out.fut F)
      have HP9_6 := Lib.hid (HP9_5.out.fut F)
      have HQ10_6 := Lib.hid (HQ10_5.out.fut F)
      clear F p0 p1 p2 q0 q1
      obtain ⟨_, p0, p1, p2⟩ := HP4_6.out
      obtain ⟨_, q0, q1⟩ := HQ4_6.out
      go_wp2_with fail
      refine (HCO.out _ HF6.out).mono ?_
      rintro _ w7 ⟨rfl, F⟩
      have HF7 := Lib.hid (HF6.out.trans F)
      have HP4_7 := Lib.hid (HP4_6.out.fut F)
      have HQ4_7 := Lib.hid (HQ4_6.out.fut F)
      have HP9_7 := Lib.hid (HP9_6.out.fut F)
      have HQ10_7 := Lib.hid (HQ10_6.out.fut F)
      clear F p0 p1 p2 q0 q1
      obtain ⟨_, p0, p1, p2⟩ := HP9_7.out
      obtain ⟨_, q0, q1⟩ := HQ10_7.out
      go_wp2_with fail
      refine (HRC.out _ HF7.out).mono ?_
      rintro _ w8 ⟨rfl, F⟩
      have HF8 := Lib.hid (HF7.out.trans F)
      have HP4_8 := Lib.hid (HP4_7.out.fut F)
      have HQ4_8 := Lib.hid (HQ4_7.out.fut F)
      have HP9_8 := Lib.hid (HP9_7.out.fut F)
      have HQ10_8 := Lib.hid (HQ10_7.out.fut F)
      clear F p0 p1 p2 q0 q1
      obtain ⟨_, p0, p1, p2⟩ := HP4_8.out
      obtain ⟨_, q0, q1⟩ := HQ4_8.out
      go_wp2_with fail
      refine (HFI.out _ HF8.out).mono ?_
      rintro _ w9 ⟨l3, lc3, rfl, g1, g2, hL3, F⟩
      have HF9 := Lib.hid (HF8.out.trans F)
      have HP4_9 := Lib.hid (HP4_8.out.fut F)
      have HQ4_9 := Lib.hid (HQ4_8.out.fut F)
      have HP9_9 := Lib.hid (HP9_8.out.fut F)
      have HQ10_9 := Lib.hid (HQ10_8.out.fut F)
      have HL3 := Lib.hid hL3
      clear hL3
      clear F p0 p1 p2 q0 q1
      obtain ⟨_, p0, p1, p2⟩ := HP9_9.out
      obtain ⟨_, q0, q1⟩ := HQ10_9.out
      go_wp2_with fail
      refine (HRF.out _ HF9.out).mono ?_
      rintro _ w10 ⟨l4, lc4, rfl, g3, g4, hL4, F⟩
      have HF10 := Lib.hid (HF9.out.trans F)
      have HP4_10 := Lib.hid (HP4_9.out.fut F)
      have HQ4_10 := Lib.hid (HQ4_9.out.fut F)
      have HP9_10 := Lib.hid (HP9_9.out.fut F)
      have HQ10_10 := Lib.hid (HQ10_9.out.fut F)
      have HL3b := Lib.hid (HL3.out.fut F)
      have HL4 := Lib.hid hL4
      clear hL4
      clear F p0 p1 p2 q0 q1
      obtain ⟨_, p0, p1, p2⟩ := HP4_10.out
      obtain ⟨_, q0, q1⟩ := HQ4_10.out
      go_wp2_with fail
      refine (lists_self (cap := lc3) (dap := lc4) FL w10 HL3b.out HL4.out (by omega)).mono ?_
      rintro _ w11 ⟨rfl, F⟩
      have HF11 := Lib.hid (HF10.out.trans F)
      clear F p0 p1 p2 q0 q1
      go_wp2_with fail
      refine (works_any _).mono ?_
      rintro _ w12 ⟨rfl, F⟩
      have HF12 := Lib.hid (HF11.out.trans F)
      clear F
      go_wp2_with fail
      go_ret
      exact ⟨rfl, HF12.out⟩
  · rw [hL] at HLA
    clear hA hS hY hT hL hcy hct
    go_enter Try.func4, Try.ntmps4
    go_wp2_with fail
    refine (HLA.out _).mono ?_
    rintro _ w2 ⟨rfl, F⟩
    have HF2 := Lib.hid (HA.out.trans F)
    clear F p0 p1 p2 q0 q1 HLA
    go_wp2_with fail
    refine (works_any _).mono ?_
    rintro _ w3 ⟨rfl, F⟩
    have HF3 := Lib.hid (HF2.out.trans F)
    clear F
    go_wp2_with fail
    go_ret
    exact ⟨rfl, HF3.out⟩
end Go.Proofs.Ytflllkamdihfaaa
