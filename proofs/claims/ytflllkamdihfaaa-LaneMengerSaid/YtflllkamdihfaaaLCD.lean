/- LaneWays: law3_any -/
import Derived.Test.YtflllkamdihfaaaLCC
import Derived.Test.YtflllkamdihfaaaLBJ
import Derived.Test.YtflllkamdihfaaaLMC
namespace Go.Proofs.Ytflllkamdihfaaa
open Go.RowKit Go.Sort
theorem boxP_of {w : World} {B : Nat} {r c : Int} {a : Option Addr} {n cap : Nat} {t : TypeId} (h : w.heap[B]? = some (.cells #[.int .i64 r, .int .i64 c, .slice a n cap] t)) : BoxP w B r c a n cap :=
  ⟨(Array.getElem?_eq_some_iff.1 h).1, by unfold World.cell?; rw [h]; rfl, by unfold World.cell?; rw [h]; rfl, by unfold World.cell?; rw [h]; rfl⟩
theorem boxQ_of {w : World} {B : Nat} {ya : Option Addr} {yn yc : Nat} {ta : Option Addr} {tn tc : Nat} {t : TypeId} (h : w.heap[B]? = some (.cells #[.slice ya yn yc, .slice ta tn tc] t)) : BoxQ w B ya yn yc ta tn tc :=
  ⟨(Array.getElem?_eq_some_iff.1 h).1, by unfold World.cell?; rw [h]; rfl, by unfold World.cell?; rw [h]; rfl⟩
theorem store2 {w : World} {B : Nat} {t : TypeId} {x y : Value} (u v : Value) (h : w.heap[B]? = some (.cells #[x, y] t)) :
    (w.cell? ⟨B, 0, none⟩ = some x ∧ w.frozen? ⟨B, 0, none⟩ = false) ∧ ((w.setCell ⟨B, 0, none⟩ u).cell? ⟨B, 1, none⟩ = some y ∧ (w.setCell ⟨B, 0, none⟩ u).frozen? ⟨B, 1, none⟩ = false) ∧
    ((w.setCell ⟨B, 0, none⟩ u).setCell ⟨B, 1, none⟩ v).heap[B]? = some (.cells #[u, v] t) := by
  have h1 : (w.setCell ⟨B, 0, none⟩ u).heap[B]? = some (.cells #[u, y] t) := by rw [setCell_eq_setRow w B 0 _ t (0, 0) u h, setRow_heap _ _ _ _ _ _ h]; rfl
  have h2 : ((w.setCell ⟨B, 0, none⟩ u).setCell ⟨B, 1, none⟩ v).heap[B]? = some (.cells #[u, v] t) := by rw [setCell_eq_setRow _ B 1 _ t (0, 0) v h1, setRow_heap _ _ _ _ _ _ h1]; rfl
  refine ⟨⟨?_, ?_⟩, ⟨?_, ?_⟩, h2⟩
  · unfold World.cell?; rw [h]; rfl
  · unfold World.frozen?; rw [h]; rfl
  · unfold World.cell?; rw [h1]; rfl
  · unfold World.frozen?; rw [h1]; rfl
set_option maxRecDepth 100000 in
set_option maxHeartbeats 8000000 in
theorem law3_any (r c : Int) (a : Option Addr) (cap : Nat) (S : List Int) (ya : Option Addr) (yc : Nat) (Y : List Int) (ta : Option Addr) (tc : Nat) (T : List Int) (x y : Int) (w : World) (hS : IntsAt w a S) (hY : IntsAt w ya Y) (hT : IntsAt w ta T) (hcy : Y.length ≤ yc) (hct : T.length ≤ tc) :
    Calls Try.prog 3 #[parV r c a S.length cap, plaV ya Y.length yc ta T.length tc, .int .i64 x, .int .i64 y] w fun e w' => e = .returned (.bool true) ∧ Fut w w' := by
  have hA : Fut w ((w.alloc (.cells #[.int .i64 r, .int .i64 c, .slice a S.length cap] 24)).alloc (.cells #[.slice ya Y.length yc, .slice ta T.length tc] 26)) := (Fut.alloc _ _).trans (Fut.alloc _ _)
  have hBP := (BoxP.new w r c a S.length cap).fut (Fut.alloc _ (.cells #[.slice ya Y.length yc, .slice ta T.length tc] 26))
  have hBQ := BoxQ.new (w.alloc (.cells #[.int .i64 r, .int .i64 c, .slice a S.length cap] 24)) ya Y.length yc ta T.length tc
  rw [World.size_alloc] at hBQ
  have HA := Lib.hid hA
  have HBP := Lib.hid hBP
  have HBQ := Lib.hid hBQ
  obtain ⟨_, p0, p1, p2⟩ := hBP
  obtain ⟨_, q0, q1⟩ := hBQ
  have HLA := Lib.hid (fun W => large_any r c a cap S ya yc Y ta tc T W)
  cases hL : larB S Y T
  · obtain ⟨l1, l2, l3⟩ := larB_off hL
    rw [hL] at HLA
    have h : InPQ w a S ya yc Y ta tc T := ⟨hS, by omega, hY, by omega, hcy, hT, by omega, hct⟩
    have HWY := Lib.hid (fun W F => ways_any r c a cap S ya yc Y ta tc T x y W (h.fut F))
    have HRW := Lib.hid (fun W F => rway_any r c a cap S ya yc Y ta tc T x y W (h.fut F))
    have HTB := Lib.hid (fun W F => table_any r c a cap S ya yc Y ta tc T W (h.fut F))
    have HRT := Lib.hid (fun W F => rtable_any r c a cap S ya yc Y ta tc T W (h.fut F))
    have HCK := Lib.hid (fun W F => chk_any r c a cap S ya yc Y ta tc T W (h.fut F))
    have HRC := Lib.hid (fun W F => rchk_any r c a cap S ya yc Y ta tc T W (h.fut F))
    generalize wayZ r c S Y T x y = g at *
    generalize wayE r c S Y T x y = e at *
    generalize tabL r c S Y T = tb at *
    generalize chkP r c S Y T = ck at *
    clear h hS hY hT hcy hct hL l1 l2 l3 hA
    go_enter Try.func3, Try.ntmps3
    go_wp2_with fail
    refine (HLA.out _).mono ?_
    rintro _ w2 ⟨rfl, F⟩
    have HF2 := Lib.hid (HA.out.trans F)
    have HBP2 := Lib.hid (HBP.out.fut F)
    have HBQ2 := Lib.hid (HBQ.out.fut F)
    clear p0 p1 p2 q0 q1 F HLA
    obtain ⟨_, p0, p1, p2⟩ := HBP2.out
    obtain ⟨_, q0, q1⟩ := HBQ2.out
    go_upto_region 3 with fail
    have FD : Fut w2 w2.drew := below_drewN Fut.rfl 1
    have HF3 := Lib.hid (HF2.out.trans FD)
    have HBP3 := Lib.hid (HBP2.out.fut FD)
    have HBQ3 := Lib.hid (HBQ2.out.fut FD)
    have keep : ∀ W', Fut w2.drew W' → (fun w' => BoxP w' w.heap.size r c a S.length cap ∧ BoxQ w' (w.heap.size + 1) ya Y.length yc ta T.length tc) W' := fun W' F => ⟨HBP3.out.fut F, HBQ3.out.fut F⟩
    clear p0 p1 p2 q0 q1 FD HF2 HBP2 HBQ2 HA HBP HBQ
    go_cut [9, 10] from 9 to 25 (fun s9 s10 wx => ∃ B9 B10, s9 = .pointer (some ⟨B9, 0, none⟩) ∧ s10 = .pointer (some ⟨B10, 0, none⟩) ∧ Hid (BoxP wx B9 r c a S.length cap) ∧ Hid (BoxQ wx B10 ya Y.length yc ta T.length tc) ∧ Hid (BoxP wx w.heap.size r c a S.length cap) ∧ Hid (BoxQ wx (w.heap.size + 1) ya Y.length yc ta T.length tc) ∧ Hid (Fut w wx))
    case first =>
      refine wp_region_held_drew (S := (fun w' => BoxP w' w.heap.size r c a S.length cap ∧ BoxQ w' (w.heap.size + 1) ya Y.length yc ta T.length tc)) (by kernel_rfl) ?_ (fun hHeld => ?_)
      · exact keep _ Fut.rfl
      generalize w2.drew = u0 at *
      refine wpAnyH_take (i := 0) (oi := { dst := some 23, op := Op.load 24 (Operand.tmp 4), type := 24, pos := "law.go:93", after := #[], guard := none }) (v := ?_) rfl (by kernel_rfl) (by kernel_rfl) (by kernel_rfl) (fun _ _ _ h => h) (Or.inl ⟨by rfl, ?_⟩) (by assumption) ?_
      rotate_left
      · (intro w hSw; obtain ⟨⟨_, s0, s1, s2⟩, ⟨_, s3, s4⟩⟩ := hSw; go_simp <;> with_reducible rfl)
      try simp only [Act.put, List.setIfInBounds_toArray, List.set_cons_zero, List.set_cons_succ]
      refine wpAnyH_take (i := 1) (oi := { dst := some 24, op := Op.load 26 (Operand.tmp 5), type := 26, pos := "law.go:93", after := #[{ on := 4, ground := Ground.gcOnly Departure.lateStores }], guard := none }) (v := ?_) rfl (by kernel_rfl) (by kernel_rfl) (by kernel_rfl) (fun _ _ _ h => h) (Or.inl ⟨by rfl, ?_⟩) (by assumption) ?_
      rotate_left
      · (intro w hSw; obtain ⟨⟨_, s0, s1, s2⟩, ⟨_, s3, s4⟩⟩ := hSw; go_simp <;> with_reducible rfl)
      try simp only [Act.put, List.setIfInBounds_toArray, List.set_cons_zero, List.set_cons_succ]
      refine wpAnyH_ready (rs := [2, 3]) (by kernel_rfl) (by simp) ?_
      refine AllReadyH.cons (o := { dst := some 9, op := Op.alloc 29, type := 0, pos := "law.go:93", after := #[], guard := none }) rfl (fun K hK => ?_) (AllReadyH.cons (o := { dst := some 10, op := Op.alloc 30, type := 0, pos := "law.go:93", after := #[], guard := none }) rfl (fun K hK => ?_) (AllReadyH.nil))
      · go_simp
        refine hK.out _ _ ?_ (fun hHeld => ?_)
        · exact keep _ (Fut.alloc u0 (.cells #[.int .i64 0, .int .i64 0, .slice none 0 0] 29))
        clear hK K
        try simp only [Act.put, List.setIfInBounds_toArray, List.set_cons_zero, List.set_cons_succ]
        refine wpAnyH_ready (rs := [3]) (by kernel_rfl) (by simp) ?_
        refine AllReadyH.cons (o := { dst := some 10, op := Op.alloc 30, type := 0, pos := "law.go:93", after := #[], guard := none }) rfl (fun K hK => ?_) AllReadyH.nil
        go_simp
        refine hK.out _ _ ?_ (fun hHeld => ?_)
        · exact keep _ ((Fut.alloc u0 (.cells #[.int .i64 0, .int .i64 0, .slice none 0 0] 29)).trans (Fut.alloc _ (.cells #[.slice none 0 0, .slice none 0 0] 30)))
        clear hK K
        try simp only [Act.put, List.setIfInBounds_toArray, List.set_cons_zero, List.set_cons_succ]
        refine wpAnyH_ready (rs := [4]) (by kernel_rfl) (by simp) ?_
        refine AllReadyH.cons (o := { dst := none, op := Op.store 29 (Operand.tmp 9) (Operand.tmp 23), type := 0, pos := "law.go:93", after := #[{ on := 2, ground := Ground.data }, { on := 0, ground := Ground.data }, { on := 0, ground := Ground.phase }, { on := 1, ground := Ground.textOnly Departure.lateStores }, { on := 2, ground := Ground.phase }, { on := 3, ground := Ground.phase }], guard := none }) rfl (fun K hK => ?_) AllReadyH.nil
        go_simp
        refine hK.out _ _ ?_ (fun hHeld => ?_)
        · exact keep _ ((Fut.alloc u0 (.cells #[.int .i64 r, .int .i64 c, .slice a S.length cap] 29)).trans (Fut.alloc _ (.cells #[.slice none 0 0, .slice none 0 0] 30)))
        clear hK K
        try simp only [Act.put, List.setIfInBounds_toArray, List.set_cons_zero, List.set_cons_succ]
        refine wpAnyH_ready (rs := [5]) (by kernel_rfl) (by simp) ?_
        refine AllReadyH.cons (o := { dst := none, op := Op.store 30 (Operand.tmp 10) (Operand.tmp 24), type := 0, pos := "law.go:93", after := #[{ on := 3, ground := Ground.data }, { on := 1, ground := Ground.data }, { on := 4, ground := Ground.chain }, { on := 0, ground := Ground.phase }, { on := 1, ground := Ground.phase }, { on := 2, ground := Ground.phase }, { on := 3, ground := Ground.phase }, { on := 4, ground := Ground.phase }], guard := none }) rfl (fun K hK => ?_) AllReadyH.nil
        go_simp
        refine hK.out _ _ ?_ (fun hHeld => ?_)
        · exact keep _ ((Fut.alloc u0 (.cells #[.int .i64 r, .int .i64 c, .slice a S.length cap] 29)).trans (Fut.alloc _ (.cells #[.slice ya Y.length yc, .slice ta T.length tc] 30)))
        clear hK K
        try simp only [Act.put, List.setIfInBounds_toArray, List.set_cons_zero, List.set_cons_succ]
        refine wpAnyH_done (by kernel_rfl) ?_ _
        have F5 : Fut u0 ((u0.alloc (.cells #[.int .i64 r, .int .i64 c, .slice a S.length cap] 29)).alloc (.cells #[.slice ya Y.length yc, .slice ta T.length tc] 30)) := (Fut.alloc u0 (.cells #[.int .i64 r, .int .i64 c, .slice a S.length cap] 29)).trans (Fut.alloc _ (.cells #[.slice ya Y.length yc, .slice ta T.length tc] 30))
        have k6 : ((u0.alloc (.cells #[.int .i64 r, .int .i64 c, .slice a S.length cap] 29)).alloc (.cells #[.slice ya Y.length yc, .slice ta T.length tc] 30)).heap[u0.heap.size]? = some (.cells #[.int .i64 r, .int .i64 c, .slice a S.length cap] 29) := (heap_new1 u0 (.cells #[.int .i64 r, .int .i64 c, .slice a S.length cap] 29) (.cells #[.slice ya Y.length yc, .slice ta T.length tc] 30))
        have k5 : ((u0.alloc (.cells #[.int .i64 r, .int .i64 c, .slice a S.length cap] 29)).alloc (.cells #[.slice ya Y.length yc, .slice ta T.length tc] 30)).heap[(u0.heap.size + 1)]? = some (.cells #[.slice ya Y.length yc, .slice ta T.length tc] 30) := (by have := World.alloc_heap_new (u0.alloc (.cells #[.int .i64 r, .int .i64 c, .slice a S.length cap] 29)) (.cells #[.slice ya Y.length yc, .slice ta T.length tc] 30); rwa [World.size_alloc] at this)
        go_wp2_with fail
        go_meet
        exact ⟨u0.heap.size, (u0.heap.size + 1), rfl, rfl, Lib.hid (boxP_of k6), Lib.hid (boxQ_of k5), Lib.hid (keep _ F5).1, Lib.hid (keep _ F5).2, Lib.hid (HF3.out.trans F5)⟩
      · go_simp
        refine hK.out _ _ ?_ (fun hHeld => ?_)
        · exact keep _ (Fut.alloc u0 (.cells #[.slice none 0 0, .slice none 0 0] 30))
        clear hK K
        try simp only [Act.put, List.setIfInBounds_toArray, List.set_cons_zero, List.set_cons_succ]
        refine wpAnyH_ready (rs := [2]) (by kernel_rfl) (by simp) ?_
        refine AllReadyH.cons (o := { dst := some 9, op := Op.alloc 29, type := 0, pos := "law.go:93", after := #[], guard := none }) rfl (fun K hK => ?_) AllReadyH.nil
        go_simp
        refine hK.out _ _ ?_ (fun hHeld => ?_)
        · exact keep _ ((Fut.alloc u0 (.cells #[.slice none 0 0, .slice none 0 0] 30)).trans (Fut.alloc _ (.cells #[.int .i64 0, .int .i64 0, .slice none 0 0] 29)))
        clear hK K
        try simp only [Act.put, List.setIfInBounds_toArray, List.set_cons_zero, List.set_cons_succ]
        refine wpAnyH_ready (rs := [4]) (by kernel_rfl) (by simp) ?_
        refine AllReadyH.cons (o := { dst := none, op := Op.store 29 (Operand.tmp 9) (Operand.tmp 23), type := 0, pos := "law.go:93", after := #[{ on := 2, ground := Ground.data }, { on := 0, ground := Ground.data }, { on := 0, ground := Ground.phase }, { on := 1, ground := Ground.textOnly Departure.lateStores }, { on := 2, ground := Ground.phase }, { on := 3, ground := Ground.phase }], guard := none }) rfl (fun K hK => ?_) AllReadyH.nil
        go_simp
        refine hK.out _ _ ?_ (fun hHeld => ?_)
        · exact keep _ ((Fut.alloc u0 (.cells #[.slice none 0 0, .slice none 0 0] 30)).trans (Fut.alloc _ (.cells #[.int .i64 r, .int .i64 c, .slice a S.length cap] 29)))
        clear hK K
        try simp only [Act.put, List.setIfInBounds_toArray, List.set_cons_zero, List.set_cons_succ]
        refine wpAnyH_ready (rs := [5]) (by kernel_rfl) (by simp) ?_
        refine AllReadyH.cons (o := { dst := none, op := Op.store 30 (Operand.tmp 10) (Operand.tmp 24), type := 0, pos := "law.go:93", after := #[{ on := 3, ground := Ground.data }, { on := 1, ground := Ground.data }, { on := 4, ground := Ground.chain }, { on := 0, ground := Ground.phase }, { on := 1, ground := Ground.phase }, { on := 2, ground := Ground.phase }, { on := 3, ground := Ground.phase }, { on := 4, ground := Ground.phase }], guard := none }) rfl (fun K hK => ?_) AllReadyH.nil
        go_simp
        refine hK.out _ _ ?_ (fun hHeld => ?_)
        · exact keep _ ((Fut.alloc u0 (.cells #[.slice ya Y.length yc, .slice ta T.length tc] 30)).trans (Fut.alloc _ (.cells #[.int .i64 r, .int .i64 c, .slice a S.length cap] 29)))
        clear hK K
        try simp only [Act.put, List.setIfInBounds_toArray, List.set_cons_zero, List.set_cons_succ]
        refine wpAnyH_done (by kernel_rfl) ?_ _
        have F5 : Fut u0 ((u0.alloc (.cells #[.slice ya Y.length yc, .slice ta T.length tc] 30)).alloc (.cells #[.int .i64 r, .int .i64 c, .slice a S.length cap] 29)) := (Fut.alloc u0 (.cells #[.slice ya Y.length yc, .slice ta T.length tc] 30)).trans (Fut.alloc _ (.cells #[.int .i64 r, .int .i64 c, .slice a S.length cap] 29))
        have k6 : ((u0.alloc (.cells #[.slice ya Y.length yc, .slice ta T.length tc] 30)).alloc (.cells #[.int .i64 r, .int .i64 c, .slice a S.length cap] 29)).heap[(u0.heap.size + 1)]? = some (.cells #[.int .i64 r, .int .i64 c, .slice a S.length cap] 29) := (by have := World.alloc_heap_new (u0.alloc (.cells #[.slice ya Y.length yc, .slice ta T.length tc] 30)) (.cells #[.int .i64 r, .int .i64 c, .slice a S.length cap] 29); rwa [World.size_alloc] at this)
        have k5 : ((u0.alloc (.cells #[.slice ya Y.length yc, .slice ta T.length tc] 30)).alloc (.cells #[.int .i64 r, .int .i64 c, .slice a S.length cap] 29)).heap[u0.heap.size]? = some (.cells #[.slice ya Y.length yc, .slice ta T.length tc] 30) := (heap_new1 u0 (.cells #[.slice ya Y.length yc, .slice ta T.length tc] 30) (.cells #[.int .i64 r, .int .i64 c, .slice a S.length cap] 29))
        go_wp2_with fail
        go_meet
        exact ⟨(u0.heap.size + 1), u0.heap.size, rfl, rfl, Lib.hid (boxP_of k6), Lib.hid (boxQ_of k5), Lib.hid (keep _ F5).1, Lib.hid (keep _ F5).2, Lib.hid (HF3.out.trans F5)⟩
    case rest =>
      obtain ⟨B9, B10, rfl, rfl, HP9, HQ10, HP4, HQ4, HF4⟩ := hcut
      obtain ⟨w4, hw4⟩ : ∃ w4, w4 = wc := ⟨_, rfl⟩
      subst hw4
      clear HF3 HBP3 HBQ3 keep
      have HP4_4 := HP4
      have HQ4_4 := HQ4
      have HP9_4 := HP9
      have HQ10_4 := HQ10
      obtain ⟨_, p0, p1, p2⟩ := HP4.out
      obtain ⟨_, q0, q1⟩ := HQ4.out
      go_wp2_with fail
      refine (HWY.out _ HF4.out).mono ?_
      rintro _ w5 ⟨rfl, F⟩
      have HF5 := Lib.hid (HF4.out.trans F)
      have HP4_5 := Lib.hid (HP4_4.out.fut F)
      have HQ4_5 := Lib.hid (HQ4_4.out.fut F)
      have HP9_5 := Lib.hid (HP9_4.out.fut F)
      have HQ10_5 := Lib.hid (HQ10_4.out.fut F)
      clear F p0 p1 p2 q0 q1
      obtain ⟨_, p0, p1, p2⟩ := HP9_5.out
      obtain ⟨_, q0, q1⟩ := HQ10_5.out
      go_wp2_with fail
      refine (HRW.out _ HF5.out).mono ?_
      rintro _ w6 ⟨rfl, F⟩
      have HF6 := Lib.hid (HF5.out.trans F)
      have HP4_6 := Lib.hid (HP4_5.out.fut F)
      have HQ4_6 := Lib.hid (HQ4_5.out.fut F)
      have HP9_6 := Lib.hid (HP9_5.out.fut F)
      have HQ10_6 := Lib.hid (HQ10_5.out.fut F)
      clear F p0 p1 p2 q0 q1
      obtain ⟨_, p0, p1, p2⟩ := HP4_6.out
      obtain ⟨_, q0, q1⟩ := HQ4_6.out
      go_wp2_with fail
      refine (HTB.out _ HF6.out).mono ?_
      rintro _ w7 ⟨l1, lc1, rfl, g1, g2, hL1, F⟩
      have HF7 := Lib.hid (HF6.out.trans F)
      have HP4_7 := Lib.hid (HP4_6.out.fut F)
      have HQ4_7 := Lib.hid (HQ4_6.out.fut F)
      have HP9_7 := Lib.hid (HP9_6.out.fut F)
      have HQ10_7 := Lib.hid (HQ10_6.out.fut F)
      clear F p0 p1 p2 q0 q1
      have HL1 := Lib.hid hL1
      clear hL1
      obtain ⟨_, p0, p1, p2⟩ := HP9_7.out
      obtain ⟨_, q0, q1⟩ := HQ10_7.out
      go_wp2_with fail
      refine (HRT.out _ HF7.out).mono ?_
      rintro _ w8 ⟨l2, lc2, rfl, g3, g4, hL2, F⟩
      have HF8 := Lib.hid (HF7.out.trans F)
      have HP4_8 := Lib.hid (HP4_7.out.fut F)
      have HQ4_8 := Lib.hid (HQ4_7.out.fut F)
      have HP9_8 := Lib.hid (HP9_7.out.fut F)
      have HQ10_8 := Lib.hid (HQ10_7.out.fut F)
      have HL1b := Lib.hid (HL1.out.fut F)
      have HL2 := Lib.hid hL2
      clear F p0 p1 p2 q0 q1 hL2
      have HLS := Lib.hid (fun W (F : Fut w8 W) => lists_self (cap := lc1) (dap := lc2) tb W (HL1b.out.fut F) (HL2.out.fut F) (by omega))
      clear g1 g2 g3 g4
      obtain ⟨_, p0, p1, p2⟩ := HP4_8.out
      obtain ⟨_, q0, q1⟩ := HQ4_8.out
      go_upto_region 8 with fail
      have FD : Fut w8 w8.drew := below_drewN Fut.rfl 1
      have keep4 : ∀ W', Fut w8.drew W' → (fun w' => (BoxP w' w.heap.size r c a S.length cap ∧ BoxQ w' (w.heap.size + 1) ya Y.length yc ta T.length tc) ∧ BoxP w' B9 r c a S.length cap ∧ BoxQ w' B10 ya Y.length yc ta T.length tc) W' := fun W' F => ⟨⟨(HP4_8.out.fut FD).fut F, (HQ4_8.out.fut FD).fut F⟩, (HP9_8.out.fut FD).fut F, (HQ10_8.out.fut FD).fut F⟩
      have HFU := Lib.hid (HF8.out.trans FD)
      have HLU := Lib.hid (HLS.out _ FD)
      clear p0 p1 p2 q0 q1 HLS
      refine wp_region_held_drew (S := (fun w' => (BoxP w' w.heap.size r c a S.length cap ∧ BoxQ w' (w.heap.size + 1) ya Y.length yc ta T.length tc) ∧ BoxP w' B9 r c a S.length cap ∧ BoxQ w' B10 ya Y.length yc ta T.length tc)) (by kernel_rfl) ?_ (fun hHeld => ?_)
      · exact keep4 _ Fut.rfl
      generalize w8.drew = u8 at *
      refine wpAnyH_take (i := 0) (oi := { dst := some 53, op := Op.move (Operand.tmp 11), type := 3, pos := "law.go:98", after := #[], guard := none }) (v := ?_) rfl (by kernel_rfl) (by kernel_rfl) (by kernel_rfl) (fun _ _ _ h => h) (Or.inl ⟨by rfl, ?_⟩) (by assumption) ?_
      rotate_left
      · (intro w hSw; obtain ⟨⟨⟨_, s0, s1, s2⟩, ⟨_, s3, s4⟩⟩, ⟨_, s5, s6, s7⟩, ⟨_, s8, s9⟩⟩ := hSw; go_simp <;> with_reducible rfl)
      try simp only [Act.put, List.setIfInBounds_toArray, List.set_cons_zero, List.set_cons_succ]
      refine wpAnyH_take (i := 1) (oi := { dst := some 54, op := Op.move (Operand.tmp 13), type := 3, pos := "law.go:98", after := #[], guard := none }) (v := ?_) rfl (by kernel_rfl) (by kernel_rfl) (by kernel_rfl) (fun _ _ _ h => h) (Or.inl ⟨by rfl, ?_⟩) (by assumption) ?_
      rotate_left
      · (intro w hSw; obtain ⟨⟨⟨_, s0, s1, s2⟩, ⟨_, s3, s4⟩⟩, ⟨_, s5, s6, s7⟩, ⟨_, s8, s9⟩⟩ := hSw; go_simp <;> with_reducible rfl)
      try simp only [Act.put, List.setIfInBounds_toArray, List.set_cons_zero, List.set_cons_succ]
      refine wpAnyH_take (i := 2) (oi := { dst := some 55, op := Op.binOp BinOp.eql 3 (Operand.tmp 53) (Operand.tmp 54) 3, type := 4, pos := "law.go:98", after := #[{ on := 0, ground := Ground.data }, { on := 1, ground := Ground.data }], guard := none }) (v := ?_) rfl (by kernel_rfl) (by kernel_rfl) (by kernel_rfl) (fun _ _ _ h => h) (Or.inl ⟨by rfl, ?_⟩) (by assumption) ?_
      rotate_left
      · (intro w hSw; obtain ⟨⟨⟨_, s0, s1, s2⟩, ⟨_, s3, s4⟩⟩, ⟨_, s5, s6, s7⟩, ⟨_, s8, s9⟩⟩ := hSw; go_simp <;> with_reducible rfl)
      try simp only [Act.put, List.setIfInBounds_toArray, List.set_cons_zero, List.set_cons_succ]
      refine wpAnyH_take (i := 3) (oi := { dst := some 56, op := Op.move (Operand.tmp 55), type := 4, pos := "law.go:98", after := #[{ on := 2, ground := Ground.data }], guard := none }) (v := ?_) rfl (by kernel_rfl) (by kernel_rfl) (by kernel_rfl) (fun _ _ _ h => h) (Or.inl ⟨by rfl, ?_⟩) (by assumption) ?_
      rotate_left
      · (intro w hSw; obtain ⟨⟨⟨_, s0, s1, s2⟩, ⟨_, s3, s4⟩⟩, ⟨_, s5, s6, s7⟩, ⟨_, s8, s9⟩⟩ := hSw; go_simp <;> with_reducible rfl)
      try simp only [Act.put, List.setIfInBounds_toArray, List.set_cons_zero, List.set_cons_succ]
      refine wpAnyH_take (i := 4) (oi := { dst := some 57, op := Op.move (Operand.tmp 12), type := 31, pos := "law.go:98", after := #[{ on := 3, ground := Ground.guard }], guard := some (3, true) }) (v := ?_) rfl (by kernel_rfl) (by kernel_rfl) (by kernel_rfl) (fun _ _ _ h => h) (Or.inl ⟨by rfl, ?_⟩) (by assumption) ?_
      rotate_left
      · (intro w hSw; obtain ⟨⟨⟨_, s0, s1, s2⟩, ⟨_, s3, s4⟩⟩, ⟨_, s5, s6, s7⟩, ⟨_, s8, s9⟩⟩ := hSw; go_simp <;> with_reducible rfl)
      try simp only [Act.put, List.setIfInBounds_toArray, List.set_cons_zero, List.set_cons_succ]
      refine wpAnyH_take (i := 5) (oi := { dst := some 58, op := Op.move (Operand.tmp 14), type := 31, pos := "law.go:98", after := #[{ on := 3, ground := Ground.guard }], guard := some (3, true) }) (v := ?_) rfl (by kernel_rfl) (by kernel_rfl) (by kernel_rfl) (fun _ _ _ h => h) (Or.inl ⟨by rfl, ?_⟩) (by assumption) ?_
      rotate_left
      · (intro w hSw; obtain ⟨⟨⟨_, s0, s1, s2⟩, ⟨_, s3, s4⟩⟩, ⟨_, s5, s6, s7⟩, ⟨_, s8, s9⟩⟩ := hSw; go_simp <;> with_reducible rfl)
      try simp only [Act.put, List.setIfInBounds_toArray, List.set_cons_zero, List.set_cons_succ]
      refine wpAnyH_take (i := 6) (oi := { dst := some 59, op := Op.binOp BinOp.eql 31 (Operand.tmp 57) (Operand.tmp 58) 31, type := 4, pos := "law.go:98", after := #[{ on := 4, ground := Ground.data }, { on := 5, ground := Ground.data }, { on := 3, ground := Ground.guard }], guard := some (3, true) }) (v := ?_) rfl (by kernel_rfl) (by kernel_rfl) (by kernel_rfl) (fun _ _ _ h => h) (Or.inl ⟨by rfl, ?_⟩) (by assumption) ?_
      rotate_left
      · (intro w hSw; obtain ⟨⟨⟨_, s0, s1, s2⟩, ⟨_, s3, s4⟩⟩, ⟨_, s5, s6, s7⟩, ⟨_, s8, s9⟩⟩ := hSw; go_simp <;> with_reducible rfl)
      try simp only [Act.put, List.setIfInBounds_toArray, List.set_cons_zero, List.set_cons_succ]
      refine wpAnyH_take (i := 7) (oi := { dst := some 60, op := Op.pick (Operand.tmp 56) (Operand.tmp 59) (Operand.const (Value.bool false)), type := 4, pos := "law.go:98", after := #[{ on := 3, ground := Ground.data }, { on := 6, ground := Ground.data }], guard := none }) (v := ?_) rfl (by kernel_rfl) (by kernel_rfl) (by kernel_rfl) (fun _ _ _ h => h) (Or.inl ⟨by rfl, ?_⟩) (by assumption) ?_
      rotate_left
      · (intro w hSw; obtain ⟨⟨⟨_, s0, s1, s2⟩, ⟨_, s3, s4⟩⟩, ⟨_, s5, s6, s7⟩, ⟨_, s8, s9⟩⟩ := hSw; go_simp <;> with_reducible rfl)
      try simp only [Act.put, List.setIfInBounds_toArray, List.set_cons_zero, List.set_cons_succ]
      refine wpAnyH_take (i := 8) (oi := { dst := some 61, op := Op.move (Operand.tmp 60), type := 4, pos := "law.go:98", after := #[{ on := 7, ground := Ground.data }, { on := 3, ground := Ground.chain }], guard := none }) (v := ?_) rfl (by kernel_rfl) (by kernel_rfl) (by kernel_rfl) (fun _ _ _ h => h) (Or.inl ⟨by rfl, ?_⟩) (by assumption) ?_
      rotate_left
      · (intro w hSw; obtain ⟨⟨⟨_, s0, s1, s2⟩, ⟨_, s3, s4⟩⟩, ⟨_, s5, s6, s7⟩, ⟨_, s8, s9⟩⟩ := hSw; go_simp <;> with_reducible rfl)
      try simp only [Act.put, List.setIfInBounds_toArray, List.set_cons_zero, List.set_cons_succ]
      refine wpAnyH_take (i := 9) (oi := { dst := some 62, op := Op.move (Operand.tmp 15), type := 35, pos := "law.go:98", after := #[{ on := 8, ground := Ground.guard }], guard := some (8, true) }) (v := ?_) rfl (by kernel_rfl) (by kernel_rfl) (by kernel_rfl) (fun _ _ _ h => h) (Or.inl ⟨by rfl, ?_⟩) (by assumption) ?_
      rotate_left
      · (intro w hSw; obtain ⟨⟨⟨_, s0, s1, s2⟩, ⟨_, s3, s4⟩⟩, ⟨_, s5, s6, s7⟩, ⟨_, s8, s9⟩⟩ := hSw; go_simp <;> with_reducible rfl)
      try simp only [Act.put, List.setIfInBounds_toArray, List.set_cons_zero, List.set_cons_succ]
      refine wpAnyH_take (i := 10) (oi := { dst := some 63, op := Op.move (Operand.tmp 17), type := 35, pos := "law.go:98", after := #[{ on := 8, ground := Ground.guard }], guard := some (8, true) }) (v := ?_) rfl (by kernel_rfl) (by kernel_rfl) (by kernel_rfl) (fun _ _ _ h => h) (Or.inl ⟨by rfl, ?_⟩) (by assumption) ?_
      rotate_left
      · (intro w hSw; obtain ⟨⟨⟨_, s0, s1, s2⟩, ⟨_, s3, s4⟩⟩, ⟨_, s5, s6, s7⟩, ⟨_, s8, s9⟩⟩ := hSw; go_simp <;> with_reducible rfl)
      try simp only [Act.put, List.setIfInBounds_toArray, List.set_cons_zero, List.set_cons_succ]
      refine wpAnyH_ready (rs := [11]) (by kernel_rfl) (by simp) ?_
      refine AllReadyH.cons (o := { dst := some 64, op := Op.call { callee := Callee.value (Operand.func 20), args := #[Operand.tmp 62, Operand.tmp 63], argTypes := #[35, 35] }, type := 4, pos := "law.go:98", after := #[{ on := 9, ground := Ground.data }, { on := 10, ground := Ground.data }, { on := 8, ground := Ground.chain }, { on := 8, ground := Ground.guard }], guard := some (8, true) }) rfl (fun K hK => ?_) AllReadyH.nil
      go_simp
      go_at_call 20
      refine HLU.out.mono ?_
      rintro _ w9 ⟨rfl, F9⟩
      have HF9 := Lib.hid F9
      clear F9
      try go_wp2_with fail
      refine hK.out _ _ ?_ (fun hHeld => ?_)
      · exact keep4 _ HF9.out
      clear hK K
      try simp only [Act.put, List.setIfInBounds_toArray, List.set_cons_zero, List.set_cons_succ]
      refine wpAnyH_take (i := 12) (oi := { dst := some 65, op := Op.pick (Operand.tmp 61) (Operand.tmp 64) (Operand.const (Value.bool false)), type := 4, pos := "law.go:98", after := #[{ on := 8, ground := Ground.data }, { on := 11, ground := Ground.data }], guard := none }) (v := ?_) rfl (by kernel_rfl) (by kernel_rfl) (by kernel_rfl) (fun _ _ _ h => h) (Or.inl ⟨by rfl, ?_⟩) (by assumption) ?_
      rotate_left
      · (intro w hSw; obtain ⟨⟨⟨_, s0, s1, s2⟩, ⟨_, s3, s4⟩⟩, ⟨_, s5, s6, s7⟩, ⟨_, s8, s9⟩⟩ := hSw; go_simp <;> with_reducible rfl)
      try simp only [Act.put, List.setIfInBounds_toArray, List.set_cons_zero, List.set_cons_succ]
      refine wpAnyH_take (i := 13) (oi := { dst := some 66, op := Op.move (Operand.tmp 65), type := 4, pos := "law.go:98", after := #[{ on := 12, ground := Ground.data }, { on := 11, ground := Ground.chain }], guard := none }) (v := ?_) rfl (by kernel_rfl) (by kernel_rfl) (by kernel_rfl) (fun _ _ _ h => h) (Or.inl ⟨by rfl, ?_⟩) (by assumption) ?_
      rotate_left
      · (intro w hSw; obtain ⟨⟨⟨_, s0, s1, s2⟩, ⟨_, s3, s4⟩⟩, ⟨_, s5, s6, s7⟩, ⟨_, s8, s9⟩⟩ := hSw; go_simp <;> with_reducible rfl)
      try simp only [Act.put, List.setIfInBounds_toArray, List.set_cons_zero, List.set_cons_succ]
      refine wpAnyH_take (i := 14) (oi := { dst := some 67, op := Op.move (Operand.tmp 16), type := 31, pos := "law.go:98", after := #[{ on := 13, ground := Ground.guard }], guard := some (13, true) }) (v := ?_) rfl (by kernel_rfl) (by kernel_rfl) (by kernel_rfl) (fun _ _ _ h => h) (Or.inl ⟨by rfl, ?_⟩) (by assumption) ?_
      rotate_left
      · (intro w hSw; obtain ⟨⟨⟨_, s0, s1, s2⟩, ⟨_, s3, s4⟩⟩, ⟨_, s5, s6, s7⟩, ⟨_, s8, s9⟩⟩ := hSw; go_simp <;> with_reducible rfl)
      try simp only [Act.put, List.setIfInBounds_toArray, List.set_cons_zero, List.set_cons_succ]
      refine wpAnyH_take (i := 15) (oi := { dst := some 68, op := Op.move (Operand.tmp 18), type := 31, pos := "law.go:98", after := #[{ on := 13, ground := Ground.guard }], guard := some (13, true) }) (v := ?_) rfl (by kernel_rfl) (by kernel_rfl) (by kernel_rfl) (fun _ _ _ h => h) (Or.inl ⟨by rfl, ?_⟩) (by assumption) ?_
      rotate_left
      · (intro w hSw; obtain ⟨⟨⟨_, s0, s1, s2⟩, ⟨_, s3, s4⟩⟩, ⟨_, s5, s6, s7⟩, ⟨_, s8, s9⟩⟩ := hSw; go_simp <;> with_reducible rfl)
      try simp only [Act.put, List.setIfInBounds_toArray, List.set_cons_zero, List.set_cons_succ]
      refine wpAnyH_take (i := 16) (oi := { dst := some 69, op := Op.binOp BinOp.eql 31 (Operand.tmp 67) (Operand.tmp 68) 31, type := 4, pos := "law.go:98", after := #[{ on := 14, ground := Ground.data }, { on := 15, ground := Ground.data }, { on := 13, ground := Ground.guard }], guard := some (13, true) }) (v := ?_) rfl (by kernel_rfl) (by kernel_rfl) (by kernel_rfl) (fun _ _ _ h => h) (Or.inl ⟨by rfl, ?_⟩) (by assumption) ?_
      rotate_left
      · (intro w hSw; obtain ⟨⟨⟨_, s0, s1, s2⟩, ⟨_, s3, s4⟩⟩, ⟨_, s5, s6, s7⟩, ⟨_, s8, s9⟩⟩ := hSw; go_simp <;> with_reducible rfl)
      try simp only [Act.put, List.setIfInBounds_toArray, List.set_cons_zero, List.set_cons_succ]
      refine wpAnyH_take (i := 17) (oi := { dst := some 70, op := Op.pick (Operand.tmp 66) (Operand.tmp 69) (Operand.const (Value.bool false)), type := 4, pos := "law.go:98", after := #[{ on := 13, ground := Ground.data }, { on := 16, ground := Ground.data }], guard := none }) (v := ?_) rfl (by kernel_rfl) (by kernel_rfl) (by kernel_rfl) (fun _ _ _ h => h) (Or.inl ⟨by rfl, ?_⟩) (by assumption) ?_
      rotate_left
      · (intro w hSw; obtain ⟨⟨⟨_, s0, s1, s2⟩, ⟨_, s3, s4⟩⟩, ⟨_, s5, s6, s7⟩, ⟨_, s8, s9⟩⟩ := hSw; go_simp <;> with_reducible rfl)
      try simp only [Act.put, List.setIfInBounds_toArray, List.set_cons_zero, List.set_cons_succ]
      refine wpAnyH_take (i := 18) (oi := { dst := some 71, op := Op.move (Operand.tmp 70), type := 4, pos := "law.go:98", after := #[{ on := 17, ground := Ground.data }, { on := 13, ground := Ground.chain }], guard := none }) (v := ?_) rfl (by kernel_rfl) (by kernel_rfl) (by kernel_rfl) (fun _ _ _ h => h) (Or.inl ⟨by rfl, ?_⟩) (by assumption) ?_
      rotate_left
      · (intro w hSw; obtain ⟨⟨⟨_, s0, s1, s2⟩, ⟨_, s3, s4⟩⟩, ⟨_, s5, s6, s7⟩, ⟨_, s8, s9⟩⟩ := hSw; go_simp <;> with_reducible rfl)
      try simp only [Act.put, List.setIfInBounds_toArray, List.set_cons_zero, List.set_cons_succ]
      refine wpAnyH_take (i := 19) (oi := { dst := some 72, op := Op.load 24 (Operand.tmp 4), type := 24, pos := "law.go:98", after := #[{ on := 18, ground := Ground.guard }], guard := some (18, true) }) (v := ?_) rfl (by kernel_rfl) (by kernel_rfl) (by kernel_rfl) (fun _ _ _ h => h) (Or.inl ⟨by rfl, ?_⟩) (by assumption) ?_
      rotate_left
      · (intro w hSw; obtain ⟨⟨⟨_, s0, s1, s2⟩, ⟨_, s3, s4⟩⟩, ⟨_, s5, s6, s7⟩, ⟨_, s8, s9⟩⟩ := hSw; go_simp <;> with_reducible rfl)
      try simp only [Act.put, List.setIfInBounds_toArray, List.set_cons_zero, List.set_cons_succ]
      refine wpAnyH_take (i := 20) (oi := { dst := some 73, op := Op.load 26 (Operand.tmp 5), type := 26, pos := "law.go:98", after := #[{ on := 18, ground := Ground.guard }], guard := some (18, true) }) (v := ?_) rfl (by kernel_rfl) (by kernel_rfl) (by kernel_rfl) (fun _ _ _ h => h) (Or.inl ⟨by rfl, ?_⟩) (by assumption) ?_
      rotate_left
      · (intro w hSw; obtain ⟨⟨⟨_, s0, s1, s2⟩, ⟨_, s3, s4⟩⟩, ⟨_, s5, s6, s7⟩, ⟨_, s8, s9⟩⟩ := hSw; go_simp <;> with_reducible rfl)
      try simp only [Act.put, List.setIfInBounds_toArray, List.set_cons_zero, List.set_cons_succ]
      refine wpAnyH_take (i := 22) (oi := { dst := some 75, op := Op.load 29 (Operand.tmp 9), type := 29, pos := "law.go:98", after := #[{ on := 18, ground := Ground.guard }], guard := some (18, true) }) (v := ?_) rfl (by kernel_rfl) (by kernel_rfl) (by kernel_rfl) (fun _ _ _ h => h) (Or.inl ⟨by rfl, ?_⟩) (by assumption) ?_
      rotate_left
      · (intro w hSw; obtain ⟨⟨⟨_, s0, s1, s2⟩, ⟨_, s3, s4⟩⟩, ⟨_, s5, s6, s7⟩, ⟨_, s8, s9⟩⟩ := hSw; go_simp <;> with_reducible rfl)
      try simp only [Act.put, List.setIfInBounds_toArray, List.set_cons_zero, List.set_cons_succ]
      refine wpAnyH_take (i := 23) (oi := { dst := some 76, op := Op.load 30 (Operand.tmp 10), type := 30, pos := "law.go:98", after := #[{ on := 18, ground := Ground.guard }], guard := some (18, true) }) (v := ?_) rfl (by kernel_rfl) (by kernel_rfl) (by kernel_rfl) (fun _ _ _ h => h) (Or.inl ⟨by rfl, ?_⟩) (by assumption) ?_
      rotate_left
      · (intro w hSw; obtain ⟨⟨⟨_, s0, s1, s2⟩, ⟨_, s3, s4⟩⟩, ⟨_, s5, s6, s7⟩, ⟨_, s8, s9⟩⟩ := hSw; go_simp <;> with_reducible rfl)
      try simp only [Act.put, List.setIfInBounds_toArray, List.set_cons_zero, List.set_cons_succ]
      refine wpAnyH_ready (rs := [21]) (by kernel_rfl) (by simp) ?_
      refine AllReadyH.cons (o := { dst := some 74, op := Op.call { callee := Callee.value (Operand.func 21), args := #[Operand.tmp 72, Operand.tmp 73], argTypes := #[24, 26] }, type := 31, pos := "law.go:98", after := #[{ on := 19, ground := Ground.data }, { on := 20, ground := Ground.data }, { on := 18, ground := Ground.chain }, { on := 18, ground := Ground.guard }], guard := some (18, true) }) rfl (fun K hK => ?_) AllReadyH.nil
      go_simp
      go_at_call 21
      refine (HCK.out _ (HFU.out.trans HF9.out)).mono ?_
      rintro _ w10 ⟨rfl, F10⟩
      have HF10 := Lib.hid (HF9.out.trans F10)
      clear F10
      try go_wp2_with fail
      refine hK.out _ _ ?_ (fun hHeld => ?_)
      · exact keep4 _ HF10.out
      clear hK K
      try simp only [Act.put, List.setIfInBounds_toArray, List.set_cons_zero, List.set_cons_succ]
      refine wpAnyH_ready (rs := [24]) (by kernel_rfl) (by simp) ?_
      refine AllReadyH.cons (o := { dst := some 77, op := Op.call { callee := Callee.value (Operand.func 22), args := #[Operand.tmp 75, Operand.tmp 76], argTypes := #[29, 30] }, type := 31, pos := "law.go:98", after := #[{ on := 22, ground := Ground.data }, { on := 23, ground := Ground.data }, { on := 21, ground := Ground.chain }, { on := 18, ground := Ground.guard }], guard := some (18, true) }) rfl (fun K hK => ?_) AllReadyH.nil
      go_simp
      go_at_call 22
      refine (HRC.out _ (HFU.out.trans HF10.out)).mono ?_
      rintro _ w11 ⟨rfl, F11⟩
      have HF11 := Lib.hid (HF10.out.trans F11)
      clear F11
      try go_wp2_with fail
      refine hK.out _ _ ?_ (fun hHeld => ?_)
      · exact keep4 _ HF11.out
      clear hK K
      try simp only [Act.put, List.setIfInBounds_toArray, List.set_cons_zero, List.set_cons_succ]
      refine wpAnyH_take (i := 25) (oi := { dst := some 78, op := Op.binOp BinOp.eql 31 (Operand.tmp 74) (Operand.tmp 77) 31, type := 4, pos := "law.go:98", after := #[{ on := 21, ground := Ground.data }, { on := 24, ground := Ground.data }, { on := 18, ground := Ground.guard }], guard := some (18, true) }) (v := ?_) rfl (by kernel_rfl) (by kernel_rfl) (by kernel_rfl) (fun _ _ _ h => h) (Or.inl ⟨by rfl, ?_⟩) (by assumption) ?_
      rotate_left
      · (intro w hSw; obtain ⟨⟨⟨_, s0, s1, s2⟩, ⟨_, s3, s4⟩⟩, ⟨_, s5, s6, s7⟩, ⟨_, s8, s9⟩⟩ := hSw; go_simp <;> with_reducible rfl)
      try simp only [Act.put, List.setIfInBounds_toArray, List.set_cons_zero, List.set_cons_succ]
      refine wpAnyH_take (i := 26) (oi := { dst := some 79, op := Op.pick (Operand.tmp 71) (Operand.tmp 78) (Operand.const (Value.bool false)), type := 4, pos := "law.go:98", after := #[{ on := 18, ground := Ground.data }, { on := 25, ground := Ground.data }], guard := none }) (v := ?_) rfl (by kernel_rfl) (by kernel_rfl) (by kernel_rfl) (fun _ _ _ h => h) (Or.inl ⟨by rfl, ?_⟩) (by assumption) ?_
      rotate_left
      · (intro w hSw; obtain ⟨⟨⟨_, s0, s1, s2⟩, ⟨_, s3, s4⟩⟩, ⟨_, s5, s6, s7⟩, ⟨_, s8, s9⟩⟩ := hSw; go_simp <;> with_reducible rfl)
      try simp only [Act.put, List.setIfInBounds_toArray, List.set_cons_zero, List.set_cons_succ]
      refine wpAnyH_take (i := 27) (oi := { dst := some 80, op := Op.move (Operand.tmp 79), type := 4, pos := "law.go:98", after := #[{ on := 26, ground := Ground.data }, { on := 24, ground := Ground.chain }], guard := none }) (v := ?_) rfl (by kernel_rfl) (by kernel_rfl) (by kernel_rfl) (fun _ _ _ h => h) (Or.inl ⟨by rfl, ?_⟩) (by assumption) ?_
      rotate_left
      · (intro w hSw; obtain ⟨⟨⟨_, s0, s1, s2⟩, ⟨_, s3, s4⟩⟩, ⟨_, s5, s6, s7⟩, ⟨_, s8, s9⟩⟩ := hSw; go_simp <;> with_reducible rfl)
      try simp only [Act.put, List.setIfInBounds_toArray, List.set_cons_zero, List.set_cons_succ]
      refine wpAnyH_ready (rs := [28]) (by kernel_rfl) (by simp) ?_
      refine AllReadyH.cons (o := { dst := some 81, op := Op.call { callee := Callee.value (Operand.func 15), args := #[], argTypes := #[] }, type := 4, pos := "law.go:98", after := #[{ on := 27, ground := Ground.chain }, { on := 27, ground := Ground.guard }], guard := some (27, true) }) rfl (fun K hK => ?_) AllReadyH.nil
      go_simp
      go_at_call 15
      refine (works_any _).mono ?_
      rintro _ w12 ⟨rfl, F12⟩
      have HF12 := Lib.hid (HF11.out.trans F12)
      clear F12
      try go_wp2_with fail
      refine hK.out _ _ ?_ (fun hHeld => ?_)
      · exact keep4 _ HF12.out
      clear hK K
      try simp only [Act.put, List.setIfInBounds_toArray, List.set_cons_zero, List.set_cons_succ]
      refine wpAnyH_take (i := 29) (oi := { dst := some 82, op := Op.pick (Operand.tmp 80) (Operand.tmp 81) (Operand.const (Value.bool false)), type := 4, pos := "law.go:98", after := #[{ on := 27, ground := Ground.data }, { on := 28, ground := Ground.data }], guard := none }) (v := ?_) rfl (by kernel_rfl) (by kernel_rfl) (by kernel_rfl) (fun _ _ _ h => h) (Or.inl ⟨by rfl, ?_⟩) (by assumption) ?_
      rotate_left
      · (intro w hSw; obtain ⟨⟨⟨_, s0, s1, s2⟩, ⟨_, s3, s4⟩⟩, ⟨_, s5, s6, s7⟩, ⟨_, s8, s9⟩⟩ := hSw; go_simp <;> with_reducible rfl)
      try simp only [Act.put, List.setIfInBounds_toArray, List.set_cons_zero, List.set_cons_succ]
      refine wpAnyH_ready (rs := [30]) (by kernel_rfl) (by simp) ?_
      refine AllReadyH.cons (o := { dst := some 8, op := Op.assign (Operand.tmp 82), type := 4, pos := "law.go:98", after := #[{ on := 29, ground := Ground.data }, { on := 28, ground := Ground.chain }, { on := 0, ground := Ground.phase }, { on := 1, ground := Ground.phase }, { on := 2, ground := Ground.phase }, { on := 3, ground := Ground.phase }, { on := 4, ground := Ground.phase }, { on := 5, ground := Ground.phase }, { on := 6, ground := Ground.phase }, { on := 7, ground := Ground.phase }, { on := 8, ground := Ground.phase }, { on := 9, ground := Ground.phase }, { on := 10, ground := Ground.phase }, { on := 11, ground := Ground.phase }, { on := 12, ground := Ground.phase }, { on := 13, ground := Ground.phase }, { on := 14, ground := Ground.phase }, { on := 15, ground := Ground.phase }, { on := 16, ground := Ground.phase }, { on := 17, ground := Ground.phase }, { on := 18, ground := Ground.phase }, { on := 19, ground := Ground.phase }, { on := 20, ground := Ground.phase }, { on := 21, ground := Ground.phase }, { on := 22, ground := Ground.phase }, { on := 23, ground := Ground.phase }, { on := 24, ground := Ground.phase }, { on := 25, ground := Ground.phase }, { on := 26, ground := Ground.phase }, { on := 27, ground := Ground.phase }, { on := 28, ground := Ground.phase }, { on := 29, ground := Ground.phase }], guard := none }) rfl (fun K hK => ?_) AllReadyH.nil
      go_simp
      refine hK.out _ _ ?_ (fun hHeld => ?_)
      · exact keep4 _ HF12.out
      clear hK K
      try simp only [Act.put, List.setIfInBounds_toArray, List.set_cons_zero, List.set_cons_succ]
      refine wpAnyH_done (by kernel_rfl) ?_ _
      go_wp2_with fail
      go_ret
      exact ⟨rfl, HFU.out.trans HF12.out⟩
  · rw [hL] at HLA
    go_enter Try.func3, Try.ntmps3
    go_wp2_with fail
    refine (HLA.out _).mono ?_
    rintro _ w2 ⟨rfl, F⟩
    have HF2 := Lib.hid (HA.out.trans F)
    clear F p0 p1 p2 q0 q1 HLA
    go_wp2_with fail
    refine (works_any _).mono ?_
    rintro _ w3 ⟨rfl, F⟩
    have HF3 := Lib.hid (HF2.out.trans F)
    clear F
    go_wp2_with fail
    go_ret
    exact ⟨rfl, HF3.out⟩
end Go.Proofs.Ytflllkamdihfaaa
