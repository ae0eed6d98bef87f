/- merged: SO SP SQ SR SS ST SU SV SW SX SY SZ TA UI -/
import Derived.Test.YtjapconhehdcjaaMSA
import Derived.Deep.DeepCutAuto
import Derived.Deep.AppendLies
namespace Go.Proofs.Ytjapconhehdcjaa
open Go.RowKit Go.Sort
section
set_option maxRecDepth 100000 in
set_option maxHeartbeats 8000000 in
theorem list_any (g B n : Nat) (hB : g < B) (hn : n ≤ 8) (F : Nat → Nat → List Int) (mn : Nat → Nat → Int) (hm : ∀ i j, 0 ≤ mn i j ∧ mn i j ≤ 1000000) (hF : ∀ a b, a ≤ b → b < n → ∀ l ∈ F a b, (a : Int) ≤ l ∧ l < b) (hFl : ∀ a b, a ≤ b → b < n → (F a b).length ≤ 8) :
    ∀ d a b, a ≤ b → b < n → b - a < d → ∀ (q : Int), 0 ≤ q → q ≤ 1000000000000 → ∀ w, TabL w g 0 B F → Tab w g 64 mn →
    Calls Try.prog 64 #[.pointer (some ⟨g, 0, none⟩), spV (a : Nat) (b : Nat), .int .i64 q] w fun e w' => ∃ v, e = .returned v ∧ Owns w' w.heap.size v (lsI F mn d a b q) ∧ Fut w w'
  | 0, a, b, _, _, hd => fun _ _ _ _ _ _ => absurd hd (by omega)
  | d + 1, a, b, hab, hbn, hd => fun q hq0 hqm w hT hM => by
    have HRC := Lib.hid (fun a' b' h1 h2 h3 q h4 h5 w h6 h7 => list_any g B n hB hn F mn hm hF hFl d a' b' h1 h2 h3 q h4 h5 w h6 h7)
    have HSL := Lib.hid (fun a' b' h1 h2 q => lsI_len mn hF d a' b' h1 h2 q)
    have hb : b < 8 := by omega
    rw [lsI]
    obtain ⟨la, lc, e1, e2, e3⟩ := hT a b (by omega) hb
    have hl := hFl a b hab hbn
    have HLB := Lib.hid (fun i (hi : i < (F a b).length) => hF a b hab hbn (nth (F a b) i) (nth_mem hi))
    obtain ⟨ls, hls⟩ : ∃ ls, ls = lsI F mn d := ⟨_, rfl⟩
    rw [← hls] at HSL ⊢
    have HLS := Lib.hid hls
    have HTT := Lib.hid (fun W (k : Fut w W) => hT.fut k)
    have HMM := Lib.hid (fun W (k : Fut w W) => hM.fut k)
    have HOF := Lib.hid (fun W (k : Fut w W) => ofL_any g 0 a b (by omega) hb la (F a b).length lc W ((RowKit.Below.cell k (p := ⟨g, 0 + a * 8 + b, none⟩) (World.block_lt_of_cell? _ _ e1)).trans e1))
    obtain ⟨la2, lc2, e4, hI⟩ := e3.ints
    obtain ⟨rfl, _, rfl⟩ : la = la2 ∧ (F a b).length = (F a b).length ∧ lc = lc2 := by simpa using e4
    have HI := Lib.hid (fun W (k : Fut w W) => hI.fut k)
    have HMB := Lib.hid hm
    clear hT hM e1 e2 e3 e4 hI hls hF hFl hm list_any
    generalize F a b = L at *
    have hlx : (L.length : Int) ≤ 8 := by omega
    obtain ⟨W0, hW0⟩ : ∃ W0, W0 = w.alloc (.cells #[.int .i64 (a : Nat), .int .i64 (b : Nat)] 69) := ⟨_, rfl⟩
    have HF0 : Hid (Fut w W0) := Lib.hid (by rw [hW0]; exact Fut.alloc _ _)
    have HBX : Hid (W0.heap[w.heap.size]? = some (.cells #[.int .i64 (a : Nat), .int .i64 (b : Nat)] 69)) := Lib.hid (by rw [hW0]; exact World.alloc_heap_new w _)
    have HW := Lib.hid hW0
    clear hW0
    go_enter Try.func64, Try.ntmps64
    go_upto_region 1 with fail
    rw [← HW.out]
    clear HW
    have hc0 := two_cell HBX.out
    obtain ⟨c0, c1, _⟩ := hc0
    have y0 := cell_after c0
    have y1 := cell_after c1
    have HA2 := Lib.hid (fun p : After W0 => HOF.out p.w' (HF0.out.trans p.F))
    refine region_fut (by kernel_rfl) (by kernel_rfl) ?_
    repeat (go_big_quiet_step (first | with_reducible rfl | (with_reducible (go_at_call 69; rename_i p; exact after_of (HA2.out p)))))
    refine wpQuiet_nil ?_
    intro w1 hw'
    have F1 := after_fut hw'
    have HFw := Lib.hid (HF0.out.trans F1)
    have HBX1 := Lib.hid (heap_fut HBX.out F1)
    clear hw' F1 HF0 HBX y0 y1 c0 c1 HA2 HOF
    go_wp2_with fail
    go_loopw [2, 19] (fun qv iv wr => ∃ (i : Nat) (q' : Int), i ≤ L.length ∧ iv = .int .i64 (i : Nat) ∧ qv = .int .i64 q' ∧ 0 ≤ q' ∧ q' ≤ 1000000000000 ∧ Hid (goI mn ls a b (L.drop i) q' = goI mn ls a b L q) ∧ Hid (Fut w1 wr)) (fun _ iv _ => L.length - (intOf iv).toNat)
    case atStart => exact ⟨0, q, by omega, rfl, rfl, hq0, hqm, Lib.hid rfl, Lib.hid Fut.rfl⟩
    case round =>
      obtain ⟨i, q', hi, rfl, rfl, hp0, hpm, HGO, HF⟩ := hrel
      by_cases hin : i < L.length
      · have hix : (i : Int) < L.length := by omega
        have hkb := HLB.out i hin
        obtain ⟨Kn, hK⟩ : ∃ Kn : Nat, (Kn : Int) = nth L i := ⟨(nth L i).toNat, by omega⟩
        obtain ⟨K1, hK1⟩ : ∃ K1, K1 = Kn + 1 := ⟨_, rfl⟩
        have hI := HI.out wr (HFw.out.trans HF.out) i hin
        have hgd := goI_drop (mn := mn) (k := ls) (a := a) (b := b) hin hK hK1 q'
        rw [← hK] at hI hkb
        obtain ⟨b2, o2, rfl, hb2, cs⟩ := hI
        have HPT : Hid (∀ W, Calls Try.prog 95 #[spV (a : Nat) (b : Nat), .int .i64 (Kn : Nat)] W fun e w' => e = .returned (.tuple #[spV (a : Nat) (Kn : Nat), spV (K1 : Nat) (b : Nat)]) ∧ Fut W w') := Lib.hid (fun W => by
          have := parts_any (a : Nat) (b : Nat) (Kn : Nat) ⟨by omega, by omega⟩ W
          rw [hK1]
          exact this)
        have HO1 : Hid (∀ W, Fut w W → Calls Try.prog 67 #[.pointer (some ⟨g, 64, none⟩), spV (a : Nat) (Kn : Nat)] W fun e w' => e = .returned (.int .i64 (mn a Kn)) ∧ Fut W w') := Lib.hid (fun W k => of_any g 64 a Kn (by omega) (by omega) _ W (HMM.out W k a Kn (by omega) (by omega)).1)
        have HO2 : Hid (∀ W, Fut w W → Calls Try.prog 67 #[.pointer (some ⟨g, 64, none⟩), spV (K1 : Nat) (b : Nat)] W fun e w' => e = .returned (.int .i64 (mn K1 b)) ∧ Fut W w') := Lib.hid (fun W k => of_any g 64 K1 b (by omega) (by omega) _ W (HMM.out W k K1 b (by omega) (by omega)).1)
        have hx1 := HMB.out a Kn
        have hx2 := HMB.out K1 b
        generalize mn a Kn = x1 at *
        generalize mn K1 b = x2 at *
        have hxx := mul_bnd hx1 hx2
        obtain ⟨xm, hxm⟩ : ∃ xm, xm = x1 * x2 := ⟨_, rfl⟩
        have hwa : IntKind.i64.wrap (x1 * x2) = xm := by rw [hxm]; exact IntWalk.i64_in _ ⟨by omega, by omega⟩
        rw [← hxm] at hgd hxx
        have HGD := Lib.hid hgd
        have hXP : x2 = 0 → xm = 0 := fun e => by rw [hxm, e, Int.mul_zero]
        have HKK : Hid (a ≤ Kn ∧ Kn < b ∧ K1 = Kn + 1 ∧ (0 < x2 → xm ≤ 1000000000000)) := Lib.hid ⟨by omega, by omega, hK1, fun _ => hxx.2⟩
        have HBX2 := Lib.hid (heap_fut HBX1.out HF.out)
        have hc0 := two_cell HBX2.out
        obtain ⟨c0, c1, _⟩ := hc0
        have hwi : IntKind.i64.wrap ((i : Int) + 1) = ((i + 1 : Nat) : Int) := by rw [IntWalk.i64_in _ ⟨by omega, by omega⟩]; omega
        clear hK hK1 hxm hgd hkb
        go_wp2_with fail
        refine (HPT.out _).mono ?_
        rintro _ w2 ⟨rfl, F2⟩
        go_upto_region 5 with fail
        obtain ⟨t1, ht1⟩ : ∃ t1, t1 = w2.heap.size := ⟨_, rfl⟩
        obtain ⟨t2, ht2⟩ : ∃ t2, t2 = w2.heap.size + 1 := ⟨_, rfl⟩
        obtain ⟨w3, hw3⟩ : ∃ w3, w3 = (w2.alloc (Obj.cells #[Value.int .i64 (a : Nat), Value.int .i64 (Kn : Nat)] 69)).alloc (Obj.cells #[Value.int .i64 (K1 : Nat), Value.int .i64 (b : Nat)] 69) := ⟨_, rfl⟩
        have FA : Fut w2 w3 := by rw [hw3]; exact (Fut.alloc _ _).trans (Fut.alloc _ _)
        have G2 : Hid (w3.heap[t1]? = some (.cells #[.int .i64 (a : Nat), .int .i64 (Kn : Nat)] 69)) := Lib.hid (by rw [ht1, hw3]; exact heap_fut (World.alloc_heap_new w2 _) (Fut.alloc _ _))
        have G3 : Hid (w3.heap[t2]? = some (.cells #[.int .i64 (K1 : Nat), .int .i64 (b : Nat)] 69)) := Lib.hid (by
          have := World.alloc_heap_new (w2.alloc (Obj.cells #[.int .i64 (a : Nat), .int .i64 (Kn : Nat)] 69)) (Obj.cells #[.int .i64 (K1 : Nat), .int .i64 (b : Nat)] 69)
          rw [World.size_alloc] at this
          rw [ht2, hw3]
          exact this)
        have HF3 := Lib.hid ((HF.out.trans F2).trans FA)
        rw [← hw3, ← ht2, ← ht1]
        clear hw3 ht1 ht2 HF HBX2 FA F2 c0 c1 cs HPT
        obtain ⟨p4, p5, _⟩ := two_cell G3.out
        have y4 := cell_after p4
        have y5 := cell_after p5
        have HB2 := Lib.hid (fun p : After w3 => HO2.out p.w' ((HFw.out.trans HF3.out).trans p.F))
        refine region_fut (by kernel_rfl) (by kernel_rfl) ?_
        repeat (go_big_quiet_step (first | with_reducible rfl | (with_reducible (go_at_call 67; rename_i p; exact after_of (HB2.out p)))))
        refine wpQuiet_nil ?_
        intro w4 hw'
        have F4 := after_fut hw'
        have HF4 := Lib.hid (HF3.out.trans F4)
        have G2b := Lib.hid (heap_fut G2.out F4)
        have G3b := Lib.hid (heap_fut G3.out F4)
        clear hw' F4 HF3 y4 y5 p4 p5 HB2 HO2 G2 G3
        go_upto_region 6 with fail
        obtain ⟨p2, p3, _⟩ := two_cell G2b.out
        have y2 := cell_after p2
        have y3 := cell_after p3
        have HB2 := Lib.hid (fun p : After w4 => HO1.out p.w' ((HFw.out.trans HF4.out).trans p.F))
        refine region_fut (by kernel_rfl) (by kernel_rfl) ?_
        repeat (go_big_quiet_step (first | with_reducible rfl | (with_reducible (go_at_call 67; rename_i p; exact after_of (HB2.out p)))))
        refine wpQuiet_nil ?_
        intro w6 hw'
        have F6 := after_fut hw'
        have HF6 := Lib.hid (HF4.out.trans F6)
        have G2c := Lib.hid (heap_fut G2b.out F6)
        have G3c := Lib.hid (heap_fut G3b.out F6)
        clear hw' F6 HF4 y2 y3 p2 p3 HB2 HO1 G2b G3b
        by_cases hlt : q' < xm
        · have HRS : Hid (goI mn ls a b (L.drop i) q' = (Kn : Int) :: (ls a Kn (q' / x2) ++ ls K1 b (q' % x2))) := Lib.hid (by rw [HGD.out, if_pos hlt])
          have hxp : 0 < x2 := by
            rcases Int.lt_or_le 0 x2 with h | h
            · exact h
            · have := hXP (by omega); omega
          have hne : ¬ x2 = 0 := by omega
          obtain ⟨q1, hq1⟩ : ∃ q1, q1 = q' / x2 := ⟨_, rfl⟩
          obtain ⟨q2, hq2⟩ : ∃ q2, q2 = q' % x2 := ⟨_, rfl⟩
          rw [← hq1, ← hq2] at HRS
          have hq1b : 0 ≤ q1 ∧ q1 ≤ 1000000000000 := by
            have h1 := Int.ediv_nonneg hp0 (show 0 ≤ x2 by omega)
            have h2 := Int.ediv_le_self x2 hp0
            omega
          have hq2b : 0 ≤ q2 ∧ q2 ≤ 1000000000000 := by
            have h1 := Int.emod_nonneg q' (show x2 ≠ 0 by omega)
            have h2 := Int.emod_lt_of_pos q' hxp
            omega
          have hqa : IntKind.i64.wrap (q'.tdiv x2) = q1 := by rw [wrap_i64_tdiv _ _ (by omega) (by omega) (by omega), tdiv_eq_if, if_pos hp0, hq1]
          have hqb : q'.tmod x2 = q2 := by rw [Int.tmod_eq_emod_of_nonneg hp0, hq2]
          obtain ⟨k1, k2, k3, _⟩ := HKK.out
          obtain ⟨X, hX⟩ : ∃ X, X = ls a Kn q1 := ⟨_, rfl⟩
          obtain ⟨Y, hY⟩ : ∃ Y, Y = ls K1 b q2 := ⟨_, rfl⟩
          have HR7 : Hid (∀ v, Fut w6.drew v → Calls Try.prog 64 #[.pointer (some ⟨g, 0, none⟩), spV (a : Nat) (Kn : Nat), .int .i64 q1] v fun e w' => ∃ x, e = .returned x ∧ Owns w' v.heap.size x X ∧ Fut v w') := Lib.hid (fun v k => by
            have kk : Fut w v := ((HFw.out.trans HF6.out).trans (below_drewN Fut.rfl 1)).trans k
            rw [hX, HLS.out]
            exact HRC.out a Kn k1 (by omega) (by omega) q1 hq1b.1 hq1b.2 v (HTT.out v kk) (HMM.out v kk))
          have HR13 : Hid (∀ v, Fut w6.drew v → Calls Try.prog 64 #[.pointer (some ⟨g, 0, none⟩), spV (K1 : Nat) (b : Nat), .int .i64 q2] v fun e w' => ∃ x, e = .returned x ∧ Owns w' v.heap.size x Y ∧ Fut v w') := Lib.hid (fun v k => by
            have kk : Fut w v := ((HFw.out.trans HF6.out).trans (below_drewN Fut.rfl 1)).trans k
            rw [hY, HLS.out]
            exact HRC.out K1 b (by omega) hbn (by omega) q2 hq2b.1 hq2b.2 v (HTT.out v kk) (HMM.out v kk))
          have HXY : Hid (∀ k, k < [[(Kn : Int)], X, Y].length → (lth [[(Kn : Int)], X, Y] k).length ≤ 1000) := Lib.hid (fun k hk => by
            have h1 := HSL.out a Kn k1 (by omega) q1
            have h2 := HSL.out K1 b (by omega) hbn q2
            rw [← hX] at h1
            rw [← hY] at h2
            match k, hk with
            | 0, _ => simp [lth_eq]
            | 1, _ => show X.length ≤ 1000; omega
            | 2, _ => show Y.length ≤ 1000; omega)
          have HRS2 : Hid (goI mn ls a b (L.drop i) q' = [[(Kn : Int)], X, Y].flatten) := Lib.hid (by rw [HRS.out, hX, hY]; simp)
          replace HRS := HRS2
          have HZU : Hid (w.heap.size ≤ w6.drew.heap.size) := Lib.hid (RowKit.Below.size ((HFw.out.trans HF6.out).trans (below_drewN Fut.rfl 1)))
          have HFU : Hid (Fut w w6.drew) := Lib.hid ((HFw.out.trans HF6.out).trans (below_drewN Fut.rfl 1))
          have H2d : Hid (w6.drew.heap[t1]? = some (.cells #[.int .i64 (a : Nat), .int .i64 (Kn : Nat)] 69)) := Lib.hid (heap_fut G2c.out (below_drewN Fut.rfl 1))
          have H3d : Hid (w6.drew.heap[t2]? = some (.cells #[.int .i64 (K1 : Nat), .int .i64 (b : Nat)] 69)) := Lib.hid (heap_fut G3c.out (below_drewN Fut.rfl 1))
          have keep : ∀ v, Fut w6.drew v → (v.cell? ⟨t1, 0, none⟩ = some (.int .i64 (a : Nat)) ∧ v.cell? ⟨t1, 1, none⟩ = some (.int .i64 (Kn : Nat))) ∧ (v.cell? ⟨t2, 0, none⟩ = some (.int .i64 (K1 : Nat)) ∧ v.cell? ⟨t2, 1, none⟩ = some (.int .i64 (b : Nat))) := fun v k => by
            obtain ⟨m1, m2, _⟩ := two_cell (heap_fut H2d.out k)
            obtain ⟨m3, m4, _⟩ := two_cell (heap_fut H3d.out k)
            exact ⟨⟨m1, m2⟩, m3, m4⟩
          clear HRS2 hX hY hq1 hq2 hXP k1 k2 k3
          go_upto_region 8 with fail
          refine wp_region_held_drew (S := (fun w' => (w'.cell? ⟨t1, 0, none⟩ = some (.int .i64 (a : Nat)) ∧ w'.cell? ⟨t1, 1, none⟩ = some (.int .i64 (Kn : Nat))) ∧ (w'.cell? ⟨t2, 0, none⟩ = some (.int .i64 (K1 : Nat)) ∧ w'.cell? ⟨t2, 1, none⟩ = some (.int .i64 (b : Nat))))) (by kernel_rfl) ?_ (fun hHeld => ?_)
          · exact keep _ Fut.rfl
          generalize w6.drew = u0 at *
          refine wpAnyH_take (i := 0) (oi := { dst := some 44, op := Op.move (Operand.tmp 8), type := 3, pos := "tree.go:37", after := #[], guard := none }) (v := ?_) rfl (by kernel_rfl) (by kernel_rfl) (by kernel_rfl) (fun _ _ _ h => h) (Or.inl ⟨by rfl, ?_⟩) (by assumption) ?_
          rotate_left
          · (intro w hSw; obtain ⟨⟨s0, s1⟩, ⟨s2, s3⟩⟩ := hSw; go_simp <;> with_reducible rfl)
          try simp only [Act.put, List.setIfInBounds_toArray, List.set_cons_zero, List.set_cons_succ]
          refine wpAnyH_take (i := 2) (oi := { dst := some 46, op := Op.move (Operand.tmp 0), type := 64, pos := "tree.go:37", after := #[], guard := none }) (v := ?_) rfl (by kernel_rfl) (by kernel_rfl) (by kernel_rfl) (fun _ _ _ h => h) (Or.inl ⟨by rfl, ?_⟩) (by assumption) ?_
          rotate_left
          · (intro w hSw; obtain ⟨⟨s0, s1⟩, ⟨s2, s3⟩⟩ := hSw; go_simp <;> with_reducible rfl)
          try simp only [Act.put, List.setIfInBounds_toArray, List.set_cons_zero, List.set_cons_succ]
          refine wpAnyH_take (i := 3) (oi := { dst := some 47, op := Op.load 69 (Operand.tmp 9), type := 69, pos := "tree.go:37", after := #[], guard := none }) (v := ?_) rfl (by kernel_rfl) (by kernel_rfl) (by kernel_rfl) (fun _ _ _ h => h) (Or.inl ⟨by rfl, ?_⟩) (by assumption) ?_
          rotate_left
          · (intro w hSw; obtain ⟨⟨s0, s1⟩, ⟨s2, s3⟩⟩ := hSw; go_simp <;> with_reducible rfl)
          try simp only [Act.put, List.setIfInBounds_toArray, List.set_cons_zero, List.set_cons_succ]
          refine wpAnyH_take (i := 4) (oi := { dst := some 48, op := Op.move (Operand.tmp 2), type := 3, pos := "tree.go:37", after := #[], guard := none }) (v := ?_) rfl (by kernel_rfl) (by kernel_rfl) (by kernel_rfl) (fun _ _ _ h => h) (Or.inl ⟨by rfl, ?_⟩) (by assumption) ?_
          rotate_left
          · (intro w hSw; obtain ⟨⟨s0, s1⟩, ⟨s2, s3⟩⟩ := hSw; go_simp <;> with_reducible rfl)
          try simp only [Act.put, List.setIfInBounds_toArray, List.set_cons_zero, List.set_cons_succ]
          refine wpAnyH_take (i := 5) (oi := { dst := some 49, op := Op.move (Operand.tmp 11), type := 3, pos := "tree.go:37", after := #[], guard := none }) (v := ?_) rfl (by kernel_rfl) (by kernel_rfl) (by kernel_rfl) (fun _ _ _ h => h) (Or.inl ⟨by rfl, ?_⟩) (by assumption) ?_
          rotate_left
          · (intro w hSw; obtain ⟨⟨s0, s1⟩, ⟨s2, s3⟩⟩ := hSw; go_simp <;> with_reducible rfl)
          try simp only [Act.put, List.setIfInBounds_toArray, List.set_cons_zero, List.set_cons_succ]
          refine wpAnyH_take (i := 6) (oi := { dst := some 50, op := Op.binOp BinOp.quo 3 (Operand.tmp 48) (Operand.tmp 49) 3, type := 3, pos := "tree.go:37", after := #[{ on := 4, ground := Ground.data }, { on := 5, ground := Ground.data }], guard := none }) (v := ?_) rfl (by kernel_rfl) (by kernel_rfl) (by kernel_rfl) (fun _ _ _ h => h) (Or.inl ⟨by rfl, ?_⟩) (by assumption) ?_
          rotate_left
          · (intro w hSw; obtain ⟨⟨s0, s1⟩, ⟨s2, s3⟩⟩ := hSw; go_simp <;> with_reducible rfl)
          try simp only [Act.put, List.setIfInBounds_toArray, List.set_cons_zero, List.set_cons_succ]
          refine wpAnyH_take (i := 8) (oi := { dst := some 52, op := Op.move (Operand.tmp 0), type := 64, pos := "tree.go:37", after := #[], guard := none }) (v := ?_) rfl (by kernel_rfl) (by kernel_rfl) (by kernel_rfl) (fun _ _ _ h => h) (Or.inl ⟨by rfl, ?_⟩) (by assumption) ?_
          rotate_left
          · (intro w hSw; obtain ⟨⟨s0, s1⟩, ⟨s2, s3⟩⟩ := hSw; go_simp <;> with_reducible rfl)
          try simp only [Act.put, List.setIfInBounds_toArray, List.set_cons_zero, List.set_cons_succ]
          refine wpAnyH_take (i := 9) (oi := { dst := some 53, op := Op.load 69 (Operand.tmp 10), type := 69, pos := "tree.go:37", after := #[], guard := none }) (v := ?_) rfl (by kernel_rfl) (by kernel_rfl) (by kernel_rfl) (fun _ _ _ h => h) (Or.inl ⟨by rfl, ?_⟩) (by assumption) ?_
          rotate_left
          · (intro w hSw; obtain ⟨⟨s0, s1⟩, ⟨s2, s3⟩⟩ := hSw; go_simp <;> with_reducible rfl)
          try simp only [Act.put, List.setIfInBounds_toArray, List.set_cons_zero, List.set_cons_succ]
          refine wpAnyH_take (i := 10) (oi := { dst := some 54, op := Op.move (Operand.tmp 2), type := 3, pos := "tree.go:37", after := #[], guard := none }) (v := ?_) rfl (by kernel_rfl) (by kernel_rfl) (by kernel_rfl) (fun _ _ _ h => h) (Or.inl ⟨by rfl, ?_⟩) (by assumption) ?_
          rotate_left
          · (intro w hSw; obtain ⟨⟨s0, s1⟩, ⟨s2, s3⟩⟩ := hSw; go_simp <;> with_reducible rfl)
          try simp only [Act.put, List.setIfInBounds_toArray, List.set_cons_zero, List.set_cons_succ]
          refine wpAnyH_take (i := 11) (oi := { dst := some 55, op := Op.move (Operand.tmp 11), type := 3, pos := "tree.go:37", after := #[], guard := none }) (v := ?_) rfl (by kernel_rfl) (by kernel_rfl) (by kernel_rfl) (fun _ _ _ h => h) (Or.inl ⟨by rfl, ?_⟩) (by assumption) ?_
          rotate_left
          · (intro w hSw; obtain ⟨⟨s0, s1⟩, ⟨s2, s3⟩⟩ := hSw; go_simp <;> with_reducible rfl)
          try simp only [Act.put, List.setIfInBounds_toArray, List.set_cons_zero, List.set_cons_succ]
          refine wpAnyH_take (i := 12) (oi := { dst := some 56, op := Op.binOp BinOp.rem 3 (Operand.tmp 54) (Operand.tmp 55) 3, type := 3, pos := "tree.go:37", after := #[{ on := 10, ground := Ground.data }, { on := 11, ground := Ground.data }], guard := none }) (v := ?_) rfl (by kernel_rfl) (by kernel_rfl) (by kernel_rfl) (fun _ _ _ h => h) (Or.inl ⟨by rfl, ?_⟩) (by assumption) ?_
          rotate_left
          · (intro w hSw; obtain ⟨⟨s0, s1⟩, ⟨s2, s3⟩⟩ := hSw; go_simp <;> with_reducible rfl)
          try simp only [Act.put, List.setIfInBounds_toArray, List.set_cons_zero, List.set_cons_succ]
          refine wpAnyH_ready (rs := [1, 7]) (by kernel_rfl) (by simp) ?_
          refine AllReadyH.cons (o := { dst := some 45, op := Op.buildSlice 22 1 #[(0, Operand.tmp 44)], type := 22, pos := "tree.go:37", after := #[{ on := 0, ground := Ground.data }], guard := none }) rfl (fun K hK => ?_) (AllReadyH.cons (o := { dst := some 51, op := Op.call { callee := Callee.value (Operand.func 64), args := #[Operand.tmp 46, Operand.tmp 47, Operand.tmp 50], argTypes := #[64, 69, 3] }, type := 22, pos := "tree.go:37", after := #[{ on := 2, ground := Ground.data }, { on := 3, ground := Ground.data }, { on := 6, ground := Ground.data }], guard := none }) rfl (fun K hK => ?_) (AllReadyH.nil))
          · go_simp
            obtain ⟨v1, hv1⟩ : ∃ W, W = u0.alloc (.cells #[.int .i64 (Kn : Nat)] 3) := ⟨_, rfl⟩
            have T1 : Hid (Fut u0 v1) := Lib.hid (by rw [hv1]; exact Fut.alloc _ _)
            have G1 : Hid (Fut u0 v1) := Lib.hid ((Fut.rfl).trans T1.out)
            have N1 : Hid (v1.cell? ⟨u0.heap.size, 0, none⟩ = some (.int .i64 (Kn : Nat))) := Lib.hid (by rw [hv1]; exact (cells_at _ _ _ _ _ rfl).1)
            obtain ⟨s1, hs1⟩ : ∃ s, s = u0.heap.size := ⟨_, rfl⟩
            rw [← hv1]
            rw [← hs1] at N1 ⊢
            clear hv1 hs1
            refine hK.out _ _ ?_ (fun hHeld => ?_)
            · exact keep _ G1.out
            clear hK K
            try simp only [Act.put, List.setIfInBounds_toArray, List.set_cons_zero, List.set_cons_succ]
            refine wpAnyH_ready (rs := [7]) (by kernel_rfl) (by simp) ?_
            refine AllReadyH.cons (o := { dst := some 51, op := Op.call { callee := Callee.value (Operand.func 64), args := #[Operand.tmp 46, Operand.tmp 47, Operand.tmp 50], argTypes := #[64, 69, 3] }, type := 22, pos := "tree.go:37", after := #[{ on := 2, ground := Ground.data }, { on := 3, ground := Ground.data }, { on := 6, ground := Ground.data }], guard := none }) rfl (fun K hK => ?_) AllReadyH.nil
            go_simp
            go_at_call 64
            refine (HR7.out v1 (G1.out)).mono ?_
            rintro _ v7 ⟨x7, rfl, hO7, T7⟩
            have G7 : Hid (Fut u0 v7) := Lib.hid ((G1.out).trans T7)
            obtain ⟨l7, c7, rfl, hI7⟩ := hO7.ints
            have I7 := Lib.hid hI7
            replace T7 := Lib.hid T7
            clear hO7 hI7
            try go_wp2_with fail
            refine hK.out _ _ ?_ (fun hHeld => ?_)
            · exact keep _ G7.out
            clear hK K
            try simp only [Act.put, List.setIfInBounds_toArray, List.set_cons_zero, List.set_cons_succ]
            refine wpAnyH_ready (rs := [13]) (by kernel_rfl) (by simp) ?_
            refine AllReadyH.cons (o := { dst := some 57, op := Op.call { callee := Callee.value (Operand.func 64), args := #[Operand.tmp 52, Operand.tmp 53, Operand.tmp 56], argTypes := #[64, 69, 3] }, type := 22, pos := "tree.go:37", after := #[{ on := 8, ground := Ground.data }, { on := 9, ground := Ground.data }, { on := 12, ground := Ground.data }, { on := 7, ground := Ground.chain }], guard := none }) rfl (fun K hK => ?_) AllReadyH.nil
            go_simp
            go_at_call 64
            refine (HR13.out v7 (G7.out)).mono ?_
            rintro _ v13 ⟨x13, rfl, hO13, T13⟩
            have G13 : Hid (Fut u0 v13) := Lib.hid ((G7.out).trans T13)
            obtain ⟨l13, c13, rfl, hI13⟩ := hO13.ints
            have I13 := Lib.hid hI13
            replace T13 := Lib.hid T13
            clear hO13 hI13
            try go_wp2_with fail
            refine hK.out _ _ ?_ (fun hHeld => ?_)
            · exact keep _ G13.out
            clear hK K
            try simp only [Act.put, List.setIfInBounds_toArray, List.set_cons_zero, List.set_cons_succ]
            refine wpAnyH_ready (rs := [14]) (by kernel_rfl) (by simp) ?_
            refine AllReadyH.cons (o := { dst := some 58, op := Op.buildSlice 71 3 #[(0, Operand.tmp 45), (1, Operand.tmp 51), (2, Operand.tmp 57)], type := 71, pos := "tree.go:37", after := #[{ on := 1, ground := Ground.data }, { on := 7, ground := Ground.data }, { on := 13, ground := Ground.data }], guard := none }) rfl (fun K hK => ?_) AllReadyH.nil
            go_simp
            obtain ⟨v14, hv14⟩ : ∃ W, W = v13.alloc (.cells #[.slice (some ⟨s1, 0, none⟩) 1 1, .slice l7 X.length c7, .slice l13 Y.length c13] 22) := ⟨_, rfl⟩
            have T14 : Hid (Fut v13 v14) := Lib.hid (by rw [hv14]; exact Fut.alloc _ _)
            have G14 : Hid (Fut u0 v14) := Lib.hid ((G13.out).trans T14.out)
            have L14 : Hid (LstAt v14 (some ⟨v13.heap.size, 0, none⟩) [[(Kn : Int)], X, Y]) := Lib.hid (three_lists (s := s1) (by rw [hv14]; exact (cells_at _ _ _ _ _ rfl).1) (by rw [hv14]; exact (cells_at _ _ _ _ _ rfl).1) (by rw [hv14]; exact (cells_at _ _ _ _ _ rfl).1) (cell_at N1.out (((T7.out.trans T13.out)).trans T14.out)) (I7.out.fut ((T13.out).trans T14.out)) (I13.out.fut ((Fut.rfl).trans T14.out)))
            obtain ⟨s14, hs14⟩ : ∃ s, s = v13.heap.size := ⟨_, rfl⟩
            rw [← hv14]
            rw [← hs14] at L14 ⊢
            clear hv14 hs14
            refine hK.out _ _ ?_ (fun hHeld => ?_)
            · exact keep _ G14.out
            clear hK K
            try simp only [Act.put, List.setIfInBounds_toArray, List.set_cons_zero, List.set_cons_succ]
            refine wpAnyH_ready (rs := [15]) (by kernel_rfl) (by simp) ?_
            refine AllReadyH.cons (o := { dst := some 59, op := Op.call { callee := Callee.value (Operand.func 89), args := #[Operand.tmp 58], argTypes := #[71] }, type := 22, pos := "tree.go:37", after := #[{ on := 14, ground := Ground.data }, { on := 13, ground := Ground.chain }], guard := none }) rfl (fun K hK => ?_) AllReadyH.nil
            have HCC := Lib.hid (concat_any (some ⟨s14, 0, none⟩) 3 [[(Kn : Int)], X, Y] v14 L14.out (by simp) HXY.out)
            go_simp
            go_at_call 89
            refine HCC.out.mono ?_
            rintro _ v15 ⟨x15, rfl, hO15, T15⟩
            have G15 : Hid (Fut u0 v15) := Lib.hid (G14.out.trans T15)
            have O15 := Lib.hid (hO15.base (Nat.le_trans HZU.out (RowKit.Below.size G14.out)))
            clear hO15 T15 HCC
            try go_wp2_with fail
            refine hK.out _ _ ?_ (fun hHeld => ?_)
            · exact keep _ G15.out
            clear hK K
            try simp only [Act.put, List.setIfInBounds_toArray, List.set_cons_zero, List.set_cons_succ]
            refine wpAnyH_ready (rs := [16]) (by kernel_rfl) (by simp) ?_
            refine AllReadyH.cons (o := { dst := some 6, op := Op.assign (Operand.tmp 59), type := 22, pos := "tree.go:37", after := #[{ on := 15, ground := Ground.data }, { on := 15, ground := Ground.chain }, { on := 0, ground := Ground.phase }, { on := 1, ground := Ground.phase }, { on := 2, ground := Ground.phase }, { on := 3, ground := Ground.phase }, { on := 4, ground := Ground.phase }, { on := 5, ground := Ground.phase }, { on := 6, ground := Ground.phase }, { on := 7, ground := Ground.phase }, { on := 8, ground := Ground.phase }, { on := 9, ground := Ground.phase }, { on := 10, ground := Ground.phase }, { on := 11, ground := Ground.phase }, { on := 12, ground := Ground.phase }, { on := 13, ground := Ground.phase }, { on := 14, ground := Ground.phase }, { on := 15, ground := Ground.phase }], guard := none }) rfl (fun K hK => ?_) AllReadyH.nil
            go_simp
            refine hK.out _ _ ?_ (fun hHeld => ?_)
            · exact keep _ G15.out
            clear hK K
            try simp only [Act.put, List.setIfInBounds_toArray, List.set_cons_zero, List.set_cons_succ]
            refine wpAnyH_done (by kernel_rfl) ?_ _
            go_wp2_with fail
            go_ret
            exact ⟨_, rfl, by rw [← HGO.out, HRS.out]; exact O15.out, HFU.out.trans G15.out⟩
          · go_simp
            go_at_call 64
            refine (HR7.out u0 (Fut.rfl)).mono ?_
            rintro _ v7 ⟨x7, rfl, hO7, T7⟩
            have G7 : Hid (Fut u0 v7) := Lib.hid ((Fut.rfl).trans T7)
            obtain ⟨l7, c7, rfl, hI7⟩ := hO7.ints
            have I7 := Lib.hid hI7
            replace T7 := Lib.hid T7
            clear hO7 hI7
            try go_wp2_with fail
            refine hK.out _ _ ?_ (fun hHeld => ?_)
            · exact keep _ G7.out
            clear hK K
            try simp only [Act.put, List.setIfInBounds_toArray, List.set_cons_zero, List.set_cons_succ]
            refine wpAnyH_ready (rs := [1, 13]) (by kernel_rfl) (by simp) ?_
            refine AllReadyH.cons (o := { dst := some 45, op := Op.buildSlice 22 1 #[(0, Operand.tmp 44)], type := 22, pos := "tree.go:37", after := #[{ on := 0, ground := Ground.data }], guard := none }) rfl (fun K hK => ?_) (AllReadyH.cons (o := { dst := some 57, op := Op.call { callee := Callee.value (Operand.func 64), args := #[Operand.tmp 52, Operand.tmp 53, Operand.tmp 56], argTypes := #[64, 69, 3] }, type := 22, pos := "tree.go:37", after := #[{ on := 8, ground := Ground.data }, { on := 9, ground := Ground.data }, { on := 12, ground := Ground.data }, { on := 7, ground := Ground.chain }], guard := none }) rfl (fun K hK => ?_) (AllReadyH.nil))
            · go_simp
              obtain ⟨v1, hv1⟩ : ∃ W, W = v7.alloc (.cells #[.int .i64 (Kn : Nat)] 3) := ⟨_, rfl⟩
              have T1 : Hid (Fut v7 v1) := Lib.hid (by rw [hv1]; exact Fut.alloc _ _)
              have G1 : Hid (Fut u0 v1) := Lib.hid ((G7.out).trans T1.out)
              have N1 : Hid (v1.cell? ⟨v7.heap.size, 0, none⟩ = some (.int .i64 (Kn : Nat))) := Lib.hid (by rw [hv1]; exact (cells_at _ _ _ _ _ rfl).1)
              obtain ⟨s1, hs1⟩ : ∃ s, s = v7.heap.size := ⟨_, rfl⟩
              rw [← hv1]
              rw [← hs1] at N1 ⊢
              clear hv1 hs1
              refine hK.out _ _ ?_ (fun hHeld => ?_)
              · exact keep _ G1.out
              clear hK K
              try simp only [Act.put, List.setIfInBounds_toArray, List.set_cons_zero, List.set_cons_succ]
              refine wpAnyH_ready (rs := [13]) (by kernel_rfl) (by simp) ?_
              refine AllReadyH.cons (o := { dst := some 57, op := Op.call { callee := Callee.value (Operand.func 64), args := #[Operand.tmp 52, Operand.tmp 53, Operand.tmp 56], argTypes := #[64, 69, 3] }, type := 22, pos := "tree.go:37", after := #[{ on := 8, ground := Ground.data }, { on := 9, ground := Ground.data }, { on := 12, ground := Ground.data }, { on := 7, ground := Ground.chain }], guard := none }) rfl (fun K hK => ?_) AllReadyH.nil
              go_simp
              go_at_call 64
              refine (HR13.out v1 (G1.out)).mono ?_
              rintro _ v13 ⟨x13, rfl, hO13, T13⟩
              have G13 : Hid (Fut u0 v13) := Lib.hid ((G1.out).trans T13)
              obtain ⟨l13, c13, rfl, hI13⟩ := hO13.ints
              have I13 := Lib.hid hI13
              replace T13 := Lib.hid T13
              clear hO13 hI13
              try go_wp2_with fail
              refine hK.out _ _ ?_ (fun hHeld => ?_)
              · exact keep _ G13.out
              clear hK K
              try simp only [Act.put, List.setIfInBounds_toArray, List.set_cons_zero, List.set_cons_succ]
              refine wpAnyH_ready (rs := [14]) (by kernel_rfl) (by simp) ?_
              refine AllReadyH.cons (o := { dst := some 58, op := Op.buildSlice 71 3 #[(0, Operand.tmp 45), (1, Operand.tmp 51), (2, Operand.tmp 57)], type := 71, pos := "tree.go:37", after := #[{ on := 1, ground := Ground.data }, { on := 7, ground := Ground.data }, { on := 13, ground := Ground.data }], guard := none }) rfl (fun K hK => ?_) AllReadyH.nil
              go_simp
              obtain ⟨v14, hv14⟩ : ∃ W, W = v13.alloc (.cells #[.slice (some ⟨s1, 0, none⟩) 1 1, .slice l7 X.length c7, .slice l13 Y.length c13] 22) := ⟨_, rfl⟩
              have T14 : Hid (Fut v13 v14) := Lib.hid (by rw [hv14]; exact Fut.alloc _ _)
              have G14 : Hid (Fut u0 v14) := Lib.hid ((G13.out).trans T14.out)
              have L14 : Hid (LstAt v14 (some ⟨v13.heap.size, 0, none⟩) [[(Kn : Int)], X, Y]) := Lib.hid (three_lists (s := s1) (by rw [hv14]; exact (cells_at _ _ _ _ _ rfl).1) (by rw [hv14]; exact (cells_at _ _ _ _ _ rfl).1) (by rw [hv14]; exact (cells_at _ _ _ _ _ rfl).1) (cell_at N1.out ((T13.out).trans T14.out)) (I7.out.fut (((T1.out.trans T13.out)).trans T14.out)) (I13.out.fut ((Fut.rfl).trans T14.out)))
              obtain ⟨s14, hs14⟩ : ∃ s, s = v13.heap.size := ⟨_, rfl⟩
              rw [← hv14]
              rw [← hs14] at L14 ⊢
              clear hv14 hs14
              refine hK.out _ _ ?_ (fun hHeld => ?_)
              · exact keep _ G14.out
              clear hK K
              try simp only [Act.put, List.setIfInBounds_toArray, List.set_cons_zero, List.set_cons_succ]
              refine wpAnyH_ready (rs := [15]) (by kernel_rfl) (by simp) ?_
              refine AllReadyH.cons (o := { dst := some 59, op := Op.call { callee := Callee.value (Operand.func 89), args := #[Operand.tmp 58], argTypes := #[71] }, type := 22, pos := "tree.go:37", after := #[{ on := 14, ground := Ground.data }, { on := 13, ground := Ground.chain }], guard := none }) rfl (fun K hK => ?_) AllReadyH.nil
              have HCC := Lib.hid (concat_any (some ⟨s14, 0, none⟩) 3 [[(Kn : Int)], X, Y] v14 L14.out (by simp) HXY.out)
              go_simp
              go_at_call 89
              refine HCC.out.mono ?_
              rintro _ v15 ⟨x15, rfl, hO15, T15⟩
              have G15 : Hid (Fut u0 v15) := Lib.hid (G14.out.trans T15)
              have O15 := Lib.hid (hO15.base (Nat.le_trans HZU.out (RowKit.Below.size G14.out)))
              clear hO15 T15 HCC
              try go_wp2_with fail
              refine hK.out _ _ ?_ (fun hHeld => ?_)
              · exact keep _ G15.out
              clear hK K
              try simp only [Act.put, List.setIfInBounds_toArray, List.set_cons_zero, List.set_cons_succ]
              refine wpAnyH_ready (rs := [16]) (by kernel_rfl) (by simp) ?_
              refine AllReadyH.cons (o := { dst := some 6, op := Op.assign (Operand.tmp 59), type := 22, pos := "tree.go:37", after := #[{ on := 15, ground := Ground.data }, { on := 15, ground := Ground.chain }, { on := 0, ground := Ground.phase }, { on := 1, ground := Ground.phase }, { on := 2, ground := Ground.phase }, { on := 3, ground := Ground.phase }, { on := 4, ground := Ground.phase }, { on := 5, ground := Ground.phase }, { on := 6, ground := Ground.phase }, { on := 7, ground := Ground.phase }, { on := 8, ground := Ground.phase }, { on := 9, ground := Ground.phase }, { on := 10, ground := Ground.phase }, { on := 11, ground := Ground.phase }, { on := 12, ground := Ground.phase }, { on := 13, ground := Ground.phase }, { on := 14, ground := Ground.phase }, { on := 15, ground := Ground.phase }], guard := none }) rfl (fun K hK => ?_) AllReadyH.nil
              go_simp
              refine hK.out _ _ ?_ (fun hHeld => ?_)
              · exact keep _ G15.out
              clear hK K
              try simp only [Act.put, List.setIfInBounds_toArray, List.set_cons_zero, List.set_cons_succ]
              refine wpAnyH_done (by kernel_rfl) ?_ _
              go_wp2_with fail
              go_ret
              exact ⟨_, rfl, by rw [← HGO.out, HRS.out]; exact O15.out, HFU.out.trans G15.out⟩
            · go_simp
              go_at_call 64
              refine (HR13.out v7 (G7.out)).mono ?_
              rintro _ v13 ⟨x13, rfl, hO13, T13⟩
              have G13 : Hid (Fut u0 v13) := Lib.hid ((G7.out).trans T13)
              obtain ⟨l13, c13, rfl, hI13⟩ := hO13.ints
              have I13 := Lib.hid hI13
              replace T13 := Lib.hid T13
              clear hO13 hI13
              try go_wp2_with fail
              refine hK.out _ _ ?_ (fun hHeld => ?_)
              · exact keep _ G13.out
              clear hK K
              try simp only [Act.put, List.setIfInBounds_toArray, List.set_cons_zero, List.set_cons_succ]
              refine wpAnyH_ready (rs := [1]) (by kernel_rfl) (by simp) ?_
              refine AllReadyH.cons (o := { dst := some 45, op := Op.buildSlice 22 1 #[(0, Operand.tmp 44)], type := 22, pos := "tree.go:37", after := #[{ on := 0, ground := Ground.data }], guard := none }) rfl (fun K hK => ?_) AllReadyH.nil
              go_simp
              obtain ⟨v1, hv1⟩ : ∃ W, W = v13.alloc (.cells #[.int .i64 (Kn : Nat)] 3) := ⟨_, rfl⟩
              have T1 : Hid (Fut v13 v1) := Lib.hid (by rw [hv1]; exact Fut.alloc _ _)
              have G1 : Hid (Fut u0 v1) := Lib.hid ((G13.out).trans T1.out)
              have N1 : Hid (v1.cell? ⟨v13.heap.size, 0, none⟩ = some (.int .i64 (Kn : Nat))) := Lib.hid (by rw [hv1]; exact (cells_at _ _ _ _ _ rfl).1)
              obtain ⟨s1, hs1⟩ : ∃ s, s = v13.heap.size := ⟨_, rfl⟩
              rw [← hv1]
              rw [← hs1] at N1 ⊢
              clear hv1 hs1
              refine hK.out _ _ ?_ (fun hHeld => ?_)
              · exact keep _ G1.out
              clear hK K
              try simp only [Act.put, List.setIfInBounds_toArray, List.set_cons_zero, List.set_cons_succ]
              refine wpAnyH_ready (rs := [14]) (by kernel_rfl) (by simp) ?_
              refine AllReadyH.cons (o := { dst := some 58, op := Op.buildSlice 71 3 #[(0, Operand.tmp 45), (1, Operand.tmp 51), (2, Operand.tmp 57)], type := 71, pos := "tree.go:37", after := #[{ on := 1, ground := Ground.data }, { on := 7, ground := Ground.data }, { on := 13, ground := Ground.data }], guard := none }) rfl (fun K hK => ?_) AllReadyH.nil
              go_simp
              obtain ⟨v14, hv14⟩ : ∃ W, W = v1.alloc (.cells #[.slice (some ⟨s1, 0, none⟩) 1 1, .slice l7 X.length c7, .slice l13 Y.length c13] 22) := ⟨_, rfl⟩
              have T14 : Hid (Fut v1 v14) := Lib.hid (by rw [hv14]; exact Fut.alloc _ _)
              have G14 : Hid (Fut u0 v14) := Lib.hid ((G1.out).trans T14.out)
              have L14 : Hid (LstAt v14 (some ⟨v1.heap.size, 0, none⟩) [[(Kn : Int)], X, Y]) := Lib.hid (three_lists (s := s1) (by rw [hv14]; exact (cells_at _ _ _ _ _ rfl).1) (by rw [hv14]; exact (cells_at _ _ _ _ _ rfl).1) (by rw [hv14]; exact (cells_at _ _ _ _ _ rfl).1) (cell_at N1.out ((Fut.rfl).trans T14.out)) (I7.out.fut (((T13.out.trans T1.out)).trans T14.out)) (I13.out.fut ((T1.out).trans T14.out)))
              obtain ⟨s14, hs14⟩ : ∃ s, s = v1.heap.size := ⟨_, rfl⟩
              rw [← hv14]
              rw [← hs14] at L14 ⊢
              clear hv14 hs14
              refine hK.out _ _ ?_ (fun hHeld => ?_)
              · exact keep _ G14.out
              clear hK K
              try simp only [Act.put, List.setIfInBounds_toArray, List.set_cons_zero, List.set_cons_succ]
              refine wpAnyH_ready (rs := [15]) (by kernel_rfl) (by simp) ?_
              refine AllReadyH.cons (o := { dst := some 59, op := Op.call { callee := Callee.value (Operand.func 89), args := #[Operand.tmp 58], argTypes := #[71] }, type := 22, pos := "tree.go:37", after := #[{ on := 14, ground := Ground.data }, { on := 13, ground := Ground.chain }], guard := none }) rfl (fun K hK => ?_) AllReadyH.nil
              have HCC := Lib.hid (concat_any (some ⟨s14, 0, none⟩) 3 [[(Kn : Int)], X, Y] v14 L14.out (by simp) HXY.out)
              go_simp
              go_at_call 89
              refine HCC.out.mono ?_
              rintro _ v15 ⟨x15, rfl, hO15, T15⟩
              have G15 : Hid (Fut u0 v15) := Lib.hid (G14.out.trans T15)
              have O15 := Lib.hid (hO15.base (Nat.le_trans HZU.out (RowKit.Below.size G14.out)))
              clear hO15 T15 HCC
              try go_wp2_with fail
              refine hK.out _ _ ?_ (fun hHeld => ?_)
              · exact keep _ G15.out
              clear hK K
              try simp only [Act.put, List.setIfInBounds_toArray, List.set_cons_zero, List.set_cons_succ]
              refine wpAnyH_ready (rs := [16]) (by kernel_rfl) (by simp) ?_
              refine AllReadyH.cons (o := { dst := some 6, op := Op.assign (Operand.tmp 59), type := 22, pos := "tree.go:37", after := #[{ on := 15, ground := Ground.data }, { on := 15, ground := Ground.chain }, { on := 0, ground := Ground.phase }, { on := 1, ground := Ground.phase }, { on := 2, ground := Ground.phase }, { on := 3, ground := Ground.phase }, { on := 4, ground := Ground.phase }, { on := 5, ground := Ground.phase }, { on := 6, ground := Ground.phase }, { on := 7, ground := Ground.phase }, { on := 8, ground := Ground.phase }, { on := 9, ground := Ground.phase }, { on := 10, ground := Ground.phase }, { on := 11, ground := Ground.phase }, { on := 12, ground := Ground.phase }, { on := 13, ground := Ground.phase }, { on := 14, ground := Ground.phase }, { on := 15, ground := Ground.phase }], guard := none }) rfl (fun K hK => ?_) AllReadyH.nil
              go_simp
              refine hK.out _ _ ?_ (fun hHeld => ?_)
              · exact keep _ G15.out
              clear hK K
              try simp only [Act.put, List.setIfInBounds_toArray, List.set_cons_zero, List.set_cons_succ]
              refine wpAnyH_done (by kernel_rfl) ?_ _
              go_wp2_with fail
              go_ret
              exact ⟨_, rfl, by rw [← HGO.out, HRS.out]; exact O15.out, HFU.out.trans G15.out⟩
        · have HRS : Hid (goI mn ls a b (L.drop (i + 1)) (q' - xm) = goI mn ls a b L q) := Lib.hid (by rw [← HGO.out, HGD.out, if_neg hlt])
          have hws : IntKind.i64.wrap (q' - xm) = q' - xm := IntWalk.i64_in _ ⟨by omega, by omega⟩
          go_wp2_with fail
          go_roundw
          case rel => first
            | exact ⟨i + 1, q' - xm, by omega, rfl, rfl, by omega, by omega, HRS, HF6⟩
            | ((repeat apply Exists.intro); exact ⟨⟨i + 1, q' - xm, by omega, rfl, rfl, by omega, by omega, HRS, HF6⟩, rfl⟩)
          case measure => simp [intOf]; omega
      · obtain rfl : i = L.length := by omega
        have HE : Hid (goI mn ls a b L q = []) := Lib.hid (by rw [← HGO.out, List.drop_length, goI])
        go_wp2_with fail
        go_ret
        exact ⟨_, rfl, by rw [HE.out]; exact World.ownsRow_nil _ _ _ _, HFw.out.trans HF.out⟩
end
section
theorem manyE_congr {m m' : Nat → Nat → Int} {a b : Nat} {L : List Int} (hL : ∀ l ∈ L, (a : Int) ≤ l ∧ l < b) (h : ∀ K, a ≤ K → K < b → m a K = m' a K ∧ m (K + 1) b = m' (K + 1) b) : manyE m a b L = manyE m' a b L := by
  unfold manyE
  congr 2
  refine List.map_congr_left fun k hk => ?_
  obtain ⟨h1, h2⟩ := hL k hk
  obtain ⟨K, rfl⟩ : ∃ K : Nat, k = K := ⟨k.toNat, by omega⟩
  unfold mulE
  rw [Int.toNat_natCast, (h K (by omega) (by omega)).1, (h K (by omega) (by omega)).2]
/-- the least questions of a span. -/
def fI (zs : List Int) : Nat → Nat → Nat → Int
  | 0, _, _ => 0
  | d + 1, a, b => (bst (fun k => spS zs (a, b) + fI zs d a k + fI zs d (k + 1) b) a (b - a)).1
theorem fI_fuel (zs : List Int) : ∀ d d' a b, b - a < d → b - a < d' → fI zs d a b = fI zs d' a b
  | 0, _, _, _, h, _ => absurd h (by omega)
  | _, 0, _, _, _, h => absurd h (by omega)
  | d + 1, d' + 1, a, b, h, h' => by
    rw [fI, fI]
    congr 1
    refine bst_congr _ fun j hj => ?_
    show spS zs (a, b) + fI zs d a (a + j) + fI zs d (a + j + 1) b = _
    rw [fI_fuel zs d d' a (a + j) (by omega) (by omega), fI_fuel zs d d' (a + j + 1) b (by omega) (by omega)]
def f0 (zs : List Int) (a b : Nat) : Int := fI zs (b - a + 1) a b
theorem bT_congr {zs : List Int} {f f' : Nat → Nat → Int} {a b : Nat} (h : ∀ K, a ≤ K → K < b → f a K = f' a K ∧ f (K + 1) b = f' (K + 1) b) : bT zs f (a, b) = bT zs f' (a, b) := by
  unfold bT
  refine bst_congr _ fun j hj => ?_
  unfold qG
  simp only at hj ⊢
  rw [(h (a + j) (by omega) (by omega)).1, (h (a + j) (by omega) (by omega)).2]
theorem f0_eq (zs : List Int) (a b : Nat) : f0 zs a b = (bT zs (f0 zs) (a, b)).1 := by
  have e : bT zs (f0 zs) (a, b) = bT zs (fI zs (b - a)) (a, b) := bT_congr fun K h1 h2 => ⟨fI_fuel zs _ _ _ _ (by omega) (by omega), fI_fuel zs _ _ _ _ (by omega) (by omega)⟩
  rw [e]
  unfold f0
  rw [fI]
  rfl
/-- the best tops of a span. -/
def F0 (zs : List Int) (a b : Nat) : List Int := (bT zs (f0 zs) (a, b)).2
theorem F0_in (zs : List Int) (a b : Nat) (h : a ≤ b) : ∀ l ∈ F0 zs a b, (a : Int) ≤ l ∧ l < b := bT_in zs (f0 zs) (a, b) h
theorem F0_len (zs : List Int) (a b : Nat) : (F0 zs a b).length ≤ b - a := bT_len zs (f0 zs) (a, b)
/-- how many trees a table of tops has. -/
def mI (F : Nat → Nat → List Int) : Nat → Nat → Nat → Int
  | 0, _, _ => 0
  | d + 1, a, b => manyE (mI F d) a b (F a b)
theorem mI_fuel {F : Nat → Nat → List Int} (hF : ∀ a b, a ≤ b → ∀ l ∈ F a b, (a : Int) ≤ l ∧ l < b) : ∀ d d' a b, a ≤ b → b - a < d → b - a < d' → mI F d a b = mI F d' a b
  | 0, _, _, _, _, h, _ => absurd h (by omega)
  | _, 0, _, _, _, _, h => absurd h (by omega)
  | d + 1, d' + 1, a, b, hab, h, h' => by
    rw [mI, mI]
    exact manyE_congr (hF a b hab) fun K h1 h2 => ⟨mI_fuel hF d d' a K h1 (by omega) (by omega), mI_fuel hF d d' (K + 1) b (by omega) (by omega) (by omega)⟩
def m0 (F : Nat → Nat → List Int) (a b : Nat) : Int := mI F (b - a + 1) a b
theorem m0_eq {F : Nat → Nat → List Int} (hF : ∀ a b, a ≤ b → ∀ l ∈ F a b, (a : Int) ≤ l ∧ l < b) {a b : Nat} (hab : a ≤ b) : m0 F a b = manyE (m0 F) a b (F a b) := by
  have e : manyE (m0 F) a b (F a b) = manyE (mI F (b - a)) a b (F a b) := manyE_congr (hF a b hab) fun K h1 h2 => ⟨mI_fuel hF _ _ _ _ h1 (by omega) (by omega), mI_fuel hF _ _ _ _ (by omega) (by omega) (by omega)⟩
  rw [e]
  unfold m0
  rw [mI]
theorem done_f {zs : List Int} {n : Nat} (hn : n ≤ 8) {F : Nat → Nat → List Int} {mn f : Nat → Nat → Int} (h : DoneB zs F mn f (spansL n)) : ∀ d a b, a ≤ b → b < n → b - a < d → f a b = f0 zs a b
  | 0, _, _, _, _, hd => absurd hd (by omega)
  | d + 1, a, b, hab, hb, hd => by
    rw [(h (a, b) (mem_spans hn hab hb)).1, f0_eq, bT_congr fun K h1 h2 => ⟨done_f hn h d a K h1 (by omega) (by omega), done_f hn h d (K + 1) b (by omega) hb (by omega)⟩]
theorem done_F {zs : List Int} {n : Nat} (hn : n ≤ 8) {F : Nat → Nat → List Int} {mn f : Nat → Nat → Int} (h : DoneB zs F mn f (spansL n)) (a b : Nat) (hab : a ≤ b) (hb : b < n) : F a b = F0 zs a b := by
  rw [(h (a, b) (mem_spans hn hab hb)).2.1]
  unfold F0
  rw [bT_congr fun K h1 h2 => ⟨done_f hn h 9 a K h1 (by omega) (by omega), done_f hn h 9 (K + 1) b (by omega) hb (by omega)⟩]
theorem done_m {zs : List Int} {n : Nat} (hn : n ≤ 8) {F : Nat → Nat → List Int} {mn f : Nat → Nat → Int} (h : DoneB zs F mn f (spansL n)) : ∀ d a b, a ≤ b → b < n → b - a < d → mn a b = m0 (F0 zs) a b
  | 0, _, _, _, _, hd => absurd hd (by omega)
  | d + 1, a, b, hab, hb, hd => by
    have h1 := (h (a, b) (mem_spans hn hab hb)).2.2
    have h2 := (h (a, b) (mem_spans hn hab hb)).2.1
    simp only at h1 h2
    rw [h1, ← h2, done_F hn h a b hab hb, m0_eq (F0_in zs) hab]
    exact manyE_congr (F0_in zs a b hab) fun K h3 h4 => ⟨done_m hn h d a K h3 (by omega) (by omega), done_m hn h d (K + 1) b (by omega) hb (by omega)⟩
/-- all sieves may be at the top. -/
def FA (a b : Nat) : List Int := svP a (b - a)
theorem FA_in (a b : Nat) (h : a ≤ b) : ∀ l ∈ FA a b, (a : Int) ≤ l ∧ l < b := svT_in (a, b) h
theorem all_F {n : Nat} (hn : n ≤ 8) {F : Nat → Nat → List Int} {mn : Nat → Nat → Int} (h : DoneP F mn svT (spansL n)) (a b : Nat) (hab : a ≤ b) (hb : b < n) : F a b = FA a b := (h (a, b) (mem_spans hn hab hb)).1
theorem all_m {n : Nat} (hn : n ≤ 8) {F : Nat → Nat → List Int} {mn : Nat → Nat → Int} (h : DoneP F mn svT (spansL n)) : ∀ d a b, a ≤ b → b < n → b - a < d → mn a b = m0 FA a b
  | 0, _, _, _, _, hd => absurd hd (by omega)
  | d + 1, a, b, hab, hb, hd => by
    have h1 : mn a b = manyE mn a b (FA a b) := (h (a, b) (mem_spans hn hab hb)).2
    rw [h1, m0_eq FA_in hab]
    exact manyE_congr (FA_in a b hab) fun K h3 h4 => ⟨all_m hn h d a K h3 (by omega) (by omega), all_m hn h d (K + 1) b (by omega) hb (by omega)⟩
theorem goI_congr {m m' : Nat → Nat → Int} {k k' : Nat → Nat → Int → List Int} {a b : Nat} (h : ∀ K, a ≤ K → K < b → m a K = m' a K ∧ m (K + 1) b = m' (K + 1) b ∧ (∀ q, k a K q = k' a K q) ∧ (∀ q, k (K + 1) b q = k' (K + 1) b q)) : ∀ (ts : List Int), (∀ t ∈ ts, (a : Int) ≤ t ∧ t < b) → ∀ q, goI m k a b ts q = goI m' k' a b ts q
  | [], _, q => by rw [goI, goI]
  | t :: ts, ht, q => by
    obtain ⟨h1, h2⟩ := ht t (by simp)
    obtain ⟨K, rfl⟩ : ∃ K : Nat, t = K := ⟨t.toNat, by omega⟩
    obtain ⟨e1, e2, e3, e4⟩ := h K (by omega) (by omega)
    rw [goI, goI, Int.toNat_natCast, e1, e2, e3, e4, goI_congr h ts (fun t q => ht t (by simp [q]))]
theorem lsI_congr {F F' : Nat → Nat → List Int} {m m' : Nat → Nat → Int} {n : Nat} (hF : ∀ a b, a ≤ b → b < n → F a b = F' a b) (hm : ∀ a b, a ≤ b → b < n → m a b = m' a b) (hi : ∀ a b, a ≤ b → ∀ l ∈ F' a b, (a : Int) ≤ l ∧ l < b) : ∀ d a b, a ≤ b → b < n → ∀ q, lsI F m d a b q = lsI F' m' d a b q
  | 0, _, _, _, _, _ => rfl
  | d + 1, a, b, hab, hb, q => by
    rw [lsI, lsI, hF a b hab hb]
    exact goI_congr (fun K h1 h2 => ⟨hm a K h1 (by omega), hm (K + 1) b (by omega) hb, fun q => lsI_congr hF hm hi d a K h1 (by omega) q, fun q => lsI_congr hF hm hi d (K + 1) b (by omega) hb q⟩) _ (hi a b hab) q
end
section
theorem chkL_zero {zs : List Int} (h : chkL zs = 0) : 1 ≤ zs.length ∧ zs.length ≤ 8 ∧ ∀ z ∈ zs, 1 ≤ z ∧ z ≤ 100 := by
  unfold chkL at h
  by_cases h0 : zs.length = 0
  · rw [if_pos h0] at h; omega
  · rw [if_neg h0] at h
    by_cases h1 : 8 < zs.length
    · rw [if_pos h1] at h; omega
    · rw [if_neg h1] at h
      by_cases h2 : zs.any badL = true
      · rw [if_pos h2] at h; omega
      · refine ⟨by omega, by omega, fun z hz => ?_⟩
        have h3 : badL z = false := by
          cases hb : badL z
          · rfl
          · exact absurd (List.any_eq_true.2 ⟨z, hz, hb⟩) h2
        unfold badL at h3
        simp at h3
        omega
/-- the first of the best trees. -/
def bestE (zs : List Int) : List Int := if chkL zs = 0 then lsI (F0 zs) (m0 (F0 zs)) 8 0 (zs.length - 1) 0 else []
def leastE (zs : List Int) : Int := if chkL zs = 0 then f0 zs 0 (zs.length - 1) else 0
def countE (zs : List Int) : Int := if chkL zs = 0 then m0 (F0 zs) 0 (zs.length - 1) else 0
theorem best_call (a : Option Addr) (cap : Nat) (zs : List Int) (w : World) (hA : IntsAt w a zs) (hlc : zs.length ≤ cap) (hc : chkL zs = 0) :
    Calls Try.prog 63 #[.slice a zs.length cap] w fun e w' => ∃ F mn f, e = .returned (.tuple #[.int .i64 (f0 zs 0 (zs.length - 1)), .pointer (some ⟨w.heap.size + 1, 0, none⟩)]) ∧ Fut w w' ∧ TabL w' (w.heap.size + 1) 0 (w.heap.size + 2) F ∧ Tab w' (w.heap.size + 1) 64 mn ∧ Bd mn ∧ DoneB zs F mn f (spansL zs.length) := by
  obtain ⟨h1, h2, h3⟩ := chkL_zero hc
  obtain ⟨b, o, rfl, _⟩ := hA 0 (by omega)
  refine (best_any b o cap zs h1 h2 hlc (fun z hz => by have := h3 z hz; omega) w hA).mono ?_
  rintro e w' ⟨F, mn, f, rfl, k1, k2, k3, k4, k5, k6⟩
  exact ⟨F, mn, f, by rw [done_f h2 k6 9 0 (zs.length - 1) (by omega) (by omega) (by omega)], k1, k2, k3, k4, k6⟩
set_option maxRecDepth 100000 in
theorem least_any (a : Option Addr) (cap : Nat) (zs : List Int) (w : World) (hA : IntsAt w a zs) (hlc : zs.length ≤ cap) (hl : zs.length ≤ 1000) :
    Calls Try.prog 20 #[.slice a zs.length cap] w fun e w' => e = .returned (.tuple #[.int .i64 (leastE zs), .int .i64 (chkL zs)]) ∧ Fut w w' := by
  have HCK := Lib.hid (check_any a cap zs w hA hl)
  have HBC := Lib.hid (best_call a cap zs w hA hlc)
  have HLE : Hid (leastE zs = if chkL zs = 0 then f0 zs 0 (zs.length - 1) else 0) := Lib.hid rfl
  generalize chkL zs = E at *
  generalize f0 zs 0 (zs.length - 1) = V at *
  have hlx : (zs.length : Int) ≤ 1000 := by omega
  clear hA
  go_enter Try.func20, Try.ntmps20
  go_wp2_with fail
  refine HCK.out.mono ?_
  rintro _ _ ⟨rfl, rfl⟩
  by_cases hE : E = 0
  · have HB2 := Lib.hid (HBC.out hE)
    have HL2 : Hid (leastE zs = V) := Lib.hid (by rw [HLE.out, if_pos hE])
    subst hE
    go_wp2_with fail
    refine HB2.out.mono ?_
    rintro _ w1 ⟨F, mn, f, rfl, F1, _⟩
    go_wp2_with fail
    go_ret2
    exact ⟨by rw [HL2.out]; rfl, F1⟩
  · have HL2 : Hid (leastE zs = 0) := Lib.hid (by rw [HLE.out, if_neg hE])
    go_wp2_with fail
    go_ret2
    exact ⟨by rw [HL2.out]; rfl, Fut.rfl⟩
set_option maxRecDepth 100000 in
theorem best18_any (a : Option Addr) (cap : Nat) (zs : List Int) (w : World) (hA : IntsAt w a zs) (hlc : zs.length ≤ cap) (hl : zs.length ≤ 1000) :
    Calls Try.prog 18 #[.slice a zs.length cap] w fun e w' => TupL (chkL zs) (bestE zs) w e w' := by
  have HCK := Lib.hid (check_any a cap zs w hA hl)
  have HBC := Lib.hid (best_call a cap zs w hA hlc)
  have HLE : Hid (bestE zs = if chkL zs = 0 then lsI (F0 zs) (m0 (F0 zs)) 8 0 (zs.length - 1) 0 else []) := Lib.hid rfl
  have HZ := Lib.hid (chkL_zero (zs := zs))
  generalize chkL zs = E at *
  have hlx : (zs.length : Int) ≤ 1000 := by omega
  clear hA
  go_enter Try.func18, Try.ntmps18
  go_wp2_with fail
  refine HCK.out.mono ?_
  rintro _ _ ⟨rfl, rfl⟩
  by_cases hE : E = 0
  · have HB2 := Lib.hid (HBC.out hE)
    have hz := HZ.out hE
    have HL2 : Hid (bestE zs = lsI (F0 zs) (m0 (F0 zs)) 8 0 (zs.length - 1) 0) := Lib.hid (by rw [HLE.out, if_pos hE])
    subst hE
    obtain ⟨n1, hn1⟩ : ∃ n1, n1 = zs.length - 1 := ⟨_, rfl⟩
    have HAL : Hid (∀ W, Calls Try.prog 65 #[.int .i64 (zs.length : Nat)] W fun e w' => e = .returned (spV 0 (n1 : Nat)) ∧ Fut W w') := Lib.hid (fun W => by
      have h := allOf_any zs.length (by omega) W
      rw [show ((zs.length : Nat) : Int) - 1 = ((n1 : Nat) : Int) by omega] at h
      exact h)
    have HN := Lib.hid (And.intro hz.1 (And.intro hz.2.1 hn1))
    clear hz hn1 HCK HBC HLE HZ
    go_wp2_with fail
    refine HB2.out.mono ?_
    rintro _ w1 ⟨F, mn, f, rfl, F1, hT, hM, hBd, hD⟩
    have HLS : Hid (∀ W, Fut w1 W → Calls Try.prog 64 #[.pointer (some ⟨w.heap.size + 1, 0, none⟩), spV 0 (n1 : Nat), .int .i64 0] W fun e w' => ∃ v, e = .returned v ∧ Owns w' W.heap.size v (bestE zs) ∧ Fut W w') := Lib.hid (fun W k => by
      obtain ⟨h1, h2, h3⟩ := HN.out
      have hFF := done_F h2 hD
      have hmm : ∀ a b, a ≤ b → b < zs.length → mn a b = m0 (F0 zs) a b := fun a b h4 h5 => done_m h2 hD 9 a b h4 h5 (by omega)
      have := list_any (w.heap.size + 1) (w.heap.size + 2) zs.length (by omega) h2 F mn hBd.le (fun a b h4 h5 => by rw [hFF a b h4 h5]; exact F0_in zs a b h4) (fun a b h4 h5 => by rw [hFF a b h4 h5]; have := F0_len zs a b; omega) 8 0 n1 (by omega) (by omega) (by omega) 0 (by omega) (by omega) W (hT.fut k) (hM.fut k)
      rw [lsI_congr hFF hmm (F0_in zs) 8 0 n1 (by omega) (by omega) 0, h3, ← HL2.out] at this
      rw [h3]
      exact this)
    clear hT hM hBd hD
    go_wp2_with fail
    refine (HAL.out _).mono ?_
    rintro _ w2 ⟨rfl, F2⟩
    go_wp2_with fail
    refine (HLS.out _ F2).mono ?_
    rintro _ w3 ⟨v, rfl, hO, F3⟩
    obtain ⟨l, c, rfl, hI⟩ := hO.ints
    go_wp2_with fail
    go_ret2
    exact ⟨l, c, rfl, hI, (F1.trans F2).trans F3⟩
  · have HL2 : Hid (bestE zs = []) := Lib.hid (by rw [HLE.out, if_neg hE])
    go_wp2_with fail
    go_ret2
    exact ⟨none, 0, by rw [HL2.out]; rfl, by rw [HL2.out]; exact nil_ints _ _, Fut.rfl⟩
end
section
set_option maxRecDepth 100000 in
theorem count_any (a : Option Addr) (cap : Nat) (zs : List Int) (w : World) (hA : IntsAt w a zs) (hlc : zs.length ≤ cap) (hl : zs.length ≤ 1000) :
    Calls Try.prog 22 #[.slice a zs.length cap] w fun e w' => e = .returned (.tuple #[.int .i64 (countE zs), .int .i64 (chkL zs)]) ∧ Fut w w' := by
  have HCK := Lib.hid (check_any a cap zs w hA hl)
  have HBC := Lib.hid (best_call a cap zs w hA hlc)
  have HLE : Hid (countE zs = if chkL zs = 0 then m0 (F0 zs) 0 (zs.length - 1) else 0) := Lib.hid rfl
  have HZ := Lib.hid (chkL_zero (zs := zs))
  generalize chkL zs = E at *
  have hlx : (zs.length : Int) ≤ 1000 := by omega
  clear hA
  go_enter Try.func22, Try.ntmps22
  go_wp2_with fail
  refine HCK.out.mono ?_
  rintro _ _ ⟨rfl, rfl⟩
  by_cases hE : E = 0
  · have HB2 := Lib.hid (HBC.out hE)
    have hz := HZ.out hE
    have HL2 : Hid (countE zs = m0 (F0 zs) 0 (zs.length - 1)) := Lib.hid (by rw [HLE.out, if_pos hE])
    subst hE
    obtain ⟨n1, hn1⟩ : ∃ n1, n1 = zs.length - 1 := ⟨_, rfl⟩
    have HAL : Hid (∀ W, Calls Try.prog 65 #[.int .i64 (zs.length : Nat)] W fun e w' => e = .returned (spV 0 (n1 : Nat)) ∧ Fut W w') := Lib.hid (fun W => by
      have h := allOf_any zs.length (by omega) W
      rw [show ((zs.length : Nat) : Int) - 1 = ((n1 : Nat) : Int) by omega] at h
      exact h)
    have HN := Lib.hid (And.intro hz.1 (And.intro hz.2.1 hn1))
    clear hz hn1 HCK HBC HLE HZ
    go_wp2_with fail
    refine HB2.out.mono ?_
    rintro _ w1 ⟨F, mn, f, rfl, F1, hT, hM, hBd, hD⟩
    have HLS : Hid (∀ W, Fut w1 W → Calls Try.prog 67 #[.pointer (some ⟨w.heap.size + 1, 64, none⟩), spV 0 (n1 : Nat)] W fun e w' => e = .returned (.int .i64 (countE zs)) ∧ Fut W w') := Lib.hid (fun W k => by
      obtain ⟨h1, h2, h3⟩ := HN.out
      have hmm : mn 0 n1 = m0 (F0 zs) 0 n1 := done_m h2 hD 9 0 n1 (by omega) (by omega) (by omega)
      rw [HL2.out, ← h3, ← hmm]
      exact of_any (w.heap.size + 1) 64 0 n1 (by omega) (by omega) (mn 0 n1) W (hM.fut k 0 n1 (by omega) (by omega)).1)
    clear hT hM hBd hD
    go_upto_region 5 with fail
    have HA2 := Lib.hid (fun p : After w1 => HAL.out p.w')
    have HB3 := Lib.hid (fun p : After w1 => HLS.out p.w' p.F)
    have HF1 := Lib.hid F1
    clear F1
    refine region_fut (by kernel_rfl) (by kernel_rfl) ?_
    repeat (go_big_quiet_step (first | with_reducible rfl | (with_reducible (go_at_call 65; rename_i p; exact after_of (HA2.out p))) | (with_reducible (go_at_call 67; rename_i p; exact after_of (HB3.out p)))))
    refine wpQuiet_nil ?_
    intro w4 hw'
    have F4 := after_fut hw'
    clear hw'
    go_wp2_with fail
    go_ret2
    exact ⟨rfl, HF1.out.trans F4⟩
  · have HL2 : Hid (countE zs = 0) := Lib.hid (by rw [HLE.out, if_neg hE])
    go_wp2_with fail
    go_ret2
    exact ⟨by rw [HL2.out]; rfl, Fut.rfl⟩
end
section
def treesE (n : Int) : Int := if 1 ≤ n ∧ n ≤ 8 then m0 FA 0 (n.toNat - 1) else 0
def kindE (n : Int) : Int := if 1 ≤ n ∧ n ≤ 8 then 0 else 1
set_option maxRecDepth 100000 in
theorem trees_any (n : Int) (w : World) : Calls Try.prog 31 #[.int .i64 n] w fun e w' => e = .returned (.tuple #[.int .i64 (treesE n), .int .i64 (kindE n)]) ∧ Fut w w' := by
  have HKI := Lib.hid (kinds_any n w)
  by_cases hn : 1 ≤ n ∧ n ≤ 8
  · have HTE : Hid (treesE n = m0 FA 0 (n.toNat - 1)) := Lib.hid (by unfold treesE; rw [if_pos hn])
    have HKE : Hid (kindE n = 0) := Lib.hid (by unfold kindE; rw [if_pos hn])
    rw [decide_eq_true hn] at HKI
    obtain ⟨m, rfl⟩ : ∃ m : Nat, n = m := ⟨n.toNat, by omega⟩
    rw [Int.toNat_natCast] at HTE
    have hn1 : 1 ≤ m := by omega
    have hn2 : m ≤ 8 := by omega
    clear hn
    obtain ⟨n1, hn11⟩ : ∃ n1, n1 = m - 1 := ⟨_, rfl⟩
    rw [← hn11] at HTE
    have HAL : Hid (∀ W, Calls Try.prog 65 #[.int .i64 (m : Nat)] W fun e w' => e = .returned (spV 0 (n1 : Nat)) ∧ Fut W w') := Lib.hid (fun W => by
      have h := allOf_any m (by omega) W
      rw [show ((m : Nat) : Int) - 1 = ((n1 : Nat) : Int) by omega] at h
      exact h)
    have HEV := Lib.hid (fun W => every_any m hn1 hn2 W)
    have hnb : n1 < m := by omega
    clear hn11
    rw [HKE.out]
    have HFU : Hid (Fut w w.drew) := Lib.hid (below_drewN Fut.rfl 1)
    go_enter Try.func31, Try.ntmps31
    go_wp2_with fail
    refine HKI.out.mono ?_
    rintro _ _ ⟨rfl, rfl⟩
    go_upto_region 3 with fail
    refine wp_region_held_drew (S := (fun _ => True)) (by kernel_rfl) ?_ (fun hHeld => ?_)
    · exact trivial
    generalize w.drew = u0 at *
    refine wpAnyH_take (i := 0) (oi := { dst := some 7, op := Op.move (Operand.tmp 0), type := 3, pos := "sieve.go:84", after := #[], guard := none }) (v := ?_) rfl (by kernel_rfl) (by kernel_rfl) (by kernel_rfl) (fun _ _ _ h => h) (Or.inl ⟨by rfl, ?_⟩) (by assumption) ?_
    rotate_left
    · (intro w hSw; skip; go_simp <;> with_reducible rfl)
    try simp only [Act.put, List.setIfInBounds_toArray, List.set_cons_zero, List.set_cons_succ]
    refine wpAnyH_take (i := 4) (oi := { dst := some 11, op := Op.move (Operand.tmp 0), type := 3, pos := "sieve.go:84", after := #[], guard := none }) (v := ?_) rfl (by kernel_rfl) (by kernel_rfl) (by kernel_rfl) (fun _ _ _ h => h) (Or.inl ⟨by rfl, ?_⟩) (by assumption) ?_
    rotate_left
    · (intro w hSw; skip; go_simp <;> with_reducible rfl)
    try simp only [Act.put, List.setIfInBounds_toArray, List.set_cons_zero, List.set_cons_succ]
    refine wpAnyH_ready (rs := [1]) (by kernel_rfl) (by simp) ?_
    refine AllReadyH.cons (o := { dst := some 8, op := Op.call { callee := Callee.value (Operand.func 72), args := #[Operand.tmp 7], argTypes := #[3] }, type := 64, pos := "sieve.go:84", after := #[{ on := 0, ground := Ground.data }], guard := none }) rfl (fun K hK => ?_) AllReadyH.nil
    go_simp
    go_at_call 72
    refine (HEV.out u0).mono ?_
    rintro _ v1 ⟨rfl, T1, F, mn, _, hM, _, hD⟩
    have G1 := Lib.hid ((Fut.rfl).trans T1)
    obtain ⟨g, hg⟩ : ∃ g, g = u0.heap.size := ⟨_, rfl⟩
    rw [← hg] at hM ⊢
    have M1 := Lib.hid hM
    have D1 := Lib.hid hD
    replace T1 := Lib.hid T1
    clear hM hD hg
    try go_wp2_with fail
    refine hK.out _ _ ?_ (fun hHeld => ?_)
    · exact trivial
    clear hK K
    try simp only [Act.put, List.setIfInBounds_toArray, List.set_cons_zero, List.set_cons_succ]
    refine wpAnyH_take (i := 2) (oi := { dst := some 9, op := Op.nilCheck (Operand.tmp 8), type := 0, pos := "sieve.go:84", after := #[{ on := 1, ground := Ground.data }], guard := none }) (v := ?_) rfl (by kernel_rfl) (by kernel_rfl) (by kernel_rfl) (fun _ _ _ h => h) (Or.inl ⟨by rfl, ?_⟩) (by assumption) ?_
    rotate_left
    · (intro w hSw; skip; go_simp <;> with_reducible rfl)
    try simp only [Act.put, List.setIfInBounds_toArray, List.set_cons_zero, List.set_cons_succ]
    refine wpAnyH_take (i := 3) (oi := { dst := some 10, op := Op.fieldAddr 81 (Operand.tmp 9) 1, type := 0, pos := "sieve.go:84", after := #[{ on := 2, ground := Ground.data }], guard := none }) (v := ?_) rfl (by kernel_rfl) (by kernel_rfl) (by kernel_rfl) (fun _ _ _ h => h) (Or.inl ⟨by rfl, ?_⟩) (by assumption) ?_
    rotate_left
    · (intro w hSw; skip; go_simp <;> with_reducible rfl)
    try simp only [Act.put, List.setIfInBounds_toArray, List.set_cons_zero, List.set_cons_succ]
    refine wpAnyH_ready (rs := [5]) (by kernel_rfl) (by simp) ?_
    refine AllReadyH.cons (o := { dst := some 12, op := Op.call { callee := Callee.value (Operand.func 65), args := #[Operand.tmp 11], argTypes := #[3] }, type := 69, pos := "sieve.go:84", after := #[{ on := 4, ground := Ground.data }, { on := 1, ground := Ground.chain }], guard := none }) rfl (fun K hK => ?_) AllReadyH.nil
    go_simp
    go_at_call 65
    refine (HAL.out v1).mono ?_
    rintro _ v5 ⟨rfl, T5⟩
    have G5 := Lib.hid ((G1.out).trans T5)
    replace T5 := Lib.hid T5
    try go_wp2_with fail
    refine hK.out _ _ ?_ (fun hHeld => ?_)
    · exact trivial
    clear hK K
    try simp only [Act.put, List.setIfInBounds_toArray, List.set_cons_zero, List.set_cons_succ]
    refine wpAnyH_ready (rs := [6]) (by kernel_rfl) (by simp) ?_
    refine AllReadyH.cons (o := { dst := some 13, op := Op.call { callee := Callee.value (Operand.func 67), args := #[Operand.tmp 10, Operand.tmp 12], argTypes := #[79, 69] }, type := 3, pos := "sieve.go:84", after := #[{ on := 3, ground := Ground.data }, { on := 5, ground := Ground.data }, { on := 5, ground := Ground.chain }], guard := none }) rfl (fun K hK => ?_) AllReadyH.nil
    have HO := Lib.hid (of_any g 64 0 n1 (by omega) (by omega) (mn 0 n1) v5 ((M1.out.fut (T5.out)) 0 n1 (by omega) (by omega)).1)
    go_simp
    go_at_call 67
    refine HO.out.mono ?_
    rintro _ v6 ⟨rfl, T6⟩
    have G6 := Lib.hid ((G5.out).trans T6)
    have HVV : Hid (mn 0 n1 = treesE m) := Lib.hid (by rw [HTE.out]; exact all_m hn2 D1.out 9 0 n1 (by omega) (by omega) (by omega))
    clear HO T6
    try go_wp2_with fail
    refine hK.out _ _ ?_ (fun hHeld => ?_)
    · exact trivial
    clear hK K
    try simp only [Act.put, List.setIfInBounds_toArray, List.set_cons_zero, List.set_cons_succ]
    refine wpAnyH_ready (rs := [7]) (by kernel_rfl) (by simp) ?_
    refine AllReadyH.cons (o := { dst := some 2, op := Op.assign (Operand.tmp 13), type := 3, pos := "sieve.go:84", after := #[{ on := 6, ground := Ground.data }, { on := 6, ground := Ground.chain }, { on := 0, ground := Ground.phase }, { on := 1, ground := Ground.phase }, { on := 2, ground := Ground.phase }, { on := 3, ground := Ground.phase }, { on := 4, ground := Ground.phase }, { on := 5, ground := Ground.phase }, { on := 6, ground := Ground.phase }], guard := none }) rfl (fun K hK => ?_) AllReadyH.nil
    go_simp
    refine hK.out _ _ ?_ (fun hHeld => ?_)
    · exact trivial
    clear hK K
    try simp only [Act.put, List.setIfInBounds_toArray, List.set_cons_zero, List.set_cons_succ]
    refine wpAnyH_ready (rs := [8]) (by kernel_rfl) (by simp) ?_
    refine AllReadyH.cons (o := { dst := some 3, op := Op.assign (Operand.const (Value.int IntKind.i64 0)), type := 24, pos := "sieve.go:84", after := #[{ on := 7, ground := Ground.chain }, { on := 0, ground := Ground.phase }, { on := 1, ground := Ground.phase }, { on := 2, ground := Ground.phase }, { on := 3, ground := Ground.phase }, { on := 4, ground := Ground.phase }, { on := 5, ground := Ground.phase }, { on := 6, ground := Ground.phase }, { on := 7, ground := Ground.phase }], guard := none }) rfl (fun K hK => ?_) AllReadyH.nil
    go_simp
    refine hK.out _ _ ?_ (fun hHeld => ?_)
    · exact trivial
    clear hK K
    try simp only [Act.put, List.setIfInBounds_toArray, List.set_cons_zero, List.set_cons_succ]
    refine wpAnyH_done (by kernel_rfl) ?_ _
    go_wp2_with fail
    go_ret2
    exact ⟨by rw [← HVV.out]; rfl, HFU.out.trans G6.out⟩
  · have HTE : Hid (treesE n = 0) := Lib.hid (by unfold treesE; rw [if_neg hn])
    have HKE : Hid (kindE n = 1) := Lib.hid (by unfold kindE; rw [if_neg hn])
    rw [decide_eq_false hn] at HKI
    rw [HTE.out, HKE.out]
    clear hn
    go_enter Try.func31, Try.ntmps31
    go_wp2_with fail
    refine HKI.out.mono ?_
    rintro _ _ ⟨rfl, rfl⟩
    go_wp2_with fail
    go_ret2
    exact ⟨rfl, Fut.rfl⟩
end
section
def treeE (n q : Int) : List Int := if 1 ≤ n ∧ n ≤ 8 then (if inB (m0 FA 0 (n.toNat - 1)) q = true then lsI FA (m0 FA) 8 0 (n.toNat - 1) q else []) else []
def treeC (n q : Int) : Int := if 1 ≤ n ∧ n ≤ 8 then (if inB (m0 FA 0 (n.toNat - 1)) q = true then 0 else 2) else 1
set_option maxRecDepth 100000 in
theorem tree_any (n q : Int) (w : World) : Calls Try.prog 33 #[.int .i64 n, .int .i64 q] w fun e w' => TupL (treeC n q) (treeE n q) w e w' := by
  have HKI := Lib.hid (kinds_any n w)
  by_cases hn : 1 ≤ n ∧ n ≤ 8
  · have HTE : Hid (treeE n q = if inB (m0 FA 0 (n.toNat - 1)) q = true then lsI FA (m0 FA) 8 0 (n.toNat - 1) q else []) := Lib.hid (by unfold treeE; rw [if_pos hn])
    have HKE : Hid (treeC n q = if inB (m0 FA 0 (n.toNat - 1)) q = true then 0 else 2) := Lib.hid (by unfold treeC; rw [if_pos hn])
    rw [decide_eq_true hn] at HKI
    obtain ⟨m, rfl⟩ : ∃ m : Nat, n = m := ⟨n.toNat, by omega⟩
    rw [Int.toNat_natCast] at HTE HKE
    have hn1 : 1 ≤ m := by omega
    have hn2 : m ≤ 8 := by omega
    clear hn
    obtain ⟨n1, hn11⟩ : ∃ n1, n1 = m - 1 := ⟨_, rfl⟩
    rw [← hn11] at HTE HKE
    have HAL : Hid (∀ W, Calls Try.prog 65 #[.int .i64 (m : Nat)] W fun e w' => e = .returned (spV 0 (n1 : Nat)) ∧ Fut W w') := Lib.hid (fun W => by
      have h := allOf_any m (by omega) W
      rw [show ((m : Nat) : Int) - 1 = ((n1 : Nat) : Int) by omega] at h
      exact h)
    have HEV := Lib.hid (every_any m hn1 hn2 w)
    have hnb : n1 < m := by omega
    clear hn11
    go_enter Try.func33, Try.ntmps33
    go_wp2_with fail
    refine HKI.out.mono ?_
    rintro _ _ ⟨rfl, rfl⟩
    go_wp2_with fail
    refine HEV.out.mono ?_
    rintro _ w1 ⟨rfl, F1, F, mn, hT, hM, hBd, hD⟩
    obtain ⟨V, hV⟩ : ∃ V, V = m0 FA 0 n1 := ⟨_, rfl⟩
    rw [← hV] at HTE HKE
    have HVB : Hid (V ≤ 1000000) := Lib.hid (by rw [hV, ← all_m hn2 hD 9 0 n1 (by omega) (by omega) (by omega)]; exact (hBd.le 0 n1).2)
    have HOV : Hid (∀ W, Fut w1 W → Calls Try.prog 67 #[.pointer (some ⟨w.heap.size, 64, none⟩), spV 0 (n1 : Nat)] W fun e w' => e = .returned (.int .i64 V) ∧ Fut W w') := Lib.hid (fun W k => by
      have hmm : mn 0 n1 = V := by rw [hV]; exact all_m hn2 hD 9 0 n1 (by omega) (by omega) (by omega)
      rw [← hmm]
      exact of_any w.heap.size 64 0 n1 (by omega) (by omega) (mn 0 n1) W (hM.fut k 0 n1 (by omega) (by omega)).1)
    have HLS : Hid (0 ≤ q → q < V → ∀ W, Fut w1 W → Calls Try.prog 64 #[.pointer (some ⟨w.heap.size, 0, none⟩), spV 0 (n1 : Nat), .int .i64 q] W fun e w' => ∃ v, e = .returned v ∧ Owns w' W.heap.size v (lsI FA (m0 FA) 8 0 n1 q) ∧ Fut W w') := Lib.hid (fun hq0 hq1 W k => by
      have hFF := all_F hn2 hD
      have hmm : ∀ a b, a ≤ b → b < m → mn a b = m0 FA a b := fun a b h4 h5 => all_m hn2 hD 9 a b h4 h5 (by omega)
      have := list_any w.heap.size (w.heap.size + 1) m (by omega) hn2 F mn hBd.le (fun a b h4 h5 => by rw [hFF a b h4 h5]; exact FA_in a b h4) (fun a b h4 h5 => by rw [hFF a b h4 h5]; unfold FA; rw [svP_len]; omega) 8 0 n1 (by omega) hnb (by omega) q hq0 (by have := HVB.out; omega) W (hT.fut k) (hM.fut k)
      rw [lsI_congr hFF hmm FA_in 8 0 n1 (by omega) hnb q] at this
      exact this)
    have HIX := Lib.hid (fun W => isIndex_any q V W)
    clear hT hM hBd hD HEV hV
    go_upto_region 4 with fail
    have HA2 := Lib.hid (fun p : After w1 => HAL.out p.w')
    have HB3 := Lib.hid (fun p : After w1 => HOV.out p.w' p.F)
    have HC3 := Lib.hid (fun p : After w1 => HIX.out p.w')
    have HF1 := Lib.hid F1
    clear F1
    refine region_fut (by kernel_rfl) (by kernel_rfl) ?_
    repeat (go_big_quiet_step (first | with_reducible rfl | (with_reducible (go_at_call 65; rename_i p; exact after_of (HA2.out p))) | (with_reducible (go_at_call 67; rename_i p; exact after_of (HB3.out p))) | (with_reducible (go_at_call 74; rename_i p; exact after_same (HC3.out p)))))
    refine wpQuiet_nil ?_
    intro w4 hw'
    have HF4 := Lib.hid (after_fut hw')
    clear hw' HA2 HB3 HC3 HIX HOV
    cases hib : inB V q with
    | true =>
      rw [hib] at HTE HKE
      have hqq : 0 ≤ q ∧ q < V := by unfold inB at hib; simpa using hib
      have HL2 := Lib.hid (HLS.out hqq.1 hqq.2)
      clear HLS hqq
      go_wp2_with fail
      refine (HAL.out _).mono ?_
      rintro _ w5 ⟨rfl, F5⟩
      go_wp2_with fail
      refine (HL2.out _ (HF4.out.trans F5)).mono ?_
      rintro _ w6 ⟨v, rfl, hO, F6⟩
      obtain ⟨l, c, rfl, hI⟩ := hO.ints
      go_wp2_with fail
      go_ret2
      have e1 := HTE.out
      have e2 := HKE.out
      simp only [if_true] at e1 e2
      rw [e1, e2]
      exact ⟨l, c, rfl, hI, (HF1.out.trans (HF4.out.trans F5)).trans F6⟩
    | false =>
      rw [hib] at HTE HKE
      go_wp2_with fail
      go_ret2
      have e1 := HTE.out
      have e2 := HKE.out
      simp only [Bool.false_eq_true, if_false] at e1 e2
      rw [e1, e2]
      exact ⟨none, 0, rfl, nil_ints _ _, HF1.out.trans HF4.out⟩
  · have HTE : Hid (treeE n q = []) := Lib.hid (by unfold treeE; rw [if_neg hn])
    have HKE : Hid (treeC n q = 1) := Lib.hid (by unfold treeC; rw [if_neg hn])
    rw [decide_eq_false hn] at HKI
    rw [HTE.out, HKE.out]
    clear hn
    go_enter Try.func33, Try.ntmps33
    go_wp2_with fail
    refine HKI.out.mono ?_
    rintro _ _ ⟨rfl, rfl⟩
    go_wp2_with fail
    go_ret2
    exact ⟨none, 0, rfl, nil_ints _ _, Fut.rfl⟩
end
section
theorem bst_ne {G : Nat → Int} {a : Nat} : ∀ i, 0 < i → (bst G a i).2 ≠ []
  | i + 1, _ => by
    rw [bst]
    split
    · simp
    · rename_i h
      split
      · simp
      · exact fun e => h (.inl e)
theorem F0_ne (zs : List Int) (a b : Nat) (h : a < b) : F0 zs a b ≠ [] := bst_ne _ (by show 0 < b - a; omega)
/-- the tops' error and the smallest and the greatest top. -/
def topsC (zs : List Int) : Int := if chkL zs = 0 then (if zs.length = 1 then 2 else 0) else chkL zs
def topsE (zs : List Int) : Int × Int := if topsC zs = 0 then (nth (F0 zs 0 (zs.length - 1)) 0, nth (F0 zs 0 (zs.length - 1)) ((F0 zs 0 (zs.length - 1)).length - 1)) else (0, 0)
set_option maxRecDepth 100000 in
theorem tops_any (a : Option Addr) (cap : Nat) (zs : List Int) (w : World) (hA : IntsAt w a zs) (hlc : zs.length ≤ cap) (hl : zs.length ≤ 1000) :
    Calls Try.prog 27 #[.slice a zs.length cap] w fun e w' => e = .returned (.tuple #[.int .i64 (topsE zs).1, .int .i64 (topsE zs).2, .int .i64 (topsC zs)]) ∧ Fut w w' := by
  have HCK := Lib.hid (check_any a cap zs w hA hl)
  have HBC := Lib.hid (best_call a cap zs w hA hlc)
  have HCC : Hid (topsC zs = if chkL zs = 0 then (if zs.length = 1 then 2 else 0) else chkL zs) := Lib.hid rfl
  have HLE : Hid (topsE zs = if topsC zs = 0 then (nth (F0 zs 0 (zs.length - 1)) 0, nth (F0 zs 0 (zs.length - 1)) ((F0 zs 0 (zs.length - 1)).length - 1)) else (0, 0)) := Lib.hid rfl
  have HZ := Lib.hid (chkL_zero (zs := zs))
  generalize chkL zs = E at *
  have hlx : (zs.length : Int) ≤ 1000 := by omega
  clear hA
  go_enter Try.func27, Try.ntmps27
  go_wp2_with fail
  refine HCK.out.mono ?_
  rintro _ _ ⟨rfl, rfl⟩
  by_cases hE : E = 0
  · have HB2 := Lib.hid (HBC.out hE)
    have hz := HZ.out hE
    by_cases h1 : zs.length = 1
    · have HC2 : Hid (topsC zs = 2) := Lib.hid (by rw [HCC.out, if_pos hE, if_pos h1])
      have HL2 : Hid (topsE zs = (0, 0)) := Lib.hid (by rw [HLE.out, if_neg (by rw [HC2.out]; decide)])
      have h1x : (zs.length : Int) = 1 := by omega
      subst hE
      go_wp2_with fail
      go_ret3
      exact ⟨by rw [HL2.out, HC2.out]; rfl, Fut.rfl⟩
    have h1x : ¬ (zs.length : Int) = 1 := by omega
    have HC2 : Hid (topsC zs = 0) := Lib.hid (by rw [HCC.out, if_pos hE, if_neg h1])
    obtain ⟨L, hL⟩ : ∃ L, L = F0 zs 0 (zs.length - 1) := ⟨_, rfl⟩
    have HL2 : Hid (topsE zs = (nth L 0, nth L (L.length - 1))) := Lib.hid (by rw [HLE.out, if_pos HC2.out, hL])
    subst hE
    obtain ⟨n1, hn1⟩ : ∃ n1, n1 = zs.length - 1 := ⟨_, rfl⟩
    have HAL : Hid (∀ W, Calls Try.prog 65 #[.int .i64 (zs.length : Nat)] W fun e w' => e = .returned (spV 0 (n1 : Nat)) ∧ Fut W w') := Lib.hid (fun W => by
      have h := allOf_any zs.length (by omega) W
      rw [show ((zs.length : Nat) : Int) - 1 = ((n1 : Nat) : Int) by omega] at h
      exact h)
    have HN := Lib.hid (And.intro hz.1 (And.intro hz.2.1 (And.intro hn1 hL)))
    have hLp : 0 < L.length ∧ L.length ≤ 8 := by
      have e1 := F0_len zs 0 (zs.length - 1)
      have e2 := F0_ne zs 0 (zs.length - 1) (by omega)
      rw [← hL] at e1 e2
      have := List.length_pos_iff.2 e2
      omega
    clear hz hn1 HCK HBC HLE HZ HCC hL h1
    go_wp2_with fail
    refine HB2.out.mono ?_
    rintro _ w1 ⟨F, mn, f, rfl, F1, hT, hM, hBd, hD⟩
    obtain ⟨la, lc, e1, e2, e3⟩ := hT 0 n1 (by omega) (by have := HN.out; omega)
    have hFL : F 0 n1 = L := by
      obtain ⟨k1, k2, k3, k4⟩ := HN.out
      rw [k4, ← k3]
      exact done_F k2 hD 0 n1 (by omega) (by omega)
    rw [hFL] at e1 e3
    have HOL : Hid (∀ W, Fut w1 W → Calls Try.prog 69 #[.pointer (some ⟨w.heap.size + 1, 0, none⟩), spV 0 (n1 : Nat)] W fun e w' => e = .returned (.slice la L.length lc) ∧ Fut W w') := Lib.hid (fun W k => ofL_any (w.heap.size + 1) 0 0 n1 (by omega) (by have := HN.out; omega) la L.length lc W ((RowKit.Below.cell k (p := ⟨w.heap.size + 1, 0 + 0 * 8 + n1, none⟩) (World.block_lt_of_cell? _ _ e1)).trans e1))
    obtain ⟨la2, lc2, e4, hI⟩ := e3.ints
    obtain ⟨rfl, _, rfl⟩ : la = la2 ∧ L.length = L.length ∧ lc = lc2 := by simpa using e4
    have HI := Lib.hid hI
    clear hT hM hBd hD e1 e2 e3 e4 hI hFL
    go_upto_region 7 with fail
    have HA2 := Lib.hid (fun p : After w1 => HAL.out p.w')
    have HB3 := Lib.hid (fun p : After w1 => HOL.out p.w' p.F)
    have HF1 := Lib.hid F1
    clear F1
    refine region_fut (by kernel_rfl) (by kernel_rfl) ?_
    repeat (go_big_quiet_step (first | with_reducible rfl | (with_reducible (go_at_call 65; rename_i p; exact after_of (HA2.out p))) | (with_reducible (go_at_call 69; rename_i p; exact after_of (HB3.out p)))))
    refine wpQuiet_nil ?_
    intro w4 hw'
    have F4 := after_fut hw'
    have HF4 := Lib.hid F4
    obtain ⟨b, o, rfl, hb, p0⟩ := (HI.out.fut F4) 0 hLp.1
    obtain ⟨b', o', e5, _, p1⟩ := (HI.out.fut F4) (L.length - 1) (by omega)
    obtain ⟨rfl, rfl⟩ : b = b' ∧ o = o' := by simpa using e5
    rw [Nat.add_zero] at p0
    clear hw' F4 HA2 HB3 e5 HAL HOL HN
    go_upto_region 8 with fail
    obtain ⟨j, hj⟩ : ∃ j, j = L.length - 1 := ⟨_, rfl⟩
    rw [← hj] at p1 HL2
    have hw1 : IntKind.i64.wrap ((L.length : Int) - 1) = ((j : Nat) : Int) := by rw [IntWalk.i64_in _ ⟨by omega, by omega⟩]; omega
    have hjl : j < L.length := by omega
    have hjx : (j : Int) < L.length := by omega
    have h0x : (0 : Int) < L.length := by omega
    generalize nth L 0 = x at *
    generalize nth L j = y at *
    have y0 := cell_after p0
    have y1 := cell_after p1
    clear hj
    refine region_fut (by kernel_rfl) (by kernel_rfl) ?_
    repeat (go_big_quiet_step (first | with_reducible rfl))
    refine wpQuiet_nil ?_
    intro w5 hw'
    have HF5 := Lib.hid (after_fut hw')
    clear hw' y0 y1 p0 p1
    go_wp2_with fail
    go_ret3
    exact ⟨by rw [HL2.out, HC2.out]; rfl, HF1.out.trans (HF4.out.trans HF5.out)⟩
  · have HC2 : Hid (topsC zs = E) := Lib.hid (by rw [HCC.out, if_neg hE])
    have HL2 : Hid (topsE zs = (0, 0)) := Lib.hid (by rw [HLE.out, if_neg (by rw [HC2.out]; exact hE)])
    go_wp2_with fail
    go_ret3
    exact ⟨by rw [HL2.out, HC2.out]; rfl, Fut.rfl⟩
end
section
/-- the sieves that lead to a kind, from a span on. -/
def askI (k : Int) : Int → Int → List Int → List Int
  | _, _, [] => []
  | x, y, s :: zs => if x ≤ s ∧ s < y then s :: (if k ≤ s then askI k x s zs else askI k (s + 1) y zs) else askI k x y zs
theorem askI_in {k x y : Int} {zs : List Int} {i : Nat} (hi : i < zs.length) {s : Int} (hs : nth zs i = s) (h : x ≤ s ∧ s < y) : askI k x y (zs.drop i) = s :: (if k ≤ s then askI k x s (zs.drop (i + 1)) else askI k (s + 1) y (zs.drop (i + 1))) := by
  rw [nth_drop zs i hi, askI, hs, if_pos h]
theorem askI_out {k x y : Int} {zs : List Int} {i : Nat} (hi : i < zs.length) {s : Int} (hs : nth zs i = s) (h : ¬ (x ≤ s ∧ s < y)) : askI k x y (zs.drop i) = askI k x y (zs.drop (i + 1)) := by
  rw [nth_drop zs i hi, askI, hs, if_neg h]
set_option maxRecDepth 100000 in
set_option maxHeartbeats 4000000 in
theorem asked_any (n : Nat) (hn1 : 1 ≤ n) (hn : n ≤ 8) (a : Option Addr) (cap : Nat) (zs : List Int) (k : Int) (w : World) (hA : IntsAt w a zs) (hl : zs.length ≤ 1000) :
    Calls Try.prog 79 #[.int .i64 (n : Nat), .slice a zs.length cap, .int .i64 k] w fun e w' => ∃ v, e = .returned v ∧ Owns w' w.heap.size v (askI k 0 ((n : Int) - 1) zs) ∧ Fut w w' := by
  obtain ⟨i0, hi0, hz0, hz1, hz2⟩ := info_parts info3
  have HAL := Lib.hid (allOf_any n (by omega) w)
  have HIN := Lib.hid (fun W (h : Fut w W) => hA.fut h)
  have hlx : (zs.length : Int) ≤ 1000 := by omega
  obtain ⟨m, hm⟩ : ∃ m : Int, m = (n : Int) - 1 := ⟨_, rfl⟩
  rw [← hm] at HAL ⊢
  have hmb : 0 ≤ m ∧ m ≤ 100 := by omega
  clear hA hm
  go_enter Try.func79, Try.ntmps79
  go_wp2_with fail
  refine HAL.out.mono ?_
  rintro _ w1 ⟨rfl, F1⟩
  go_upto_region 3 with fail
  obtain ⟨H, hH⟩ : ∃ H, H = w1.heap.size := ⟨_, rfl⟩
  obtain ⟨w2, hw2⟩ : ∃ w2, w2 = w1.alloc (Obj.cells #[Value.int .i64 0, Value.int .i64 m] 69) := ⟨_, rfl⟩
  have HB2 : Hid (w2.heap[H]? = some (.cells #[.int .i64 0, .int .i64 m] 69)) := Lib.hid (by rw [hH, hw2]; exact World.alloc_heap_new w1 _)
  have HF2 : Hid (Fut w w2) := Lib.hid (F1.trans (by rw [hw2]; exact Fut.alloc _ _))
  have HZ2 : Hid (w2.heap.size = H + 1 ∧ w.heap.size ≤ H) := Lib.hid ⟨by rw [hw2, World.size_alloc, hH], by rw [hH]; exact RowKit.Below.size F1⟩
  rw [← hw2, ← hH]
  clear hw2 hH F1 HAL
  go_wp2_with fail
  go_loopw [7, 15] (fun lv iv wr => ∃ (i : Nat) (oa : Option Addr) (q oc : Nat) (x y : Int) (acc : List Int), i ≤ zs.length ∧ iv = .int .i64 (i : Nat) ∧ lv = .slice oa q oc ∧ (0 ≤ x ∧ x ≤ 100 ∧ y ≤ 100) ∧ Hid (q = acc.length ∧ q ≤ i ∧ Owns wr (H + 1) (.slice oa q oc) acc) ∧ Hid (wr.heap[H]? = some (.cells #[.int .i64 x, .int .i64 y] 69)) ∧ Hid (acc ++ askI k x y (zs.drop i) = askI k 0 m zs) ∧ Hid (Fut w wr) ∧ Hid (H + 1 ≤ wr.heap.size)) (fun _ iv _ => zs.length - (intOf iv).toNat)
  case atStart => exact ⟨0, none, 0, 0, 0, m, [], by omega, rfl, rfl, ⟨by omega, by omega, by omega⟩, Lib.hid ⟨rfl, Nat.le_refl _, World.ownsRow_nil _ _ _ _⟩, HB2, Lib.hid (by simp), HF2, Lib.hid (by have := HZ2.out; omega)⟩
  case round =>
    obtain ⟨i, oa, q, oc, x, y, acc, hi, rfl, rfl, hxy, HO, HBX, HP, HF, HZ⟩ := hrel
    by_cases hil : i < zs.length
    · have hix : (i : Int) < zs.length := by omega
      obtain ⟨b, o, rfl, hb, c⟩ := HIN.out wr HF.out i hil
      obtain ⟨c0, c1, _⟩ := two_cell HBX.out
      have hwi : IntKind.i64.wrap ((i : Int) + 1) = ((i + 1 : Nat) : Int) := by rw [IntWalk.i64_in _ ⟨by omega, by omega⟩]; omega
      obtain ⟨s, hs⟩ : ∃ s, nth zs i = s := ⟨_, rfl⟩
      have HS := Lib.hid hs
      rw [hs] at c
      have HIL := Lib.hid hil
      clear hs
      by_cases hin : x ≤ s ∧ s < y
      · have HDV : Hid (∀ W, Calls Try.prog 98 #[spV x y, .int .i64 s] W fun e w' => e = .returned (.bool true) ∧ Fut W w') := Lib.hid (fun W => by have h := isDiv_any x y s W; rw [decide_eq_true hin] at h; exact h)
        have HN := Lib.hid (askI_in (k := k) hil HS.out hin)
        obtain ⟨x', y', hx', hb', hn'⟩ : ∃ x' y', (if k ≤ s then spV x s else spV (s + 1) y) = spV x' y' ∧ (0 ≤ x' ∧ x' ≤ 100 ∧ y' ≤ 100) ∧ (if k ≤ s then askI k x s (zs.drop (i + 1)) else askI k (s + 1) y (zs.drop (i + 1))) = askI k x' y' (zs.drop (i + 1)) := by
          by_cases hk : k ≤ s
          · exact ⟨x, s, by rw [if_pos hk], ⟨by omega, by omega, by omega⟩, by rw [if_pos hk]⟩
          · exact ⟨s + 1, y, by rw [if_neg hk], ⟨by omega, by omega, by omega⟩, by rw [if_neg hk]⟩
        have HPW : Hid (∀ W, Calls Try.prog 99 #[spV x y, .int .i64 k, .int .i64 s] W fun e w' => e = .returned (spV x' y') ∧ Fut W w') := Lib.hid (fun W => by have h := partWith_any x y k s ⟨by omega, by omega⟩ W; rw [hx'] at h; exact h)
        rw [hn'] at HN
        have hq : q ≤ 1000 := by have := HO.out.2.1; omega
        clear hx' hn' hil
        go_wp2_with fail
        refine (HDV.out _).mono ?_
        rintro _ w3 ⟨rfl, F3⟩
        have FA : Fut w3 (w3.alloc (.cells #[.int .i64 s] 3)) := Fut.alloc _ _
        have HOW : Hid ((w3.alloc (.cells #[.int .i64 s] 3)).ownsRow (H + 1) 3 1 (.slice oa q oc) q (acc.map (Value.int .i64))) := Lib.hid (by have h := HO.out.2.2.fut (F3.trans FA); unfold Owns at h; rwa [← HO.out.1] at h)
        have HBA := Lib.hid (heap_fut HBX.out (F3.trans FA))
        have HFA := Lib.hid (HF.out.trans (F3.trans FA))
        have HZA : Hid (H + 1 ≤ (w3.alloc (.cells #[.int .i64 s] 3)).heap.size) := Lib.hid (Nat.le_trans HZ.out (RowKit.Below.size (F3.trans FA)))
        have HQ := Lib.hid (And.intro HO.out.1 HO.out.2.1)
        clear FA F3 HO HBX HF HZ c0 c1 c
        go_wp2_with (at_builtin; refine wpList_append_lies _ rfl _ _ 22 rfl (H + 1) 3 i0 (.int .i64 0) 1 8 Try.underlying22 hi0 hz0 hz1 hz2 rfl (by decide) (.slice oa q oc) q (acc.map (Value.int .i64)) rfl HOW.out ⟨w3.heap.size, 0, none⟩ 1 1 [.int .i64 s] rfl rfl (cell_one (by simp [go_sem])) (by simp [Value.oneCell']) (by omega) (by unfold maxLen; omega) (by omega) HZA.out _ rfl ?_)
        intro g8 c8 w8 hown8 hgrow8 hat8 _
        have HX8 : Hid (Owns w8 (H + 1) (.slice (some ⟨g8, 0, none⟩) (q + 1) c8) (acc ++ [s])) := Lib.hid (by
          unfold Owns
          rw [List.length_append, ← HQ.out.1, List.map_append]; exact hown8)
        have HF8 : Hid (Fut w w8) := Lib.hid (fut_own HFA.out hgrow8 (fun q hq => by have := (World.ownsRow.lt HOW.out q hq).1; have := HZ2.out.2; omega))
        have HB8 := Lib.hid (heap_kept HBA.out hgrow8 (fun e => by have := (World.ownsRow.lt HOW.out _ e).1; omega))
        have HZ8 : Hid (H + 1 ≤ w8.heap.size) := Lib.hid (Nat.le_trans HZA.out hgrow8.size)
        clear hown8 hgrow8 hat8 HOW HFA HZA HBA
        obtain ⟨c0, c1, _⟩ := two_cell HB8.out
        go_wp2_with fail
        refine (HPW.out _).mono ?_
        rintro _ w9 ⟨rfl, F9⟩
        have hB9 := heap_fut HB8.out F9
        obtain ⟨⟨y1, y2⟩, ⟨y3, y4⟩, y5⟩ := set2_both (.int .i64 x') (.int .i64 y') hB9
        have HB9 := Lib.hid y5
        have HX9 := Lib.hid (((HX8.out.fut F9).kept (set_grown w9 H 0 (.int .i64 x')) (own_ge (HX8.out.fut F9) (Nat.lt_succ_self H))))
        have HX10 := Lib.hid (HX9.out.kept (set_grown (w9.setCell ⟨H, 0, none⟩ (.int .i64 x')) H 1 (.int .i64 y')) (own_ge HX9.out (Nat.lt_succ_self H)))
        have HF10 : Hid (Fut w ((w9.setCell ⟨H, 0, none⟩ (.int .i64 x')).setCell ⟨H, 1, none⟩ (.int .i64 y'))) := Lib.hid (RowKit.Below.setCell (p := ⟨H, 1, none⟩) (RowKit.Below.setCell (p := ⟨H, 0, none⟩) (HF8.out.trans F9) HZ2.out.2 _) HZ2.out.2 _)
        have HZ10 : Hid (H + 1 ≤ ((w9.setCell ⟨H, 0, none⟩ (.int .i64 x')).setCell ⟨H, 1, none⟩ (.int .i64 y')).heap.size) := Lib.hid (by have := HZ8.out; have := RowKit.Below.size F9; simp; omega)
        have HP10 : Hid ((acc ++ [s]) ++ askI k x' y' (zs.drop (i + 1)) = askI k 0 m zs) := Lib.hid (by rw [← HP.out, HN.out]; simp)
        have HQ10 : Hid (q + 1 = (acc ++ [s]).length ∧ q + 1 ≤ i + 1 ∧ Owns ((w9.setCell ⟨H, 0, none⟩ (.int .i64 x')).setCell ⟨H, 1, none⟩ (.int .i64 y')) (H + 1) (.slice (some ⟨g8, 0, none⟩) (q + 1) c8) (acc ++ [s])) := Lib.hid ⟨by rw [List.length_append, ← HQ.out.1]; rfl, by have := HQ.out.2; omega, HX10.out⟩
        clear hB9 y5 F9 c0 c1
        go_wp2_with fail
        go_roundw
        case rel => first
          | exact ⟨i + 1, _, _, c8, x', y', acc ++ [s], HIL.out, rfl, rfl, hb', HQ10, HB9, HP10, HF10, HZ10⟩
          | ((repeat apply Exists.intro); exact ⟨⟨i + 1, _, _, c8, x', y', acc ++ [s], HIL.out, rfl, rfl, hb', HQ10, HB9, HP10, HF10, HZ10⟩, rfl⟩)
        case measure => have := HIL.out; simp [intOf]; omega
      · have HDV : Hid (∀ W, Calls Try.prog 98 #[spV x y, .int .i64 s] W fun e w' => e = .returned (.bool false) ∧ Fut W w') := Lib.hid (fun W => by have h := isDiv_any x y s W; rw [decide_eq_false hin] at h; exact h)
        have HN := Lib.hid (askI_out (k := k) hil HS.out hin)
        clear hil hin
        go_wp2_with fail
        refine (HDV.out _).mono ?_
        rintro _ w3 ⟨rfl, F3⟩
        have HO3 : Hid (q = acc.length ∧ q ≤ i + 1 ∧ Owns w3 (H + 1) (.slice oa q oc) acc) := Lib.hid ⟨HO.out.1, by have := HO.out.2.1; omega, HO.out.2.2.fut F3⟩
        have HB3 := Lib.hid (heap_fut HBX.out F3)
        have HF3 := Lib.hid (HF.out.trans F3)
        have HZ3 : Hid (H + 1 ≤ w3.heap.size) := Lib.hid (Nat.le_trans HZ.out (RowKit.Below.size F3))
        have HP3 : Hid (acc ++ askI k x y (zs.drop (i + 1)) = askI k 0 m zs) := Lib.hid (by rw [← HP.out, HN.out])
        clear F3 c0 c1 c
        go_wp2_with fail
        go_roundw
        case rel => first
          | exact ⟨i + 1, _, _, oc, x, y, acc, HIL.out, rfl, rfl, hxy, HO3, HB3, HP3, HF3, HZ3⟩
          | ((repeat apply Exists.intro); exact ⟨⟨i + 1, _, _, oc, x, y, acc, HIL.out, rfl, rfl, hxy, HO3, HB3, HP3, HF3, HZ3⟩, rfl⟩)
        case measure => have := HIL.out; simp [intOf]; omega
    · obtain rfl : i = zs.length := by omega
      have HE : Hid (acc = askI k 0 m zs) := Lib.hid (by have h := HP.out; rw [List.drop_length, askI, List.append_nil] at h; exact h)
      go_wp2_with fail
      go_ret
      exact ⟨_, rfl, by rw [← HE.out, ]; have h := HO.out.2.2.base (B' := w.heap.size) (by have := HZ2.out.2; omega); exact h, HF.out⟩
end
section
def dep1 (n : Nat) (zs : List Int) (j : Nat) : Int := ((askI (j : Int) 0 ((n : Int) - 1) zs).length : Nat)
def dpL (n : Nat) (zs : List Int) (i : Nat) : List Int := (List.range n).map fun j => if j < i then dep1 n zs j else 0
def depE (n : Nat) (zs : List Int) : List Int := (List.range n).map (dep1 n zs)
theorem dpL_len (n : Nat) (zs : List Int) (i : Nat) : (dpL n zs i).length = n := by unfold dpL; simp
theorem dpL_zero (n : Nat) (zs : List Int) : oftL n [] = dpL n zs 0 := by
  unfold oftL dpL
  refine List.map_congr_left fun j _ => ?_
  simp
theorem dpL_end (n : Nat) (zs : List Int) : dpL n zs n = depE n zs := by
  unfold dpL depE
  refine List.map_congr_left fun j hj => ?_
  rw [if_pos (List.mem_range.1 hj)]
theorem dpL_set (n : Nat) (zs : List Int) (i : Nat) (_hi : i < n) : (dpL n zs i).set i (dep1 n zs i) = dpL n zs (i + 1) := by
  refine List.ext_getElem (by simp [dpL]) fun j h1 h2 => ?_
  rw [List.getElem_set]
  by_cases e : i = j
  · subst e
    rw [if_pos rfl]; simp [dpL]
  · rw [if_neg e]
    simp only [dpL, List.getElem_map, List.getElem_range]
    by_cases e2 : j < i
    · rw [if_pos e2, if_pos (by omega)]
    · rw [if_neg e2, if_neg (by omega)]
theorem askI_len (k : Int) : ∀ (zs : List Int) (x y : Int), (askI k x y zs).length ≤ zs.length
  | [], _, _ => by simp [askI]
  | s :: zs, x, y => by
    rw [askI]
    split
    · split
      · have := askI_len k zs x s; simp; omega
      · have := askI_len k zs (s + 1) y; simp; omega
    · have := askI_len k zs x y; simp; omega
set_option maxRecDepth 100000 in
set_option maxHeartbeats 4000000 in
theorem depths_any (n : Nat) (hn1 : 1 ≤ n) (hn : n ≤ 8) (a : Option Addr) (cap : Nat) (zs : List Int) (w : World) (hA : IntsAt w a zs) (hl : zs.length ≤ 1000) :
    Calls Try.prog 77 #[.int .i64 (n : Nat), .slice a zs.length cap] w fun e w' => ∃ v, e = .returned v ∧ Owns w' w.heap.size v (depE n zs) ∧ Fut w w' := by
  have HAS := Lib.hid (fun (j : Nat) W (h : Fut w W) => asked_any n hn1 hn a cap zs (j : Nat) W (hA.fut h) hl)
  have hmk := mk_row n (by omega) w
  obtain ⟨g, hg⟩ : ∃ g, g = w.heap.size := ⟨_, rfl⟩
  obtain ⟨w1, hw1⟩ : ∃ w1, w1 = w.alloc (.cells (madeCells #[.int .i64 0] n) 3) := ⟨_, rfl⟩
  have HO1 : Hid (Owns w1 g (.slice (some ⟨g, 0, none⟩) n n) (dpL n zs 0)) := Lib.hid (by rw [hw1, hg, ← dpL_zero]; exact made_own w n (by omega))
  have HF1 : Hid (Fut w w1) := Lib.hid (by rw [hw1]; exact Fut.alloc _ _)
  rw [← hg, ← hw1] at hmk
  have HG := Lib.hid hg
  have HSE := Lib.hid (fun i hi => dpL_set n zs i hi)
  have hnx : (n : Int) ≤ 8 := by omega
  have HD1 : Hid (∀ j : Nat, ((askI (j : Int) 0 ((n : Int) - 1) zs).length : Int) = dep1 n zs j) := Lib.hid (fun _ => rfl)
  clear hg hw1 hA
  go_enter Try.func77, Try.ntmps77
  go_wp2_with fail
  clear hmk
  go_loopw [11] (fun iv wr => ∃ (i : Nat), i ≤ n ∧ iv = .int .i64 (i : Nat) ∧ Hid (Owns wr g (.slice (some ⟨g, 0, none⟩) n n) (dpL n zs i)) ∧ Hid (Fut w wr)) (fun iv _ => n - (intOf iv).toNat)
  case atStart => exact ⟨0, by omega, rfl, HO1, HF1⟩
  case round =>
    obtain ⟨i, hi, rfl, HO, HF⟩ := hrel
    by_cases hin : i < n
    · have hix : (i : Int) < n := by omega
      have hwi : IntKind.i64.wrap ((i : Int) + 1) = ((i + 1 : Nat) : Int) := by rw [IntWalk.i64_in _ ⟨by omega, by omega⟩]; omega
      go_wp2_with fail
      refine (HAS.out i _ HF.out).mono ?_
      rintro _ w2 ⟨v, rfl, hO, F2⟩
      obtain ⟨l, lc, rfl, _⟩ := hO.ints
      have hO2 := HO.out.fut F2
      obtain ⟨c1, c2, _⟩ := own_at hO2 (dpL_len n zs i) i hin
      have HS := Lib.hid (own_set hO2 (dpL_len n zs i) i (dep1 n zs i))
      have hd := HD1.out i
      generalize (askI ((i : Nat) : Int) 0 ((n : Int) - 1) zs).length = kk at *
      have HKD := Lib.hid hd
      have HF3 : Hid (Fut w (w2.setCell ⟨g, i, none⟩ (.int .i64 (kk : Nat)))) := Lib.hid (RowKit.Below.setCell (p := ⟨g, i, none⟩) (HF.out.trans F2) (by rw [HG.out]; exact Nat.le_refl _) _)
      have HS2 : Hid (Owns (w2.setCell ⟨g, i, none⟩ (.int .i64 (kk : Nat))) g (.slice (some ⟨g, 0, none⟩) n n) (dpL n zs (i + 1))) := Lib.hid (by rw [HKD.out, ← HSE.out i hin]; exact HS.out)
      clear hO hO2 F2 hd HS
      go_wp2_with fail
      go_roundw
      case rel => first
        | exact ⟨i + 1, by omega, rfl, HS2, HF3⟩
        | ((repeat apply Exists.intro); exact ⟨⟨i + 1, by omega, rfl, HS2, HF3⟩, rfl⟩)
      case measure => simp [intOf]; omega
    · obtain rfl : i = n := by omega
      have HE := Lib.hid (dpL_end i zs)
      go_wp2_with fail
      go_ret
      exact ⟨_, rfl, by rw [← HE.out, ← HG.out]; have h := HO.out; exact h, HF.out⟩
end
section
/-- reads the list of a tree of a span: what comes behind it. -/
def rdI : Nat → Int → Int → List Int → Option (List Int)
  | 0, _, _, _ => none
  | _ + 1, x, y, [] => if x = y then some [] else none
  | d + 1, x, y, s :: r => if x = y then some (s :: r) else if x ≤ s ∧ s < y then (match rdI d x s r with | none => none | some r' => rdI d (s + 1) y r') else none
abbrev RdP (o : Option (List Int)) (n : Nat) (w : World) (e : Ending) (w' : World) : Prop := ∃ lb lcb, e = .returned (.tuple #[.slice lb (o.getD []).length lcb, .bool o.isSome]) ∧ (o.getD []).length ≤ lcb ∧ (o.getD []).length ≤ n ∧ IntsAt w' lb (o.getD []) ∧ Fut w w'
theorem ints_from {w : World} {b o k cap : Nat} {zs : List Int} (h : IntsAt w (some ⟨b, o, none⟩) zs) (hc : zs.length ≤ cap) : IntsAt w (some ⟨b, offK o k cap, none⟩) (zs.drop k) := fun j hj => by
  rw [List.length_drop] at hj
  obtain ⟨b', o', e, h1, h2⟩ := h (k + j) (by omega)
  simp only [Option.some.injEq, Addr.mk.injEq, and_true] at e
  obtain ⟨rfl, rfl⟩ := e
  have e2 : nth (zs.drop k) j = nth zs (k + j) := by rw [nth_eq, List.getElem?_drop, nth_eq]
  rw [e2]
  refine ⟨b, offK o k cap, rfl, h1, ?_⟩
  unfold offK
  rw [if_neg (by omega), Nat.add_assoc]
  exact h2
set_option maxRecDepth 100000 in
set_option maxHeartbeats 4000000 in
theorem read_any : ∀ (d : Nat) (x y : Int), 0 ≤ x → x ≤ y → y ≤ 100 → y - x < d → ∀ (la : Option Addr) (zs : List Int) (lc : Nat) (w : World), IntsAt w la zs → zs.length ≤ lc → zs.length ≤ 1000 →
    Calls Try.prog 75 #[spV x y, .slice la zs.length lc] w fun e w' => RdP (rdI d x y zs) zs.length w e w'
  | 0, x, y, _, _, _, h => fun _ _ _ _ _ _ _ => absurd h (by omega)
  | d + 1, x, y, hx, hxy, hy, hd => fun la zs lc w hA hlc hl => by
    have HRC := Lib.hid (fun x' y' h1 h2 h3 h4 la' zs' lc' W h5 h6 h7 => read_any d x' y' h1 h2 h3 h4 la' zs' lc' W h5 h6 h7)
    obtain ⟨W0, hW0⟩ : ∃ W0, W0 = w.alloc (.cells #[.int .i64 x, .int .i64 y] 69) := ⟨_, rfl⟩
    obtain ⟨H, hH⟩ : ∃ H, H = w.heap.size := ⟨_, rfl⟩
    have HF0 : Hid (Fut w W0) := Lib.hid (by rw [hW0]; exact Fut.alloc _ _)
    have HBX : Hid (W0.heap[H]? = some (.cells #[.int .i64 x, .int .i64 y] 69)) := Lib.hid (by rw [hH, hW0]; exact World.alloc_heap_new w _)
    have HW := Lib.hid hW0
    have HHH := Lib.hid hH
    have HIN := Lib.hid (fun W (k : Fut w W) => hA.fut k)
    have HIS := Lib.hid (fun W => isOne_any x y W)
    have hlx : (zs.length : Int) ≤ 1000 := by omega
    have HLC := Lib.hid hlc
    clear hW0 hH hA read_any hlc
    by_cases hone : x = y
    · have HIS2 : Hid (∀ W, Calls Try.prog 97 #[spV x y] W fun e w' => e = .returned (.bool true) ∧ Fut W w') := Lib.hid (fun W => by have h := HIS.out W; rw [show (x == y) = true by simpa using hone] at h; exact h)
      have HR : Hid (rdI (d + 1) x y zs = some zs) := Lib.hid (by cases zs <;> rw [rdI, if_pos hone])
      clear hone HIS
      go_enter Try.func75, Try.ntmps75
      go_upto_region 1 with fail
      rw [← HW.out, ← HHH.out]
      obtain ⟨c0, c1, _⟩ := two_cell HBX.out
      go_wp2_with fail
      refine (HIS2.out _).mono ?_
      rintro _ w1 ⟨rfl, F1⟩
      go_wp2_with fail
      go_ret2
      rw [HR.out]
      exact ⟨la, lc, rfl, HLC.out, Nat.le_refl _, HIN.out _ (HF0.out.trans F1), HF0.out.trans F1⟩
    have HIS2 : Hid (∀ W, Calls Try.prog 97 #[spV x y] W fun e w' => e = .returned (.bool false) ∧ Fut W w') := Lib.hid (fun W => by have h := HIS.out W; rw [show (x == y) = false by simpa using hone] at h; exact h)
    cases zs with
    | nil =>
      have HR : Hid (rdI (d + 1) x y [] = none) := Lib.hid (by rw [rdI, if_neg hone])
      clear hone HIS
      go_enter Try.func75, Try.ntmps75
      go_upto_region 1 with fail
      rw [← HW.out, ← HHH.out]
      obtain ⟨c0, c1, _⟩ := two_cell HBX.out
      go_wp2_with fail
      refine (HIS2.out _).mono ?_
      rintro _ w1 ⟨rfl, F1⟩
      go_upto_region 3 with fail
      have HF1 := Lib.hid (HF0.out.trans F1)
      refine region_fut (by kernel_rfl) (by kernel_rfl) ?_
      repeat (go_big_quiet_step (first | with_reducible rfl))
      refine wpQuiet_nil ?_
      intro w4 hw'
      have F4 := after_fut hw'
      clear hw'
      go_wp2_with fail
      go_ret2
      rw [HR.out]
      exact ⟨none, 0, rfl, Nat.le_refl _, Nat.le_refl _, nil_ints _ _, HF1.out.trans F4⟩
    | cons s r =>
      have HR0 : Hid (rdI (d + 1) x y (s :: r) = if x ≤ s ∧ s < y then (match rdI d x s r with | none => none | some r' => rdI d (s + 1) y r') else none) := Lib.hid (by rw [rdI, if_neg hone])
      obtain ⟨b, o, rfl, _, _⟩ := HIN.out w Fut.rfl 0 (by simp)
      have HCS : Hid (∀ W, Fut w W → W.cell? ⟨b, o, none⟩ = some (.int .i64 s)) := Lib.hid (fun W k => by
        obtain ⟨b', o', e, _, h⟩ := HIN.out W k 0 (by simp)
        simp only [Option.some.injEq, Addr.mk.injEq, and_true] at e
        obtain ⟨rfl, rfl⟩ := e
        exact h)
      have HFR : Hid (∀ W, Fut w W → IntsAt W (some ⟨b, offK o 1 lc, none⟩) r) := Lib.hid (fun W k => ints_from (k := 1) (HIN.out W k) HLC.out)
      obtain ⟨n, hn⟩ : ∃ n, n = (s :: r).length := ⟨_, rfl⟩
      have hn1 : n = r.length + 1 := by rw [hn]; rfl
      rw [← hn] at hlx ⊢
      have HLC2 : Hid (r.length + 1 ≤ lc ∧ r.length + 1 ≤ 1000 ∧ n = r.length + 1) := Lib.hid ⟨by rw [← hn1, hn]; exact HLC.out, by rw [← hn1, hn]; exact hl, hn1⟩
      have HSL : Hid (∀ W, (Instr.sliceAt 22 (.slice (some ⟨b, o, none⟩) n lc) (some (.int .i64 (1 : Int))) none none).run Try.prog W = .ok (.slice (some ⟨b, offK o 1 lc, none⟩) r.length (lc - 1)) W) := Lib.hid (fun W => by
        have h := slice_fromI b o n lc 1 (by omega) (by have := HLC2.out; omega) W
        rw [show n - 1 = r.length by omega] at h
        exact h)
      have h0x : ¬ (n : Int) = 0 := by omega
      have d1 : decide ((n : Int) = 0) = false := decide_eq_false h0x
      have d2 : decide (n = 0) = false := decide_eq_false (by omega)
      have d3 : ¬ n = 0 := by omega
      have d4 : ((n : Int) == 0) = false := by simpa using h0x
      have h0y : (0 : Int) < n := by omega
      have h0z : 0 < n := by omega
      have hl2 : r.length ≤ 1000 := by omega
      clear hone HIS hn hn1 hl HIN HLC
      obtain ⟨Dv, hDv⟩ : ∃ Dv, Dv = decide (x ≤ s ∧ s < y) := ⟨_, rfl⟩
      have HDI := Lib.hid (fun W => isDiv_any x y s W)
      rw [← hDv] at HDI
      have HDv := Lib.hid hDv
      clear hDv
      go_enter Try.func75, Try.ntmps75
      go_upto_region 1 with fail
      rw [← HW.out, ← HHH.out]
      obtain ⟨c0, c1, _⟩ := two_cell HBX.out
      go_wp2_with fail
      refine (HIS2.out _).mono ?_
      rintro _ w1 ⟨rfl, F1⟩
      go_upto_region 3 with fail
      have HF1 := Lib.hid (HF0.out.trans F1)
      have HBX1 := Lib.hid (heap_fut HBX.out F1)
      clear c0 c1 F1 HF0 HBX HW
      obtain ⟨p0, p1, _⟩ := two_cell HBX1.out
      have p2 := HCS.out w1 HF1.out
      have y0 := cell_after p0
      have y1 := cell_after p1
      have y2 := cell_after p2
      have HD2 := Lib.hid (fun p : After w1 => HDI.out p.w')
      refine region_fut (by kernel_rfl) (by kernel_rfl) ?_
      repeat (go_big_quiet_step (first | with_reducible rfl | (with_reducible (go_at_call 98; rename_i p; exact after_of (HD2.out p)))))
      refine wpQuiet_nil ?_
      intro w4 hw'
      have F4 := after_fut hw'
      have HF4 := Lib.hid (HF1.out.trans F4)
      have HBX4 := Lib.hid (heap_fut HBX1.out F4)
      clear hw' F4 y0 y1 y2 p0 p1 p2 HD2 HDI HBX1 HF1
      cases hDb : Dv with
      | false =>
        have HR : Hid (rdI (d + 1) x y (s :: r) = none) := Lib.hid (by
          have h := HDv.out
          rw [hDb] at h
          rw [HR0.out, if_neg (of_decide_eq_false h.symm)])
        subst hDb
        go_wp2_with fail
        go_ret2
        rw [HR.out]
        exact ⟨none, 0, rfl, Nat.le_refl _, by simp, nil_ints _ _, HF4.out⟩
      | true =>
        have hxs : x ≤ s ∧ s < y := by have h := HDv.out; rw [hDb] at h; exact of_decide_eq_true h.symm
        have HR : Hid (rdI (d + 1) x y (s :: r) = (match rdI d x s r with | none => none | some r' => rdI d (s + 1) y r')) := Lib.hid (by rw [HR0.out, if_pos hxs])
        clear HDv
        subst hDb
        have HPT := Lib.hid (fun W => parts_any x y s ⟨by omega, by omega⟩ W)
        have HFD : Hid (Fut w w4.drew) := Lib.hid (HF4.out.trans (below_drewN Fut.rfl 1))
        have keep : ∀ v, Fut w4.drew v → (v.cell? ⟨H, 0, none⟩ = some (.int .i64 x) ∧ v.cell? ⟨H, 1, none⟩ = some (.int .i64 y)) ∧ v.cell? ⟨b, o, none⟩ = some (.int .i64 s) := fun v k => by
          obtain ⟨m1, m2, _⟩ := two_cell (heap_fut HBX4.out ((below_drewN Fut.rfl 1 : Fut w4 w4.drew).trans k))
          exact ⟨⟨m1, m2⟩, HCS.out v (HFD.out.trans k)⟩
        go_upto_region 5 with fail
        refine wp_region_held_drew (S := (fun w' => (w'.cell? ⟨H, 0, none⟩ = some (.int .i64 x) ∧ w'.cell? ⟨H, 1, none⟩ = some (.int .i64 y)) ∧ w'.cell? ⟨b, o, none⟩ = some (.int .i64 s))) (by kernel_rfl) ?_ (fun hHeld => ?_)
        · exact keep _ Fut.rfl
        generalize w4.drew = u0 at *
        refine wpAnyH_take (i := 0) (oi := { dst := some 23, op := Op.load 69 (Operand.tmp 2), type := 69, pos := "span.go:62", after := #[], guard := none }) (v := ?_) rfl (by kernel_rfl) (by kernel_rfl) (by kernel_rfl) (fun _ _ _ h => h) (Or.inl ⟨by rfl, ?_⟩) (by assumption) ?_
        rotate_left
        · (intro w hSw; obtain ⟨⟨s0, s1⟩, s2⟩ := hSw; go_simp <;> with_reducible rfl)
        try simp only [Act.put, List.setIfInBounds_toArray, List.set_cons_zero, List.set_cons_succ]
        refine wpAnyH_take (i := 1) (oi := { dst := some 24, op := Op.move (Operand.tmp 1), type := 22, pos := "span.go:62", after := #[], guard := none }) (v := ?_) rfl (by kernel_rfl) (by kernel_rfl) (by kernel_rfl) (fun _ _ _ h => h) (Or.inl ⟨by rfl, ?_⟩) (by assumption) ?_
        rotate_left
        · (intro w hSw; obtain ⟨⟨s0, s1⟩, s2⟩ := hSw; go_simp <;> with_reducible rfl)
        try simp only [Act.put, List.setIfInBounds_toArray, List.set_cons_zero, List.set_cons_succ]
        refine wpAnyH_take (i := 2) (oi := { dst := some 25, op := Op.indexAddr 22 (Operand.tmp 24) (Operand.const (Value.int IntKind.i64 0)), type := 0, pos := "span.go:62", after := #[{ on := 1, ground := Ground.data }], guard := none }) (v := ?_) rfl (by kernel_rfl) (by kernel_rfl) (by kernel_rfl) (fun _ _ _ h => h) (Or.inl ⟨by rfl, ?_⟩) (by assumption) ?_
        rotate_left
        · (intro w hSw; obtain ⟨⟨s0, s1⟩, s2⟩ := hSw; go_simp <;> with_reducible rfl)
        try simp only [Act.put, List.setIfInBounds_toArray, List.set_cons_zero, List.set_cons_succ]
        refine wpAnyH_take (i := 3) (oi := { dst := some 26, op := Op.load 3 (Operand.tmp 25), type := 3, pos := "span.go:62", after := #[{ on := 2, ground := Ground.data }], guard := none }) (v := ?_) rfl (by kernel_rfl) (by kernel_rfl) (by kernel_rfl) (fun _ _ _ h => h) (Or.inl ⟨by rfl, ?_⟩) (by assumption) ?_
        rotate_left
        · (intro w hSw; obtain ⟨⟨s0, s1⟩, s2⟩ := hSw; go_simp <;> with_reducible rfl)
        try simp only [Act.put, List.setIfInBounds_toArray, List.set_cons_zero, List.set_cons_succ]
        refine wpAnyH_ready (rs := [4, 8, 9]) (by kernel_rfl) (by simp) ?_
        refine AllReadyH.cons (o := { dst := some 27, op := Op.call { callee := Callee.value (Operand.func 95), args := #[Operand.tmp 23, Operand.tmp 26], argTypes := #[69, 3] }, type := 110, pos := "span.go:62", after := #[{ on := 0, ground := Ground.data }, { on := 3, ground := Ground.data }], guard := none }) rfl (fun K hK => ?_) (AllReadyH.cons (o := { dst := some 6, op := Op.alloc 69, type := 0, pos := "span.go:62", after := #[], guard := none }) rfl (fun K hK => ?_) (AllReadyH.cons (o := { dst := some 7, op := Op.alloc 69, type := 0, pos := "span.go:62", after := #[], guard := none }) rfl (fun K hK => ?_) (AllReadyH.nil)))
        · go_simp
          go_at_call 95
          refine (HPT.out u0).mono ?_
          rintro _ v4 ⟨rfl, T4⟩
          have G4 := Lib.hid ((Fut.rfl).trans T4)
          replace T4 := Lib.hid T4
          try go_wp2_with fail
          refine hK.out _ _ ?_ (fun hHeld => ?_)
          · exact keep _ G4.out
          clear hK K
          try simp only [Act.put, List.setIfInBounds_toArray, List.set_cons_zero, List.set_cons_succ]
          refine wpAnyH_take (i := 5) (oi := { dst := some 22, op := Op.move (Operand.tmp 27), type := 110, pos := "span.go:62", after := #[{ on := 4, ground := Ground.data }], guard := none }) (v := ?_) rfl (by kernel_rfl) (by kernel_rfl) (by kernel_rfl) (fun _ _ _ h => h) (Or.inl ⟨by rfl, ?_⟩) (by assumption) ?_
          rotate_left
          · (intro w hSw; obtain ⟨⟨s0, s1⟩, s2⟩ := hSw; go_simp <;> with_reducible rfl)
          try simp only [Act.put, List.setIfInBounds_toArray, List.set_cons_zero, List.set_cons_succ]
          refine wpAnyH_take (i := 6) (oi := { dst := some 28, op := Op.extract (Operand.tmp 22) 0, type := 69, pos := "span.go:62", after := #[{ on := 5, ground := Ground.data }], guard := none }) (v := ?_) rfl (by kernel_rfl) (by kernel_rfl) (by kernel_rfl) (fun _ _ _ h => h) (Or.inl ⟨by rfl, ?_⟩) (by assumption) ?_
          rotate_left
          · (intro w hSw; obtain ⟨⟨s0, s1⟩, s2⟩ := hSw; go_simp <;> with_reducible rfl)
          try simp only [Act.put, List.setIfInBounds_toArray, List.set_cons_zero, List.set_cons_succ]
          refine wpAnyH_take (i := 7) (oi := { dst := some 29, op := Op.extract (Operand.tmp 22) 1, type := 69, pos := "span.go:62", after := #[{ on := 5, ground := Ground.data }, { on := 10, ground := Ground.gcOnly Departure.lateStores }], guard := none }) (v := ?_) rfl (by kernel_rfl) (by kernel_rfl) (by kernel_rfl) (fun _ _ _ h => h) (Or.inl ⟨by rfl, ?_⟩) (by assumption) ?_
          rotate_left
          · (intro w hSw; obtain ⟨⟨s0, s1⟩, s2⟩ := hSw; go_simp <;> with_reducible rfl)
          try simp only [Act.put, List.setIfInBounds_toArray, List.set_cons_zero, List.set_cons_succ]
          refine wpAnyH_ready (rs := [8, 9]) (by kernel_rfl) (by simp) ?_
          refine AllReadyH.cons (o := { dst := some 6, op := Op.alloc 69, type := 0, pos := "span.go:62", after := #[], guard := none }) rfl (fun K hK => ?_) (AllReadyH.cons (o := { dst := some 7, op := Op.alloc 69, type := 0, pos := "span.go:62", after := #[], guard := none }) rfl (fun K hK => ?_) (AllReadyH.nil))
          · go_simp
            obtain ⟨v8, hv8⟩ : ∃ W, W = v4.alloc (.cells #[.int .i64 0, .int .i64 0] 69) := ⟨_, rfl⟩
            have T8 : Hid (Fut v4 v8) := Lib.hid (by rw [hv8]; exact Fut.alloc _ _)
            have G8 : Hid (Fut u0 v8) := Lib.hid ((G4.out).trans T8.out)
            have N8 : Hid (v8.heap[v4.heap.size]? = some (.cells #[.int .i64 0, .int .i64 0] 69)) := Lib.hid (by rw [hv8]; exact World.alloc_heap_new v4 _)
            obtain ⟨a8, ha8⟩ : ∃ s, s = v4.heap.size := ⟨_, rfl⟩
            have Z8 : Hid (u0.heap.size ≤ a8 ∧ a8 < v8.heap.size) := Lib.hid (by rw [ha8]; exact ⟨RowKit.Below.size (G4.out : Fut u0 v4), by rw [hv8, World.size_alloc]; omega⟩)
            rw [← hv8]
            rw [← ha8] at N8 ⊢
            clear hv8 ha8
            refine hK.out _ _ ?_ (fun hHeld => ?_)
            · exact keep _ G8.out
            clear hK K
            try simp only [Act.put, List.setIfInBounds_toArray, List.set_cons_zero, List.set_cons_succ]
            refine wpAnyH_ready (rs := [9]) (by kernel_rfl) (by simp) ?_
            refine AllReadyH.cons (o := { dst := some 7, op := Op.alloc 69, type := 0, pos := "span.go:62", after := #[], guard := none }) rfl (fun K hK => ?_) AllReadyH.nil
            go_simp
            obtain ⟨v9, hv9⟩ : ∃ W, W = v8.alloc (.cells #[.int .i64 0, .int .i64 0] 69) := ⟨_, rfl⟩
            have T9 : Hid (Fut v8 v9) := Lib.hid (by rw [hv9]; exact Fut.alloc _ _)
            have G9 : Hid (Fut u0 v9) := Lib.hid ((G8.out).trans T9.out)
            have N9 : Hid (v9.heap[v8.heap.size]? = some (.cells #[.int .i64 0, .int .i64 0] 69)) := Lib.hid (by rw [hv9]; exact World.alloc_heap_new v8 _)
            obtain ⟨a9, ha9⟩ : ∃ s, s = v8.heap.size := ⟨_, rfl⟩
            have Z9 : Hid (u0.heap.size ≤ a9 ∧ a9 < v9.heap.size) := Lib.hid (by rw [ha9]; exact ⟨RowKit.Below.size (G8.out : Fut u0 v8), by rw [hv9, World.size_alloc]; omega⟩)
            rw [← hv9]
            rw [← ha9] at N9 ⊢
            have NE : Hid (a8 ≠ a9) := Lib.hid (by rw [ha9]; have e1 := Z8.out.2; have e2 : v8.heap.size ≤ v8.heap.size := RowKit.Below.size (Fut.rfl : Fut v8 v8); omega)
            clear hv9 ha9
            refine hK.out _ _ ?_ (fun hHeld => ?_)
            · exact keep _ G9.out
            clear hK K
            try simp only [Act.put, List.setIfInBounds_toArray, List.set_cons_zero, List.set_cons_succ]
            refine wpAnyH_ready (rs := [10]) (by kernel_rfl) (by simp) ?_
            refine AllReadyH.cons (o := { dst := none, op := Op.store 69 (Operand.tmp 6) (Operand.tmp 28), type := 0, pos := "span.go:62", after := #[{ on := 8, ground := Ground.data }, { on := 6, ground := Ground.data }, { on := 4, ground := Ground.chain }, { on := 0, ground := Ground.phase }, { on := 1, ground := Ground.phase }, { on := 2, ground := Ground.phase }, { on := 3, ground := Ground.phase }, { on := 4, ground := Ground.phase }, { on := 5, ground := Ground.phase }, { on := 6, ground := Ground.phase }, { on := 7, ground := Ground.textOnly Departure.lateStores }, { on := 8, ground := Ground.phase }, { on := 9, ground := Ground.phase }], guard := none }) rfl (fun K hK => ?_) AllReadyH.nil
            obtain ⟨⟨y1, y2⟩, ⟨y3, y4⟩, y5⟩ := set2_both (.int .i64 x) (.int .i64 s) (heap_fut N8.out (T9.out))
            have P8 := Lib.hid y5
            have P9 := Lib.hid (heap_kept (heap_kept (heap_fut N9.out (Fut.rfl)) (set_grown v9 a8 0 (.int .i64 x)) (fun e => NE.out (Option.some.inj e))) (set_grown (v9.setCell ⟨a8, 0, none⟩ (.int .i64 x)) a8 1 (.int .i64 s)) (fun e => NE.out (Option.some.inj e)))
            have G10 : Hid (Fut u0 ((v9.setCell ⟨a8, 0, none⟩ (.int .i64 x)).setCell ⟨a8, 1, none⟩ (.int .i64 s))) := Lib.hid (RowKit.Below.setCell (p := ⟨a8, 1, none⟩) (RowKit.Below.setCell (p := ⟨a8, 0, none⟩) (G9.out) Z8.out.1 _) Z8.out.1 _)
            go_simp
            clear y1 y2 y3 y4 y5
            generalize (v9.setCell ⟨a8, 0, none⟩ (.int .i64 x)).setCell ⟨a8, 1, none⟩ (.int .i64 s) = v10 at *
            refine hK.out _ _ ?_ (fun hHeld => ?_)
            · exact keep _ G10.out
            clear hK K
            try simp only [Act.put, List.setIfInBounds_toArray, List.set_cons_zero, List.set_cons_succ]
            refine wpAnyH_ready (rs := [11]) (by kernel_rfl) (by simp) ?_
            refine AllReadyH.cons (o := { dst := none, op := Op.store 69 (Operand.tmp 7) (Operand.tmp 29), type := 0, pos := "span.go:62", after := #[{ on := 9, ground := Ground.data }, { on := 7, ground := Ground.data }, { on := 10, ground := Ground.chain }, { on := 0, ground := Ground.phase }, { on := 1, ground := Ground.phase }, { on := 2, ground := Ground.phase }, { on := 3, ground := Ground.phase }, { on := 4, ground := Ground.phase }, { on := 5, ground := Ground.phase }, { on := 6, ground := Ground.phase }, { on := 7, ground := Ground.phase }, { on := 8, ground := Ground.phase }, { on := 9, ground := Ground.phase }, { on := 10, ground := Ground.phase }], guard := none }) rfl (fun K hK => ?_) AllReadyH.nil
            obtain ⟨⟨y1, y2⟩, ⟨y3, y4⟩, y5⟩ := set2_both (.int .i64 (s + 1)) (.int .i64 y) P9.out
            have Q9 := Lib.hid y5
            have Q8 := Lib.hid (heap_kept (heap_kept P8.out (set_grown v10 a9 0 (.int .i64 (s + 1))) (fun e => NE.out (Option.some.inj e).symm)) (set_grown (v10.setCell ⟨a9, 0, none⟩ (.int .i64 (s + 1))) a9 1 (.int .i64 y)) (fun e => NE.out (Option.some.inj e).symm))
            have G11 : Hid (Fut u0 ((v10.setCell ⟨a9, 0, none⟩ (.int .i64 (s + 1))).setCell ⟨a9, 1, none⟩ (.int .i64 y))) := Lib.hid (RowKit.Below.setCell (p := ⟨a9, 1, none⟩) (RowKit.Below.setCell (p := ⟨a9, 0, none⟩) G10.out Z9.out.1 _) Z9.out.1 _)
            go_simp
            clear y1 y2 y3 y4 y5 P8 P9
            generalize (v10.setCell ⟨a9, 0, none⟩ (.int .i64 (s + 1))).setCell ⟨a9, 1, none⟩ (.int .i64 y) = v11 at *
            refine hK.out _ _ ?_ (fun hHeld => ?_)
            · exact keep _ G11.out
            clear hK K
            try simp only [Act.put, List.setIfInBounds_toArray, List.set_cons_zero, List.set_cons_succ]
            refine wpAnyH_done (by kernel_rfl) ?_ _
            go_upto_region 6 with fail
            have HFu : Hid (Fut w v11.drew) := Lib.hid ((HFD.out.trans G11.out).trans (below_drewN Fut.rfl 1))
            have R8 : Hid (v11.drew.heap[a8]? = some (.cells #[.int .i64 x, .int .i64 s] 69)) := Lib.hid (heap_fut Q8.out (below_drewN Fut.rfl 1 : Fut v11 v11.drew))
            have R9 : Hid (v11.drew.heap[a9]? = some (.cells #[.int .i64 (s + 1), .int .i64 y] 69)) := Lib.hid (heap_fut Q9.out (below_drewN Fut.rfl 1 : Fut v11 v11.drew))
            have HC1 : Hid (∀ W, Fut v11.drew W → Calls Try.prog 75 #[spV x s, .slice (some ⟨b, offK o 1 lc, none⟩) r.length (lc - 1)] W fun e w' => RdP (rdI d x s r) r.length W e w') := Lib.hid (fun W k => HRC.out x s hx hxs.1 (by omega) (by omega) _ r (lc - 1) W (HFR.out W (HFu.out.trans k)) (by have := HLC2.out; omega) hl2)
            have hsl := HSL.out
            clear Q8 Q9 G11
            refine wp_region_held_drew (S := (fun w' => w'.cell? ⟨a8, 0, none⟩ = some (.int .i64 x) ∧ w'.cell? ⟨a8, 1, none⟩ = some (.int .i64 s))) (by kernel_rfl) ?_ (fun hHeld => ?_)
            · exact ⟨(two_cell R8.out).1, (two_cell R8.out).2.1⟩
            generalize v11.drew = u1 at *
            refine wpAnyH_take (i := 0) (oi := { dst := some 31, op := Op.load 69 (Operand.tmp 6), type := 69, pos := "span.go:63", after := #[], guard := none }) (v := ?_) rfl (by kernel_rfl) (by kernel_rfl) (by kernel_rfl) (fun _ _ _ h => h) (Or.inl ⟨by rfl, ?_⟩) (by assumption) ?_
            rotate_left
            · (intro w hSw; obtain ⟨s0, s1⟩ := hSw; go_simp <;> with_reducible rfl)
            try simp only [Act.put, List.setIfInBounds_toArray, List.set_cons_zero, List.set_cons_succ]
            refine wpAnyH_take (i := 1) (oi := { dst := some 32, op := Op.move (Operand.tmp 1), type := 22, pos := "span.go:63", after := #[], guard := none }) (v := ?_) rfl (by kernel_rfl) (by kernel_rfl) (by kernel_rfl) (fun _ _ _ h => h) (Or.inl ⟨by rfl, ?_⟩) (by assumption) ?_
            rotate_left
            · (intro w hSw; obtain ⟨s0, s1⟩ := hSw; go_simp <;> with_reducible rfl)
            try simp only [Act.put, List.setIfInBounds_toArray, List.set_cons_zero, List.set_cons_succ]
            refine wpAnyH_take (i := 2) (oi := { dst := some 33, op := Op.slice 22 (Operand.tmp 32) (some (Operand.const (Value.int IntKind.i64 1))) none none, type := 22, pos := "span.go:63", after := #[{ on := 1, ground := Ground.data }], guard := none }) (v := ?_) rfl (by kernel_rfl) (by kernel_rfl) (by kernel_rfl) (fun _ _ _ h => h) (Or.inl ⟨by rfl, ?_⟩) (by assumption) ?_
            rotate_left
            · (intro w hSw; obtain ⟨s0, s1⟩ := hSw; go_simp <;> with_reducible rfl)
            try simp only [Act.put, List.setIfInBounds_toArray, List.set_cons_zero, List.set_cons_succ]
            refine wpAnyH_ready (rs := [3]) (by kernel_rfl) (by simp) ?_
            refine AllReadyH.cons (o := { dst := some 34, op := Op.call { callee := Callee.value (Operand.func 75), args := #[Operand.tmp 31, Operand.tmp 33], argTypes := #[69, 22] }, type := 89, pos := "span.go:63", after := #[{ on := 0, ground := Ground.data }, { on := 2, ground := Ground.data }], guard := none }) rfl (fun K hK => ?_) AllReadyH.nil
            go_simp
            go_at_call 75
            refine (HC1.out u1 Fut.rfl).mono ?_
            rintro _ v12 ⟨lb, lcb, rfl, hR1, hR2, hI, T12⟩
            have G12 := Lib.hid T12
            have I12 := Lib.hid hI
            clear T12 hI
            try go_wp2_with fail
            refine hK.out _ _ ?_ (fun hHeld => ?_)
            · exact ⟨(two_cell (heap_fut R8.out G12.out)).1, (two_cell (heap_fut R8.out G12.out)).2.1⟩
            clear hK K
            try simp only [Act.put, List.setIfInBounds_toArray, List.set_cons_zero, List.set_cons_succ]
            refine wpAnyH_take (i := 4) (oi := { dst := some 30, op := Op.move (Operand.tmp 34), type := 89, pos := "span.go:63", after := #[{ on := 3, ground := Ground.data }], guard := none }) (v := ?_) rfl (by kernel_rfl) (by kernel_rfl) (by kernel_rfl) (fun _ _ _ h => h) (Or.inl ⟨by rfl, ?_⟩) (by assumption) ?_
            rotate_left
            · (intro w hSw; obtain ⟨s0, s1⟩ := hSw; go_simp <;> with_reducible rfl)
            try simp only [Act.put, List.setIfInBounds_toArray, List.set_cons_zero, List.set_cons_succ]
            refine wpAnyH_take (i := 5) (oi := { dst := some 35, op := Op.extract (Operand.tmp 30) 0, type := 22, pos := "span.go:63", after := #[{ on := 4, ground := Ground.data }], guard := none }) (v := ?_) rfl (by kernel_rfl) (by kernel_rfl) (by kernel_rfl) (fun _ _ _ h => h) (Or.inl ⟨by rfl, ?_⟩) (by assumption) ?_
            rotate_left
            · (intro w hSw; obtain ⟨s0, s1⟩ := hSw; go_simp <;> with_reducible rfl)
            try simp only [Act.put, List.setIfInBounds_toArray, List.set_cons_zero, List.set_cons_succ]
            refine wpAnyH_take (i := 6) (oi := { dst := some 36, op := Op.extract (Operand.tmp 30) 1, type := 4, pos := "span.go:63", after := #[{ on := 4, ground := Ground.data }, { on := 7, ground := Ground.gcOnly Departure.lateStores }], guard := none }) (v := ?_) rfl (by kernel_rfl) (by kernel_rfl) (by kernel_rfl) (fun _ _ _ h => h) (Or.inl ⟨by rfl, ?_⟩) (by assumption) ?_
            rotate_left
            · (intro w hSw; obtain ⟨s0, s1⟩ := hSw; go_simp <;> with_reducible rfl)
            try simp only [Act.put, List.setIfInBounds_toArray, List.set_cons_zero, List.set_cons_succ]
            refine wpAnyH_ready (rs := [7]) (by kernel_rfl) (by simp) ?_
            refine AllReadyH.cons (o := { dst := some 4, op := Op.assign (Operand.tmp 35), type := 22, pos := "span.go:63", after := #[{ on := 5, ground := Ground.data }, { on := 3, ground := Ground.chain }, { on := 0, ground := Ground.phase }, { on := 1, ground := Ground.phase }, { on := 2, ground := Ground.phase }, { on := 3, ground := Ground.phase }, { on := 4, ground := Ground.phase }, { on := 5, ground := Ground.phase }, { on := 6, ground := Ground.textOnly Departure.lateStores }], guard := none }) rfl (fun K hK => ?_) AllReadyH.nil
            go_simp
            refine hK.out _ _ ?_ (fun hHeld => ?_)
            · exact ⟨(two_cell (heap_fut R8.out G12.out)).1, (two_cell (heap_fut R8.out G12.out)).2.1⟩
            clear hK K
            try simp only [Act.put, List.setIfInBounds_toArray, List.set_cons_zero, List.set_cons_succ]
            refine wpAnyH_ready (rs := [8]) (by kernel_rfl) (by simp) ?_
            refine AllReadyH.cons (o := { dst := some 5, op := Op.assign (Operand.tmp 36), type := 4, pos := "span.go:63", after := #[{ on := 6, ground := Ground.data }, { on := 7, ground := Ground.chain }, { on := 0, ground := Ground.phase }, { on := 1, ground := Ground.phase }, { on := 2, ground := Ground.phase }, { on := 3, ground := Ground.phase }, { on := 4, ground := Ground.phase }, { on := 5, ground := Ground.phase }, { on := 6, ground := Ground.phase }, { on := 7, ground := Ground.phase }], guard := none }) rfl (fun K hK => ?_) AllReadyH.nil
            go_simp
            refine hK.out _ _ ?_ (fun hHeld => ?_)
            · exact ⟨(two_cell (heap_fut R8.out G12.out)).1, (two_cell (heap_fut R8.out G12.out)).2.1⟩
            clear hK K
            try simp only [Act.put, List.setIfInBounds_toArray, List.set_cons_zero, List.set_cons_succ]
            refine wpAnyH_done (by kernel_rfl) ?_ _
            cases hrd : rdI d x s r with
            | none =>
              have HRN : Hid (rdI (d + 1) x y (s :: r) = none) := Lib.hid (by rw [HR.out, hrd])
              rw [hrd] at hR1 hR2 I12
              simp only [Option.getD_none, Option.isSome_none, List.length_nil]
              go_wp2_with fail
              go_ret2
              rw [HRN.out]
              exact ⟨none, 0, rfl, Nat.le_refl _, by simp, nil_ints _ _, HFu.out.trans G12.out⟩
            | some r' =>
              have HRN : Hid (rdI (d + 1) x y (s :: r) = rdI d (s + 1) y r') := Lib.hid (by rw [HR.out, hrd])
              rw [hrd] at hR1 hR2 I12
              simp only [Option.getD_some, Option.isSome_some] at hR1 hR2 I12 ⊢
              have HC2 : Hid (∀ W, Fut v12 W → Calls Try.prog 75 #[spV (s + 1) y, .slice lb r'.length lcb] W fun e w' => RdP (rdI d (s + 1) y r') r'.length W e w') := Lib.hid (fun W k => HRC.out (s + 1) y (by omega) (by omega) hy (by omega) lb r' lcb W (I12.out.fut k) hR1 (by omega))
              obtain ⟨z0, z1, _⟩ := two_cell (heap_fut R9.out G12.out)
              go_wp2_with fail
              refine (HC2.out _ Fut.rfl).mono ?_
              rintro _ v13 ⟨lb3, lcb3, rfl, hR3, hR4, hI3, T13⟩
              have I13 := Lib.hid hI3
              have G13 := Lib.hid T13
              clear hI3 T13
              go_wp2_with fail
              go_ret2
              rw [HRN.out]
              exact ⟨lb3, lcb3, rfl, hR3, by have := HLC2.out; omega, I13.out, (HFu.out.trans G12.out).trans G13.out⟩
          · go_simp
            obtain ⟨v9, hv9⟩ : ∃ W, W = v4.alloc (.cells #[.int .i64 0, .int .i64 0] 69) := ⟨_, rfl⟩
            have T9 : Hid (Fut v4 v9) := Lib.hid (by rw [hv9]; exact Fut.alloc _ _)
            have G9 : Hid (Fut u0 v9) := Lib.hid ((G4.out).trans T9.out)
            have N9 : Hid (v9.heap[v4.heap.size]? = some (.cells #[.int .i64 0, .int .i64 0] 69)) := Lib.hid (by rw [hv9]; exact World.alloc_heap_new v4 _)
            obtain ⟨a9, ha9⟩ : ∃ s, s = v4.heap.size := ⟨_, rfl⟩
            have Z9 : Hid (u0.heap.size ≤ a9 ∧ a9 < v9.heap.size) := Lib.hid (by rw [ha9]; exact ⟨RowKit.Below.size (G4.out : Fut u0 v4), by rw [hv9, World.size_alloc]; omega⟩)
            rw [← hv9]
            rw [← ha9] at N9 ⊢
            clear hv9 ha9
            refine hK.out _ _ ?_ (fun hHeld => ?_)
            · exact keep _ G9.out
            clear hK K
            try simp only [Act.put, List.setIfInBounds_toArray, List.set_cons_zero, List.set_cons_succ]
            refine wpAnyH_ready (rs := [8]) (by kernel_rfl) (by simp) ?_
            refine AllReadyH.cons (o := { dst := some 6, op := Op.alloc 69, type := 0, pos := "span.go:62", after := #[], guard := none }) rfl (fun K hK => ?_) AllReadyH.nil
            go_simp
            obtain ⟨v8, hv8⟩ : ∃ W, W = v9.alloc (.cells #[.int .i64 0, .int .i64 0] 69) := ⟨_, rfl⟩
            have T8 : Hid (Fut v9 v8) := Lib.hid (by rw [hv8]; exact Fut.alloc _ _)
            have G8 : Hid (Fut u0 v8) := Lib.hid ((G9.out).trans T8.out)
            have N8 : Hid (v8.heap[v9.heap.size]? = some (.cells #[.int .i64 0, .int .i64 0] 69)) := Lib.hid (by rw [hv8]; exact World.alloc_heap_new v9 _)
            obtain ⟨a8, ha8⟩ : ∃ s, s = v9.heap.size := ⟨_, rfl⟩
            have Z8 : Hid (u0.heap.size ≤ a8 ∧ a8 < v8.heap.size) := Lib.hid (by rw [ha8]; exact ⟨RowKit.Below.size (G9.out : Fut u0 v9), by rw [hv8, World.size_alloc]; omega⟩)
            rw [← hv8]
            rw [← ha8] at N8 ⊢
            have NE : Hid (a8 ≠ a9) := Lib.hid (by rw [ha8]; have e1 := Z9.out.2; have e2 : v9.heap.size ≤ v9.heap.size := RowKit.Below.size (Fut.rfl : Fut v9 v9); omega)
            clear hv8 ha8
            refine hK.out _ _ ?_ (fun hHeld => ?_)
            · exact keep _ G8.out
            clear hK K
            try simp only [Act.put, List.setIfInBounds_toArray, List.set_cons_zero, List.set_cons_succ]
            refine wpAnyH_ready (rs := [10]) (by kernel_rfl) (by simp) ?_
            refine AllReadyH.cons (o := { dst := none, op := Op.store 69 (Operand.tmp 6) (Operand.tmp 28), type := 0, pos := "span.go:62", after := #[{ on := 8, ground := Ground.data }, { on := 6, ground := Ground.data }, { on := 4, ground := Ground.chain }, { on := 0, ground := Ground.phase }, { on := 1, ground := Ground.phase }, { on := 2, ground := Ground.phase }, { on := 3, ground := Ground.phase }, { on := 4, ground := Ground.phase }, { on := 5, ground := Ground.phase }, { on := 6, ground := Ground.phase }, { on := 7, ground := Ground.textOnly Departure.lateStores }, { on := 8, ground := Ground.phase }, { on := 9, ground := Ground.phase }], guard := none }) rfl (fun K hK => ?_) AllReadyH.nil
            obtain ⟨⟨y1, y2⟩, ⟨y3, y4⟩, y5⟩ := set2_both (.int .i64 x) (.int .i64 s) (heap_fut N8.out (Fut.rfl))
            have P8 := Lib.hid y5
            have P9 := Lib.hid (heap_kept (heap_kept (heap_fut N9.out (T8.out)) (set_grown v8 a8 0 (.int .i64 x)) (fun e => NE.out (Option.some.inj e))) (set_grown (v8.setCell ⟨a8, 0, none⟩ (.int .i64 x)) a8 1 (.int .i64 s)) (fun e => NE.out (Option.some.inj e)))
            have G10 : Hid (Fut u0 ((v8.setCell ⟨a8, 0, none⟩ (.int .i64 x)).setCell ⟨a8, 1, none⟩ (.int .i64 s))) := Lib.hid (RowKit.Below.setCell (p := ⟨a8, 1, none⟩) (RowKit.Below.setCell (p := ⟨a8, 0, none⟩) (G8.out) Z8.out.1 _) Z8.out.1 _)
            go_simp
            clear y1 y2 y3 y4 y5
            generalize (v8.setCell ⟨a8, 0, none⟩ (.int .i64 x)).setCell ⟨a8, 1, none⟩ (.int .i64 s) = v10 at *
            refine hK.out _ _ ?_ (fun hHeld => ?_)
            · exact keep _ G10.out
            clear hK K
            try simp only [Act.put, List.setIfInBounds_toArray, List.set_cons_zero, List.set_cons_succ]
            refine wpAnyH_ready (rs := [11]) (by kernel_rfl) (by simp) ?_
            refine AllReadyH.cons (o := { dst := none, op := Op.store 69 (Operand.tmp 7) (Operand.tmp 29), type := 0, pos := "span.go:62", after := #[{ on := 9, ground := Ground.data }, { on := 7, ground := Ground.data }, { on := 10, ground := Ground.chain }, { on := 0, ground := Ground.phase }, { on := 1, ground := Ground.phase }, { on := 2, ground := Ground.phase }, { on := 3, ground := Ground.phase }, { on := 4, ground := Ground.phase }, { on := 5, ground := Ground.phase }, { on := 6, ground := Ground.phase }, { on := 7, ground := Ground.phase }, { on := 8, ground := Ground.phase }, { on := 9, ground := Ground.phase }, { on := 10, ground := Ground.phase }], guard := none }) rfl (fun K hK => ?_) AllReadyH.nil
            obtain ⟨⟨y1, y2⟩, ⟨y3, y4⟩, y5⟩ := set2_both (.int .i64 (s + 1)) (.int .i64 y) P9.out
            have Q9 := Lib.hid y5
            have Q8 := Lib.hid (heap_kept (heap_kept P8.out (set_grown v10 a9 0 (.int .i64 (s + 1))) (fun e => NE.out (Option.some.inj e).symm)) (set_grown (v10.setCell ⟨a9, 0, none⟩ (.int .i64 (s + 1))) a9 1 (.int .i64 y)) (fun e => NE.out (Option.some.inj e).symm))
            have G11 : Hid (Fut u0 ((v10.setCell ⟨a9, 0, none⟩ (.int .i64 (s + 1))).setCell ⟨a9, 1, none⟩ (.int .i64 y))) := Lib.hid (RowKit.Below.setCell (p := ⟨a9, 1, none⟩) (RowKit.Below.setCell (p := ⟨a9, 0, none⟩) G10.out Z9.out.1 _) Z9.out.1 _)
            go_simp
            clear y1 y2 y3 y4 y5 P8 P9
            generalize (v10.setCell ⟨a9, 0, none⟩ (.int .i64 (s + 1))).setCell ⟨a9, 1, none⟩ (.int .i64 y) = v11 at *
            refine hK.out _ _ ?_ (fun hHeld => ?_)
            · exact keep _ G11.out
            clear hK K
            try simp only [Act.put, List.setIfInBounds_toArray, List.set_cons_zero, List.set_cons_succ]
            refine wpAnyH_done (by kernel_rfl) ?_ _
            go_upto_region 6 with fail
            have HFu : Hid (Fut w v11.drew) := Lib.hid ((HFD.out.trans G11.out).trans (below_drewN Fut.rfl 1))
            have R8 : Hid (v11.drew.heap[a8]? = some (.cells #[.int .i64 x, .int .i64 s] 69)) := Lib.hid (heap_fut Q8.out (below_drewN Fut.rfl 1 : Fut v11 v11.drew))
            have R9 : Hid (v11.drew.heap[a9]? = some (.cells #[.int .i64 (s + 1), .int .i64 y] 69)) := Lib.hid (heap_fut Q9.out (below_drewN Fut.rfl 1 : Fut v11 v11.drew))
            have HC1 : Hid (∀ W, Fut v11.drew W → Calls Try.prog 75 #[spV x s, .slice (some ⟨b, offK o 1 lc, none⟩) r.length (lc - 1)] W fun e w' => RdP (rdI d x s r) r.length W e w') := Lib.hid (fun W k => HRC.out x s hx hxs.1 (by omega) (by omega) _ r (lc - 1) W (HFR.out W (HFu.out.trans k)) (by have := HLC2.out; omega) hl2)
            have hsl := HSL.out
            clear Q8 Q9 G11
            refine wp_region_held_drew (S := (fun w' => w'.cell? ⟨a8, 0, none⟩ = some (.int .i64 x) ∧ w'.cell? ⟨a8, 1, none⟩ = some (.int .i64 s))) (by kernel_rfl) ?_ (fun hHeld => ?_)
            · exact ⟨(two_cell R8.out).1, (two_cell R8.out).2.1⟩
            generalize v11.drew = u1 at *
            refine wpAnyH_take (i := 0) (oi := { dst := some 31, op := Op.load 69 (Operand.tmp 6), type := 69, pos := "span.go:63", after := #[], guard := none }) (v := ?_) rfl (by kernel_rfl) (by kernel_rfl) (by kernel_rfl) (fun _ _ _ h => h) (Or.inl ⟨by rfl, ?_⟩) (by assumption) ?_
            rotate_left
            · (intro w hSw; obtain ⟨s0, s1⟩ := hSw; go_simp <;> with_reducible rfl)
            try simp only [Act.put, List.setIfInBounds_toArray, List.set_cons_zero, List.set_cons_succ]
            refine wpAnyH_take (i := 1) (oi := { dst := some 32, op := Op.move (Operand.tmp 1), type := 22, pos := "span.go:63", after := #[], guard := none }) (v := ?_) rfl (by kernel_rfl) (by kernel_rfl) (by kernel_rfl) (fun _ _ _ h => h) (Or.inl ⟨by rfl, ?_⟩) (by assumption) ?_
            rotate_left
            · (intro w hSw; obtain ⟨s0, s1⟩ := hSw; go_simp <;> with_reducible rfl)
            try simp only [Act.put, List.setIfInBounds_toArray, List.set_cons_zero, List.set_cons_succ]
            refine wpAnyH_take (i := 2) (oi := { dst := some 33, op := Op.slice 22 (Operand.tmp 32) (some (Operand.const (Value.int IntKind.i64 1))) none none, type := 22, pos := "span.go:63", after := #[{ on := 1, ground := Ground.data }], guard := none }) (v := ?_) rfl (by kernel_rfl) (by kernel_rfl) (by kernel_rfl) (fun _ _ _ h => h) (Or.inl ⟨by rfl, ?_⟩) (by assumption) ?_
            rotate_left
            · (intro w hSw; obtain ⟨s0, s1⟩ := hSw; go_simp <;> with_reducible rfl)
            try simp only [Act.put, List.setIfInBounds_toArray, List.set_cons_zero, List.set_cons_succ]
            refine wpAnyH_ready (rs := [3]) (by kernel_rfl) (by simp) ?_
            refine AllReadyH.cons (o := { dst := some 34, op := Op.call { callee := Callee.value (Operand.func 75), args := #[Operand.tmp 31, Operand.tmp 33], argTypes := #[69, 22] }, type := 89, pos := "span.go:63", after := #[{ on := 0, ground := Ground.data }, { on := 2, ground := Ground.data }], guard := none }) rfl (fun K hK => ?_) AllReadyH.nil
            go_simp
            go_at_call 75
            refine (HC1.out u1 Fut.rfl).mono ?_
            rintro _ v12 ⟨lb, lcb, rfl, hR1, hR2, hI, T12⟩
            have G12 := Lib.hid T12
            have I12 := Lib.hid hI
            clear T12 hI
            try go_wp2_with fail
            refine hK.out _ _ ?_ (fun hHeld => ?_)
            · exact ⟨(two_cell (heap_fut R8.out G12.out)).1, (two_cell (heap_fut R8.out G12.out)).2.1⟩
            clear hK K
            try simp only [Act.put, List.setIfInBounds_toArray, List.set_cons_zero, List.set_cons_succ]
            refine wpAnyH_take (i := 4) (oi := { dst := some 30, op := Op.move (Operand.tmp 34), type := 89, pos := "span.go:63", after := #[{ on := 3, ground := Ground.data }], guard := none }) (v := ?_) rfl (by kernel_rfl) (by kernel_rfl) (by kernel_rfl) (fun _ _ _ h => h) (Or.inl ⟨by rfl, ?_⟩) (by assumption) ?_
            rotate_left
            · (intro w hSw; obtain ⟨s0, s1⟩ := hSw; go_simp <;> with_reducible rfl)
            try simp only [Act.put, List.setIfInBounds_toArray, List.set_cons_zero, List.set_cons_succ]
            refine wpAnyH_take (i := 5) (oi := { dst := some 35, op := Op.extract (Operand.tmp 30) 0, type := 22, pos := "span.go:63", after := #[{ on := 4, ground := Ground.data }], guard := none }) (v := ?_) rfl (by kernel_rfl) (by kernel_rfl) (by kernel_rfl) (fun _ _ _ h => h) (Or.inl ⟨by rfl, ?_⟩) (by assumption) ?_
            rotate_left
            · (intro w hSw; obtain ⟨s0, s1⟩ := hSw; go_simp <;> with_reducible rfl)
            try simp only [Act.put, List.setIfInBounds_toArray, List.set_cons_zero, List.set_cons_succ]
            refine wpAnyH_take (i := 6) (oi := { dst := some 36, op := Op.extract (Operand.tmp 30) 1, type := 4, pos := "span.go:63", after := #[{ on := 4, ground := Ground.data }, { on := 7, ground := Ground.gcOnly Departure.lateStores }], guard := none }) (v := ?_) rfl (by kernel_rfl) (by kernel_rfl) (by kernel_rfl) (fun _ _ _ h => h) (Or.inl ⟨by rfl, ?_⟩) (by assumption) ?_
            rotate_left
            · (intro w hSw; obtain ⟨s0, s1⟩ := hSw; go_simp <;> with_reducible rfl)
            try simp only [Act.put, List.setIfInBounds_toArray, List.set_cons_zero, List.set_cons_succ]
            refine wpAnyH_ready (rs := [7]) (by kernel_rfl) (by simp) ?_
            refine AllReadyH.cons (o := { dst := some 4, op := Op.assign (Operand.tmp 35), type := 22, pos := "span.go:63", after := #[{ on := 5, ground := Ground.data }, { on := 3, ground := Ground.chain }, { on := 0, ground := Ground.phase }, { on := 1, ground := Ground.phase }, { on := 2, ground := Ground.phase }, { on := 3, ground := Ground.phase }, { on := 4, ground := Ground.phase }, { on := 5, ground := Ground.phase }, { on := 6, ground := Ground.textOnly Departure.lateStores }], guard := none }) rfl (fun K hK => ?_) AllReadyH.nil
            go_simp
            refine hK.out _ _ ?_ (fun hHeld => ?_)
            · exact ⟨(two_cell (heap_fut R8.out G12.out)).1, (two_cell (heap_fut R8.out G12.out)).2.1⟩
            clear hK K
            try simp only [Act.put, List.setIfInBounds_toArray, List.set_cons_zero, List.set_cons_succ]
            refine wpAnyH_ready (rs := [8]) (by kernel_rfl) (by simp) ?_
            refine AllReadyH.cons (o := { dst := some 5, op := Op.assign (Operand.tmp 36), type := 4, pos := "span.go:63", after := #[{ on := 6, ground := Ground.data }, { on := 7, ground := Ground.chain }, { on := 0, ground := Ground.phase }, { on := 1, ground := Ground.phase }, { on := 2, ground := Ground.phase }, { on := 3, ground := Ground.phase }, { on := 4, ground := Ground.phase }, { on := 5, ground := Ground.phase }, { on := 6, ground := Ground.phase }, { on := 7, ground := Ground.phase }], guard := none }) rfl (fun K hK => ?_) AllReadyH.nil
            go_simp
            refine hK.out _ _ ?_ (fun hHeld => ?_)
            · exact ⟨(two_cell (heap_fut R8.out G12.out)).1, (two_cell (heap_fut R8.out G12.out)).2.1⟩
            clear hK K
            try simp only [Act.put, List.setIfInBounds_toArray, List.set_cons_zero, List.set_cons_succ]
            refine wpAnyH_done (by kernel_rfl) ?_ _
            cases hrd : rdI d x s r with
            | none =>
              have HRN : Hid (rdI (d + 1) x y (s :: r) = none) := Lib.hid (by rw [HR.out, hrd])
              rw [hrd] at hR1 hR2 I12
              simp only [Option.getD_none, Option.isSome_none, List.length_nil]
              go_wp2_with fail
              go_ret2
              rw [HRN.out]
              exact ⟨none, 0, rfl, Nat.le_refl _, by simp, nil_ints _ _, HFu.out.trans G12.out⟩
            | some r' =>
              have HRN : Hid (rdI (d + 1) x y (s :: r) = rdI d (s + 1) y r') := Lib.hid (by rw [HR.out, hrd])
              rw [hrd] at hR1 hR2 I12
              simp only [Option.getD_some, Option.isSome_some] at hR1 hR2 I12 ⊢
              have HC2 : Hid (∀ W, Fut v12 W → Calls Try.prog 75 #[spV (s + 1) y, .slice lb r'.length lcb] W fun e w' => RdP (rdI d (s + 1) y r') r'.length W e w') := Lib.hid (fun W k => HRC.out (s + 1) y (by omega) (by omega) hy (by omega) lb r' lcb W (I12.out.fut k) hR1 (by omega))
              obtain ⟨z0, z1, _⟩ := two_cell (heap_fut R9.out G12.out)
              go_wp2_with fail
              refine (HC2.out _ Fut.rfl).mono ?_
              rintro _ v13 ⟨lb3, lcb3, rfl, hR3, hR4, hI3, T13⟩
              have I13 := Lib.hid hI3
              have G13 := Lib.hid T13
              clear hI3 T13
              go_wp2_with fail
              go_ret2
              rw [HRN.out]
              exact ⟨lb3, lcb3, rfl, hR3, by have := HLC2.out; omega, I13.out, (HFu.out.trans G12.out).trans G13.out⟩
        · go_simp
          obtain ⟨v8, hv8⟩ : ∃ W, W = u0.alloc (.cells #[.int .i64 0, .int .i64 0] 69) := ⟨_, rfl⟩
          have T8 : Hid (Fut u0 v8) := Lib.hid (by rw [hv8]; exact Fut.alloc _ _)
          have G8 : Hid (Fut u0 v8) := Lib.hid ((Fut.rfl).trans T8.out)
          have N8 : Hid (v8.heap[u0.heap.size]? = some (.cells #[.int .i64 0, .int .i64 0] 69)) := Lib.hid (by rw [hv8]; exact World.alloc_heap_new u0 _)
          obtain ⟨a8, ha8⟩ : ∃ s, s = u0.heap.size := ⟨_, rfl⟩
          have Z8 : Hid (u0.heap.size ≤ a8 ∧ a8 < v8.heap.size) := Lib.hid (by rw [ha8]; exact ⟨RowKit.Below.size (Fut.rfl : Fut u0 u0), by rw [hv8, World.size_alloc]; omega⟩)
          rw [← hv8]
          rw [← ha8] at N8 ⊢
          clear hv8 ha8
          refine hK.out _ _ ?_ (fun hHeld => ?_)
          · exact keep _ G8.out
          clear hK K
          try simp only [Act.put, List.setIfInBounds_toArray, List.set_cons_zero, List.set_cons_succ]
          refine wpAnyH_ready (rs := [4, 9]) (by kernel_rfl) (by simp) ?_
          refine AllReadyH.cons (o := { dst := some 27, op := Op.call { callee := Callee.value (Operand.func 95), args := #[Operand.tmp 23, Operand.tmp 26], argTypes := #[69, 3] }, type := 110, pos := "span.go:62", after := #[{ on := 0, ground := Ground.data }, { on := 3, ground := Ground.data }], guard := none }) rfl (fun K hK => ?_) (AllReadyH.cons (o := { dst := some 7, op := Op.alloc 69, type := 0, pos := "span.go:62", after := #[], guard := none }) rfl (fun K hK => ?_) (AllReadyH.nil))
          · go_simp
            go_at_call 95
            refine (HPT.out v8).mono ?_
            rintro _ v4 ⟨rfl, T4⟩
            have G4 := Lib.hid ((G8.out).trans T4)
            replace T4 := Lib.hid T4
            try go_wp2_with fail
            refine hK.out _ _ ?_ (fun hHeld => ?_)
            · exact keep _ G4.out
            clear hK K
            try simp only [Act.put, List.setIfInBounds_toArray, List.set_cons_zero, List.set_cons_succ]
            refine wpAnyH_take (i := 5) (oi := { dst := some 22, op := Op.move (Operand.tmp 27), type := 110, pos := "span.go:62", after := #[{ on := 4, ground := Ground.data }], guard := none }) (v := ?_) rfl (by kernel_rfl) (by kernel_rfl) (by kernel_rfl) (fun _ _ _ h => h) (Or.inl ⟨by rfl, ?_⟩) (by assumption) ?_
            rotate_left
            · (intro w hSw; obtain ⟨⟨s0, s1⟩, s2⟩ := hSw; go_simp <;> with_reducible rfl)
            try simp only [Act.put, List.setIfInBounds_toArray, List.set_cons_zero, List.set_cons_succ]
            refine wpAnyH_take (i := 6) (oi := { dst := some 28, op := Op.extract (Operand.tmp 22) 0, type := 69, pos := "span.go:62", after := #[{ on := 5, ground := Ground.data }], guard := none }) (v := ?_) rfl (by kernel_rfl) (by kernel_rfl) (by kernel_rfl) (fun _ _ _ h => h) (Or.inl ⟨by rfl, ?_⟩) (by assumption) ?_
            rotate_left
            · (intro w hSw; obtain ⟨⟨s0, s1⟩, s2⟩ := hSw; go_simp <;> with_reducible rfl)
            try simp only [Act.put, List.setIfInBounds_toArray, List.set_cons_zero, List.set_cons_succ]
            refine wpAnyH_take (i := 7) (oi := { dst := some 29, op := Op.extract (Operand.tmp 22) 1, type := 69, pos := "span.go:62", after := #[{ on := 5, ground := Ground.data }, { on := 10, ground := Ground.gcOnly Departure.lateStores }], guard := none }) (v := ?_) rfl (by kernel_rfl) (by kernel_rfl) (by kernel_rfl) (fun _ _ _ h => h) (Or.inl ⟨by rfl, ?_⟩) (by assumption) ?_
            rotate_left
            · (intro w hSw; obtain ⟨⟨s0, s1⟩, s2⟩ := hSw; go_simp <;> with_reducible rfl)
            try simp only [Act.put, List.setIfInBounds_toArray, List.set_cons_zero, List.set_cons_succ]
            refine wpAnyH_ready (rs := [9]) (by kernel_rfl) (by simp) ?_
            refine AllReadyH.cons (o := { dst := some 7, op := Op.alloc 69, type := 0, pos := "span.go:62", after := #[], guard := none }) rfl (fun K hK => ?_) AllReadyH.nil
            go_simp
            obtain ⟨v9, hv9⟩ : ∃ W, W = v4.alloc (.cells #[.int .i64 0, .int .i64 0] 69) := ⟨_, rfl⟩
            have T9 : Hid (Fut v4 v9) := Lib.hid (by rw [hv9]; exact Fut.alloc _ _)
            have G9 : Hid (Fut u0 v9) := Lib.hid ((G4.out).trans T9.out)
            have N9 : Hid (v9.heap[v4.heap.size]? = some (.cells #[.int .i64 0, .int .i64 0] 69)) := Lib.hid (by rw [hv9]; exact World.alloc_heap_new v4 _)
            obtain ⟨a9, ha9⟩ : ∃ s, s = v4.heap.size := ⟨_, rfl⟩
            have Z9 : Hid (u0.heap.size ≤ a9 ∧ a9 < v9.heap.size) := Lib.hid (by rw [ha9]; exact ⟨RowKit.Below.size (G4.out : Fut u0 v4), by rw [hv9, World.size_alloc]; omega⟩)
            rw [← hv9]
            rw [← ha9] at N9 ⊢
            have NE : Hid (a8 ≠ a9) := Lib.hid (by rw [ha9]; have e1 := Z8.out.2; have e2 : v8.heap.size ≤ v4.heap.size := RowKit.Below.size (T4.out : Fut v8 v4); omega)
            clear hv9 ha9
            refine hK.out _ _ ?_ (fun hHeld => ?_)
            · exact keep _ G9.out
            clear hK K
            try simp only [Act.put, List.setIfInBounds_toArray, List.set_cons_zero, List.set_cons_succ]
            refine wpAnyH_ready (rs := [10]) (by kernel_rfl) (by simp) ?_
            refine AllReadyH.cons (o := { dst := none, op := Op.store 69 (Operand.tmp 6) (Operand.tmp 28), type := 0, pos := "span.go:62", after := #[{ on := 8, ground := Ground.data }, { on := 6, ground := Ground.data }, { on := 4, ground := Ground.chain }, { on := 0, ground := Ground.phase }, { on := 1, ground := Ground.phase }, { on := 2, ground := Ground.phase }, { on := 3, ground := Ground.phase }, { on := 4, ground := Ground.phase }, { on := 5, ground := Ground.phase }, { on := 6, ground := Ground.phase }, { on := 7, ground := Ground.textOnly Departure.lateStores }, { on := 8, ground := Ground.phase }, { on := 9, ground := Ground.phase }], guard := none }) rfl (fun K hK => ?_) AllReadyH.nil
            obtain ⟨⟨y1, y2⟩, ⟨y3, y4⟩, y5⟩ := set2_both (.int .i64 x) (.int .i64 s) (heap_fut N8.out ((T4.out.trans T9.out)))
            have P8 := Lib.hid y5
            have P9 := Lib.hid (heap_kept (heap_kept (heap_fut N9.out (Fut.rfl)) (set_grown v9 a8 0 (.int .i64 x)) (fun e => NE.out (Option.some.inj e))) (set_grown (v9.setCell ⟨a8, 0, none⟩ (.int .i64 x)) a8 1 (.int .i64 s)) (fun e => NE.out (Option.some.inj e)))
            have G10 : Hid (Fut u0 ((v9.setCell ⟨a8, 0, none⟩ (.int .i64 x)).setCell ⟨a8, 1, none⟩ (.int .i64 s))) := Lib.hid (RowKit.Below.setCell (p := ⟨a8, 1, none⟩) (RowKit.Below.setCell (p := ⟨a8, 0, none⟩) (G9.out) Z8.out.1 _) Z8.out.1 _)
            go_simp
            clear y1 y2 y3 y4 y5
            generalize (v9.setCell ⟨a8, 0, none⟩ (.int .i64 x)).setCell ⟨a8, 1, none⟩ (.int .i64 s) = v10 at *
            refine hK.out _ _ ?_ (fun hHeld => ?_)
            · exact keep _ G10.out
            clear hK K
            try simp only [Act.put, List.setIfInBounds_toArray, List.set_cons_zero, List.set_cons_succ]
            refine wpAnyH_ready (rs := [11]) (by kernel_rfl) (by simp) ?_
            refine AllReadyH.cons (o := { dst := none, op := Op.store 69 (Operand.tmp 7) (Operand.tmp 29), type := 0, pos := "span.go:62", after := #[{ on := 9, ground := Ground.data }, { on := 7, ground := Ground.data }, { on := 10, ground := Ground.chain }, { on := 0, ground := Ground.phase }, { on := 1, ground := Ground.phase }, { on := 2, ground := Ground.phase }, { on := 3, ground := Ground.phase }, { on := 4, ground := Ground.phase }, { on := 5, ground := Ground.phase }, { on := 6, ground := Ground.phase }, { on := 7, ground := Ground.phase }, { on := 8, ground := Ground.phase }, { on := 9, ground := Ground.phase }, { on := 10, ground := Ground.phase }], guard := none }) rfl (fun K hK => ?_) AllReadyH.nil
            obtain ⟨⟨y1, y2⟩, ⟨y3, y4⟩, y5⟩ := set2_both (.int .i64 (s + 1)) (.int .i64 y) P9.out
            have Q9 := Lib.hid y5
            have Q8 := Lib.hid (heap_kept (heap_kept P8.out (set_grown v10 a9 0 (.int .i64 (s + 1))) (fun e => NE.out (Option.some.inj e).symm)) (set_grown (v10.setCell ⟨a9, 0, none⟩ (.int .i64 (s + 1))) a9 1 (.int .i64 y)) (fun e => NE.out (Option.some.inj e).symm))
            have G11 : Hid (Fut u0 ((v10.setCell ⟨a9, 0, none⟩ (.int .i64 (s + 1))).setCell ⟨a9, 1, none⟩ (.int .i64 y))) := Lib.hid (RowKit.Below.setCell (p := ⟨a9, 1, none⟩) (RowKit.Below.setCell (p := ⟨a9, 0, none⟩) G10.out Z9.out.1 _) Z9.out.1 _)
            go_simp
            clear y1 y2 y3 y4 y5 P8 P9
            generalize (v10.setCell ⟨a9, 0, none⟩ (.int .i64 (s + 1))).setCell ⟨a9, 1, none⟩ (.int .i64 y) = v11 at *
            refine hK.out _ _ ?_ (fun hHeld => ?_)
            · exact keep _ G11.out
            clear hK K
            try simp only [Act.put, List.setIfInBounds_toArray, List.set_cons_zero, List.set_cons_succ]
            refine wpAnyH_done (by kernel_rfl) ?_ _
            go_upto_region 6 with fail
            have HFu : Hid (Fut w v11.drew) := Lib.hid ((HFD.out.trans G11.out).trans (below_drewN Fut.rfl 1))
            have R8 : Hid (v11.drew.heap[a8]? = some (.cells #[.int .i64 x, .int .i64 s] 69)) := Lib.hid (heap_fut Q8.out (below_drewN Fut.rfl 1 : Fut v11 v11.drew))
            have R9 : Hid (v11.drew.heap[a9]? = some (.cells #[.int .i64 (s + 1), .int .i64 y] 69)) := Lib.hid (heap_fut Q9.out (below_drewN Fut.rfl 1 : Fut v11 v11.drew))
            have HC1 : Hid (∀ W, Fut v11.drew W → Calls Try.prog 75 #[spV x s, .slice (some ⟨b, offK o 1 lc, none⟩) r.length (lc - 1)] W fun e w' => RdP (rdI d x s r) r.length W e w') := Lib.hid (fun W k => HRC.out x s hx hxs.1 (by omega) (by omega) _ r (lc - 1) W (HFR.out W (HFu.out.trans k)) (by have := HLC2.out; omega) hl2)
            have hsl := HSL.out
            clear Q8 Q9 G11
            refine wp_region_held_drew (S := (fun w' => w'.cell? ⟨a8, 0, none⟩ = some (.int .i64 x) ∧ w'.cell? ⟨a8, 1, none⟩ = some (.int .i64 s))) (by kernel_rfl) ?_ (fun hHeld => ?_)
            · exact ⟨(two_cell R8.out).1, (two_cell R8.out).2.1⟩
            generalize v11.drew = u1 at *
            refine wpAnyH_take (i := 0) (oi := { dst := some 31, op := Op.load 69 (Operand.tmp 6), type := 69, pos := "span.go:63", after := #[], guard := none }) (v := ?_) rfl (by kernel_rfl) (by kernel_rfl) (by kernel_rfl) (fun _ _ _ h => h) (Or.inl ⟨by rfl, ?_⟩) (by assumption) ?_
            rotate_left
            · (intro w hSw; obtain ⟨s0, s1⟩ := hSw; go_simp <;> with_reducible rfl)
            try simp only [Act.put, List.setIfInBounds_toArray, List.set_cons_zero, List.set_cons_succ]
            refine wpAnyH_take (i := 1) (oi := { dst := some 32, op := Op.move (Operand.tmp 1), type := 22, pos := "span.go:63", after := #[], guard := none }) (v := ?_) rfl (by kernel_rfl) (by kernel_rfl) (by kernel_rfl) (fun _ _ _ h => h) (Or.inl ⟨by rfl, ?_⟩) (by assumption) ?_
            rotate_left
            · (intro w hSw; obtain ⟨s0, s1⟩ := hSw; go_simp <;> with_reducible rfl)
            try simp only [Act.put, List.setIfInBounds_toArray, List.set_cons_zero, List.set_cons_succ]
            refine wpAnyH_take (i := 2) (oi := { dst := some 33, op := Op.slice 22 (Operand.tmp 32) (some (Operand.const (Value.int IntKind.i64 1))) none none, type := 22, pos := "span.go:63", after := #[{ on := 1, ground := Ground.data }], guard := none }) (v := ?_) rfl (by kernel_rfl) (by kernel_rfl) (by kernel_rfl) (fun _ _ _ h => h) (Or.inl ⟨by rfl, ?_⟩) (by assumption) ?_
            rotate_left
            · (intro w hSw; obtain ⟨s0, s1⟩ := hSw; go_simp <;> with_reducible rfl)
            try simp only [Act.put, List.setIfInBounds_toArray, List.set_cons_zero, List.set_cons_succ]
            refine wpAnyH_ready (rs := [3]) (by kernel_rfl) (by simp) ?_
            refine AllReadyH.cons (o := { dst := some 34, op := Op.call { callee := Callee.value (Operand.func 75), args := #[Operand.tmp 31, Operand.tmp 33], argTypes := #[69, 22] }, type := 89, pos := "span.go:63", after := #[{ on := 0, ground := Ground.data }, { on := 2, ground := Ground.data }], guard := none }) rfl (fun K hK => ?_) AllReadyH.nil
            go_simp
            go_at_call 75
            refine (HC1.out u1 Fut.rfl).mono ?_
            rintro _ v12 ⟨lb, lcb, rfl, hR1, hR2, hI, T12⟩
            have G12 := Lib.hid T12
            have I12 := Lib.hid hI
            clear T12 hI
            try go_wp2_with fail
            refine hK.out _ _ ?_ (fun hHeld => ?_)
            · exact ⟨(two_cell (heap_fut R8.out G12.out)).1, (two_cell (heap_fut R8.out G12.out)).2.1⟩
            clear hK K
            try simp only [Act.put, List.setIfInBounds_toArray, List.set_cons_zero, List.set_cons_succ]
            refine wpAnyH_take (i := 4) (oi := { dst := some 30, op := Op.move (Operand.tmp 34), type := 89, pos := "span.go:63", after := #[{ on := 3, ground := Ground.data }], guard := none }) (v := ?_) rfl (by kernel_rfl) (by kernel_rfl) (by kernel_rfl) (fun _ _ _ h => h) (Or.inl ⟨by rfl, ?_⟩) (by assumption) ?_
            rotate_left
            · (intro w hSw; obtain ⟨s0, s1⟩ := hSw; go_simp <;> with_reducible rfl)
            try simp only [Act.put, List.setIfInBounds_toArray, List.set_cons_zero, List.set_cons_succ]
            refine wpAnyH_take (i := 5) (oi := { dst := some 35, op := Op.extract (Operand.tmp 30) 0, type := 22, pos := "span.go:63", after := #[{ on := 4, ground := Ground.data }], guard := none }) (v := ?_) rfl (by kernel_rfl) (by kernel_rfl) (by kernel_rfl) (fun _ _ _ h => h) (Or.inl ⟨by rfl, ?_⟩) (by assumption) ?_
            rotate_left
            · (intro w hSw; obtain ⟨s0, s1⟩ := hSw; go_simp <;> with_reducible rfl)
            try simp only [Act.put, List.setIfInBounds_toArray, List.set_cons_zero, List.set_cons_succ]
            refine wpAnyH_take (i := 6) (oi := { dst := some 36, op := Op.extract (Operand.tmp 30) 1, type := 4, pos := "span.go:63", after := #[{ on := 4, ground := Ground.data }, { on := 7, ground := Ground.gcOnly Departure.lateStores }], guard := none }) (v := ?_) rfl (by kernel_rfl) (by kernel_rfl) (by kernel_rfl) (fun _ _ _ h => h) (Or.inl ⟨by rfl, ?_⟩) (by assumption) ?_
            rotate_left
            · (intro w hSw; obtain ⟨s0, s1⟩ := hSw; go_simp <;> with_reducible rfl)
            try simp only [Act.put, List.setIfInBounds_toArray, List.set_cons_zero, List.set_cons_succ]
            refine wpAnyH_ready (rs := [7]) (by kernel_rfl) (by simp) ?_
            refine AllReadyH.cons (o := { dst := some 4, op := Op.assign (Operand.tmp 35), type := 22, pos := "span.go:63", after := #[{ on := 5, ground := Ground.data }, { on := 3, ground := Ground.chain }, { on := 0, ground := Ground.phase }, { on := 1, ground := Ground.phase }, { on := 2, ground := Ground.phase }, { on := 3, ground := Ground.phase }, { on := 4, ground := Ground.phase }, { on := 5, ground := Ground.phase }, { on := 6, ground := Ground.textOnly Departure.lateStores }], guard := none }) rfl (fun K hK => ?_) AllReadyH.nil
            go_simp
            refine hK.out _ _ ?_ (fun hHeld => ?_)
            · exact ⟨(two_cell (heap_fut R8.out G12.out)).1, (two_cell (heap_fut R8.out G12.out)).2.1⟩
            clear hK K
            try simp only [Act.put, List.setIfInBounds_toArray, List.set_cons_zero, List.set_cons_succ]
            refine wpAnyH_ready (rs := [8]) (by kernel_rfl) (by simp) ?_
            refine AllReadyH.cons (o := { dst := some 5, op := Op.assign (Operand.tmp 36), type := 4, pos := "span.go:63", after := #[{ on := 6, ground := Ground.data }, { on := 7, ground := Ground.chain }, { on := 0, ground := Ground.phase }, { on := 1, ground := Ground.phase }, { on := 2, ground := Ground.phase }, { on := 3, ground := Ground.phase }, { on := 4, ground := Ground.phase }, { on := 5, ground := Ground.phase }, { on := 6, ground := Ground.phase }, { on := 7, ground := Ground.phase }], guard := none }) rfl (fun K hK => ?_) AllReadyH.nil
            go_simp
            refine hK.out _ _ ?_ (fun hHeld => ?_)
            · exact ⟨(two_cell (heap_fut R8.out G12.out)).1, (two_cell (heap_fut R8.out G12.out)).2.1⟩
            clear hK K
            try simp only [Act.put, List.setIfInBounds_toArray, List.set_cons_zero, List.set_cons_succ]
            refine wpAnyH_done (by kernel_rfl) ?_ _
            cases hrd : rdI d x s r with
            | none =>
              have HRN : Hid (rdI (d + 1) x y (s :: r) = none) := Lib.hid (by rw [HR.out, hrd])
              rw [hrd] at hR1 hR2 I12
              simp only [Option.getD_none, Option.isSome_none, List.length_nil]
              go_wp2_with fail
              go_ret2
              rw [HRN.out]
              exact ⟨none, 0, rfl, Nat.le_refl _, by simp, nil_ints _ _, HFu.out.trans G12.out⟩
            | some r' =>
              have HRN : Hid (rdI (d + 1) x y (s :: r) = rdI d (s + 1) y r') := Lib.hid (by rw [HR.out, hrd])
              rw [hrd] at hR1 hR2 I12
              simp only [Option.getD_some, Option.isSome_some] at hR1 hR2 I12 ⊢
              have HC2 : Hid (∀ W, Fut v12 W → Calls Try.prog 75 #[spV (s + 1) y, .slice lb r'.length lcb] W fun e w' => RdP (rdI d (s + 1) y r') r'.length W e w') := Lib.hid (fun W k => HRC.out (s + 1) y (by omega) (by omega) hy (by omega) lb r' lcb W (I12.out.fut k) hR1 (by omega))
              obtain ⟨z0, z1, _⟩ := two_cell (heap_fut R9.out G12.out)
              go_wp2_with fail
              refine (HC2.out _ Fut.rfl).mono ?_
              rintro _ v13 ⟨lb3, lcb3, rfl, hR3, hR4, hI3, T13⟩
              have I13 := Lib.hid hI3
              have G13 := Lib.hid T13
              clear hI3 T13
              go_wp2_with fail
              go_ret2
              rw [HRN.out]
              exact ⟨lb3, lcb3, rfl, hR3, by have := HLC2.out; omega, I13.out, (HFu.out.trans G12.out).trans G13.out⟩
          · go_simp
            obtain ⟨v9, hv9⟩ : ∃ W, W = v8.alloc (.cells #[.int .i64 0, .int .i64 0] 69) := ⟨_, rfl⟩
            have T9 : Hid (Fut v8 v9) := Lib.hid (by rw [hv9]; exact Fut.alloc _ _)
            have G9 : Hid (Fut u0 v9) := Lib.hid ((G8.out).trans T9.out)
            have N9 : Hid (v9.heap[v8.heap.size]? = some (.cells #[.int .i64 0, .int .i64 0] 69)) := Lib.hid (by rw [hv9]; exact World.alloc_heap_new v8 _)
            obtain ⟨a9, ha9⟩ : ∃ s, s = v8.heap.size := ⟨_, rfl⟩
            have Z9 : Hid (u0.heap.size ≤ a9 ∧ a9 < v9.heap.size) := Lib.hid (by rw [ha9]; exact ⟨RowKit.Below.size (G8.out : Fut u0 v8), by rw [hv9, World.size_alloc]; omega⟩)
            rw [← hv9]
            rw [← ha9] at N9 ⊢
            have NE : Hid (a8 ≠ a9) := Lib.hid (by rw [ha9]; have e1 := Z8.out.2; have e2 : v8.heap.size ≤ v8.heap.size := RowKit.Below.size (Fut.rfl : Fut v8 v8); omega)
            clear hv9 ha9
            refine hK.out _ _ ?_ (fun hHeld => ?_)
            · exact keep _ G9.out
            clear hK K
            try simp only [Act.put, List.setIfInBounds_toArray, List.set_cons_zero, List.set_cons_succ]
            refine wpAnyH_ready (rs := [4]) (by kernel_rfl) (by simp) ?_
            refine AllReadyH.cons (o := { dst := some 27, op := Op.call { callee := Callee.value (Operand.func 95), args := #[Operand.tmp 23, Operand.tmp 26], argTypes := #[69, 3] }, type := 110, pos := "span.go:62", after := #[{ on := 0, ground := Ground.data }, { on := 3, ground := Ground.data }], guard := none }) rfl (fun K hK => ?_) AllReadyH.nil
            go_simp
            go_at_call 95
            refine (HPT.out v9).mono ?_
            rintro _ v4 ⟨rfl, T4⟩
            have G4 := Lib.hid ((G9.out).trans T4)
            replace T4 := Lib.hid T4
            try go_wp2_with fail
            refine hK.out _ _ ?_ (fun hHeld => ?_)
            · exact keep _ G4.out
            clear hK K
            try simp only [Act.put, List.setIfInBounds_toArray, List.set_cons_zero, List.set_cons_succ]
            refine wpAnyH_take (i := 5) (oi := { dst := some 22, op := Op.move (Operand.tmp 27), type := 110, pos := "span.go:62", after := #[{ on := 4, ground := Ground.data }], guard := none }) (v := ?_) rfl (by kernel_rfl) (by kernel_rfl) (by kernel_rfl) (fun _ _ _ h => h) (Or.inl ⟨by rfl, ?_⟩) (by assumption) ?_
            rotate_left
            · (intro w hSw; obtain ⟨⟨s0, s1⟩, s2⟩ := hSw; go_simp <;> with_reducible rfl)
            try simp only [Act.put, List.setIfInBounds_toArray, List.set_cons_zero, List.set_cons_succ]
            refine wpAnyH_take (i := 6) (oi := { dst := some 28, op := Op.extract (Operand.tmp 22) 0, type := 69, pos := "span.go:62", after := #[{ on := 5, ground := Ground.data }], guard := none }) (v := ?_) rfl (by kernel_rfl) (by kernel_rfl) (by kernel_rfl) (fun _ _ _ h => h) (Or.inl ⟨by rfl, ?_⟩) (by assumption) ?_
            rotate_left
            · (intro w hSw; obtain ⟨⟨s0, s1⟩, s2⟩ := hSw; go_simp <;> with_reducible rfl)
            try simp only [Act.put, List.setIfInBounds_toArray, List.set_cons_zero, List.set_cons_succ]
            refine wpAnyH_take (i := 7) (oi := { dst := some 29, op := Op.extract (Operand.tmp 22) 1, type := 69, pos := "span.go:62", after := #[{ on := 5, ground := Ground.data }, { on := 10, ground := Ground.gcOnly Departure.lateStores }], guard := none }) (v := ?_) rfl (by kernel_rfl) (by kernel_rfl) (by kernel_rfl) (fun _ _ _ h => h) (Or.inl ⟨by rfl, ?_⟩) (by assumption) ?_
            rotate_left
            · (intro w hSw; obtain ⟨⟨s0, s1⟩, s2⟩ := hSw; go_simp <;> with_reducible rfl)
            try simp only [Act.put, List.setIfInBounds_toArray, List.set_cons_zero, List.set_cons_succ]
            refine wpAnyH_ready (rs := [10]) (by kernel_rfl) (by simp) ?_
            refine AllReadyH.cons (o := { dst := none, op := Op.store 69 (Operand.tmp 6) (Operand.tmp 28), type := 0, pos := "span.go:62", after := #[{ on := 8, ground := Ground.data }, { on := 6, ground := Ground.data }, { on := 4, ground := Ground.chain }, { on := 0, ground := Ground.phase }, { on := 1, ground := Ground.phase }, { on := 2, ground := Ground.phase }, { on := 3, ground := Ground.phase }, { on := 4, ground := Ground.phase }, { on := 5, ground := Ground.phase }, { on := 6, ground := Ground.phase }, { on := 7, ground := Ground.textOnly Departure.lateStores }, { on := 8, ground := Ground.phase }, { on := 9, ground := Ground.phase }], guard := none }) rfl (fun K hK => ?_) AllReadyH.nil
            obtain ⟨⟨y1, y2⟩, ⟨y3, y4⟩, y5⟩ := set2_both (.int .i64 x) (.int .i64 s) (heap_fut N8.out ((T9.out.trans T4.out)))
            have P8 := Lib.hid y5
            have P9 := Lib.hid (heap_kept (heap_kept (heap_fut N9.out (T4.out)) (set_grown v4 a8 0 (.int .i64 x)) (fun e => NE.out (Option.some.inj e))) (set_grown (v4.setCell ⟨a8, 0, none⟩ (.int .i64 x)) a8 1 (.int .i64 s)) (fun e => NE.out (Option.some.inj e)))
            have G10 : Hid (Fut u0 ((v4.setCell ⟨a8, 0, none⟩ (.int .i64 x)).setCell ⟨a8, 1, none⟩ (.int .i64 s))) := Lib.hid (RowKit.Below.setCell (p := ⟨a8, 1, none⟩) (RowKit.Below.setCell (p := ⟨a8, 0, none⟩) (G4.out) Z8.out.1 _) Z8.out.1 _)
            go_simp
            clear y1 y2 y3 y4 y5
            generalize (v4.setCell ⟨a8, 0, none⟩ (.int .i64 x)).setCell ⟨a8, 1, none⟩ (.int .i64 s) = v10 at *
            refine hK.out _ _ ?_ (fun hHeld => ?_)
            · exact keep _ G10.out
            clear hK K
            try simp only [Act.put, List.setIfInBounds_toArray, List.set_cons_zero, List.set_cons_succ]
            refine wpAnyH_ready (rs := [11]) (by kernel_rfl) (by simp) ?_
            refine AllReadyH.cons (o := { dst := none, op := Op.store 69 (Operand.tmp 7) (Operand.tmp 29), type := 0, pos := "span.go:62", after := #[{ on := 9, ground := Ground.data }, { on := 7, ground := Ground.data }, { on := 10, ground := Ground.chain }, { on := 0, ground := Ground.phase }, { on := 1, ground := Ground.phase }, { on := 2, ground := Ground.phase }, { on := 3, ground := Ground.phase }, { on := 4, ground := Ground.phase }, { on := 5, ground := Ground.phase }, { on := 6, ground := Ground.phase }, { on := 7, ground := Ground.phase }, { on := 8, ground := Ground.phase }, { on := 9, ground := Ground.phase }, { on := 10, ground := Ground.phase }], guard := none }) rfl (fun K hK => ?_) AllReadyH.nil
            obtain ⟨⟨y1, y2⟩, ⟨y3, y4⟩, y5⟩ := set2_both (.int .i64 (s + 1)) (.int .i64 y) P9.out
            have Q9 := Lib.hid y5
            have Q8 := Lib.hid (heap_kept (heap_kept P8.out (set_grown v10 a9 0 (.int .i64 (s + 1))) (fun e => NE.out (Option.some.inj e).symm)) (set_grown (v10.setCell ⟨a9, 0, none⟩ (.int .i64 (s + 1))) a9 1 (.int .i64 y)) (fun e => NE.out (Option.some.inj e).symm))
            have G11 : Hid (Fut u0 ((v10.setCell ⟨a9, 0, none⟩ (.int .i64 (s + 1))).setCell ⟨a9, 1, none⟩ (.int .i64 y))) := Lib.hid (RowKit.Below.setCell (p := ⟨a9, 1, none⟩) (RowKit.Below.setCell (p := ⟨a9, 0, none⟩) G10.out Z9.out.1 _) Z9.out.1 _)
            go_simp
            clear y1 y2 y3 y4 y5 P8 P9
            generalize (v10.setCell ⟨a9, 0, none⟩ (.int .i64 (s + 1))).setCell ⟨a9, 1, none⟩ (.int .i64 y) = v11 at *
            refine hK.out _ _ ?_ (fun hHeld => ?_)
            · exact keep _ G11.out
            clear hK K
            try simp only [Act.put, List.setIfInBounds_toArray, List.set_cons_zero, List.set_cons_succ]
            refine wpAnyH_done (by kernel_rfl) ?_ _
            go_upto_region 6 with fail
            have HFu : Hid (Fut w v11.drew) := Lib.hid ((HFD.out.trans G11.out).trans (below_drewN Fut.rfl 1))
            have R8 : Hid (v11.drew.heap[a8]? = some (.cells #[.int .i64 x, .int .i64 s] 69)) := Lib.hid (heap_fut Q8.out (below_drewN Fut.rfl 1 : Fut v11 v11.drew))
            have R9 : Hid (v11.drew.heap[a9]? = some (.cells #[.int .i64 (s + 1), .int .i64 y] 69)) := Lib.hid (heap_fut Q9.out (below_drewN Fut.rfl 1 : Fut v11 v11.drew))
            have HC1 : Hid (∀ W, Fut v11.drew W → Calls Try.prog 75 #[spV x s, .slice (some ⟨b, offK o 1 lc, none⟩) r.length (lc - 1)] W fun e w' => RdP (rdI d x s r) r.length W e w') := Lib.hid (fun W k => HRC.out x s hx hxs.1 (by omega) (by omega) _ r (lc - 1) W (HFR.out W (HFu.out.trans k)) (by have := HLC2.out; omega) hl2)
            have hsl := HSL.out
            clear Q8 Q9 G11
            refine wp_region_held_drew (S := (fun w' => w'.cell? ⟨a8, 0, none⟩ = some (.int .i64 x) ∧ w'.cell? ⟨a8, 1, none⟩ = some (.int .i64 s))) (by kernel_rfl) ?_ (fun hHeld => ?_)
            · exact ⟨(two_cell R8.out).1, (two_cell R8.out).2.1⟩
            generalize v11.drew = u1 at *
            refine wpAnyH_take (i := 0) (oi := { dst := some 31, op := Op.load 69 (Operand.tmp 6), type := 69, pos := "span.go:63", after := #[], guard := none }) (v := ?_) rfl (by kernel_rfl) (by kernel_rfl) (by kernel_rfl) (fun _ _ _ h => h) (Or.inl ⟨by rfl, ?_⟩) (by assumption) ?_
            rotate_left
            · (intro w hSw; obtain ⟨s0, s1⟩ := hSw; go_simp <;> with_reducible rfl)
            try simp only [Act.put, List.setIfInBounds_toArray, List.set_cons_zero, List.set_cons_succ]
            refine wpAnyH_take (i := 1) (oi := { dst := some 32, op := Op.move (Operand.tmp 1), type := 22, pos := "span.go:63", after := #[], guard := none }) (v := ?_) rfl (by kernel_rfl) (by kernel_rfl) (by kernel_rfl) (fun _ _ _ h => h) (Or.inl ⟨by rfl, ?_⟩) (by assumption) ?_
            rotate_left
            · (intro w hSw; obtain ⟨s0, s1⟩ := hSw; go_simp <;> with_reducible rfl)
            try simp only [Act.put, List.setIfInBounds_toArray, List.set_cons_zero, List.set_cons_succ]
            refine wpAnyH_take (i := 2) (oi := { dst := some 33, op := Op.slice 22 (Operand.tmp 32) (some (Operand.const (Value.int IntKind.i64 1))) none none, type := 22, pos := "span.go:63", after := #[{ on := 1, ground := Ground.data }], guard := none }) (v := ?_) rfl (by kernel_rfl) (by kernel_rfl) (by kernel_rfl) (fun _ _ _ h => h) (Or.inl ⟨by rfl, ?_⟩) (by assumption) ?_
            rotate_left
            · (intro w hSw; obtain ⟨s0, s1⟩ := hSw; go_simp <;> with_reducible rfl)
            try simp only [Act.put, List.setIfInBounds_toArray, List.set_cons_zero, List.set_cons_succ]
            refine wpAnyH_ready (rs := [3]) (by kernel_rfl) (by simp) ?_
            refine AllReadyH.cons (o := { dst := some 34, op := Op.call { callee := Callee.value (Operand.func 75), args := #[Operand.tmp 31, Operand.tmp 33], argTypes := #[69, 22] }, type := 89, pos := "span.go:63", after := #[{ on := 0, ground := Ground.data }, { on := 2, ground := Ground.data }], guard := none }) rfl (fun K hK => ?_) AllReadyH.nil
            go_simp
            go_at_call 75
            refine (HC1.out u1 Fut.rfl).mono ?_
            rintro _ v12 ⟨lb, lcb, rfl, hR1, hR2, hI, T12⟩
            have G12 := Lib.hid T12
            have I12 := Lib.hid hI
            clear T12 hI
            try go_wp2_with fail
            refine hK.out _ _ ?_ (fun hHeld => ?_)
            · exact ⟨(two_cell (heap_fut R8.out G12.out)).1, (two_cell (heap_fut R8.out G12.out)).2.1⟩
            clear hK K
            try simp only [Act.put, List.setIfInBounds_toArray, List.set_cons_zero, List.set_cons_succ]
            refine wpAnyH_take (i := 4) (oi := { dst := some 30, op := Op.move (Operand.tmp 34), type := 89, pos := "span.go:63", after := #[{ on := 3, ground := Ground.data }], guard := none }) (v := ?_) rfl (by kernel_rfl) (by kernel_rfl) (by kernel_rfl) (fun _ _ _ h => h) (Or.inl ⟨by rfl, ?_⟩) (by assumption) ?_
            rotate_left
            · (intro w hSw; obtain ⟨s0, s1⟩ := hSw; go_simp <;> with_reducible rfl)
            try simp only [Act.put, List.setIfInBounds_toArray, List.set_cons_zero, List.set_cons_succ]
            refine wpAnyH_take (i := 5) (oi := { dst := some 35, op := Op.extract (Operand.tmp 30) 0, type := 22, pos := "span.go:63", after := #[{ on := 4, ground := Ground.data }], guard := none }) (v := ?_) rfl (by kernel_rfl) (by kernel_rfl) (by kernel_rfl) (fun _ _ _ h => h) (Or.inl ⟨by rfl, ?_⟩) (by assumption) ?_
            rotate_left
            · (intro w hSw; obtain ⟨s0, s1⟩ := hSw; go_simp <;> with_reducible rfl)
            try simp only [Act.put, List.setIfInBounds_toArray, List.set_cons_zero, List.set_cons_succ]
            refine wpAnyH_take (i := 6) (oi := { dst := some 36, op := Op.extract (Operand.tmp 30) 1, type := 4, pos := "span.go:63", after := #[{ on := 4, ground := Ground.data }, { on := 7, ground := Ground.gcOnly Departure.lateStores }], guard := none }) (v := ?_) rfl (by kernel_rfl) (by kernel_rfl) (by kernel_rfl) (fun _ _ _ h => h) (Or.inl ⟨by rfl, ?_⟩) (by assumption) ?_
            rotate_left
            · (intro w hSw; obtain ⟨s0, s1⟩ := hSw; go_simp <;> with_reducible rfl)
            try simp only [Act.put, List.setIfInBounds_toArray, List.set_cons_zero, List.set_cons_succ]
            refine wpAnyH_ready (rs := [7]) (by kernel_rfl) (by simp) ?_
            refine AllReadyH.cons (o := { dst := some 4, op := Op.assign (Operand.tmp 35), type := 22, pos := "span.go:63", after := #[{ on := 5, ground := Ground.data }, { on := 3, ground := Ground.chain }, { on := 0, ground := Ground.phase }, { on := 1, ground := Ground.phase }, { on := 2, ground := Ground.phase }, { on := 3, ground := Ground.phase }, { on := 4, ground := Ground.phase }, { on := 5, ground := Ground.phase }, { on := 6, ground := Ground.textOnly Departure.lateStores }], guard := none }) rfl (fun K hK => ?_) AllReadyH.nil
            go_simp
            refine hK.out _ _ ?_ (fun hHeld => ?_)
            · exact ⟨(two_cell (heap_fut R8.out G12.out)).1, (two_cell (heap_fut R8.out G12.out)).2.1⟩
            clear hK K
            try simp only [Act.put, List.setIfInBounds_toArray, List.set_cons_zero, List.set_cons_succ]
            refine wpAnyH_ready (rs := [8]) (by kernel_rfl) (by simp) ?_
            refine AllReadyH.cons (o := { dst := some 5, op := Op.assign (Operand.tmp 36), type := 4, pos := "span.go:63", after := #[{ on := 6, ground := Ground.data }, { on := 7, ground := Ground.chain }, { on := 0, ground := Ground.phase }, { on := 1, ground := Ground.phase }, { on := 2, ground := Ground.phase }, { on := 3, ground := Ground.phase }, { on := 4, ground := Ground.phase }, { on := 5, ground := Ground.phase }, { on := 6, ground := Ground.phase }, { on := 7, ground := Ground.phase }], guard := none }) rfl (fun K hK => ?_) AllReadyH.nil
            go_simp
            refine hK.out _ _ ?_ (fun hHeld => ?_)
            · exact ⟨(two_cell (heap_fut R8.out G12.out)).1, (two_cell (heap_fut R8.out G12.out)).2.1⟩
            clear hK K
            try simp only [Act.put, List.setIfInBounds_toArray, List.set_cons_zero, List.set_cons_succ]
            refine wpAnyH_done (by kernel_rfl) ?_ _
            cases hrd : rdI d x s r with
            | none =>
              have HRN : Hid (rdI (d + 1) x y (s :: r) = none) := Lib.hid (by rw [HR.out, hrd])
              rw [hrd] at hR1 hR2 I12
              simp only [Option.getD_none, Option.isSome_none, List.length_nil]
              go_wp2_with fail
              go_ret2
              rw [HRN.out]
              exact ⟨none, 0, rfl, Nat.le_refl _, by simp, nil_ints _ _, HFu.out.trans G12.out⟩
            | some r' =>
              have HRN : Hid (rdI (d + 1) x y (s :: r) = rdI d (s + 1) y r') := Lib.hid (by rw [HR.out, hrd])
              rw [hrd] at hR1 hR2 I12
              simp only [Option.getD_some, Option.isSome_some] at hR1 hR2 I12 ⊢
              have HC2 : Hid (∀ W, Fut v12 W → Calls Try.prog 75 #[spV (s + 1) y, .slice lb r'.length lcb] W fun e w' => RdP (rdI d (s + 1) y r') r'.length W e w') := Lib.hid (fun W k => HRC.out (s + 1) y (by omega) (by omega) hy (by omega) lb r' lcb W (I12.out.fut k) hR1 (by omega))
              obtain ⟨z0, z1, _⟩ := two_cell (heap_fut R9.out G12.out)
              go_wp2_with fail
              refine (HC2.out _ Fut.rfl).mono ?_
              rintro _ v13 ⟨lb3, lcb3, rfl, hR3, hR4, hI3, T13⟩
              have I13 := Lib.hid hI3
              have G13 := Lib.hid T13
              clear hI3 T13
              go_wp2_with fail
              go_ret2
              rw [HRN.out]
              exact ⟨lb3, lcb3, rfl, hR3, by have := HLC2.out; omega, I13.out, (HFu.out.trans G12.out).trans G13.out⟩
        · go_simp
          obtain ⟨v9, hv9⟩ : ∃ W, W = u0.alloc (.cells #[.int .i64 0, .int .i64 0] 69) := ⟨_, rfl⟩
          have T9 : Hid (Fut u0 v9) := Lib.hid (by rw [hv9]; exact Fut.alloc _ _)
          have G9 : Hid (Fut u0 v9) := Lib.hid ((Fut.rfl).trans T9.out)
          have N9 : Hid (v9.heap[u0.heap.size]? = some (.cells #[.int .i64 0, .int .i64 0] 69)) := Lib.hid (by rw [hv9]; exact World.alloc_heap_new u0 _)
          obtain ⟨a9, ha9⟩ : ∃ s, s = u0.heap.size := ⟨_, rfl⟩
          have Z9 : Hid (u0.heap.size ≤ a9 ∧ a9 < v9.heap.size) := Lib.hid (by rw [ha9]; exact ⟨RowKit.Below.size (Fut.rfl : Fut u0 u0), by rw [hv9, World.size_alloc]; omega⟩)
          rw [← hv9]
          rw [← ha9] at N9 ⊢
          clear hv9 ha9
          refine hK.out _ _ ?_ (fun hHeld => ?_)
          · exact keep _ G9.out
          clear hK K
          try simp only [Act.put, List.setIfInBounds_toArray, List.set_cons_zero, List.set_cons_succ]
          refine wpAnyH_ready (rs := [4, 8]) (by kernel_rfl) (by simp) ?_
          refine AllReadyH.cons (o := { dst := some 27, op := Op.call { callee := Callee.value (Operand.func 95), args := #[Operand.tmp 23, Operand.tmp 26], argTypes := #[69, 3] }, type := 110, pos := "span.go:62", after := #[{ on := 0, ground := Ground.data }, { on := 3, ground := Ground.data }], guard := none }) rfl (fun K hK => ?_) (AllReadyH.cons (o := { dst := some 6, op := Op.alloc 69, type := 0, pos := "span.go:62", after := #[], guard := none }) rfl (fun K hK => ?_) (AllReadyH.nil))
          · go_simp
            go_at_call 95
            refine (HPT.out v9).mono ?_
            rintro _ v4 ⟨rfl, T4⟩
            have G4 := Lib.hid ((G9.out).trans T4)
            replace T4 := Lib.hid T4
            try go_wp2_with fail
            refine hK.out _ _ ?_ (fun hHeld => ?_)
            · exact keep _ G4.out
            clear hK K
            try simp only [Act.put, List.setIfInBounds_toArray, List.set_cons_zero, List.set_cons_succ]
            refine wpAnyH_take (i := 5) (oi := { dst := some 22, op := Op.move (Operand.tmp 27), type := 110, pos := "span.go:62", after := #[{ on := 4, ground := Ground.data }], guard := none }) (v := ?_) rfl (by kernel_rfl) (by kernel_rfl) (by kernel_rfl) (fun _ _ _ h => h) (Or.inl ⟨by rfl, ?_⟩) (by assumption) ?_
            rotate_left
            · (intro w hSw; obtain ⟨⟨s0, s1⟩, s2⟩ := hSw; go_simp <;> with_reducible rfl)
            try simp only [Act.put, List.setIfInBounds_toArray, List.set_cons_zero, List.set_cons_succ]
            refine wpAnyH_take (i := 6) (oi := { dst := some 28, op := Op.extract (Operand.tmp 22) 0, type := 69, pos := "span.go:62", after := #[{ on := 5, ground := Ground.data }], guard := none }) (v := ?_) rfl (by kernel_rfl) (by kernel_rfl) (by kernel_rfl) (fun _ _ _ h => h) (Or.inl ⟨by rfl, ?_⟩) (by assumption) ?_
            rotate_left
            · (intro w hSw; obtain ⟨⟨s0, s1⟩, s2⟩ := hSw; go_simp <;> with_reducible rfl)
            try simp only [Act.put, List.setIfInBounds_toArray, List.set_cons_zero, List.set_cons_succ]
            refine wpAnyH_take (i := 7) (oi := { dst := some 29, op := Op.extract (Operand.tmp 22) 1, type := 69, pos := "span.go:62", after := #[{ on := 5, ground := Ground.data }, { on := 10, ground := Ground.gcOnly Departure.lateStores }], guard := none }) (v := ?_) rfl (by kernel_rfl) (by kernel_rfl) (by kernel_rfl) (fun _ _ _ h => h) (Or.inl ⟨by rfl, ?_⟩) (by assumption) ?_
            rotate_left
            · (intro w hSw; obtain ⟨⟨s0, s1⟩, s2⟩ := hSw; go_simp <;> with_reducible rfl)
            try simp only [Act.put, List.setIfInBounds_toArray, List.set_cons_zero, List.set_cons_succ]
            refine wpAnyH_ready (rs := [8]) (by kernel_rfl) (by simp) ?_
            refine AllReadyH.cons (o := { dst := some 6, op := Op.alloc 69, type := 0, pos := "span.go:62", after := #[], guard := none }) rfl (fun K hK => ?_) AllReadyH.nil
            go_simp
            obtain ⟨v8, hv8⟩ : ∃ W, W = v4.alloc (.cells #[.int .i64 0, .int .i64 0] 69) := ⟨_, rfl⟩
            have T8 : Hid (Fut v4 v8) := Lib.hid (by rw [hv8]; exact Fut.alloc _ _)
            have G8 : Hid (Fut u0 v8) := Lib.hid ((G4.out).trans T8.out)
            have N8 : Hid (v8.heap[v4.heap.size]? = some (.cells #[.int .i64 0, .int .i64 0] 69)) := Lib.hid (by rw [hv8]; exact World.alloc_heap_new v4 _)
            obtain ⟨a8, ha8⟩ : ∃ s, s = v4.heap.size := ⟨_, rfl⟩
            have Z8 : Hid (u0.heap.size ≤ a8 ∧ a8 < v8.heap.size) := Lib.hid (by rw [ha8]; exact ⟨RowKit.Below.size (G4.out : Fut u0 v4), by rw [hv8, World.size_alloc]; omega⟩)
            rw [← hv8]
            rw [← ha8] at N8 ⊢
            have NE : Hid (a8 ≠ a9) := Lib.hid (by rw [ha8]; have e1 := Z9.out.2; have e2 : v9.heap.size ≤ v4.heap.size := RowKit.Below.size (T4.out : Fut v9 v4); omega)
            clear hv8 ha8
            refine hK.out _ _ ?_ (fun hHeld => ?_)
            · exact keep _ G8.out
            clear hK K
            try simp only [Act.put, List.setIfInBounds_toArray, List.set_cons_zero, List.set_cons_succ]
            refine wpAnyH_ready (rs := [10]) (by kernel_rfl) (by simp) ?_
            refine AllReadyH.cons (o := { dst := none, op := Op.store 69 (Operand.tmp 6) (Operand.tmp 28), type := 0, pos := "span.go:62", after := #[{ on := 8, ground := Ground.data }, { on := 6, ground := Ground.data }, { on := 4, ground := Ground.chain }, { on := 0, ground := Ground.phase }, { on := 1, ground := Ground.phase }, { on := 2, ground := Ground.phase }, { on := 3, ground := Ground.phase }, { on := 4, ground := Ground.phase }, { on := 5, ground := Ground.phase }, { on := 6, ground := Ground.phase }, { on := 7, ground := Ground.textOnly Departure.lateStores }, { on := 8, ground := Ground.phase }, { on := 9, ground := Ground.phase }], guard := none }) rfl (fun K hK => ?_) AllReadyH.nil
            obtain ⟨⟨y1, y2⟩, ⟨y3, y4⟩, y5⟩ := set2_both (.int .i64 x) (.int .i64 s) (heap_fut N8.out (Fut.rfl))
            have P8 := Lib.hid y5
            have P9 := Lib.hid (heap_kept (heap_kept (heap_fut N9.out ((T4.out.trans T8.out))) (set_grown v8 a8 0 (.int .i64 x)) (fun e => NE.out (Option.some.inj e))) (set_grown (v8.setCell ⟨a8, 0, none⟩ (.int .i64 x)) a8 1 (.int .i64 s)) (fun e => NE.out (Option.some.inj e)))
            have G10 : Hid (Fut u0 ((v8.setCell ⟨a8, 0, none⟩ (.int .i64 x)).setCell ⟨a8, 1, none⟩ (.int .i64 s))) := Lib.hid (RowKit.Below.setCell (p := ⟨a8, 1, none⟩) (RowKit.Below.setCell (p := ⟨a8, 0, none⟩) (G8.out) Z8.out.1 _) Z8.out.1 _)
            go_simp
            clear y1 y2 y3 y4 y5
            generalize (v8.setCell ⟨a8, 0, none⟩ (.int .i64 x)).setCell ⟨a8, 1, none⟩ (.int .i64 s) = v10 at *
            refine hK.out _ _ ?_ (fun hHeld => ?_)
            · exact keep _ G10.out
            clear hK K
            try simp only [Act.put, List.setIfInBounds_toArray, List.set_cons_zero, List.set_cons_succ]
            refine wpAnyH_ready (rs := [11]) (by kernel_rfl) (by simp) ?_
            refine AllReadyH.cons (o := { dst := none, op := Op.store 69 (Operand.tmp 7) (Operand.tmp 29), type := 0, pos := "span.go:62", after := #[{ on := 9, ground := Ground.data }, { on := 7, ground := Ground.data }, { on := 10, ground := Ground.chain }, { on := 0, ground := Ground.phase }, { on := 1, ground := Ground.phase }, { on := 2, ground := Ground.phase }, { on := 3, ground := Ground.phase }, { on := 4, ground := Ground.phase }, { on := 5, ground := Ground.phase }, { on := 6, ground := Ground.phase }, { on := 7, ground := Ground.phase }, { on := 8, ground := Ground.phase }, { on := 9, ground := Ground.phase }, { on := 10, ground := Ground.phase }], guard := none }) rfl (fun K hK => ?_) AllReadyH.nil
            obtain ⟨⟨y1, y2⟩, ⟨y3, y4⟩, y5⟩ := set2_both (.int .i64 (s + 1)) (.int .i64 y) P9.out
            have Q9 := Lib.hid y5
            have Q8 := Lib.hid (heap_kept (heap_kept P8.out (set_grown v10 a9 0 (.int .i64 (s + 1))) (fun e => NE.out (Option.some.inj e).symm)) (set_grown (v10.setCell ⟨a9, 0, none⟩ (.int .i64 (s + 1))) a9 1 (.int .i64 y)) (fun e => NE.out (Option.some.inj e).symm))
            have G11 : Hid (Fut u0 ((v10.setCell ⟨a9, 0, none⟩ (.int .i64 (s + 1))).setCell ⟨a9, 1, none⟩ (.int .i64 y))) := Lib.hid (RowKit.Below.setCell (p := ⟨a9, 1, none⟩) (RowKit.Below.setCell (p := ⟨a9, 0, none⟩) G10.out Z9.out.1 _) Z9.out.1 _)
            go_simp
            clear y1 y2 y3 y4 y5 P8 P9
            generalize (v10.setCell ⟨a9, 0, none⟩ (.int .i64 (s + 1))).setCell ⟨a9, 1, none⟩ (.int .i64 y) = v11 at *
            refine hK.out _ _ ?_ (fun hHeld => ?_)
            · exact keep _ G11.out
            clear hK K
            try simp only [Act.put, List.setIfInBounds_toArray, List.set_cons_zero, List.set_cons_succ]
            refine wpAnyH_done (by kernel_rfl) ?_ _
            go_upto_region 6 with fail
            have HFu : Hid (Fut w v11.drew) := Lib.hid ((HFD.out.trans G11.out).trans (below_drewN Fut.rfl 1))
            have R8 : Hid (v11.drew.heap[a8]? = some (.cells #[.int .i64 x, .int .i64 s] 69)) := Lib.hid (heap_fut Q8.out (below_drewN Fut.rfl 1 : Fut v11 v11.drew))
            have R9 : Hid (v11.drew.heap[a9]? = some (.cells #[.int .i64 (s + 1), .int .i64 y] 69)) := Lib.hid (heap_fut Q9.out (below_drewN Fut.rfl 1 : Fut v11 v11.drew))
            have HC1 : Hid (∀ W, Fut v11.drew W → Calls Try.prog 75 #[spV x s, .slice (some ⟨b, offK o 1 lc, none⟩) r.length (lc - 1)] W fun e w' => RdP (rdI d x s r) r.length W e w') := Lib.hid (fun W k => HRC.out x s hx hxs.1 (by omega) (by omega) _ r (lc - 1) W (HFR.out W (HFu.out.trans k)) (by have := HLC2.out; omega) hl2)
            have hsl := HSL.out
            clear Q8 Q9 G11
            refine wp_region_held_drew (S := (fun w' => w'.cell? ⟨a8, 0, none⟩ = some (.int .i64 x) ∧ w'.cell? ⟨a8, 1, none⟩ = some (.int .i64 s))) (by kernel_rfl) ?_ (fun hHeld => ?_)
            · exact ⟨(two_cell R8.out).1, (two_cell R8.out).2.1⟩
            generalize v11.drew = u1 at *
            refine wpAnyH_take (i := 0) (oi := { dst := some 31, op := Op.load 69 (Operand.tmp 6), type := 69, pos := "span.go:63", after := #[], guard := none }) (v := ?_) rfl (by kernel_rfl) (by kernel_rfl) (by kernel_rfl) (fun _ _ _ h => h) (Or.inl ⟨by rfl, ?_⟩) (by assumption) ?_
            rotate_left
            · (intro w hSw; obtain ⟨s0, s1⟩ := hSw; go_simp <;> with_reducible rfl)
            try simp only [Act.put, List.setIfInBounds_toArray, List.set_cons_zero, List.set_cons_succ]
            refine wpAnyH_take (i := 1) (oi := { dst := some 32, op := Op.move (Operand.tmp 1), type := 22, pos := "span.go:63", after := #[], guard := none }) (v := ?_) rfl (by kernel_rfl) (by kernel_rfl) (by kernel_rfl) (fun _ _ _ h => h) (Or.inl ⟨by rfl, ?_⟩) (by assumption) ?_
            rotate_left
            · (intro w hSw; obtain ⟨s0, s1⟩ := hSw; go_simp <;> with_reducible rfl)
            try simp only [Act.put, List.setIfInBounds_toArray, List.set_cons_zero, List.set_cons_succ]
            refine wpAnyH_take (i := 2) (oi := { dst := some 33, op := Op.slice 22 (Operand.tmp 32) (some (Operand.const (Value.int IntKind.i64 1))) none none, type := 22, pos := "span.go:63", after := #[{ on := 1, ground := Ground.data }], guard := none }) (v := ?_) rfl (by kernel_rfl) (by kernel_rfl) (by kernel_rfl) (fun _ _ _ h => h) (Or.inl ⟨by rfl, ?_⟩) (by assumption) ?_
            rotate_left
            · (intro w hSw; obtain ⟨s0, s1⟩ := hSw; go_simp <;> with_reducible rfl)
            try simp only [Act.put, List.setIfInBounds_toArray, List.set_cons_zero, List.set_cons_succ]
            refine wpAnyH_ready (rs := [3]) (by kernel_rfl) (by simp) ?_
            refine AllReadyH.cons (o := { dst := some 34, op := Op.call { callee := Callee.value (Operand.func 75), args := #[Operand.tmp 31, Operand.tmp 33], argTypes := #[69, 22] }, type := 89, pos := "span.go:63", after := #[{ on := 0, ground := Ground.data }, { on := 2, ground := Ground.data }], guard := none }) rfl (fun K hK => ?_) AllReadyH.nil
            go_simp
            go_at_call 75
            refine (HC1.out u1 Fut.rfl).mono ?_
            rintro _ v12 ⟨lb, lcb, rfl, hR1, hR2, hI, T12⟩
            have G12 := Lib.hid T12
            have I12 := Lib.hid hI
            clear T12 hI
            try go_wp2_with fail
            refine hK.out _ _ ?_ (fun hHeld => ?_)
            · exact ⟨(two_cell (heap_fut R8.out G12.out)).1, (two_cell (heap_fut R8.out G12.out)).2.1⟩
            clear hK K
            try simp only [Act.put, List.setIfInBounds_toArray, List.set_cons_zero, List.set_cons_succ]
            refine wpAnyH_take (i := 4) (oi := { dst := some 30, op := Op.move (Operand.tmp 34), type := 89, pos := "span.go:63", after := #[{ on := 3, ground := Ground.data }], guard := none }) (v := ?_) rfl (by kernel_rfl) (by kernel_rfl) (by kernel_rfl) (fun _ _ _ h => h) (Or.inl ⟨by rfl, ?_⟩) (by assumption) ?_
            rotate_left
            · (intro w hSw; obtain ⟨s0, s1⟩ := hSw; go_simp <;> with_reducible rfl)
            try simp only [Act.put, List.setIfInBounds_toArray, List.set_cons_zero, List.set_cons_succ]
            refine wpAnyH_take (i := 5) (oi := { dst := some 35, op := Op.extract (Operand.tmp 30) 0, type := 22, pos := "span.go:63", after := #[{ on := 4, ground := Ground.data }], guard := none }) (v := ?_) rfl (by kernel_rfl) (by kernel_rfl) (by kernel_rfl) (fun _ _ _ h => h) (Or.inl ⟨by rfl, ?_⟩) (by assumption) ?_
            rotate_left
            · (intro w hSw; obtain ⟨s0, s1⟩ := hSw; go_simp <;> with_reducible rfl)
            try simp only [Act.put, List.setIfInBounds_toArray, List.set_cons_zero, List.set_cons_succ]
            refine wpAnyH_take (i := 6) (oi := { dst := some 36, op := Op.extract (Operand.tmp 30) 1, type := 4, pos := "span.go:63", after := #[{ on := 4, ground := Ground.data }, { on := 7, ground := Ground.gcOnly Departure.lateStores }], guard := none }) (v := ?_) rfl (by kernel_rfl) (by kernel_rfl) (by kernel_rfl) (fun _ _ _ h => h) (Or.inl ⟨by rfl, ?_⟩) (by assumption) ?_
            rotate_left
            · (intro w hSw; obtain ⟨s0, s1⟩ := hSw; go_simp <;> with_reducible rfl)
            try simp only [Act.put, List.setIfInBounds_toArray, List.set_cons_zero, List.set_cons_succ]
            refine wpAnyH_ready (rs := [7]) (by kernel_rfl) (by simp) ?_
            refine AllReadyH.cons (o := { dst := some 4, op := Op.assign (Operand.tmp 35), type := 22, pos := "span.go:63", after := #[{ on := 5, ground := Ground.data }, { on := 3, ground := Ground.chain }, { on := 0, ground := Ground.phase }, { on := 1, ground := Ground.phase }, { on := 2, ground := Ground.phase }, { on := 3, ground := Ground.phase }, { on := 4, ground := Ground.phase }, { on := 5, ground := Ground.phase }, { on := 6, ground := Ground.textOnly Departure.lateStores }], guard := none }) rfl (fun K hK => ?_) AllReadyH.nil
            go_simp
            refine hK.out _ _ ?_ (fun hHeld => ?_)
            · exact ⟨(two_cell (heap_fut R8.out G12.out)).1, (two_cell (heap_fut R8.out G12.out)).2.1⟩
            clear hK K
            try simp only [Act.put, List.setIfInBounds_toArray, List.set_cons_zero, List.set_cons_succ]
            refine wpAnyH_ready (rs := [8]) (by kernel_rfl) (by simp) ?_
            refine AllReadyH.cons (o := { dst := some 5, op := Op.assign (Operand.tmp 36), type := 4, pos := "span.go:63", after := #[{ on := 6, ground := Ground.data }, { on := 7, ground := Ground.chain }, { on := 0, ground := Ground.phase }, { on := 1, ground := Ground.phase }, { on := 2, ground := Ground.phase }, { on := 3, ground := Ground.phase }, { on := 4, ground := Ground.phase }, { on := 5, ground := Ground.phase }, { on := 6, ground := Ground.phase }, { on := 7, ground := Ground.phase }], guard := none }) rfl (fun K hK => ?_) AllReadyH.nil
            go_simp
            refine hK.out _ _ ?_ (fun hHeld => ?_)
            · exact ⟨(two_cell (heap_fut R8.out G12.out)).1, (two_cell (heap_fut R8.out G12.out)).2.1⟩
            clear hK K
            try simp only [Act.put, List.setIfInBounds_toArray, List.set_cons_zero, List.set_cons_succ]
            refine wpAnyH_done (by kernel_rfl) ?_ _
            cases hrd : rdI d x s r with
            | none =>
              have HRN : Hid (rdI (d + 1) x y (s :: r) = none) := Lib.hid (by rw [HR.out, hrd])
              rw [hrd] at hR1 hR2 I12
              simp only [Option.getD_none, Option.isSome_none, List.length_nil]
              go_wp2_with fail
              go_ret2
              rw [HRN.out]
              exact ⟨none, 0, rfl, Nat.le_refl _, by simp, nil_ints _ _, HFu.out.trans G12.out⟩
            | some r' =>
              have HRN : Hid (rdI (d + 1) x y (s :: r) = rdI d (s + 1) y r') := Lib.hid (by rw [HR.out, hrd])
              rw [hrd] at hR1 hR2 I12
              simp only [Option.getD_some, Option.isSome_some] at hR1 hR2 I12 ⊢
              have HC2 : Hid (∀ W, Fut v12 W → Calls Try.prog 75 #[spV (s + 1) y, .slice lb r'.length lcb] W fun e w' => RdP (rdI d (s + 1) y r') r'.length W e w') := Lib.hid (fun W k => HRC.out (s + 1) y (by omega) (by omega) hy (by omega) lb r' lcb W (I12.out.fut k) hR1 (by omega))
              obtain ⟨z0, z1, _⟩ := two_cell (heap_fut R9.out G12.out)
              go_wp2_with fail
              refine (HC2.out _ Fut.rfl).mono ?_
              rintro _ v13 ⟨lb3, lcb3, rfl, hR3, hR4, hI3, T13⟩
              have I13 := Lib.hid hI3
              have G13 := Lib.hid T13
              clear hI3 T13
              go_wp2_with fail
              go_ret2
              rw [HRN.out]
              exact ⟨lb3, lcb3, rfl, hR3, by have := HLC2.out; omega, I13.out, (HFu.out.trans G12.out).trans G13.out⟩
          · go_simp
            obtain ⟨v8, hv8⟩ : ∃ W, W = v9.alloc (.cells #[.int .i64 0, .int .i64 0] 69) := ⟨_, rfl⟩
            have T8 : Hid (Fut v9 v8) := Lib.hid (by rw [hv8]; exact Fut.alloc _ _)
            have G8 : Hid (Fut u0 v8) := Lib.hid ((G9.out).trans T8.out)
            have N8 : Hid (v8.heap[v9.heap.size]? = some (.cells #[.int .i64 0, .int .i64 0] 69)) := Lib.hid (by rw [hv8]; exact World.alloc_heap_new v9 _)
            obtain ⟨a8, ha8⟩ : ∃ s, s = v9.heap.size := ⟨_, rfl⟩
            have Z8 : Hid (u0.heap.size ≤ a8 ∧ a8 < v8.heap.size) := Lib.hid (by rw [ha8]; exact ⟨RowKit.Below.size (G9.out : Fut u0 v9), by rw [hv8, World.size_alloc]; omega⟩)
            rw [← hv8]
            rw [← ha8] at N8 ⊢
            have NE : Hid (a8 ≠ a9) := Lib.hid (by rw [ha8]; have e1 := Z9.out.2; have e2 : v9.heap.size ≤ v9.heap.size := RowKit.Below.size (Fut.rfl : Fut v9 v9); omega)
            clear hv8 ha8
            refine hK.out _ _ ?_ (fun hHeld => ?_)
            · exact keep _ G8.out
            clear hK K
            try simp only [Act.put, List.setIfInBounds_toArray, List.set_cons_zero, List.set_cons_succ]
            refine wpAnyH_ready (rs := [4]) (by kernel_rfl) (by simp) ?_
            refine AllReadyH.cons (o := { dst := some 27, op := Op.call { callee := Callee.value (Operand.func 95), args := #[Operand.tmp 23, Operand.tmp 26], argTypes := #[69, 3] }, type := 110, pos := "span.go:62", after := #[{ on := 0, ground := Ground.data }, { on := 3, ground := Ground.data }], guard := none }) rfl (fun K hK => ?_) AllReadyH.nil
            go_simp
            go_at_call 95
            refine (HPT.out v8).mono ?_
            rintro _ v4 ⟨rfl, T4⟩
            have G4 := Lib.hid ((G8.out).trans T4)
            replace T4 := Lib.hid T4
            try go_wp2_with fail
            refine hK.out _ _ ?_ (fun hHeld => ?_)
            · exact keep _ G4.out
            clear hK K
            try simp only [Act.put, List.setIfInBounds_toArray, List.set_cons_zero, List.set_cons_succ]
            refine wpAnyH_take (i := 5) (oi := { dst := some 22, op := Op.move (Operand.tmp 27), type := 110, pos := "span.go:62", after := #[{ on := 4, ground := Ground.data }], guard := none }) (v := ?_) rfl (by kernel_rfl) (by kernel_rfl) (by kernel_rfl) (fun _ _ _ h => h) (Or.inl ⟨by rfl, ?_⟩) (by assumption) ?_
            rotate_left
            · (intro w hSw; obtain ⟨⟨s0, s1⟩, s2⟩ := hSw; go_simp <;> with_reducible rfl)
            try simp only [Act.put, List.setIfInBounds_toArray, List.set_cons_zero, List.set_cons_succ]
            refine wpAnyH_take (i := 6) (oi := { dst := some 28, op := Op.extract (Operand.tmp 22) 0, type := 69, pos := "span.go:62", after := #[{ on := 5, ground := Ground.data }], guard := none }) (v := ?_) rfl (by kernel_rfl) (by kernel_rfl) (by kernel_rfl) (fun _ _ _ h => h) (Or.inl ⟨by rfl, ?_⟩) (by assumption) ?_
            rotate_left
            · (intro w hSw; obtain ⟨⟨s0, s1⟩, s2⟩ := hSw; go_simp <;> with_reducible rfl)
            try simp only [Act.put, List.setIfInBounds_toArray, List.set_cons_zero, List.set_cons_succ]
            refine wpAnyH_take (i := 7) (oi := { dst := some 29, op := Op.extract (Operand.tmp 22) 1, type := 69, pos := "span.go:62", after := #[{ on := 5, ground := Ground.data }, { on := 10, ground := Ground.gcOnly Departure.lateStores }], guard := none }) (v := ?_) rfl (by kernel_rfl) (by kernel_rfl) (by kernel_rfl) (fun _ _ _ h => h) (Or.inl ⟨by rfl, ?_⟩) (by assumption) ?_
            rotate_left
            · (intro w hSw; obtain ⟨⟨s0, s1⟩, s2⟩ := hSw; go_simp <;> with_reducible rfl)
            try simp only [Act.put, List.setIfInBounds_toArray, List.set_cons_zero, List.set_cons_succ]
            refine wpAnyH_ready (rs := [10]) (by kernel_rfl) (by simp) ?_
            refine AllReadyH.cons (o := { dst := none, op := Op.store 69 (Operand.tmp 6) (Operand.tmp 28), type := 0, pos := "span.go:62", after := #[{ on := 8, ground := Ground.data }, { on := 6, ground := Ground.data }, { on := 4, ground := Ground.chain }, { on := 0, ground := Ground.phase }, { on := 1, ground := Ground.phase }, { on := 2, ground := Ground.phase }, { on := 3, ground := Ground.phase }, { on := 4, ground := Ground.phase }, { on := 5, ground := Ground.phase }, { on := 6, ground := Ground.phase }, { on := 7, ground := Ground.textOnly Departure.lateStores }, { on := 8, ground := Ground.phase }, { on := 9, ground := Ground.phase }], guard := none }) rfl (fun K hK => ?_) AllReadyH.nil
            obtain ⟨⟨y1, y2⟩, ⟨y3, y4⟩, y5⟩ := set2_both (.int .i64 x) (.int .i64 s) (heap_fut N8.out (T4.out))
            have P8 := Lib.hid y5
            have P9 := Lib.hid (heap_kept (heap_kept (heap_fut N9.out ((T8.out.trans T4.out))) (set_grown v4 a8 0 (.int .i64 x)) (fun e => NE.out (Option.some.inj e))) (set_grown (v4.setCell ⟨a8, 0, none⟩ (.int .i64 x)) a8 1 (.int .i64 s)) (fun e => NE.out (Option.some.inj e)))
            have G10 : Hid (Fut u0 ((v4.setCell ⟨a8, 0, none⟩ (.int .i64 x)).setCell ⟨a8, 1, none⟩ (.int .i64 s))) := Lib.hid (RowKit.Below.setCell (p := ⟨a8, 1, none⟩) (RowKit.Below.setCell (p := ⟨a8, 0, none⟩) (G4.out) Z8.out.1 _) Z8.out.1 _)
            go_simp
            clear y1 y2 y3 y4 y5
            generalize (v4.setCell ⟨a8, 0, none⟩ (.int .i64 x)).setCell ⟨a8, 1, none⟩ (.int .i64 s) = v10 at *
            refine hK.out _ _ ?_ (fun hHeld => ?_)
            · exact keep _ G10.out
            clear hK K
            try simp only [Act.put, List.setIfInBounds_toArray, List.set_cons_zero, List.set_cons_succ]
            refine wpAnyH_ready (rs := [11]) (by kernel_rfl) (by simp) ?_
            refine AllReadyH.cons (o := { dst := none, op := Op.store 69 (Operand.tmp 7) (Operand.tmp 29), type := 0, pos := "span.go:62", after := #[{ on := 9, ground := Ground.data }, { on := 7, ground := Ground.data }, { on := 10, ground := Ground.chain }, { on := 0, ground := Ground.phase }, { on := 1, ground := Ground.phase }, { on := 2, ground := Ground.phase }, { on := 3, ground := Ground.phase }, { on := 4, ground := Ground.phase }, { on := 5, ground := Ground.phase }, { on := 6, ground := Ground.phase }, { on := 7, ground := Ground.phase }, { on := 8, ground := Ground.phase }, { on := 9, ground := Ground.phase }, { on := 10, ground := Ground.phase }], guard := none }) rfl (fun K hK => ?_) AllReadyH.nil
            obtain ⟨⟨y1, y2⟩, ⟨y3, y4⟩, y5⟩ := set2_both (.int .i64 (s + 1)) (.int .i64 y) P9.out
            have Q9 := Lib.hid y5
            have Q8 := Lib.hid (heap_kept (heap_kept P8.out (set_grown v10 a9 0 (.int .i64 (s + 1))) (fun e => NE.out (Option.some.inj e).symm)) (set_grown (v10.setCell ⟨a9, 0, none⟩ (.int .i64 (s + 1))) a9 1 (.int .i64 y)) (fun e => NE.out (Option.some.inj e).symm))
            have G11 : Hid (Fut u0 ((v10.setCell ⟨a9, 0, none⟩ (.int .i64 (s + 1))).setCell ⟨a9, 1, none⟩ (.int .i64 y))) := Lib.hid (RowKit.Below.setCell (p := ⟨a9, 1, none⟩) (RowKit.Below.setCell (p := ⟨a9, 0, none⟩) G10.out Z9.out.1 _) Z9.out.1 _)
            go_simp
            clear y1 y2 y3 y4 y5 P8 P9
            generalize (v10.setCell ⟨a9, 0, none⟩ (.int .i64 (s + 1))).setCell ⟨a9, 1, none⟩ (.int .i64 y) = v11 at *
            refine hK.out _ _ ?_ (fun hHeld => ?_)
            · exact keep _ G11.out
            clear hK K
            try simp only [Act.put, List.setIfInBounds_toArray, List.set_cons_zero, List.set_cons_succ]
            refine wpAnyH_done (by kernel_rfl) ?_ _
            go_upto_region 6 with fail
            have HFu : Hid (Fut w v11.drew) := Lib.hid ((HFD.out.trans G11.out).trans (below_drewN Fut.rfl 1))
            have R8 : Hid (v11.drew.heap[a8]? = some (.cells #[.int .i64 x, .int .i64 s] 69)) := Lib.hid (heap_fut Q8.out (below_drewN Fut.rfl 1 : Fut v11 v11.drew))
            have R9 : Hid (v11.drew.heap[a9]? = some (.cells #[.int .i64 (s + 1), .int .i64 y] 69)) := Lib.hid (heap_fut Q9.out (below_drewN Fut.rfl 1 : Fut v11 v11.drew))
            have HC1 : Hid (∀ W, Fut v11.drew W → Calls Try.prog 75 #[spV x s, .slice (some ⟨b, offK o 1 lc, none⟩) r.length (lc - 1)] W fun e w' => RdP (rdI d x s r) r.length W e w') := Lib.hid (fun W k => HRC.out x s hx hxs.1 (by omega) (by omega) _ r (lc - 1) W (HFR.out W (HFu.out.trans k)) (by have := HLC2.out; omega) hl2)
            have hsl := HSL.out
            clear Q8 Q9 G11
            refine wp_region_held_drew (S := (fun w' => w'.cell? ⟨a8, 0, none⟩ = some (.int .i64 x) ∧ w'.cell? ⟨a8, 1, none⟩ = some (.int .i64 s))) (by kernel_rfl) ?_ (fun hHeld => ?_)
            · exact ⟨(two_cell R8.out).1, (two_cell R8.out).2.1⟩
            generalize v11.drew = u1 at *
            refine wpAnyH_take (i := 0) (oi := { dst := some 31, op := Op.load 69 (Operand.tmp 6), type := 69, pos := "span.go:63", after := #[], guard := none }) (v := ?_) rfl (by kernel_rfl) (by kernel_rfl) (by kernel_rfl) (fun _ _ _ h => h) (Or.inl ⟨by rfl, ?_⟩) (by assumption) ?_
            rotate_left
            · (intro w hSw; obtain ⟨s0, s1⟩ := hSw; go_simp <;> with_reducible rfl)
            try simp only [Act.put, List.setIfInBounds_toArray, List.set_cons_zero, List.set_cons_succ]
            refine wpAnyH_take (i := 1) (oi := { dst := some 32, op := Op.move (Operand.tmp 1), type := 22, pos := "span.go:63", after := #[], guard := none }) (v := ?_) rfl (by kernel_rfl) (by kernel_rfl) (by kernel_rfl) (fun _ _ _ h => h) (Or.inl ⟨by rfl, ?_⟩) (by assumption) ?_
            rotate_left
            · (intro w hSw; obtain ⟨s0, s1⟩ := hSw; go_simp <;> with_reducible rfl)
            try simp only [Act.put, List.setIfInBounds_toArray, List.set_cons_zero, List.set_cons_succ]
            refine wpAnyH_take (i := 2) (oi := { dst := some 33, op := Op.slice 22 (Operand.tmp 32) (some (Operand.const (Value.int IntKind.i64 1))) none none, type := 22, pos := "span.go:63", after := #[{ on := 1, ground := Ground.data }], guard := none }) (v := ?_) rfl (by kernel_rfl) (by kernel_rfl) (by kernel_rfl) (fun _ _ _ h => h) (Or.inl ⟨by rfl, ?_⟩) (by assumption) ?_
            rotate_left
            · (intro w hSw; obtain ⟨s0, s1⟩ := hSw; go_simp <;> with_reducible rfl)
            try simp only [Act.put, List.setIfInBounds_toArray, List.set_cons_zero, List.set_cons_succ]
            refine wpAnyH_ready (rs := [3]) (by kernel_rfl) (by simp) ?_
            refine AllReadyH.cons (o := { dst := some 34, op := Op.call { callee := Callee.value (Operand.func 75), args := #[Operand.tmp 31, Operand.tmp 33], argTypes := #[69, 22] }, type := 89, pos := "span.go:63", after := #[{ on := 0, ground := Ground.data }, { on := 2, ground := Ground.data }], guard := none }) rfl (fun K hK => ?_) AllReadyH.nil
            go_simp
            go_at_call 75
            refine (HC1.out u1 Fut.rfl).mono ?_
            rintro _ v12 ⟨lb, lcb, rfl, hR1, hR2, hI, T12⟩
            have G12 := Lib.hid T12
            have I12 := Lib.hid hI
            clear T12 hI
            try go_wp2_with fail
            refine hK.out _ _ ?_ (fun hHeld => ?_)
            · exact ⟨(two_cell (heap_fut R8.out G12.out)).1, (two_cell (heap_fut R8.out G12.out)).2.1⟩
            clear hK K
            try simp only [Act.put, List.setIfInBounds_toArray, List.set_cons_zero, List.set_cons_succ]
            refine wpAnyH_take (i := 4) (oi := { dst := some 30, op := Op.move (Operand.tmp 34), type := 89, pos := "span.go:63", after := #[{ on := 3, ground := Ground.data }], guard := none }) (v := ?_) rfl (by kernel_rfl) (by kernel_rfl) (by kernel_rfl) (fun _ _ _ h => h) (Or.inl ⟨by rfl, ?_⟩) (by assumption) ?_
            rotate_left
            · (intro w hSw; obtain ⟨s0, s1⟩ := hSw; go_simp <;> with_reducible rfl)
            try simp only [Act.put, List.setIfInBounds_toArray, List.set_cons_zero, List.set_cons_succ]
            refine wpAnyH_take (i := 5) (oi := { dst := some 35, op := Op.extract (Operand.tmp 30) 0, type := 22, pos := "span.go:63", after := #[{ on := 4, ground := Ground.data }], guard := none }) (v := ?_) rfl (by kernel_rfl) (by kernel_rfl) (by kernel_rfl) (fun _ _ _ h => h) (Or.inl ⟨by rfl, ?_⟩) (by assumption) ?_
            rotate_left
            · (intro w hSw; obtain ⟨s0, s1⟩ := hSw; go_simp <;> with_reducible rfl)
            try simp only [Act.put, List.setIfInBounds_toArray, List.set_cons_zero, List.set_cons_succ]
            refine wpAnyH_take (i := 6) (oi := { dst := some 36, op := Op.extract (Operand.tmp 30) 1, type := 4, pos := "span.go:63", after := #[{ on := 4, ground := Ground.data }, { on := 7, ground := Ground.gcOnly Departure.lateStores }], guard := none }) (v := ?_) rfl (by kernel_rfl) (by kernel_rfl) (by kernel_rfl) (fun _ _ _ h => h) (Or.inl ⟨by rfl, ?_⟩) (by assumption) ?_
            rotate_left
            · (intro w hSw; obtain ⟨s0, s1⟩ := hSw; go_simp <;> with_reducible rfl)
            try simp only [Act.put, List.setIfInBounds_toArray, List.set_cons_zero, List.set_cons_succ]
            refine wpAnyH_ready (rs := [7]) (by kernel_rfl) (by simp) ?_
            refine AllReadyH.cons (o := { dst := some 4, op := Op.assign (Operand.tmp 35), type := 22, pos := "span.go:63", after := #[{ on := 5, ground := Ground.data }, { on := 3, ground := Ground.chain }, { on := 0, ground := Ground.phase }, { on := 1, ground := Ground.phase }, { on := 2, ground := Ground.phase }, { on := 3, ground := Ground.phase }, { on := 4, ground := Ground.phase }, { on := 5, ground := Ground.phase }, { on := 6, ground := Ground.textOnly Departure.lateStores }], guard := none }) rfl (fun K hK => ?_) AllReadyH.nil
            go_simp
            refine hK.out _ _ ?_ (fun hHeld => ?_)
            · exact ⟨(two_cell (heap_fut R8.out G12.out)).1, (two_cell (heap_fut R8.out G12.out)).2.1⟩
            clear hK K
            try simp only [Act.put, List.setIfInBounds_toArray, List.set_cons_zero, List.set_cons_succ]
            refine wpAnyH_ready (rs := [8]) (by kernel_rfl) (by simp) ?_
            refine AllReadyH.cons (o := { dst := some 5, op := Op.assign (Operand.tmp 36), type := 4, pos := "span.go:63", after := #[{ on := 6, ground := Ground.data }, { on := 7, ground := Ground.chain }, { on := 0, ground := Ground.phase }, { on := 1, ground := Ground.phase }, { on := 2, ground := Ground.phase }, { on := 3, ground := Ground.phase }, { on := 4, ground := Ground.phase }, { on := 5, ground := Ground.phase }, { on := 6, ground := Ground.phase }, { on := 7, ground := Ground.phase }], guard := none }) rfl (fun K hK => ?_) AllReadyH.nil
            go_simp
            refine hK.out _ _ ?_ (fun hHeld => ?_)
            · exact ⟨(two_cell (heap_fut R8.out G12.out)).1, (two_cell (heap_fut R8.out G12.out)).2.1⟩
            clear hK K
            try simp only [Act.put, List.setIfInBounds_toArray, List.set_cons_zero, List.set_cons_succ]
            refine wpAnyH_done (by kernel_rfl) ?_ _
            cases hrd : rdI d x s r with
            | none =>
              have HRN : Hid (rdI (d + 1) x y (s :: r) = none) := Lib.hid (by rw [HR.out, hrd])
              rw [hrd] at hR1 hR2 I12
              simp only [Option.getD_none, Option.isSome_none, List.length_nil]
              go_wp2_with fail
              go_ret2
              rw [HRN.out]
              exact ⟨none, 0, rfl, Nat.le_refl _, by simp, nil_ints _ _, HFu.out.trans G12.out⟩
            | some r' =>
              have HRN : Hid (rdI (d + 1) x y (s :: r) = rdI d (s + 1) y r') := Lib.hid (by rw [HR.out, hrd])
              rw [hrd] at hR1 hR2 I12
              simp only [Option.getD_some, Option.isSome_some] at hR1 hR2 I12 ⊢
              have HC2 : Hid (∀ W, Fut v12 W → Calls Try.prog 75 #[spV (s + 1) y, .slice lb r'.length lcb] W fun e w' => RdP (rdI d (s + 1) y r') r'.length W e w') := Lib.hid (fun W k => HRC.out (s + 1) y (by omega) (by omega) hy (by omega) lb r' lcb W (I12.out.fut k) hR1 (by omega))
              obtain ⟨z0, z1, _⟩ := two_cell (heap_fut R9.out G12.out)
              go_wp2_with fail
              refine (HC2.out _ Fut.rfl).mono ?_
              rintro _ v13 ⟨lb3, lcb3, rfl, hR3, hR4, hI3, T13⟩
              have I13 := Lib.hid hI3
              have G13 := Lib.hid T13
              clear hI3 T13
              go_wp2_with fail
              go_ret2
              rw [HRN.out]
              exact ⟨lb3, lcb3, rfl, hR3, by have := HLC2.out; omega, I13.out, (HFu.out.trans G12.out).trans G13.out⟩
end
section
def validE (n : Int) (zs : List Int) : Int := if 1 ≤ n ∧ n ≤ 8 then (match rdI 8 0 (n - 1) zs with | some [] => 0 | _ => 5) else 1
set_option maxRecDepth 100000 in
theorem valid_any (n : Int) (a : Option Addr) (cap : Nat) (zs : List Int) (w : World) (hA : IntsAt w a zs) (hlc : zs.length ≤ cap) (hl : zs.length ≤ 1000) :
    Calls Try.prog 35 #[.int .i64 n, .slice a zs.length cap] w fun e w' => e = .returned (.int .i64 (validE n zs)) ∧ Fut w w' := by
  have HKI := Lib.hid (kinds_any n w)
  have hlx : (zs.length : Int) ≤ 1000 := by omega
  by_cases hn : 1 ≤ n ∧ n ≤ 8
  · have HV : Hid (validE n zs = match rdI 8 0 (n - 1) zs with | some [] => 0 | _ => 5) := Lib.hid (by unfold validE; rw [if_pos hn])
    rw [decide_eq_true hn] at HKI
    obtain ⟨m, hm⟩ : ∃ m, m = n - 1 := ⟨_, rfl⟩
    rw [← hm] at HV
    have HRD := Lib.hid (fun W (k : Fut w W) => read_any 8 0 m (by omega) (by omega) (by omega) (by omega) a zs cap W (hA.fut k) hlc hl)
    obtain ⟨k, rfl⟩ : ∃ k : Nat, n = k := ⟨n.toNat, by omega⟩
    have HAL : Hid (∀ W, Calls Try.prog 65 #[.int .i64 (k : Nat)] W fun e w' => e = .returned (spV 0 m) ∧ Fut W w') := Lib.hid (fun W => by
      have h := allOf_any k (by omega) W
      rw [← hm] at h
      exact h)
    clear hn hm hA
    go_enter Try.func35, Try.ntmps35
    go_wp2_with fail
    refine HKI.out.mono ?_
    rintro _ _ ⟨rfl, rfl⟩
    go_wp2_with fail
    refine (HAL.out _).mono ?_
    rintro _ w1 ⟨rfl, F1⟩
    go_wp2_with fail
    refine (HRD.out _ F1).mono ?_
    rintro _ w2 ⟨lb, lcb, rfl, hR1, hR2, hI, F2⟩
    have HF2 := Lib.hid (F1.trans F2)
    clear F1 F2 hI HRD HAL HKI
    cases hrd : rdI 8 0 m zs with
    | none =>
      have HV2 : Hid (validE (k : Nat) zs = 5) := Lib.hid (by rw [HV.out, hrd])
      simp only [Option.getD_none, Option.isSome_none, List.length_nil]
      clear hR1 hR2
      go_wp2_with fail
      go_ret
      exact ⟨ret_int HV2.out.symm, HF2.out⟩
    | some r =>
      simp only [Option.getD_some, Option.isSome_some]
      rw [hrd] at hR1 hR2
      simp only [Option.getD_some] at hR1 hR2
      cases r with
      | nil =>
        have HV2 : Hid (validE (k : Nat) zs = 0) := Lib.hid (by rw [HV.out, hrd])
        go_wp2_with fail
        go_ret
        exact ⟨ret_int HV2.out.symm, HF2.out⟩
      | cons s r =>
        have HV2 : Hid (validE (k : Nat) zs = 5) := Lib.hid (by rw [HV.out, hrd])
        have hp : (0 : Int) < ((s :: r).length : Nat) := by simp
        have hp2 : 0 < (s :: r).length := by simp
        have hrx : ((s :: r).length : Int) ≤ 1000 := by omega
        generalize (s :: r).length = j at *
        go_wp2_with fail
        go_ret
        exact ⟨ret_int HV2.out.symm, HF2.out⟩
  · have HV : Hid (validE n zs = 1) := Lib.hid (by unfold validE; rw [if_neg hn])
    rw [decide_eq_false hn] at HKI
    rw [HV.out]
    clear hn
    go_enter Try.func35, Try.ntmps35
    go_wp2_with fail
    refine HKI.out.mono ?_
    rintro _ _ ⟨rfl, rfl⟩
    go_wp2_with fail
    go_ret
    exact ⟨rfl, Fut.rfl⟩
end
section
theorem valid_kinds {n : Int} {zs : List Int} (h : validE n zs = 0) : 1 ≤ n ∧ n ≤ 8 := by
  unfold validE at h
  by_cases hn : 1 ≤ n ∧ n ≤ 8
  · exact hn
  · rw [if_neg hn] at h; omega
def depthsE (n : Int) (zs : List Int) : List Int := if validE n zs = 0 then depE n.toNat zs else []
set_option maxRecDepth 100000 in
theorem depths37_any (n : Int) (a : Option Addr) (cap : Nat) (zs : List Int) (w : World) (hA : IntsAt w a zs) (hlc : zs.length ≤ cap) (hl : zs.length ≤ 1000) :
    Calls Try.prog 37 #[.int .i64 n, .slice a zs.length cap] w fun e w' => TupL (validE n zs) (depthsE n zs) w e w' := by
  have HVA := Lib.hid (valid_any n a cap zs w hA hlc hl)
  have HLE : Hid (depthsE n zs = if validE n zs = 0 then depE n.toNat zs else []) := Lib.hid rfl
  have HK := Lib.hid (valid_kinds (n := n) (zs := zs))
  have HDA : Hid (1 ≤ n ∧ n ≤ 8 → ∀ W, Fut w W → Calls Try.prog 77 #[.int .i64 n, .slice a zs.length cap] W fun e w' => ∃ v, e = .returned v ∧ Owns w' W.heap.size v (depE n.toNat zs) ∧ Fut W w') := Lib.hid (fun hn W k => by
    obtain ⟨m, rfl⟩ : ∃ m : Nat, n = m := ⟨n.toNat, by omega⟩
    rw [Int.toNat_natCast]
    exact depths_any m (by omega) (by omega) a cap zs W (hA.fut k) hl)
  generalize validE n zs = E at *
  generalize depE n.toNat zs = D at *
  have hlx : (zs.length : Int) ≤ 1000 := by omega
  clear hA
  go_enter Try.func37, Try.ntmps37
  go_wp2_with fail
  refine HVA.out.mono ?_
  rintro _ w1 ⟨rfl, F1⟩
  by_cases hE : E = 0
  · have HD2 := Lib.hid (HDA.out (HK.out hE))
    have HL2 : Hid (depthsE n zs = D) := Lib.hid (by rw [HLE.out, if_pos hE])
    subst hE
    go_wp2_with fail
    refine (HD2.out _ F1).mono ?_
    rintro _ w2 ⟨v, rfl, hO, F2⟩
    obtain ⟨l, c, rfl, hI⟩ := hO.ints
    go_wp2_with fail
    go_ret2
    rw [HL2.out]
    exact ⟨l, c, rfl, hI, F1.trans F2⟩
  · have HL2 : Hid (depthsE n zs = []) := Lib.hid (by rw [HLE.out, if_neg hE])
    go_wp2_with fail
    go_ret2
    rw [HL2.out]
    exact ⟨none, 0, rfl, nil_ints _ _, F1⟩
def askedC (n : Int) (zs : List Int) (k : Int) : Int := if validE n zs = 0 then (if inB n k = true then 0 else 2) else validE n zs
def askedE (n : Int) (zs : List Int) (k : Int) : List Int := if askedC n zs k = 0 then askI k 0 (n - 1) zs else []
set_option maxRecDepth 100000 in
theorem asked39_any (n : Int) (a : Option Addr) (cap : Nat) (zs : List Int) (k : Int) (w : World) (hA : IntsAt w a zs) (hlc : zs.length ≤ cap) (hl : zs.length ≤ 1000) :
    Calls Try.prog 39 #[.int .i64 n, .slice a zs.length cap, .int .i64 k] w fun e w' => TupL (askedC n zs k) (askedE n zs k) w e w' := by
  have HVA := Lib.hid (valid_any n a cap zs w hA hlc hl)
  have HCC : Hid (askedC n zs k = if validE n zs = 0 then (if inB n k = true then 0 else 2) else validE n zs) := Lib.hid rfl
  have HLE : Hid (askedE n zs k = if askedC n zs k = 0 then askI k 0 (n - 1) zs else []) := Lib.hid rfl
  have HK := Lib.hid (valid_kinds (n := n) (zs := zs))
  have HDA : Hid (1 ≤ n ∧ n ≤ 8 → ∀ W, Fut w W → Calls Try.prog 79 #[.int .i64 n, .slice a zs.length cap, .int .i64 k] W fun e w' => ∃ v, e = .returned v ∧ Owns w' W.heap.size v (askI k 0 (n - 1) zs) ∧ Fut W w') := Lib.hid (fun hn W q => by
    obtain ⟨m, rfl⟩ : ∃ m : Nat, n = m := ⟨n.toNat, by omega⟩
    exact asked_any m (by omega) (by omega) a cap zs k W (hA.fut q) hl)
  have HIX := Lib.hid (fun W => isIndex_any k n W)
  generalize validE n zs = E at *
  generalize askI k 0 (n - 1) zs = D at *
  generalize inB n k = B at *
  have hlx : (zs.length : Int) ≤ 1000 := by omega
  clear hA
  go_enter Try.func39, Try.ntmps39
  go_wp2_with fail
  refine HVA.out.mono ?_
  rintro _ w1 ⟨rfl, F1⟩
  by_cases hE : E = 0
  · have HD2 := Lib.hid (HDA.out (HK.out hE))
    subst hE
    go_wp2_with fail
    refine (HIX.out _).mono ?_
    rintro _ _ ⟨rfl, rfl⟩
    cases B with
    | true =>
      have HC2 : Hid (askedC n zs k = 0) := Lib.hid (by rw [HCC.out]; rfl)
      have HL2 : Hid (askedE n zs k = D) := Lib.hid (by rw [HLE.out, if_pos HC2.out])
      go_wp2_with fail
      refine (HD2.out _ F1).mono ?_
      rintro _ w2 ⟨v, rfl, hO, F2⟩
      obtain ⟨l, c, rfl, hI⟩ := hO.ints
      go_wp2_with fail
      go_ret2
      rw [HC2.out, HL2.out]
      exact ⟨l, c, rfl, hI, F1.trans F2⟩
    | false =>
      have HC2 : Hid (askedC n zs k = 2) := Lib.hid (by rw [HCC.out]; rfl)
      have HL2 : Hid (askedE n zs k = []) := Lib.hid (by rw [HLE.out, if_neg (by rw [HC2.out]; decide)])
      go_wp2_with fail
      go_ret2
      rw [HC2.out, HL2.out]
      exact ⟨none, 0, rfl, nil_ints _ _, F1⟩
  · have HC2 : Hid (askedC n zs k = E) := Lib.hid (by rw [HCC.out, if_neg hE])
    have HL2 : Hid (askedE n zs k = []) := Lib.hid (by rw [HLE.out, if_neg (by rw [HC2.out]; exact hE)])
    go_wp2_with fail
    go_ret2
    rw [HC2.out, HL2.out]
    exact ⟨none, 0, rfl, nil_ints _ _, F1⟩
end
section
def qsS (ls ts : List Int) : Nat → Int
  | 0 => 0
  | i + 1 => qsS ls ts i + nth ls i * dep1 ls.length ts i
theorem dep1_bnd (n : Nat) (ts : List Int) (j : Nat) (hl : ts.length ≤ 1000) : 0 ≤ dep1 n ts j ∧ dep1 n ts j ≤ 1000 := by
  unfold dep1
  have := askI_len (j : Int) ts 0 ((n : Int) - 1)
  omega
theorem qs_mul {x y : Int} (hx : 1 ≤ x ∧ x ≤ 100) (hy : 0 ≤ y ∧ y ≤ 1000) : 0 ≤ x * y ∧ x * y ≤ 100000 := by
  refine ⟨Int.mul_nonneg (by omega) hy.1, ?_⟩
  have := Int.mul_le_mul hx.2 hy.2 hy.1 (by omega)
  omega
theorem qsS_bnd (ls ts : List Int) (hl : ts.length ≤ 1000) (h : ∀ z ∈ ls, 1 ≤ z ∧ z ≤ 100) : ∀ i, i ≤ ls.length → 0 ≤ qsS ls ts i ∧ qsS ls ts i ≤ 100000 * i
  | 0, _ => by simp [qsS]
  | i + 1, hi => by
    have h1 := qsS_bnd ls ts hl h i (by omega)
    have h2 := qs_mul (h _ (nth_mem (show i < ls.length by omega))) (dep1_bnd ls.length ts i hl)
    rw [qsS]
    omega
theorem depE_nth (n : Nat) (ts : List Int) (i : Nat) (h : i < n) : nth (depE n ts) i = dep1 n ts i := by
  unfold depE
  rw [nth_eq, List.getElem?_map, List.getElem?_range h]
  rfl
theorem depE_len (n : Nat) (ts : List Int) : (depE n ts).length = n := by unfold depE; simp
def questC (ls ts : List Int) : Int := if chkL ls = 0 then validE ls.length ts else chkL ls
def questE (ls ts : List Int) : Int := if questC ls ts = 0 then qsS ls ts ls.length else 0
set_option maxRecDepth 100000 in
set_option maxHeartbeats 4000000 in
theorem quest_any (a : Option Addr) (cap : Nat) (ls : List Int) (c : Option Addr) (dap : Nat) (ts : List Int) (w : World) (hA : IntsAt w a ls) (hC : IntsAt w c ts) (hl : ls.length ≤ 1000) (htc : ts.length ≤ dap) (ht : ts.length ≤ 1000) :
    Calls Try.prog 41 #[.slice a ls.length cap, .slice c ts.length dap] w fun e w' => e = .returned (.tuple #[.int .i64 (questE ls ts), .int .i64 (questC ls ts)]) ∧ Fut w w' := by
  have HCK := Lib.hid (check_any a cap ls w hA hl)
  have HVA := Lib.hid (valid_any ls.length c dap ts w hC htc ht)
  have HCC : Hid (questC ls ts = if chkL ls = 0 then validE ls.length ts else chkL ls) := Lib.hid rfl
  have HLE : Hid (questE ls ts = if questC ls ts = 0 then qsS ls ts ls.length else 0) := Lib.hid rfl
  have HZ := Lib.hid (chkL_zero (zs := ls))
  have HIN := Lib.hid (fun W (k : Fut w W) => hA.fut k)
  have HDA := Lib.hid (fun h1 h2 W (k : Fut w W) => depths_any ls.length h1 h2 c dap ts W (hC.fut k) ht)
  have HTB := Lib.hid ht
  generalize chkL ls = E at *
  generalize validE ls.length ts = V at *
  have hlx : (ls.length : Int) ≤ 1000 := by omega
  have htx : (ts.length : Int) ≤ 1000 := by omega
  clear hA hC ht
  go_enter Try.func41, Try.ntmps41
  go_wp2_with fail
  refine HCK.out.mono ?_
  rintro _ _ ⟨rfl, rfl⟩
  by_cases hE : E = 0
  · have hz := HZ.out hE
    have HC1 : Hid (questC ls ts = V) := Lib.hid (by rw [HCC.out, if_pos hE])
    subst hE
    go_wp2_with fail
    refine HVA.out.mono ?_
    rintro _ w1 ⟨rfl, F1⟩
    by_cases hV : V = 0
    · have HL1 : Hid (questE ls ts = qsS ls ts ls.length) := Lib.hid (by rw [HLE.out, if_pos (by rw [HC1.out]; exact hV)])
      subst hV
      have HD2 := Lib.hid (HDA.out hz.1 hz.2.1)
      have HZ3 := Lib.hid hz.2.2
      have HQB := Lib.hid (qsS_bnd ls ts HTB.out hz.2.2)
      have HF1 := Lib.hid F1
      clear hz F1 HZ HDA HCC HLE HVA HCK
      go_wp2_with fail
      refine (HD2.out _ HF1.out).mono ?_
      rintro _ w2 ⟨v, rfl, hO, F2⟩
      obtain ⟨l, lc, rfl, hI⟩ := hO.ints
      have HI := Lib.hid hI
      have HFw := Lib.hid (HF1.out.trans F2)
      have HDN := Lib.hid (fun i hi => depE_nth ls.length ts i hi)
      have HDL := Lib.hid (depE_len ls.length ts)
      rw [depE_len]
      obtain ⟨f, hf⟩ : ∃ f : Nat → Int, f = qsS ls ts := ⟨_, rfl⟩
      have HFF := Lib.hid hf
      have HF0 : Hid (f 0 = 0) := Lib.hid (by rw [hf]; rfl)
      clear hO hI F2 hf HD2
      go_wp2_with fail
      go_loopw [8, 28] (fun sv iv wr => ∃ i : Nat, i ≤ ls.length ∧ iv = .int .i64 (i : Nat) ∧ sv = .int .i64 (f i) ∧ w2 = wr) (fun _ iv _ => ls.length - (intOf iv).toNat)
      case atStart => exact ⟨0, Nat.zero_le _, rfl, by rw [HF0.out], rfl⟩
      case round =>
        obtain ⟨i, hi, rfl, rfl, rfl⟩ := hrel
        by_cases hil : i < ls.length
        · have hix : (i : Int) < ls.length := by omega
          obtain ⟨b, o, rfl, hb, c1⟩ := HIN.out w2 HFw.out i hil
          obtain ⟨b2, o2, rfl, hb2, c2⟩ := HI.out i (by rw [HDL.out]; exact hil)
          rw [HDN.out i hil] at c2
          have hx := HZ3.out _ (nth_mem hil)
          have hy := dep1_bnd ls.length ts i HTB.out
          have hm := qs_mul hx hy
          have hb0 := HQB.out i hi
          rw [← HFF.out] at hb0
          have hs : f (i + 1) = f i + nth ls i * dep1 ls.length ts i := by rw [HFF.out]; rfl
          generalize nth ls i = x at *
          generalize dep1 ls.length ts i = y at *
          obtain ⟨xm, hxm⟩ : ∃ xm, xm = x * y := ⟨_, rfl⟩
          have hwa : IntKind.i64.wrap (x * y) = xm := by rw [hxm]; exact IntWalk.i64_in _ ⟨by omega, by omega⟩
          rw [← hxm] at hm hs
          have hwb : IntKind.i64.wrap (f i + xm) = f (i + 1) := by rw [hs]; exact IntWalk.i64_in _ ⟨by omega, by omega⟩
          have hwi : IntKind.i64.wrap ((i : Int) + 1) = ((i + 1 : Nat) : Int) := by rw [IntWalk.i64_in _ ⟨by omega, by omega⟩]; omega
          clear hs hxm hb0 hm hx hy
          go_wp2_with fail
          go_roundw
          case rel => first
            | exact ⟨i + 1, by omega, rfl, rfl, trivial⟩
            | exact ⟨i + 1, by omega, rfl, rfl, rfl⟩
          case measure => simp [intOf]; omega
        · obtain rfl : i = ls.length := by omega
          go_wp2_with fail
          go_ret2
          exact ⟨by rw [HL1.out, HC1.out, ← HFF.out]; rfl, HFw.out⟩
    · have HL1 : Hid (questE ls ts = 0) := Lib.hid (by rw [HLE.out, if_neg (by rw [HC1.out]; exact hV)])
      go_wp2_with fail
      go_ret2
      exact ⟨by rw [HL1.out, HC1.out]; rfl, F1⟩
  · have HC1 : Hid (questC ls ts = E) := Lib.hid (by rw [HCC.out, if_neg hE])
    have HL1 : Hid (questE ls ts = 0) := Lib.hid (by rw [HLE.out, if_neg (by rw [HC1.out]; exact hE)])
    go_wp2_with fail
    go_ret2
    exact ⟨by rw [HL1.out, HC1.out]; rfl, Fut.rfl⟩
end
section
/-- a list of one's own, and an error. -/
abbrev TupW (r : Int) (L : List Int) (w : World) (e : Ending) (w' : World) : Prop := ∃ v, e = .returned (.tuple #[v, .int .i64 r]) ∧ Owns w' w.heap.size v L ∧ Fut w w'
theorem own_nil (w : World) (B : Nat) : Owns w B (.slice none 0 0) [] := World.ownsRow_nil _ _ _ _
set_option maxRecDepth 100000 in
theorem best18W (a : Option Addr) (cap : Nat) (zs : List Int) (w : World) (hA : IntsAt w a zs) (hlc : zs.length ≤ cap) (hl : zs.length ≤ 1000) :
    Calls Try.prog 18 #[.slice a zs.length cap] w fun e w' => TupW (chkL zs) (bestE zs) w e w' := by
  have HCK := Lib.hid (check_any a cap zs w hA hl)
  have HBC := Lib.hid (best_call a cap zs w hA hlc)
  have HLE : Hid (bestE zs = if chkL zs = 0 then lsI (F0 zs) (m0 (F0 zs)) 8 0 (zs.length - 1) 0 else []) := Lib.hid rfl
  have HZ := Lib.hid (chkL_zero (zs := zs))
  generalize chkL zs = E at *
  have hlx : (zs.length : Int) ≤ 1000 := by omega
  clear hA
  go_enter Try.func18, Try.ntmps18
  go_wp2_with fail
  refine HCK.out.mono ?_
  rintro _ _ ⟨rfl, rfl⟩
  by_cases hE : E = 0
  · have HB2 := Lib.hid (HBC.out hE)
    have hz := HZ.out hE
    have HL2 : Hid (bestE zs = lsI (F0 zs) (m0 (F0 zs)) 8 0 (zs.length - 1) 0) := Lib.hid (by rw [HLE.out, if_pos hE])
    subst hE
    obtain ⟨n1, hn1⟩ : ∃ n1, n1 = zs.length - 1 := ⟨_, rfl⟩
    have HAL : Hid (∀ W, Calls Try.prog 65 #[.int .i64 (zs.length : Nat)] W fun e w' => e = .returned (spV 0 (n1 : Nat)) ∧ Fut W w') := Lib.hid (fun W => by
      have h := allOf_any zs.length (by omega) W
      rw [show ((zs.length : Nat) : Int) - 1 = ((n1 : Nat) : Int) by omega] at h
      exact h)
    have HN := Lib.hid (And.intro hz.1 (And.intro hz.2.1 hn1))
    clear hz hn1 HCK HBC HLE HZ
    go_wp2_with fail
    refine HB2.out.mono ?_
    rintro _ w1 ⟨F, mn, f, rfl, F1, hT, hM, hBd, hD⟩
    have HLS : Hid (∀ W, Fut w1 W → Calls Try.prog 64 #[.pointer (some ⟨w.heap.size + 1, 0, none⟩), spV 0 (n1 : Nat), .int .i64 0] W fun e w' => ∃ v, e = .returned v ∧ Owns w' W.heap.size v (bestE zs) ∧ Fut W w') := Lib.hid (fun W k => by
      obtain ⟨h1, h2, h3⟩ := HN.out
      have hFF := done_F h2 hD
      have hmm : ∀ a b, a ≤ b → b < zs.length → mn a b = m0 (F0 zs) a b := fun a b h4 h5 => done_m h2 hD 9 a b h4 h5 (by omega)
      have := list_any (w.heap.size + 1) (w.heap.size + 2) zs.length (by omega) h2 F mn hBd.le (fun a b h4 h5 => by rw [hFF a b h4 h5]; exact F0_in zs a b h4) (fun a b h4 h5 => by rw [hFF a b h4 h5]; have := F0_len zs a b; omega) 8 0 n1 (by omega) (by omega) (by omega) 0 (by omega) (by omega) W (hT.fut k) (hM.fut k)
      rw [lsI_congr hFF hmm (F0_in zs) 8 0 n1 (by omega) (by omega) 0, h3, ← HL2.out] at this
      rw [h3]
      exact this)
    clear hT hM hBd hD
    go_wp2_with fail
    refine (HAL.out _).mono ?_
    rintro _ w2 ⟨rfl, F2⟩
    go_wp2_with fail
    refine (HLS.out _ F2).mono ?_
    rintro _ w3 ⟨v, rfl, hO, F3⟩
    obtain ⟨l, c, rfl, _⟩ := hO.ints
    have HO := Lib.hid (hO.base (RowKit.Below.size (F1.trans F2)))
    clear hO
    go_wp2_with fail
    go_ret2
    exact ⟨_, rfl, HO.out, (F1.trans F2).trans F3⟩
  · have HL2 : Hid (bestE zs = []) := Lib.hid (by rw [HLE.out, if_neg hE])
    go_wp2_with fail
    go_ret2
    exact ⟨_, rfl, by rw [HL2.out]; exact own_nil _ _, Fut.rfl⟩
set_option maxRecDepth 100000 in
theorem treeW (n q : Int) (w : World) : Calls Try.prog 33 #[.int .i64 n, .int .i64 q] w fun e w' => TupW (treeC n q) (treeE n q) w e w' := by
  have HKI := Lib.hid (kinds_any n w)
  by_cases hn : 1 ≤ n ∧ n ≤ 8
  · have HTE : Hid (treeE n q = if inB (m0 FA 0 (n.toNat - 1)) q = true then lsI FA (m0 FA) 8 0 (n.toNat - 1) q else []) := Lib.hid (by unfold treeE; rw [if_pos hn])
    have HKE : Hid (treeC n q = if inB (m0 FA 0 (n.toNat - 1)) q = true then 0 else 2) := Lib.hid (by unfold treeC; rw [if_pos hn])
    rw [decide_eq_true hn] at HKI
    obtain ⟨m, rfl⟩ : ∃ m : Nat, n = m := ⟨n.toNat, by omega⟩
    rw [Int.toNat_natCast] at HTE HKE
    have hn1 : 1 ≤ m := by omega
    have hn2 : m ≤ 8 := by omega
    clear hn
    obtain ⟨n1, hn11⟩ : ∃ n1, n1 = m - 1 := ⟨_, rfl⟩
    rw [← hn11] at HTE HKE
    have HAL : Hid (∀ W, Calls Try.prog 65 #[.int .i64 (m : Nat)] W fun e w' => e = .returned (spV 0 (n1 : Nat)) ∧ Fut W w') := Lib.hid (fun W => by
      have h := allOf_any m (by omega) W
      rw [show ((m : Nat) : Int) - 1 = ((n1 : Nat) : Int) by omega] at h
      exact h)
    have HEV := Lib.hid (every_any m hn1 hn2 w)
    have hnb : n1 < m := by omega
    clear hn11
    go_enter Try.func33, Try.ntmps33
    go_wp2_with fail
    refine HKI.out.mono ?_
    rintro _ _ ⟨rfl, rfl⟩
    go_wp2_with fail
    refine HEV.out.mono ?_
    rintro _ w1 ⟨rfl, F1, F, mn, hT, hM, hBd, hD⟩
    obtain ⟨V, hV⟩ : ∃ V, V = m0 FA 0 n1 := ⟨_, rfl⟩
    rw [← hV] at HTE HKE
    have HVB : Hid (V ≤ 1000000) := Lib.hid (by rw [hV, ← all_m hn2 hD 9 0 n1 (by omega) (by omega) (by omega)]; exact (hBd.le 0 n1).2)
    have HOV : Hid (∀ W, Fut w1 W → Calls Try.prog 67 #[.pointer (some ⟨w.heap.size, 64, none⟩), spV 0 (n1 : Nat)] W fun e w' => e = .returned (.int .i64 V) ∧ Fut W w') := Lib.hid (fun W k => by
      have hmm : mn 0 n1 = V := by rw [hV]; exact all_m hn2 hD 9 0 n1 (by omega) (by omega) (by omega)
      rw [← hmm]
      exact of_any w.heap.size 64 0 n1 (by omega) (by omega) (mn 0 n1) W (hM.fut k 0 n1 (by omega) (by omega)).1)
    have HLS : Hid (0 ≤ q → q < V → ∀ W, Fut w1 W → Calls Try.prog 64 #[.pointer (some ⟨w.heap.size, 0, none⟩), spV 0 (n1 : Nat), .int .i64 q] W fun e w' => ∃ v, e = .returned v ∧ Owns w' W.heap.size v (lsI FA (m0 FA) 8 0 n1 q) ∧ Fut W w') := Lib.hid (fun hq0 hq1 W k => by
      have hFF := all_F hn2 hD
      have hmm : ∀ a b, a ≤ b → b < m → mn a b = m0 FA a b := fun a b h4 h5 => all_m hn2 hD 9 a b h4 h5 (by omega)
      have := list_any w.heap.size (w.heap.size + 1) m (by omega) hn2 F mn hBd.le (fun a b h4 h5 => by rw [hFF a b h4 h5]; exact FA_in a b h4) (fun a b h4 h5 => by rw [hFF a b h4 h5]; unfold FA; rw [svP_len]; omega) 8 0 n1 (by omega) hnb (by omega) q hq0 (by have := HVB.out; omega) W (hT.fut k) (hM.fut k)
      rw [lsI_congr hFF hmm FA_in 8 0 n1 (by omega) hnb q] at this
      exact this)
    have HIX := Lib.hid (fun W => isIndex_any q V W)
    clear hT hM hBd hD HEV hV
    go_upto_region 4 with fail
    have HA2 := Lib.hid (fun p : After w1 => HAL.out p.w')
    have HB3 := Lib.hid (fun p : After w1 => HOV.out p.w' p.F)
    have HC3 := Lib.hid (fun p : After w1 => HIX.out p.w')
    have HF1 := Lib.hid F1
    clear F1
    refine region_fut (by kernel_rfl) (by kernel_rfl) ?_
    repeat (go_big_quiet_step (first | with_reducible rfl | (with_reducible (go_at_call 65; rename_i p; exact after_of (HA2.out p))) | (with_reducible (go_at_call 67; rename_i p; exact after_of (HB3.out p))) | (with_reducible (go_at_call 74; rename_i p; exact after_same (HC3.out p)))))
    refine wpQuiet_nil ?_
    intro w4 hw'
    have HF4 := Lib.hid (after_fut hw')
    clear hw' HA2 HB3 HC3 HIX HOV
    cases hib : inB V q with
    | true =>
      rw [hib] at HTE HKE
      have hqq : 0 ≤ q ∧ q < V := by unfold inB at hib; simpa using hib
      have HL2 := Lib.hid (HLS.out hqq.1 hqq.2)
      clear HLS hqq
      go_wp2_with fail
      refine (HAL.out _).mono ?_
      rintro _ w5 ⟨rfl, F5⟩
      go_wp2_with fail
      refine (HL2.out _ (HF4.out.trans F5)).mono ?_
      rintro _ w6 ⟨v, rfl, hO, F6⟩
      obtain ⟨l, c, rfl, _⟩ := hO.ints
      have HO := Lib.hid (hO.base (RowKit.Below.size (HF1.out.trans (HF4.out.trans F5))))
      clear hO
      go_wp2_with fail
      go_ret2
      have e1 := HTE.out
      have e2 := HKE.out
      simp only [if_true] at e1 e2
      rw [e1, e2]
      exact ⟨_, rfl, HO.out, (HF1.out.trans (HF4.out.trans F5)).trans F6⟩
    | false =>
      rw [hib] at HTE HKE
      go_wp2_with fail
      go_ret2
      have e1 := HTE.out
      have e2 := HKE.out
      simp only [Bool.false_eq_true, if_false] at e1 e2
      rw [e1, e2]
      exact ⟨_, rfl, own_nil _ _, HF1.out.trans HF4.out⟩
  · have HTE : Hid (treeE n q = []) := Lib.hid (by unfold treeE; rw [if_neg hn])
    have HKE : Hid (treeC n q = 1) := Lib.hid (by unfold treeC; rw [if_neg hn])
    rw [decide_eq_false hn] at HKI
    rw [HTE.out, HKE.out]
    clear hn
    go_enter Try.func33, Try.ntmps33
    go_wp2_with fail
    refine HKI.out.mono ?_
    rintro _ _ ⟨rfl, rfl⟩
    go_wp2_with fail
    go_ret2
    exact ⟨_, rfl, own_nil _ _, Fut.rfl⟩
set_option maxRecDepth 100000 in
theorem depths37W (n : Int) (a : Option Addr) (cap : Nat) (zs : List Int) (w : World) (hA : IntsAt w a zs) (hlc : zs.length ≤ cap) (hl : zs.length ≤ 1000) :
    Calls Try.prog 37 #[.int .i64 n, .slice a zs.length cap] w fun e w' => TupW (validE n zs) (depthsE n zs) w e w' := by
  have HVA := Lib.hid (valid_any n a cap zs w hA hlc hl)
  have HLE : Hid (depthsE n zs = if validE n zs = 0 then depE n.toNat zs else []) := Lib.hid rfl
  have HK := Lib.hid (valid_kinds (n := n) (zs := zs))
  have HDA : Hid (1 ≤ n ∧ n ≤ 8 → ∀ W, Fut w W → Calls Try.prog 77 #[.int .i64 n, .slice a zs.length cap] W fun e w' => ∃ v, e = .returned v ∧ Owns w' W.heap.size v (depE n.toNat zs) ∧ Fut W w') := Lib.hid (fun hn W k => by
    obtain ⟨m, rfl⟩ : ∃ m : Nat, n = m := ⟨n.toNat, by omega⟩
    rw [Int.toNat_natCast]
    exact depths_any m (by omega) (by omega) a cap zs W (hA.fut k) hl)
  generalize validE n zs = E at *
  generalize depE n.toNat zs = D at *
  have hlx : (zs.length : Int) ≤ 1000 := by omega
  clear hA
  go_enter Try.func37, Try.ntmps37
  go_wp2_with fail
  refine HVA.out.mono ?_
  rintro _ w1 ⟨rfl, F1⟩
  by_cases hE : E = 0
  · have HD2 := Lib.hid (HDA.out (HK.out hE))
    have HL2 : Hid (depthsE n zs = D) := Lib.hid (by rw [HLE.out, if_pos hE])
    subst hE
    go_wp2_with fail
    refine (HD2.out _ F1).mono ?_
    rintro _ w2 ⟨v, rfl, hO, F2⟩
    obtain ⟨l, c, rfl, _⟩ := hO.ints
    have HO := Lib.hid (hO.base (RowKit.Below.size F1))
    clear hO
    go_wp2_with fail
    go_ret2
    rw [HL2.out]
    exact ⟨_, rfl, HO.out, F1.trans F2⟩
  · have HL2 : Hid (depthsE n zs = []) := Lib.hid (by rw [HLE.out, if_neg hE])
    go_wp2_with fail
    go_ret2
    rw [HL2.out]
    exact ⟨_, rfl, own_nil _ _, F1⟩
end
end Go.Proofs.Ytjapconhehdcjaa
