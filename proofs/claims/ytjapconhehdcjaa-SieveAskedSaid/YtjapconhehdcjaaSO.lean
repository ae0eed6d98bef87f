/- list -/
import Derived.Test.YtjapconhehdcjaaSN
import Derived.Deep.DeepCutAuto
import Derived.Deep.AppendLies
namespace Go.Proofs.Ytjapconhehdcjaa
open Go.RowKit Go.Sort
set_option maxRecDepth 100000 in
set_option maxHeartbeats 8000000 in
theorem list_any (g B n : Nat) (hB : g < B) (hn : n ≤ 8) (F : Nat → Nat → List Int) (mn : Nat → Nat → Int) (hm : ∀ i j, 0 ≤ mn i j ∧ mn i j ≤ 1000000) (hF : ∀ a b, a ≤ b → b < n → ∀ l ∈ F a b, (a : Int) ≤ l ∧ l < b) (hFl : ∀ a b, a ≤ b → b < n → (F a b).length ≤ 8) :
    ∀ d a b, a ≤ b → b < n → b - a < d → ∀ (q : Int), 0 ≤ q → q ≤ 1000000000000 → ∀ w, TabL w g 0 B F → Tab w g 64 mn →
    Calls Try.prog 64 #[.pointer (some ⟨g, 0, none⟩), spV (a : Nat) (b : Nat), .int .i64 q] w fun e w' => ∃ v, e = .returned v ∧ Owns w' w.heap.size v (lsI F mn d a b q) ∧ Fut w w'
  | 0, a, b, _, _, hd => fun _ _ _ _ _ _ => absurd hd (by omega)
  | d + 1, a, b, hab, hbn, hd => fun q hq0 hqm w hT hM => by
    have HRC := Lib.hid (fun a' b' h1 h2 h3 q h4 h5 w h6 h7 => list_any g B n hB hn F mn hm hF hFl d a' b' h1 h2 h3 q h4 h5 w h6 h7)
    have HSL := Lib.hid (fun a' b' h1 h2 q => lsI_len mn hF d a' b' h1 h2 q)
    have hb : b < 8 := by omega
    rw [lsI]
    obtain ⟨la, lc, e1, e2, e3⟩ := hT a b (by omega) hb
    have hl := hFl a b hab hbn
    have HLB := Lib.hid (fun i (hi : i < (F a b).length) => hF a b hab hbn (nth (F a b) i) (nth_mem hi))
    obtain ⟨ls, hls⟩ : ∃ ls, ls = lsI F mn d := ⟨_, rfl⟩
    rw [← hls] at HSL ⊢
    have HLS := Lib.hid hls
    have HTT := Lib.hid (fun W (k : Fut w W) => hT.fut k)
    have HMM := Lib.hid (fun W (k : Fut w W) => hM.fut k)
    have HOF := Lib.hid (fun W (k : Fut w W) => ofL_any g 0 a b (by omega) hb la (F a b).length lc W ((RowKit.Below.cell k (p := ⟨g, 0 + a * 8 + b, none⟩) (World.block_lt_of_cell? _ _ e1)).trans e1))
    obtain ⟨la2, lc2, e4, hI⟩ := e3.ints
    obtain ⟨rfl, _, rfl⟩ : la = la2 ∧ (F a b).length = (F a b).length ∧ lc = lc2 := by simpa using e4
    have HI := Lib.hid (fun W (k : Fut w W) => hI.fut k)
    have HMB := Lib.hid hm
    clear hT hM e1 e2 e3 e4 hI hls hF hFl hm list_any
    generalize F a b = L at *
    have hlx : (L.length : Int) ≤ 8 := by omega
    obtain ⟨W0, hW0⟩ : ∃ W0, W0 = w.alloc (.cells #[.int .i64 (a : Nat), .int .i64 (b : Nat)] 69) := ⟨_, rfl⟩
    have HF0 : Hid (Fut w W0) := Lib.hid (by rw [hW0]; exact Fut.alloc _ _)
    have HBX : Hid (W0.heap[w.heap.size]? = some (.cells #[.int .i64 (a : Nat), .int .i64 (b : Nat)] 69)) := Lib.hid (by rw [hW0]; exact World.alloc_heap_new w _)
    have HW := Lib.hid hW0
    clear hW0
    go_enter Try.func64, Try.ntmps64
    go_upto_region 1 with fail
    rw [← HW.out]
    clear HW
    have hc0 := two_cell HBX.out
    obtain ⟨c0, c1, _⟩ := hc0
    have y0 := cell_after c0
    have y1 := cell_after c1
    have HA2 := Lib.hid (fun p : After W0 => HOF.out p.w' (HF0.out.trans p.F))
    refine region_fut (by kernel_rfl) (by kernel_rfl) ?_
    repeat (go_big_quiet_step (first | with_reducible rfl | (with_reducible (go_at_call 69; rename_i p; exact after_of (HA2.out p)))))
    refine wpQuiet_nil ?_
    intro w1 hw'
    have F1 := after_fut hw'
    have HFw := Lib.hid (HF0.out.trans F1)
    have HBX1 := Lib.hid (heap_fut HBX.out F1)
    clear hw' F1 HF0 HBX y0 y1 c0 c1 HA2 HOF
    go_wp2_with fail
    go_loopw [2, 19] (fun qv iv wr => ∃ (i : Nat) (q' : Int), i ≤ L.length ∧ iv = .int .i64 (i : Nat) ∧ qv = .int .i64 q' ∧ 0 ≤ q' ∧ q' ≤ 1000000000000 ∧ Hid (goI mn ls a b (L.drop i) q' = goI mn ls a b L q) ∧ Hid (Fut w1 wr)) (fun _ iv _ => L.length - (intOf iv).toNat)
    case atStart => exact ⟨0, q, by omega, rfl, rfl, hq0, hqm, Lib.hid rfl, Lib.hid Fut.rfl⟩
    case round =>
      obtain ⟨i, q', hi, rfl, rfl, hp0, hpm, HGO, HF⟩ := hrel
      by_cases hin : i < L.length
      · have hix : (i : Int) < L.length := by omega
        have hkb := HLB.out i hin
        obtain ⟨Kn, hK⟩ : ∃ Kn : Nat, (Kn : Int) = nth L i := ⟨(nth L i).toNat, by omega⟩
        obtain ⟨K1, hK1⟩ : ∃ K1, K1 = Kn + 1 := ⟨_, rfl⟩
        have hI := HI.out wr (HFw.out.trans HF.out) i hin
        have hgd := goI_drop (mn := mn) (k := ls) (a := a) (b := b) hin hK hK1 q'
        rw [← hK] at hI hkb
        obtain ⟨b2, o2, rfl, hb2, cs⟩ := hI
        have HPT : Hid (∀ W, Calls Try.prog 95 #[spV (a : Nat) (b : Nat), .int .i64 (Kn : Nat)] W fun e w' => e = .returned (.tuple #[spV (a : Nat) (Kn : Nat), spV (K1 : Nat) (b : Nat)]) ∧ Fut W w') := Lib.hid (fun W => by
          have := parts_any (a : Nat) (b : Nat) (Kn : Nat) ⟨by omega, by omega⟩ W
          rw [hK1]
          exact this)
        have HO1 : Hid (∀ W, Fut w W → Calls Try.prog 67 #[.pointer (some ⟨g, 64, none⟩), spV (a : Nat) (Kn : Nat)] W fun e w' => e = .returned (.int .i64 (mn a Kn)) ∧ Fut W w') := Lib.hid (fun W k => of_any g 64 a Kn (by omega) (by omega) _ W (HMM.out W k a Kn (by omega) (by omega)).1)
        have HO2 : Hid (∀ W, Fut w W → Calls Try.prog 67 #[.pointer (some ⟨g, 64, none⟩), spV (K1 : Nat) (b : Nat)] W fun e w' => e = .returned (.int .i64 (mn K1 b)) ∧ Fut W w') := Lib.hid (fun W k => of_any g 64 K1 b (by omega) (by omega) _ W (HMM.out W k K1 b (by omega) (by omega)).1)
        have hx1 := HMB.out a Kn
        have hx2 := HMB.out K1 b
        generalize mn a Kn = x1 at *
        generalize mn K1 b = x2 at *
        have hxx := mul_bnd hx1 hx2
        obtain ⟨xm, hxm⟩ : ∃ xm, xm = x1 * x2 := ⟨_, rfl⟩
        have hwa : IntKind.i64.wrap (x1 * x2) = xm := by rw [hxm]; exact IntWalk.i64_in _ ⟨by omega, by omega⟩
        rw [← hxm] at hgd hxx
        have HGD := Lib.hid hgd
        have hXP : x2 = 0 → xm = 0 := fun e => by rw [hxm, e, Int.mul_zero]
        have HKK : Hid (a ≤ Kn ∧ Kn < b ∧ K1 = Kn + 1 ∧ (0 < x2 → xm ≤ 1000000000000)) := Lib.hid ⟨by omega, by omega, hK1, fun _ => hxx.2⟩
        have HBX2 := Lib.hid (heap_fut HBX1.out HF.out)
        have hc0 := two_cell HBX2.out
        obtain ⟨c0, c1, _⟩ := hc0
        have hwi : IntKind.i64.wrap ((i : Int) + 1) = ((i + 1 : Nat) : Int) := by rw [IntWalk.i64_in _ ⟨by omega, by omega⟩]; omega
        clear hK hK1 hxm hgd hkb
        go_wp2_with fail
        refine (HPT.out _).mono ?_
        rintro _ w2 ⟨rfl, F2⟩
        go_upto_region 5 with fail
        obtain ⟨t1, ht1⟩ : ∃ t1, t1 = w2.heap.size := ⟨_, rfl⟩
        obtain ⟨t2, ht2⟩ : ∃ t2, t2 = w2.heap.size + 1 := ⟨_, rfl⟩
        obtain ⟨w3, hw3⟩ : ∃ w3, w3 = (w2.alloc (Obj.cells #[Value.int .i64 (a : Nat), Value.int .i64 (Kn : Nat)] 69)).alloc (Obj.cells #[Value.int .i64 (K1 : Nat), Value.int .i64 (b : Nat)] 69) := ⟨_, rfl⟩
        have FA : Fut w2 w3 := by rw [hw3]; exact (Fut.alloc _ _).trans (Fut.alloc _ _)
        have G2 : Hid (w3.heap[t1]? = some (.cells #[.int .i64 (a : Nat), .int .i64 (Kn : Nat)] 69)) := Lib.hid (by rw [ht1, hw3]; exact heap_fut (World.alloc_heap_new w2 _) (Fut.alloc _ _))
        have G3 : Hid (w3.heap[t2]? = some (.cells #[.int .i64 (K1 : Nat), .int .i64 (b : Nat)] 69)) := Lib.hid (by
          have := World.alloc_heap_new (w2.alloc (Obj.cells #[.int .i64 (a : Nat), .int .i64 (Kn : Nat)] 69)) (Obj.cells #[.int .i64 (K1 : Nat), .int .i64 (b : Nat)] 69)
          rw [World.size_alloc] at this
          rw [ht2, hw3]
          exact this)
        have HF3 := Lib.hid ((HF.out.trans F2).trans FA)
        rw [← hw3, ← ht2, ← ht1]
        clear hw3 ht1 ht2 HF HBX2 FA F2 c0 c1 cs HPT
        obtain ⟨p4, p5, _⟩ := two_cell G3.out
        have y4 := cell_after p4
        have y5 := cell_after p5
        have HB2 := Lib.hid (fun p : After w3 => HO2.out p.w' ((HFw.out.trans HF3.out).trans p.F))
        refine region_fut (by kernel_rfl) (by kernel_rfl) ?_
        repeat (go_big_quiet_step (first | with_reducible rfl | (with_reducible (go_at_call 67; rename_i p; exact after_of (HB2.out p)))))
        refine wpQuiet_nil ?_
        intro w4 hw'
        have F4 := after_fut hw'
        have HF4 := Lib.hid (HF3.out.trans F4)
        have G2b := Lib.hid (heap_fut G2.out F4)
        have G3b := Lib.hid (heap_fut G3.out F4)
        clear hw' F4 HF3 y4 y5 p4 p5 HB2 HO2 G2 G3
        go_upto_region 6 with fail
        obtain ⟨p2, p3, _⟩ := two_cell G2b.out
        have y2 := cell_after p2
        have y3 := cell_after p3
        have HB2 := Lib.hid (fun p : After w4 => HO1.out p.w' ((HFw.out.trans HF4.out).trans p.F))
        refine region_fut (by kernel_rfl) (by kernel_rfl) ?_
        repeat (go_big_quiet_step (first | with_reducible rfl | (with_reducible (go_at_call 67; rename_i p; exact after_of (HB2.out p)))))
        refine wpQuiet_nil ?_
        intro w6 hw'
        have F6 := after_fut hw'
        have HF6 := Lib.hid (HF4.out.trans F6)
        have G2c := Lib.hid (heap_fut G2b.out F6)
        have G3c := Lib.hid (heap_fut G3b.out F6)
        clear hw' F6 HF4 y2 y3 p2 p3 HB2 HO1 G2b G3b
        by_cases hlt : q' < xm
        · have HRS : Hid (goI mn ls a b (L.drop i) q' = (Kn : Int) :: (ls a Kn (q' / x2) ++ ls K1 b (q' % x2))) := Lib.hid (by rw [HGD.out, if_pos hlt])
          have hxp : 0 < x2 := by
            rcases Int.lt_or_le 0 x2 with h | h
            · exact h
            · have := hXP (by omega); omega
          have hne : ¬ x2 = 0 := by omega
          obtain ⟨q1, hq1⟩ : ∃ q1, q1 = q' / x2 := ⟨_, rfl⟩
          obtain ⟨q2, hq2⟩ : ∃ q2, q2 = q' % x2 := ⟨_, rfl⟩
          rw [← hq1, ← hq2] at HRS
          have hq1b : 0 ≤ q1 ∧ q1 ≤ 1000000000000 := by
            have h1 := Int.ediv_nonneg hp0 (show 0 ≤ x2 by omega)
            have h2 := Int.ediv_le_self x2 hp0
            omega
          have hq2b : 0 ≤ q2 ∧ q2 ≤ 1000000000000 := by
            have h1 := Int.emod_nonneg q' (show x2 ≠ 0 by omega)
            have h2 := Int.emod_lt_of_pos q' hxp
            omega
          have hqa : IntKind.i64.wrap (q'.tdiv x2) = q1 := by rw [wrap_i64_tdiv _ _ (by omega) (by omega) (by omega), tdiv_eq_if, if_pos hp0, hq1]
          have hqb : q'.tmod x2 = q2 := by rw [Int.tmod_eq_emod_of_nonneg hp0, hq2]
          obtain ⟨k1, k2, k3, _⟩ := HKK.out
          obtain ⟨X, hX⟩ : ∃ X, X = ls a Kn q1 := ⟨_, rfl⟩
          obtain ⟨Y, hY⟩ : ∃ Y, Y = ls K1 b q2 := ⟨_, rfl⟩
          have HR7 : Hid (∀ v, Fut w6.drew v → Calls Try.prog 64 #[.pointer (some ⟨g, 0, none⟩), spV (a : Nat) (Kn : Nat), .int .i64 q1] v fun e w' => ∃ x, e = .returned x ∧ Owns w' v.heap.size x X ∧ Fut v w') := Lib.hid (fun v k => by
            have kk : Fut w v := ((HFw.out.trans HF6.out).trans (below_drewN Fut.rfl 1)).trans k
            rw [hX, HLS.out]
            exact HRC.out a Kn k1 (by omega) (by omega) q1 hq1b.1 hq1b.2 v (HTT.out v kk) (HMM.out v kk))
          have HR13 : Hid (∀ v, Fut w6.drew v → Calls Try.prog 64 #[.pointer (some ⟨g, 0, none⟩), spV (K1 : Nat) (b : Nat), .int .i64 q2] v fun e w' => ∃ x, e = .returned x ∧ Owns w' v.heap.size x Y ∧ Fut v w') := Lib.hid (fun v k => by
            have kk : Fut w v := ((HFw.out.trans HF6.out).trans (below_drewN Fut.rfl 1)).trans k
            rw [hY, HLS.out]
            exact HRC.out K1 b (by omega) hbn (by omega) q2 hq2b.1 hq2b.2 v (HTT.out v kk) (HMM.out v kk))
          have HXY : Hid (∀ k, k < [[(Kn : Int)], X, Y].length → (lth [[(Kn : Int)], X, Y] k).length ≤ 1000) := Lib.hid (fun k hk => by
            have h1 := HSL.out a Kn k1 (by omega) q1
            have h2 := HSL.out K1 b (by omega) hbn q2
            rw [← hX] at h1
            rw [← hY] at h2
            match k, hk with
            | 0, _ => simp [lth_eq]
            | 1, _ => show X.length ≤ 1000; omega
            | 2, _ => show Y.length ≤ 1000; omega)
          have HRS2 : Hid (goI mn ls a b (L.drop i) q' = [[(Kn : Int)], X, Y].flatten) := Lib.hid (by rw [HRS.out, hX, hY]; simp)
          replace HRS := HRS2
          have HZU : Hid (w.heap.size ≤ w6.drew.heap.size) := Lib.hid (RowKit.Below.size ((HFw.out.trans HF6.out).trans (below_drewN Fut.rfl 1)))
          have HFU : Hid (Fut w w6.drew) := Lib.hid ((HFw.out.trans HF6.out).trans (below_drewN Fut.rfl 1))
          have H2d : Hid (w6.drew.heap[t1]? = some (.cells #[.int .i64 (a : Nat), .int .i64 (Kn : Nat)] 69)) := Lib.hid (heap_fut G2c.out (below_drewN Fut.rfl 1))
          have H3d : Hid (w6.drew.heap[t2]? = some (.cells #[.int .i64 (K1 : Nat), .int .i64 (b : Nat)] 69)) := Lib.hid (heap_fut G3c.out (below_drewN Fut.rfl 1))
          have keep : ∀ v, Fut w6.drew v → (v.cell? ⟨t1, 0, none⟩ = some (.int .i64 (a : Nat)) ∧ v.cell? ⟨t1, 1, none⟩ = some (.int .i64 (Kn : Nat))) ∧ (v.cell? ⟨t2, 0, none⟩ = some (.int .i64 (K1 : Nat)) ∧ v.cell? ⟨t2, 1, none⟩ = some (.int .i64 (b : Nat))) := fun v k => by
            obtain ⟨m1, m2, _⟩ := two_cell (heap_fut H2d.out k)
            obtain ⟨m3, m4, _⟩ := two_cell (heap_fut H3d.out k)
            exact ⟨⟨m1, m2⟩, m3, m4⟩
          clear HRS2 hX hY hq1 hq2 hXP k1 k2 k3
          go_upto_region 8 with fail
          refine wp_region_held_drew (S := (fun w' => (w'.cell? ⟨t1, 0, none⟩ = some (.int .i64 (a : Nat)) ∧ w'.cell? ⟨t1, 1, none⟩ = some (.int .i64 (Kn : Nat))) ∧ (w'.cell? ⟨t2, 0, none⟩ = some (.int .i64 (K1 : Nat)) ∧ w'.cell? ⟨t2, 1, none⟩ = some (.int .i64 (b : Nat))))) (by kernel_rfl) ?_ (fun hHeld => ?_)
          · exact keep _ Fut.rfl
          generalize w6.drew = u0 at *
          refine wpAnyH_take (i := 0) (oi := { dst := some 44, op := Op.move (Operand.tmp 8), type := 3, pos := "tree.go:37", after := #[], guard := none }) (v := ?_) rfl (by kernel_rfl) (by kernel_rfl) (by kernel_rfl) (fun _ _ _ h => h) (Or.inl ⟨by rfl, ?_⟩) (by assumption) ?_
          rotate_left
          · (intro w hSw; obtain ⟨⟨s0, s1⟩, ⟨s2, s3⟩⟩ := hSw; go_simp <;> with_reducible rfl)
          try simp only [Act.put, List.setIfInBounds_toArray, List.set_cons_zero, List.set_cons_succ]
          refine wpAnyH_take (i := 2) (oi := { dst := some 46, op := Op.move (Operand.tmp 0), type := 64, pos := "tree.go:37", after := #[], guard := none }) (v := ?_) rfl (by kernel_rfl) (by kernel_rfl) (by kernel_rfl) (fun _ _ _ h => h) (Or.inl ⟨by rfl, ?_⟩) (by assumption) ?_
          rotate_left
          · (intro w hSw; obtain ⟨⟨s0, s1⟩, ⟨s2, s3⟩⟩ := hSw; go_simp <;> with_reducible rfl)
          try simp only [Act.put, List.setIfInBounds_toArray, List.set_cons_zero, List.set_cons_succ]
          refine wpAnyH_take (i := 3) (oi := { dst := some 47, op := Op.load 69 (Operand.tmp 9), type := 69, pos := "tree.go:37", after := #[], guard := none }) (v := ?_) rfl (by kernel_rfl) (by kernel_rfl) (by kernel_rfl) (fun _ _ _ h => h) (Or.inl ⟨by rfl, ?_⟩) (by assumption) ?_
          rotate_left
          · (intro w hSw; obtain ⟨⟨s0, s1⟩, ⟨s2, s3⟩⟩ := hSw; go_simp <;> with_reducible rfl)
          try simp only [Act.put, List.setIfInBounds_toArray, List.set_cons_zero, List.set_cons_succ]
          refine wpAnyH_take (i := 4) (oi := { dst := some 48, op := Op.move (Operand.tmp 2), type := 3, pos := "tree.go:37", after := #[], guard := none }) (v := ?_) rfl (by kernel_rfl) (by kernel_rfl) (by kernel_rfl) (fun _ _ _ h => h) (Or.inl ⟨by rfl, ?_⟩) (by assumption) ?_
          rotate_left
          · (intro w hSw; obtain ⟨⟨s0, s1⟩, ⟨s2, s3⟩⟩ := hSw; go_simp <;> with_reducible rfl)
          try simp only [Act.put, List.setIfInBounds_toArray, List.set_cons_zero, List.set_cons_succ]
          refine wpAnyH_take (i := 5) (oi := { dst := some 49, op := Op.move (Operand.tmp 11), type := 3, pos := "tree.go:37", after := #[], guard := none }) (v := ?_) rfl (by kernel_rfl) (by kernel_rfl) (by kernel_rfl) (fun _ _ _ h => h) (Or.inl ⟨by rfl, ?_⟩) (by assumption) ?_
          rotate_left
          · (intro w hSw; obtain ⟨⟨s0, s1⟩, ⟨s2, s3⟩⟩ := hSw; go_simp <;> with_reducible rfl)
          try simp only [Act.put, List.setIfInBounds_toArray, List.set_cons_zero, List.set_cons_succ]
          refine wpAnyH_take (i := 6) (oi := { dst := some 50, op := Op.binOp BinOp.quo 3 (Operand.tmp 48) (Operand.tmp 49) 3, type := 3, pos := "tree.go:37", after := #[{ on := 4, ground := Ground.data }, { on := 5, ground := Ground.data }], guard := none }) (v := ?_) rfl (by kernel_rfl) (by kernel_rfl) (by kernel_rfl) (fun _ _ _ h => h) (Or.inl ⟨by rfl, ?_⟩) (by assumption) ?_
          rotate_left
          · (intro w hSw; obtain ⟨⟨s0, s1⟩, ⟨s2, s3⟩⟩ := hSw; go_simp <;> with_reducible rfl)
          try simp only [Act.put, List.setIfInBounds_toArray, List.set_cons_zero, List.set_cons_succ]
          refine wpAnyH_take (i := 8) (oi := { dst := some 52, op := Op.move (Operand.tmp 0), type := 64, pos := "tree.go:37", after := #[], guard := none }) (v := ?_) rfl (by kernel_rfl) (by kernel_rfl) (by kernel_rfl) (fun _ _ _ h => h) (Or.inl ⟨by rfl, ?_⟩) (by assumption) ?_
          rotate_left
          · (intro w hSw; obtain ⟨⟨s0, s1⟩, ⟨s2, s3⟩⟩ := hSw; go_simp <;> with_reducible rfl)
          try simp only [Act.put, List.setIfInBounds_toArray, List.set_cons_zero, List.set_cons_succ]
          refine wpAnyH_take (i := 9) (oi := { dst := some 53, op := Op.load 69 (Operand.tmp 10), type := 69, pos := "tree.go:37", after := #[], guard := none }) (v := ?_) rfl (by kernel_rfl) (by kernel_rfl) (by kernel_rfl) (fun _ _ _ h => h) (Or.inl ⟨by rfl, ?_⟩) (by assumption) ?_
          rotate_left
          · (intro w hSw; obtain ⟨⟨s0, s1⟩, ⟨s2, s3⟩⟩ := hSw; go_simp <;> with_reducible rfl)
          try simp only [Act.put, List.setIfInBounds_toArray, List.set_cons_zero, List.set_cons_succ]
          refine wpAnyH_take (i := 10) (oi := { dst := some 54, op := Op.move (Operand.tmp 2), type := 3, pos := "tree.go:37", after := #[], guard := none }) (v := ?_) rfl (by kernel_rfl) (by kernel_rfl) (by kernel_rfl) (fun _ _ _ h => h) (Or.inl ⟨by rfl, ?_⟩) (by assumption) ?_
          rotate_left
          · (intro w hSw; obtain ⟨⟨s0, s1⟩, ⟨s2, s3⟩⟩ := hSw; go_simp <;> with_reducible rfl)
          try simp only [Act.put, List.setIfInBounds_toArray, List.set_cons_zero, List.set_cons_succ]
          refine wpAnyH_take (i := 11) (oi := { dst := some 55, op := Op.move (Operand.tmp 11), type := 3, pos := "tree.go:37", after := #[], guard := none }) (v := ?_) rfl (by kernel_rfl) (by kernel_rfl) (by kernel_rfl) (fun _ _ _ h => h) (Or.inl ⟨by rfl, ?_⟩) (by assumption) ?_
          rotate_left
          · (intro w hSw; obtain ⟨⟨s0, s1⟩, ⟨s2, s3⟩⟩ := hSw; go_simp <;> with_reducible rfl)
          try simp only [Act.put, List.setIfInBounds_toArray, List.set_cons_zero, List.set_cons_succ]
          refine wpAnyH_take (i := 12) (oi := { dst := some 56, op := Op.binOp BinOp.rem 3 (Operand.tmp 54) (Operand.tmp 55) 3, type := 3, pos := "tree.go:37", after := #[{ on := 10, ground := Ground.data }, { on := 11, ground := Ground.data }], guard := none }) (v := ?_) rfl (by kernel_rfl) (by kernel_rfl) (by kernel_rfl) (fun _ _ _ h => h) (Or.inl ⟨by rfl, ?_⟩) (by assumption) ?_
          rotate_left
          · (intro w hSw; obtain ⟨⟨s0, s1⟩, ⟨s2, s3⟩⟩ := hSw; go_simp <;> with_reducible rfl)
          try simp only [Act.put, List.setIfInBounds_toArray, List.set_cons_zero, List.set_cons_succ]
          refine wpAnyH_ready (rs := [1, 7]) (by kernel_rfl) (by simp) ?_
          refine AllReadyH.cons (o := { dst := some 45, op := Op.buildSlice 22 1 #[(0, Operand.tmp 44)], type := 22, pos := "tree.go:37", after := #[{ on := 0, ground := Ground.data }], guard := none }) rfl (fun K hK => ?_) (AllReadyH.cons (o := { dst := some 51, op := Op.call { callee := Callee.value (Operand.func 64), args := #[Operand.tmp 46, Operand.tmp 47, Operand.tmp 50], argTypes := #[64, 69, 3] }, type := 22, pos := "tree.go:37", after := #[{ on := 2, ground := Ground.data }, { on := 3, ground := Ground.data }, { on := 6, ground := Ground.data }], guard := none }) rfl (fun K hK => ?_) (AllReadyH.nil))
          · go_simp
            obtain ⟨v1, hv1⟩ : ∃ W, W = u0.alloc (.cells #[.int .i64 (Kn : Nat)] 3) := ⟨_, rfl⟩
            have T1 : Hid (Fut u0 v1) := Lib.hid (by rw [hv1]; exact Fut.alloc _ _)
            have G1 : Hid (Fut u0 v1) := Lib.hid ((Fut.rfl).trans T1.out)
            have N1 : Hid (v1.cell? ⟨u0.heap.size, 0, none⟩ = some (.int .i64 (Kn : Nat))) := Lib.hid (by rw [hv1]; exact (cells_at _ _ _ _ _ rfl).1)
            obtain ⟨s1, hs1⟩ : ∃ s, s = u0.heap.size := ⟨_, rfl⟩
            rw [← hv1]
            rw [← hs1] at N1 ⊢
            clear hv1 hs1
            refine hK.out _ _ ?_ (fun hHeld => ?_)
            · exact keep _ G1.out
            clear hK K
            try simp only [Act.put, List.setIfInBounds_toArray, List.set_cons_zero, List.set_cons_succ]
            refine wpAnyH_ready (rs := [7]) (by kernel_rfl) (by simp) ?_
            refine AllReadyH.cons (o := { dst := some 51, op := Op.call { callee := Callee.value (Operand.func 64), args := #[Operand.tmp 46, Operand.tmp 47, Operand.tmp 50], argTypes := #[64, 69, 3] }, type := 22, pos := "tree.go:37", after := #[{ on := 2, ground := Ground.data }, { on := 3, ground := Ground.data }, { on := 6, ground := Ground.data }], guard := none }) rfl (fun K hK => ?_) AllReadyH.nil
            go_simp
            go_at_call 64
            refine (HR7.out v1 (G1.out)).mono ?_
            rintro _ v7 ⟨x7, rfl, hO7, T7⟩
            have G7 : Hid (Fut u0 v7) := Lib.hid ((G1.out).trans T7)
            obtain ⟨l7, c7, rfl, hI7⟩ := hO7.ints
            have I7 := Lib.hid hI7
            replace T7 := Lib.hid T7
            clear hO7 hI7
            try go_wp2_with fail
            refine hK.out _ _ ?_ (fun hHeld => ?_)
            · exact keep _ G7.out
            clear hK K
            try simp only [Act.put, List.setIfInBounds_toArray, List.set_cons_zero, List.set_cons_succ]
            refine wpAnyH_ready (rs := [13]) (by kernel_rfl) (by simp) ?_
            refine AllReadyH.cons (o := { dst := some 57, op := Op.call { callee := Callee.value (Operand.func 64), args := #[Operand.tmp 52, Operand.tmp 53, Operand.tmp 56], argTypes := #[64, 69, 3] }, type := 22, pos := "tree.go:37", after := #[{ on := 8, ground := Ground.data }, { on := 9, ground := Ground.data }, { on := 12, ground := Ground.data }, { on := 7, ground := Ground.chain }], guard := none }) rfl (fun K hK => ?_) AllReadyH.nil
            go_simp
            go_at_call 64
            refine (HR13.out v7 (G7.out)).mono ?_
            rintro _ v13 ⟨x13, rfl, hO13, T13⟩
            have G13 : Hid (Fut u0 v13) := Lib.hid ((G7.out).trans T13)
            obtain ⟨l13, c13, rfl, hI13⟩ := hO13.ints
            have I13 := Lib.hid hI13
            replace T13 := Lib.hid T13
            clear hO13 hI13
            try go_wp2_with fail
            refine hK.out _ _ ?_ (fun hHeld => ?_)
            · exact keep _ G13.out
            clear hK K
            try simp only [Act.put, List.setIfInBounds_toArray, List.set_cons_zero, List.set_cons_succ]
            refine wpAnyH_ready (rs := [14]) (by kernel_rfl) (by simp) ?_
            refine AllReadyH.cons (o := { dst := some 58, op := Op.buildSlice 71 3 #[(0, Operand.tmp 45), (1, Operand.tmp 51), (2, Operand.tmp 57)], type := 71, pos := "tree.go:37", after := #[{ on := 1, ground := Ground.data }, { on := 7, ground := Ground.data }, { on := 13, ground := Ground.data }], guard := none }) rfl (fun K hK => ?_) AllReadyH.nil
            go_simp
            obtain ⟨v14, hv14⟩ : ∃ W, W = v13.alloc (.cells #[.slice (some ⟨s1, 0, none⟩) 1 1, .slice l7 X.length c7, .slice l13 Y.length c13] 22) := ⟨_, rfl⟩
            have T14 : Hid (Fut v13 v14) := Lib.hid (by rw [hv14]; exact Fut.alloc _ _)
            have G14 : Hid (Fut u0 v14) := Lib.hid ((G13.out).trans T14.out)
            have L14 : Hid (LstAt v14 (some ⟨v13.heap.size, 0, none⟩) [[(Kn : Int)], X, Y]) := Lib.hid (three_lists (s := s1) (by rw [hv14]; exact (cells_at _ _ _ _ _ rfl).1) (by rw [hv14]; exact (cells_at _ _ _ _ _ rfl).1) (by rw [hv14]; exact (cells_at _ _ _ _ _ rfl).1) (cell_at N1.out (((T7.out.trans T13.out)).trans T14.out)) (I7.out.fut ((T13.out).trans T14.out)) (I13.out.fut ((Fut.rfl).trans T14.out)))
            obtain ⟨s14, hs14⟩ : ∃ s, s = v13.heap.size := ⟨_, rfl⟩
            rw [← hv14]
            rw [← hs14] at L14 ⊢
            clear hv14 hs14
            refine hK.out _ _ ?_ (fun hHeld => ?_)
            · exact keep _ G14.out
            clear hK K
            try simp only [Act.put, List.setIfInBounds_toArray, List.set_cons_zero, List.set_cons_succ]
            refine wpAnyH_ready (rs := [15]) (by kernel_rfl) (by simp) ?_
            refine AllReadyH.cons (o := { dst := some 59, op := Op.call { callee := Callee.value (Operand.func 89), args := #[Operand.tmp 58], argTypes := #[71] }, type := 22, pos := "tree.go:37", after := #[{ on := 14, ground := Ground.data }, { on := 13, ground := Ground.chain }], guard := none }) rfl (fun K hK => ?_) AllReadyH.nil
            have HCC := Lib.hid (concat_any (some ⟨s14, 0, none⟩) 3 [[(Kn : Int)], X, Y] v14 L14.out (by simp) HXY.out)
            go_simp
            go_at_call 89
            refine HCC.out.mono ?_
            rintro _ v15 ⟨x15, rfl, hO15, T15⟩
            have G15 : Hid (Fut u0 v15) := Lib.hid (G14.out.trans T15)
            have O15 := Lib.hid (hO15.base (Nat.le_trans HZU.out (RowKit.Below.size G14.out)))
            clear hO15 T15 HCC
            try go_wp2_with fail
            refine hK.out _ _ ?_ (fun hHeld => ?_)
            · exact keep _ G15.out
            clear hK K
            try simp only [Act.put, List.setIfInBounds_toArray, List.set_cons_zero, List.set_cons_succ]
            refine wpAnyH_ready (rs := [16]) (by kernel_rfl) (by simp) ?_
            refine AllReadyH.cons (o := { dst := some 6, op := Op.assign (Operand.tmp 59), type := 22, pos := "tree.go:37", after := #[{ on := 15, ground := Ground.data }, { on := 15, ground := Ground.chain }, { on := 0, ground := Ground.phase }, { on := 1, ground := Ground.phase }, { on := 2, ground := Ground.phase }, { on := 3, ground := Ground.phase }, { on := 4, ground := Ground.phase }, { on := 5, ground := Ground.phase }, { on := 6, ground := Ground.phase }, { on := 7, ground := Ground.phase }, { on := 8, ground := Ground.phase }, { on := 9, ground := Ground.phase }, { on := 10, ground := Ground.phase }, { on := 11, ground := Ground.phase }, { on := 12, ground := Ground.phase }, { on := 13, ground := Ground.phase }, { on := 14, ground := Ground.phase }, { on := 15, ground := Ground.phase }], guard := none }) rfl (fun K hK => ?_) AllReadyH.nil
            go_simp
            refine hK.out _ _ ?_ (fun hHeld => ?_)
            · exact keep _ G15.out
            clear hK K
            try simp only [Act.put, List.setIfInBounds_toArray, List.set_cons_zero, List.set_cons_succ]
            refine wpAnyH_done (by kernel_rfl) ?_ _
            go_wp2_with fail
            go_ret
            exact ⟨_, rfl, by rw [← HGO.out, HRS.out]; exact O15.out, HFU.out.trans G15.out⟩
          · go_simp
            go_at_call 64
            refine (HR7.out u0 (Fut.rfl)).mono ?_
            rintro _ v7 ⟨x7, rfl, hO7, T7⟩
            have G7 : Hid (Fut u0 v7) := Lib.hid ((Fut.rfl).trans T7)
            obtain ⟨l7, c7, rfl, hI7⟩ := hO7.ints
            have I7 := Lib.hid hI7
            replace T7 := Lib.hid T7
            clear hO7 hI7
            try go_wp2_with fail
            refine hK.out _ _ ?_ (fun hHeld => ?_)
            · exact keep _ G7.out
            clear hK K
            try simp only [Act.put, List.setIfInBounds_toArray, List.set_cons_zero, List.set_cons_succ]
            refine wpAnyH_ready (rs := [1, 13]) (by kernel_rfl) (by simp) ?_
            refine AllReadyH.cons (o := { dst := some 45, op := Op.buildSlice 22 1 #[(0, Operand.tmp 44)], type := 22, pos := "tree.go:37", after := #[{ on := 0, ground := Ground.data }], guard := none }) rfl (fun K hK => ?_) (AllReadyH.cons (o := { dst := some 57, op := Op.call { callee := Callee.value (Operand.func 64), args := #[Operand.tmp 52, Operand.tmp 53, Operand.tmp 56], argTypes := #[64, 69, 3] }, type := 22, pos := "tree.go:37", after := #[{ on := 8, ground := Ground.data }, { on := 9, ground := Ground.data }, { on := 12, ground := Ground.data }, { on := 7, ground := Ground.chain }], guard := none }) rfl (fun K hK => ?_) (AllReadyH.nil))
            · go_simp
              obtain ⟨v1, hv1⟩ : ∃ W, W = v7.alloc (.cells #[.int .i64 (Kn : Nat)] 3) := ⟨_, rfl⟩
              have T1 : Hid (Fut v7 v1) := Lib.hid (by rw [hv1]; exact Fut.alloc _ _)
              have G1 : Hid (Fut u0 v1) := Lib.hid ((G7.out).trans T1.out)
              have N1 : Hid (v1.cell? ⟨v7.heap.size, 0, none⟩ = some (.int .i64 (Kn : Nat))) := Lib.hid (by rw [hv1]; exact (cells_at _ _ _ _ _ rfl).1)
              obtain ⟨s1, hs1⟩ : ∃ s, s = v7.heap.size := ⟨_, rfl⟩
              rw [← hv1]
              rw [← hs1] at N1 ⊢
              clear hv1 hs1
              refine hK.out _ _ ?_ (fun hHeld => ?_)
              · exact keep _ G1.out
              clear hK K
              try simp only [Act.put, List.setIfInBounds_toArray, List.set_cons_zero, List.set_cons_succ]
              refine wpAnyH_ready (rs := [13]) (by kernel_rfl) (by simp) ?_
              refine AllReadyH.cons (o := { dst := some 57, op := Op.call { callee := Callee.value (Operand.func 64), args := #[Operand.tmp 52, Operand.tmp 53, Operand.tmp 56], argTypes := #[64, 69, 3] }, type := 22, pos := "tree.go:37", after := #[{ on := 8, ground := Ground.data }, { on := 9, ground := Ground.data }, { on := 12, ground := Ground.data }, { on := 7, ground := Ground.chain }], guard := none }) rfl (fun K hK => ?_) AllReadyH.nil
              go_simp
              go_at_call 64
              refine (HR13.out v1 (G1.out)).mono ?_
              rintro _ v13 ⟨x13, rfl, hO13, T13⟩
              have G13 : Hid (Fut u0 v13) := Lib.hid ((G1.out).trans T13)
              obtain ⟨l13, c13, rfl, hI13⟩ := hO13.ints
              have I13 := Lib.hid hI13
              replace T13 := Lib.hid T13
              clear hO13 hI13
              try go_wp2_with fail
              refine hK.out _ _ ?_ (fun hHeld => ?_)
              · exact keep _ G13.out
              clear hK K
              try simp only [Act.put, List.setIfInBounds_toArray, List.set_cons_zero, List.set_cons_succ]
              refine wpAnyH_ready (rs := [14]) (by kernel_rfl) (by simp) ?_
              refine AllReadyH.cons (o := { dst := some 58, op := Op.buildSlice 71 3 #[(0, Operand.tmp 45), (1, Operand.tmp 51), (2, Operand.tmp 57)], type := 71, pos := "tree.go:37", after := #[{ on := 1, ground := Ground.data }, { on := 7, ground := Ground.data }, { on := 13, ground := Ground.data }], guard := none }) rfl (fun K hK => ?_) AllReadyH.nil
              go_simp
              obtain ⟨v14, hv14⟩ : ∃ W, W = v13.alloc (.cells #[.slice (some ⟨s1, 0, none⟩) 1 1, .slice l7 X.length c7, .slice l13 Y.length c13] 22) := ⟨_, rfl⟩
              have T14 : Hid (Fut v13 v14) := Lib.hid (by rw [hv14]; exact Fut.alloc _ _)
              have G14 : Hid (Fut u0 v14) := Lib.hid ((G13.out).trans T14.out)
              have L14 : Hid (LstAt v14 (some ⟨v13.heap.size, 0, none⟩) [[(Kn : Int)], X, Y]) := Lib.hid (three_lists (s := s1) (by rw [hv14]; exact (cells_at _ _ _ _ _ rfl).1) (by rw [hv14]; exact (cells_at _ _ _ _ _ rfl).1) (by rw [hv14]; exact (cells_at _ _ _ _ _ rfl).1) (cell_at N1.out ((T13.out).trans T14.out)) (I7.out.fut (((T1.out.trans T13.out)).trans T14.out)) (I13.out.fut ((Fut.rfl).trans T14.out)))
              obtain ⟨s14, hs14⟩ : ∃ s, s = v13.heap.size := ⟨_, rfl⟩
              rw [← hv14]
              rw [← hs14] at L14 ⊢
              clear hv14 hs14
              refine hK.out _ _ ?_ (fun hHeld => ?_)
              · exact keep _ G14.out
              clear hK K
              try simp only [Act.put, List.setIfInBounds_toArray, List.set_cons_zero, List.set_cons_succ]
              refine wpAnyH_ready (rs := [15]) (by kernel_rfl) (by simp) ?_
              refine AllReadyH.cons (o := { dst := some 59, op := Op.call { callee := Callee.value (Operand.func 89), args := #[Operand.tmp 58], argTypes := #[71] }, type := 22, pos := "tree.go:37", after := #[{ on := 14, ground := Ground.data }, { on := 13, ground := Ground.chain }], guard := none }) rfl (fun K hK => ?_) AllReadyH.nil
              have HCC := Lib.hid (concat_any (some ⟨s14, 0, none⟩) 3 [[(Kn : Int)], X, Y] v14 L14.out (by simp) HXY.out)
              go_simp
              go_at_call 89
              refine HCC.out.mono ?_
              rintro _ v15 ⟨x15, rfl, hO15, T15⟩
              have G15 : Hid (Fut u0 v15) := Lib.hid (G14.out.trans T15)
              have O15 := Lib.hid (hO15.base (Nat.le_trans HZU.out (RowKit.Below.size G14.out)))
              clear hO15 T15 HCC
              try go_wp2_with fail
              refine hK.out _ _ ?_ (fun hHeld => ?_)
              · exact keep _ G15.out
              clear hK K
              try simp only [Act.put, List.setIfInBounds_toArray, List.set_cons_zero, List.set_cons_succ]
              refine wpAnyH_ready (rs := [16]) (by kernel_rfl) (by simp) ?_
              refine AllReadyH.cons (o := { dst := some 6, op := Op.assign (Operand.tmp 59), type := 22, pos := "tree.go:37", after := #[{ on := 15, ground := Ground.data }, { on := 15, ground := Ground.chain }, { on := 0, ground := Ground.phase }, { on := 1, ground := Ground.phase }, { on := 2, ground := Ground.phase }, { on := 3, ground := Ground.phase }, { on := 4, ground := Ground.phase }, { on := 5, ground := Ground.phase }, { on := 6, ground := Ground.phase }, { on := 7, ground := Ground.phase }, { on := 8, ground := Ground.phase }, { on := 9, ground := Ground.phase }, { on := 10, ground := Ground.phase }, { on := 11, ground := Ground.phase }, { on := 12, ground := Ground.phase }, { on := 13, ground := Ground.phase }, { on := 14, ground := Ground.phase }, { on := 15, ground := Ground.phase }], guard := none }) rfl (fun K hK => ?_) AllReadyH.nil
              go_simp
              refine hK.out _ _ ?_ (fun hHeld => ?_)
              · exact keep _ G15.out
              clear hK K
              try simp only [Act.put, List.setIfInBounds_toArray, List.set_cons_zero, List.set_cons_succ]
              refine wpAnyH_done (by kernel_rfl) ?_ _
              go_wp2_with fail
              go_ret
              exact ⟨_, rfl, by rw [← HGO.out, HRS.out]; exact O15.out, HFU.out.trans G15.out⟩
            · go_simp
              go_at_call 64
              refine (HR13.out v7 (G7.out)).mono ?_
              rintro _ v13 ⟨x13, rfl, hO13, T13⟩
              have G13 : Hid (Fut u0 v13) := Lib.hid ((G7.out).trans T13)
              obtain ⟨l13, c13, rfl, hI13⟩ := hO13.ints
              have I13 := Lib.hid hI13
              replace T13 := Lib.hid T13
              clear hO13 hI13
              try go_wp2_with fail
              refine hK.out _ _ ?_ (fun hHeld => ?_)
              · exact keep _ G13.out
              clear hK K
              try simp only [Act.put, List.setIfInBounds_toArray, List.set_cons_zero, List.set_cons_succ]
              refine wpAnyH_ready (rs := [1]) (by kernel_rfl) (by simp) ?_
              refine AllReadyH.cons (o := { dst := some 45, op := Op.buildSlice 22 1 #[(0, Operand.tmp 44)], type := 22, pos := "tree.go:37", after := #[{ on := 0, ground := Ground.data }], guard := none }) rfl (fun K hK => ?_) AllReadyH.nil
              go_simp
              obtain ⟨v1, hv1⟩ : ∃ W, W = v13.alloc (.cells #[.int .i64 (Kn : Nat)] 3) := ⟨_, rfl⟩
              have T1 : Hid (Fut v13 v1) := Lib.hid (by rw [hv1]; exact Fut.alloc _ _)
              have G1 : Hid (Fut u0 v1) := Lib.hid ((G13.out).trans T1.out)
              have N1 : Hid (v1.cell? ⟨v13.heap.size, 0, none⟩ = some (.int .i64 (Kn : Nat))) := Lib.hid (by rw [hv1]; exact (cells_at _ _ _ _ _ rfl).1)
              obtain ⟨s1, hs1⟩ : ∃ s, s = v13.heap.size := ⟨_, rfl⟩
              rw [← hv1]
              rw [← hs1] at N1 ⊢
              clear hv1 hs1
              refine hK.out _ _ ?_ (fun hHeld => ?_)
              · exact keep _ G1.out
              clear hK K
              try simp only [Act.put, List.setIfInBounds_toArray, List.set_cons_zero, List.set_cons_succ]
              refine wpAnyH_ready (rs := [14]) (by kernel_rfl) (by simp) ?_
              refine AllReadyH.cons (o := { dst := some 58, op := Op.buildSlice 71 3 #[(0, Operand.tmp 45), (1, Operand.tmp 51), (2, Operand.tmp 57)], type := 71, pos := "tree.go:37", after := #[{ on := 1, ground := Ground.data }, { on := 7, ground := Ground.data }, { on := 13, ground := Ground.data }], guard := none }) rfl (fun K hK => ?_) AllReadyH.nil
              go_simp
              obtain ⟨v14, hv14⟩ : ∃ W, W = v1.alloc (.cells #[.slice (some ⟨s1, 0, none⟩) 1 1, .slice l7 X.length c7, .slice l13 Y.length c13] 22) := ⟨_, rfl⟩
              have T14 : Hid (Fut v1 v14) := Lib.hid (by rw [hv14]; exact Fut.alloc _ _)
              have G14 : Hid (Fut u0 v14) := Lib.hid ((G1.out).trans T14.out)
              have L14 : Hid (LstAt v14 (some ⟨v1.heap.size, 0, none⟩) [[(Kn : Int)], X, Y]) := Lib.hid (three_lists (s := s1) (by rw [hv14]; exact (cells_at _ _ _ _ _ rfl).1) (by rw [hv14]; exact (cells_at _ _ _ _ _ rfl).1) (by rw [hv14]; exact (cells_at _ _ _ _ _ rfl).1) (cell_at N1.out ((Fut.rfl).trans T14.out)) (I7.out.fut (((T13.out.trans T1.out)).trans T14.out)) (I13.out.fut ((T1.out).trans T14.out)))
              obtain ⟨s14, hs14⟩ : ∃ s, s = v1.heap.size := ⟨_, rfl⟩
              rw [← hv14]
              rw [← hs14] at L14 ⊢
              clear hv14 hs14
              refine hK.out _ _ ?_ (fun hHeld => ?_)
              · exact keep _ G14.out
              clear hK K
              try simp only [Act.put, List.setIfInBounds_toArray, List.set_cons_zero, List.set_cons_succ]
              refine wpAnyH_ready (rs := [15]) (by kernel_rfl) (by simp) ?_
              refine AllReadyH.cons (o := { dst := some 59, op := Op.call { callee := Callee.value (Operand.func 89), args := #[Operand.tmp 58], argTypes := #[71] }, type := 22, pos := "tree.go:37", after := #[{ on := 14, ground := Ground.data }, { on := 13, ground := Ground.chain }], guard := none }) rfl (fun K hK => ?_) AllReadyH.nil
              have HCC := Lib.hid (concat_any (some ⟨s14, 0, none⟩) 3 [[(Kn : Int)], X, Y] v14 L14.out (by simp) HXY.out)
              go_simp
              go_at_call 89
              refine HCC.out.mono ?_
              rintro _ v15 ⟨x15, rfl, hO15, T15⟩
              have G15 : Hid (Fut u0 v15) := Lib.hid (G14.out.trans T15)
              have O15 := Lib.hid (hO15.base (Nat.le_trans HZU.out (RowKit.Below.size G14.out)))
              clear hO15 T15 HCC
              try go_wp2_with fail
              refine hK.out _ _ ?_ (fun hHeld => ?_)
              · exact keep _ G15.out
              clear hK K
              try simp only [Act.put, List.setIfInBounds_toArray, List.set_cons_zero, List.set_cons_succ]
              refine wpAnyH_ready (rs := [16]) (by kernel_rfl) (by simp) ?_
              refine AllReadyH.cons (o := { dst := some 6, op := Op.assign (Operand.tmp 59), type := 22, pos := "tree.go:37", after := #[{ on := 15, ground := Ground.data }, { on := 15, ground := Ground.chain }, { on := 0, ground := Ground.phase }, { on := 1, ground := Ground.phase }, { on := 2, ground := Ground.phase }, { on := 3, ground := Ground.phase }, { on := 4, ground := Ground.phase }, { on := 5, ground := Ground.phase }, { on := 6, ground := Ground.phase }, { on := 7, ground := Ground.phase }, { on := 8, ground := Ground.phase }, { on := 9, ground := Ground.phase }, { on := 10, ground := Ground.phase }, { on := 11, ground := Ground.phase }, { on := 12, ground := Ground.phase }, { on := 13, ground := Ground.phase }, { on := 14, ground := Ground.phase }, { on := 15, ground := Ground.phase }], guard := none }) rfl (fun K hK => ?_) AllReadyH.nil
              go_simp
              refine hK.out _ _ ?_ (fun hHeld => ?_)
              · exact keep _ G15.out
              clear hK K
              try simp only [Act.put, List.setIfInBounds_toArray, List.set_cons_zero, List.set_cons_succ]
              refine wpAnyH_done (by kernel_rfl) ?_ _
              go_wp2_with fail
              go_ret
              exact ⟨_, rfl, by rw [← HGO.out, HRS.out]; exact O15.out, HFU.out.trans G15.out⟩
        · have HRS : Hid (goI mn ls a b (L.drop (i + 1)) (q' - xm) = goI mn ls a b L q) := Lib.hid (by rw [← HGO.out, HGD.out, if_neg hlt])
          have hws : IntKind.i64.wrap (q' - xm) = q' - xm := IntWalk.i64_in _ ⟨by omega, by omega⟩
          go_wp2_with fail
          go_roundw
          case rel => first
            | exact ⟨i + 1, q' - xm, by omega, rfl, rfl, by omega, by omega, HRS, HF6⟩
            | ((repeat apply Exists.intro); exact ⟨⟨i + 1, q' - xm, by omega, rfl, rfl, by omega, by omega, HRS, HF6⟩, rfl⟩)
          case measure => simp [intOf]; omega
      · obtain rfl : i = L.length := by omega
        have HE : Hid (goI mn ls a b L q = []) := Lib.hid (by rw [← HGO.out, List.drop_length, goI])
        go_wp2_with fail
        go_ret
        exact ⟨_, rfl, by rw [HE.out]; exact World.ownsRow_nil _ _ _ _, HFw.out.trans HF.out⟩
end Go.Proofs.Ytjapconhehdcjaa
