/- add -/
import Derived.Test.YtjapconhehdcjaaSH
import Derived.Deep.DeepCutAuto
import Derived.Deep.AppendLies
namespace Go.Proofs.Ytjapconhehdcjaa
open Go.RowKit Go.Sort
set_option maxRecDepth 100000 in
set_option maxHeartbeats 4000000 in
theorem add_any (a b : Nat) (hab : a ≤ b) (hb : b < 8) (ta : Option Addr) (tc : Nat) (L : List Int) (hL : ∀ l ∈ L, (a : Int) ≤ l ∧ l < b) (hl : L.length ≤ 8) (g B : Nat) (hB : g < B) (F : Nat → Nat → List Int) (mn : Nat → Nat → Int) (hm : ∀ i j, 0 ≤ mn i j ∧ mn i j ≤ 1000000) (w : World) (hO : Owns w B (.slice ta L.length tc) L) (hT : TabL w g 0 B F) (hM : Tab w g 64 mn) :
    Calls Try.prog 94 #[.pointer (some ⟨g, 0, none⟩), spV (a : Nat) (b : Nat), .slice ta L.length tc] w fun e w' => e = .returned (.tuple #[]) ∧ TabL w' g 0 B (upd F a b L) ∧ Tab w' g 64 (upd mn a b (manyE mn a b L)) ∧ But (fun k => k = g) w w' := by
  have HMB := Lib.hid (fun k => hm a k)
  have HMC := Lib.hid (fun k => hm k b)
  have HPB := Lib.hid (partS_bnd hm a b L)
  have HPS := Lib.hid (partS_succ mn a b L)
  obtain ⟨ps, hps⟩ : ∃ ps, ps = partS mn a b L := ⟨_, rfl⟩
  rw [← hps] at HPB HPS
  have HP0 : Hid (ps 0 = 0) := Lib.hid (by rw [hps]; rfl)
  have HME : Hid (manyE mn a b L = (if a = b then 1 else 0) + ps L.length) := Lib.hid (by rw [hps]; unfold manyE partS; rw [List.take_length])
  have HLB := Lib.hid (fun i (hi : i < L.length) => hL (nth L i) (nth_mem hi))
  obtain ⟨a2, c2, e2, hI2⟩ := hO.ints
  obtain ⟨rfl, _, rfl⟩ : ta = a2 ∧ L.length = L.length ∧ tc = c2 := by simpa using e2
  have hlx : (L.length : Int) ≤ 8 := by omega
  obtain ⟨W0, hW0⟩ : ∃ W0, W0 = w.alloc (.cells #[.int .i64 (a : Nat), .int .i64 (b : Nat)] 69) := ⟨_, rfl⟩
  have HF0 : Hid (Fut w W0) := Lib.hid (by rw [hW0]; exact Fut.alloc _ _)
  have HBX : Hid (W0.heap[w.heap.size]? = some (.cells #[.int .i64 (a : Nat), .int .i64 (b : Nat)] 69)) := Lib.hid (by rw [hW0]; exact World.alloc_heap_new w _)
  have HO := Lib.hid (fun W (k : Fut w W) => hO.fut k)
  have HI := Lib.hid (fun W (k : Fut w W) => hI2.fut k)
  have HT := Lib.hid (fun W (k : Fut w W) => hT.fut k)
  have HM := Lib.hid (fun W (k : Fut w W) => hM.fut k)
  have hg : g < w.heap.size := World.block_lt_of_cell? _ _ (hM a b (by omega) hb).1
  have HG := Lib.hid hg
  have HW := Lib.hid hW0
  clear hO hI2 hT hM hL hm hps hW0 e2 hg
  have HIS : Hid (∀ W, Calls Try.prog 97 #[spV (a : Nat) (b : Nat)] W fun e w' => e = .returned (.bool (decide (a = b))) ∧ Fut W w') := Lib.hid (fun W => by
    have h := isOne_any (a : Nat) (b : Nat) W
    have e : (((a : Nat) : Int) == ((b : Nat) : Int)) = decide (a = b) := by
      rw [Bool.eq_iff_iff]; simp; omega
    rw [e] at h
    exact h)
  have hax : (a : Int) ≤ 8 := by omega
  by_cases hone : a = b
  · have HIS2 : Hid (∀ W, Calls Try.prog 97 #[spV (a : Nat) (b : Nat)] W fun e w' => e = .returned (.bool true) ∧ Fut W w') := Lib.hid (fun W => by have h := HIS.out W; rw [decide_eq_true hone] at h; exact h)
    have HMV : Hid (manyE mn a b L = 1 + ps L.length) := Lib.hid (by have h := HME.out; rw [if_pos hone] at h; exact h)
    obtain ⟨pt, hpt⟩ : ∃ pt : Nat → Int, pt = fun i => 1 + ps i := ⟨_, rfl⟩
    have HPQ := Lib.hid (fun i => congrFun hpt i)
    have HMW : Hid (pt L.length = manyE mn a b L) := Lib.hid (by rw [HMV.out, hpt])
    have HP1 : Hid (pt 0 = 1) := Lib.hid (by rw [hpt]; show 1 + ps 0 = 1; rw [HP0.out]; rfl)
    clear HIS HME hone hpt HP0 HMV
    go_enter Try.func94, Try.ntmps94
    go_upto_region 1 with fail
    rw [← HW.out]
    clear HW
    have hc0 := two_cell HBX.out
    obtain ⟨c0, c1, _⟩ := hc0
    go_wp2_with fail
    refine (HIS2.out _).mono ?_
    rintro _ w1 ⟨rfl, F1⟩
    have HFw := Lib.hid (HF0.out.trans F1)
    have HBX1 := Lib.hid (heap_fut HBX.out F1)
    clear HIS2 HBX HF0 F1 c0 c1
    go_wp2_with fail
    go_loopw [6, 16] (fun mv iv wr => ∃ (i : Nat), i ≤ L.length ∧ iv = .int .i64 (i : Nat) ∧ mv = .int .i64 (pt i) ∧ Hid (Fut w1 wr)) (fun _ iv _ => L.length - (intOf iv).toNat)
    case atStart => exact ⟨0, by omega, rfl, by rw [HP1.out], Lib.hid Fut.rfl⟩
    case round =>
      obtain ⟨i, hi, rfl, rfl, HF⟩ := hrel
      by_cases hin : i < L.length
      · have hix : (i : Int) < L.length := by omega
        have hkb := HLB.out i hin
        obtain ⟨K, hK⟩ : ∃ K : Nat, (K : Int) = nth L i := ⟨(nth L i).toNat, by omega⟩
        obtain ⟨K1, hK1⟩ : ∃ K1, K1 = K + 1 := ⟨_, rfl⟩
        have hI := HI.out wr (HFw.out.trans HF.out) i hin
        have hps := HPS.out i hin
        have hb1 := HPB.out (i + 1) (by omega)
        have hb0 := HPB.out i (by omega)
        have hkn : (nth L i).toNat = K := by rw [← hK]; rfl
        have hmu : mulE mn a b (nth L i) = mn a K * mn K1 b := by unfold mulE; rw [hkn, hK1]
        rw [← hK] at hI hkb
        rw [hmu] at hps
        obtain ⟨b2, o2, rfl, hb2, cs⟩ := hI
        have HPT : Hid (∀ W, Calls Try.prog 95 #[spV (a : Nat) (b : Nat), .int .i64 (K : Nat)] W fun e w' => e = .returned (.tuple #[spV (a : Nat) (K : Nat), spV (K1 : Nat) (b : Nat)]) ∧ Fut W w') := Lib.hid (fun W => by
          have := parts_any (a : Nat) (b : Nat) (K : Nat) ⟨by omega, by omega⟩ W
          rw [hK1]
          exact this)
        have HO1 : Hid (∀ W, Fut w W → Calls Try.prog 67 #[.pointer (some ⟨g, 64, none⟩), spV (a : Nat) (K : Nat)] W fun e w' => e = .returned (.int .i64 (mn a K)) ∧ Fut W w') := Lib.hid (fun W k => of_any g 64 a K (by omega) (by omega) _ W (HM.out W k a K (by omega) (by omega)).1)
        have HO2 : Hid (∀ W, Fut w W → Calls Try.prog 67 #[.pointer (some ⟨g, 64, none⟩), spV (K1 : Nat) (b : Nat)] W fun e w' => e = .returned (.int .i64 (mn K1 b)) ∧ Fut W w') := Lib.hid (fun W k => of_any g 64 K1 b (by omega) (by omega) _ W (HM.out W k K1 b (by omega) (by omega)).1)
        have hx1 := HMB.out K
        have hx2 := HMC.out K1
        generalize mn a K = x1 at *
        generalize mn K1 b = x2 at *
        have hxx := mul_bnd hx1 hx2
        obtain ⟨xm, hxm⟩ : ∃ xm, xm = x1 * x2 := ⟨_, rfl⟩
        have hwa : IntKind.i64.wrap (x1 * x2) = xm := by rw [hxm]; exact IntWalk.i64_in _ ⟨by omega, by omega⟩
        rw [← hxm] at hps hxx
        have hq0 := HPQ.out i
        have hq1 := HPQ.out (i + 1)
        have hwb : IntKind.i64.wrap (pt i + xm) = pt (i + 1) := by rw [IntWalk.i64_in _ ⟨by omega, by omega⟩]; omega
        have HBX2 := Lib.hid (heap_fut HBX1.out HF.out)
        have hc0 := two_cell HBX2.out
        obtain ⟨c0, c1, _⟩ := hc0
        have hwi : IntKind.i64.wrap ((i : Int) + 1) = ((i + 1 : Nat) : Int) := by rw [IntWalk.i64_in _ ⟨by omega, by omega⟩]; omega
        clear hq0 hq1 hK hK1 hxm hps hmu hkn hb1 hb0 hkb
        go_wp2_with fail
        refine (HPT.out _).mono ?_
        rintro _ w2 ⟨rfl, F2⟩
        go_upto_region 8 with fail
        have FA : Fut w2 ((w2.alloc (Obj.cells #[.int .i64 (a : Nat), .int .i64 (K : Nat)] 69)).alloc (Obj.cells #[.int .i64 (K1 : Nat), .int .i64 (b : Nat)] 69)) := (Fut.alloc _ _).trans (Fut.alloc _ _)
        have g2 : ((w2.alloc (Obj.cells #[.int .i64 (a : Nat), .int .i64 (K : Nat)] 69)).alloc (Obj.cells #[.int .i64 (K1 : Nat), .int .i64 (b : Nat)] 69)).heap[w2.heap.size]? = some (.cells #[.int .i64 (a : Nat), .int .i64 (K : Nat)] 69) := heap_fut (World.alloc_heap_new w2 _) (Fut.alloc _ _)
        have g3 : ((w2.alloc (Obj.cells #[.int .i64 (a : Nat), .int .i64 (K : Nat)] 69)).alloc (Obj.cells #[.int .i64 (K1 : Nat), .int .i64 (b : Nat)] 69)).heap[w2.heap.size + 1]? = some (.cells #[.int .i64 (K1 : Nat), .int .i64 (b : Nat)] 69) := by
          have := World.alloc_heap_new (w2.alloc (Obj.cells #[.int .i64 (a : Nat), .int .i64 (K : Nat)] 69)) (Obj.cells #[.int .i64 (K1 : Nat), .int .i64 (b : Nat)] 69)
          rw [World.size_alloc] at this
          exact this
        have HF3 := Lib.hid ((HF.out.trans F2).trans FA)
        generalize (w2.alloc (Obj.cells #[.int .i64 (a : Nat), .int .i64 (K : Nat)] 69)).alloc (Obj.cells #[.int .i64 (K1 : Nat), .int .i64 (b : Nat)] 69) = w3 at *
        obtain ⟨p2, p3, _⟩ := two_cell g2
        obtain ⟨p4, p5, _⟩ := two_cell g3
        clear HF HBX2 FA F2 g2 g3 c0 c1 cs
        have y2 := cell_after p2
        have y3 := cell_after p3
        have y4 := cell_after p4
        have y5 := cell_after p5
        have HA2 := Lib.hid (fun p : After w3 => HO1.out p.w' ((HFw.out.trans HF3.out).trans p.F))
        have HB2 := Lib.hid (fun p : After w3 => HO2.out p.w' ((HFw.out.trans HF3.out).trans p.F))
        refine region_fut (by kernel_rfl) (by kernel_rfl) ?_
        repeat (go_big_quiet_step (first | with_reducible rfl | (with_reducible (go_at_call 67; rename_i p; exact after_of (HA2.out p))) | (with_reducible (go_at_call 67; rename_i p; exact after_of (HB2.out p)))))
        refine wpQuiet_nil ?_
        intro w4 hw'
        have F4 := after_fut hw'
        have HF4 := Lib.hid (HF3.out.trans F4)
        clear hw' F4 HF3 y2 y3 y4 y5 p2 p3 p4 p5 HA2 HB2 HO1 HO2 HPT
        go_wp2_with fail
        go_roundw
        case rel => first
          | exact ⟨i + 1, by omega, rfl, rfl, HF4⟩
          | ((repeat apply Exists.intro); exact ⟨⟨i + 1, by omega, rfl, rfl, HF4⟩, rfl⟩)
        case measure => simp [intOf]; omega
      · obtain rfl : i = L.length := by omega
        have HVV := HMW
        generalize pt L.length = V at *
        have HFA := Lib.hid (HFw.out.trans HF.out)
        have HBX2 := Lib.hid (heap_fut HBX1.out HF.out)
        have HTA := Lib.hid (HT.out _ HFA.out)
        have HMA := Lib.hid (HM.out _ HFA.out)
        have HOA := Lib.hid (HO.out _ HFA.out)
        clear HF HBX1 HPS HPB HP1 HMB HMC HLB HMW HPQ HI HT HM HO HFw
        go_upto_region 10 with fail
        have HT2 : Hid (TabL wr.drew g 0 B F) := Lib.hid (HTA.out.fut (below_drewN Fut.rfl 1))
        have HM2 : Hid (Tab wr.drew g 64 mn) := Lib.hid (HMA.out.fut (below_drewN Fut.rfl 1))
        have HO2 : Hid (Owns wr.drew B (.slice ta L.length tc) L) := Lib.hid (HOA.out.fut (below_drewN Fut.rfl 1))
        have HB2 : Hid (wr.drew.heap[w.heap.size]? = _) := Lib.hid (heap_fut HBX2.out (below_drewN Fut.rfl 1))
        have HF2 : Hid (Fut w wr.drew) := Lib.hid (HFA.out.trans (below_drewN Fut.rfl 1))
        clear HTA HMA HOA HBX2 HFA
        refine wp_region_held_drew (S := (fun w' => w'.cell? ⟨w.heap.size, 0, none⟩ = some (.int .i64 (a : Nat)) ∧ w'.cell? ⟨w.heap.size, 1, none⟩ = some (.int .i64 (b : Nat)))) (by kernel_rfl) ?_ (fun hHeld => ?_)
        · exact ⟨(two_cell HB2.out).1, (two_cell HB2.out).2.1⟩
        generalize wr.drew = u0 at *
        refine wpAnyH_take (i := 0) (oi := { dst := some 40, op := Op.move (Operand.tmp 0), type := 64, pos := "tree.go:24", after := #[], guard := none }) (v := ?_) rfl (by kernel_rfl) (by kernel_rfl) (by kernel_rfl) (fun _ _ _ h => h) (Or.inl ⟨by rfl, ?_⟩) (by assumption) ?_
        rotate_left
        · (intro w hSw; obtain ⟨s0, s1⟩ := hSw; go_simp <;> with_reducible rfl)
        try simp only [Act.put, List.setIfInBounds_toArray, List.set_cons_zero, List.set_cons_succ]
        refine wpAnyH_take (i := 1) (oi := { dst := some 41, op := Op.nilCheck (Operand.tmp 40), type := 0, pos := "tree.go:24", after := #[{ on := 0, ground := Ground.data }], guard := none }) (v := ?_) rfl (by kernel_rfl) (by kernel_rfl) (by kernel_rfl) (fun _ _ _ h => h) (Or.inl ⟨by rfl, ?_⟩) (by assumption) ?_
        rotate_left
        · (intro w hSw; obtain ⟨s0, s1⟩ := hSw; go_simp <;> with_reducible rfl)
        try simp only [Act.put, List.setIfInBounds_toArray, List.set_cons_zero, List.set_cons_succ]
        refine wpAnyH_take (i := 2) (oi := { dst := some 42, op := Op.fieldAddr 81 (Operand.tmp 41) 0, type := 0, pos := "tree.go:24", after := #[{ on := 1, ground := Ground.data }], guard := none }) (v := ?_) rfl (by kernel_rfl) (by kernel_rfl) (by kernel_rfl) (fun _ _ _ h => h) (Or.inl ⟨by rfl, ?_⟩) (by assumption) ?_
        rotate_left
        · (intro w hSw; obtain ⟨s0, s1⟩ := hSw; go_simp <;> with_reducible rfl)
        try simp only [Act.put, List.setIfInBounds_toArray, List.set_cons_zero, List.set_cons_succ]
        refine wpAnyH_take (i := 3) (oi := { dst := some 43, op := Op.load 69 (Operand.tmp 4), type := 69, pos := "tree.go:24", after := #[], guard := none }) (v := ?_) rfl (by kernel_rfl) (by kernel_rfl) (by kernel_rfl) (fun _ _ _ h => h) (Or.inl ⟨by rfl, ?_⟩) (by assumption) ?_
        rotate_left
        · (intro w hSw; obtain ⟨s0, s1⟩ := hSw; go_simp <;> with_reducible rfl)
        try simp only [Act.put, List.setIfInBounds_toArray, List.set_cons_zero, List.set_cons_succ]
        refine wpAnyH_take (i := 4) (oi := { dst := some 44, op := Op.move (Operand.tmp 2), type := 22, pos := "tree.go:24", after := #[], guard := none }) (v := ?_) rfl (by kernel_rfl) (by kernel_rfl) (by kernel_rfl) (fun _ _ _ h => h) (Or.inl ⟨by rfl, ?_⟩) (by assumption) ?_
        rotate_left
        · (intro w hSw; obtain ⟨s0, s1⟩ := hSw; go_simp <;> with_reducible rfl)
        try simp only [Act.put, List.setIfInBounds_toArray, List.set_cons_zero, List.set_cons_succ]
        refine wpAnyH_ready (rs := [5]) (by kernel_rfl) (by simp) ?_
        refine AllReadyH.cons (o := { dst := some 45, op := Op.call { callee := Callee.value (Operand.func 117), args := #[Operand.tmp 42, Operand.tmp 43, Operand.tmp 44], argTypes := #[76, 69, 22] }, type := 0, pos := "tree.go:24", after := #[{ on := 2, ground := Ground.data }, { on := 3, ground := Ground.data }, { on := 4, ground := Ground.data }], guard := none }) rfl (fun K hK => ?_) AllReadyH.nil
        obtain ⟨l0, m0, q1, q2, _⟩ := HT2.out a b (by omega) hb
        have HCA := Lib.hid (setL_any g 0 a b (by omega) hb ta l0 L.length tc _ m0 u0 q1 q2)
        clear q1 q2
        go_simp
        go_at_call 117
        refine HCA.out.mono ?_
        rintro _ _ ⟨rfl, u, Fu, rfl⟩
        have HT3 := Lib.hid ((HT2.out.fut Fu).set hB a b (by omega) hb (HO2.out.fut Fu))
        have HM3 := Lib.hid ((HM2.out.fut Fu).far (.slice ta L.length tc) (g2 := g) (p := 0 + a * 8 + b) (.inr (.inl (by omega))))
        have HB3 := Lib.hid (heap_kept (heap_fut HB2.out Fu) (set_grown u g (0 + a * 8 + b) (.slice ta L.length tc)) (fun e => by have := Option.some.inj e; have := HG.out; omega))
        have HF3 : Hid (But (fun k => k = g) w (u.setCell ⟨g, 0 + a * 8 + b, none⟩ (.slice ta L.length tc))) := Lib.hid ((But.of_below (Z := fun k => k = g) (HF2.out.trans Fu)).setCell (p := ⟨g, 0 + a * 8 + b, none⟩) (Or.inl rfl) _)
        clear HCA Fu HT2 HM2 HB2 HF2 HO2
        generalize u.setCell ⟨g, 0 + a * 8 + b, none⟩ (.slice ta L.length tc) = u3 at *
        try go_wp2_with fail
        refine hK.out _ _ ?_ (fun hHeld => ?_)
        · exact ⟨(two_cell HB3.out).1, (two_cell HB3.out).2.1⟩
        clear hK K
        try simp only [Act.put, List.setIfInBounds_toArray, List.set_cons_zero, List.set_cons_succ]
        refine wpAnyH_done (by kernel_rfl) ?_ _
        go_upto_region 11 with fail
        have HT4 : Hid (TabL u3.drew g 0 B (upd F a b L)) := Lib.hid (HT3.out.fut (below_drewN Fut.rfl 1))
        have HM4 : Hid (Tab u3.drew g 64 mn) := Lib.hid (HM3.out.fut (below_drewN Fut.rfl 1))
        have HB4 : Hid (u3.drew.heap[w.heap.size]? = _) := Lib.hid (heap_fut HB3.out (below_drewN Fut.rfl 1))
        have HF4 : Hid (But (fun k => k = g) w u3.drew) := Lib.hid (HF3.out.trans (But.of_below (below_drewN Fut.rfl 1)))
        clear HT3 HM3 HB3 HF3
        refine wp_region_held_drew (S := (fun w' => w'.cell? ⟨w.heap.size, 0, none⟩ = some (.int .i64 (a : Nat)) ∧ w'.cell? ⟨w.heap.size, 1, none⟩ = some (.int .i64 (b : Nat)))) (by kernel_rfl) ?_ (fun hHeld => ?_)
        · exact ⟨(two_cell HB4.out).1, (two_cell HB4.out).2.1⟩
        generalize u3.drew = u4 at *
        refine wpAnyH_take (i := 0) (oi := { dst := some 46, op := Op.move (Operand.tmp 0), type := 64, pos := "tree.go:25", after := #[], guard := none }) (v := ?_) rfl (by kernel_rfl) (by kernel_rfl) (by kernel_rfl) (fun _ _ _ h => h) (Or.inl ⟨by rfl, ?_⟩) (by assumption) ?_
        rotate_left
        · (intro w hSw; obtain ⟨s0, s1⟩ := hSw; go_simp <;> with_reducible rfl)
        try simp only [Act.put, List.setIfInBounds_toArray, List.set_cons_zero, List.set_cons_succ]
        refine wpAnyH_take (i := 1) (oi := { dst := some 47, op := Op.nilCheck (Operand.tmp 46), type := 0, pos := "tree.go:25", after := #[{ on := 0, ground := Ground.data }], guard := none }) (v := ?_) rfl (by kernel_rfl) (by kernel_rfl) (by kernel_rfl) (fun _ _ _ h => h) (Or.inl ⟨by rfl, ?_⟩) (by assumption) ?_
        rotate_left
        · (intro w hSw; obtain ⟨s0, s1⟩ := hSw; go_simp <;> with_reducible rfl)
        try simp only [Act.put, List.setIfInBounds_toArray, List.set_cons_zero, List.set_cons_succ]
        refine wpAnyH_take (i := 2) (oi := { dst := some 48, op := Op.fieldAddr 81 (Operand.tmp 47) 1, type := 0, pos := "tree.go:25", after := #[{ on := 1, ground := Ground.data }], guard := none }) (v := ?_) rfl (by kernel_rfl) (by kernel_rfl) (by kernel_rfl) (fun _ _ _ h => h) (Or.inl ⟨by rfl, ?_⟩) (by assumption) ?_
        rotate_left
        · (intro w hSw; obtain ⟨s0, s1⟩ := hSw; go_simp <;> with_reducible rfl)
        try simp only [Act.put, List.setIfInBounds_toArray, List.set_cons_zero, List.set_cons_succ]
        refine wpAnyH_take (i := 3) (oi := { dst := some 49, op := Op.load 69 (Operand.tmp 4), type := 69, pos := "tree.go:25", after := #[], guard := none }) (v := ?_) rfl (by kernel_rfl) (by kernel_rfl) (by kernel_rfl) (fun _ _ _ h => h) (Or.inl ⟨by rfl, ?_⟩) (by assumption) ?_
        rotate_left
        · (intro w hSw; obtain ⟨s0, s1⟩ := hSw; go_simp <;> with_reducible rfl)
        try simp only [Act.put, List.setIfInBounds_toArray, List.set_cons_zero, List.set_cons_succ]
        refine wpAnyH_take (i := 4) (oi := { dst := some 50, op := Op.move (Operand.tmp 6), type := 3, pos := "tree.go:25", after := #[], guard := none }) (v := ?_) rfl (by kernel_rfl) (by kernel_rfl) (by kernel_rfl) (fun _ _ _ h => h) (Or.inl ⟨by rfl, ?_⟩) (by assumption) ?_
        rotate_left
        · (intro w hSw; obtain ⟨s0, s1⟩ := hSw; go_simp <;> with_reducible rfl)
        try simp only [Act.put, List.setIfInBounds_toArray, List.set_cons_zero, List.set_cons_succ]
        refine wpAnyH_ready (rs := [5]) (by kernel_rfl) (by simp) ?_
        refine AllReadyH.cons (o := { dst := some 51, op := Op.call { callee := Callee.value (Operand.func 93), args := #[Operand.tmp 48, Operand.tmp 49, Operand.tmp 50], argTypes := #[79, 69, 3] }, type := 0, pos := "tree.go:25", after := #[{ on := 2, ground := Ground.data }, { on := 3, ground := Ground.data }, { on := 4, ground := Ground.data }], guard := none }) rfl (fun K hK => ?_) AllReadyH.nil
        obtain ⟨q1, q2⟩ := HM4.out a b (by omega) hb
        have HCA := Lib.hid (set_any g 64 a b (by omega) hb V _ u4 q1 q2)
        clear q1 q2
        go_simp
        go_at_call 93
        refine HCA.out.mono ?_
        rintro _ _ ⟨rfl, u, Fu, rfl⟩
        have HM5 := Lib.hid ((HM4.out.fut Fu).set a b (by omega) hb V)
        have HT5 := Lib.hid ((HT4.out.fut Fu).far hB (.int .i64 V) (g2 := g) (p := 64 + a * 8 + b) (.inr (.inr (by omega))))
        have HB5 := Lib.hid (heap_kept (heap_fut HB4.out Fu) (set_grown u g (64 + a * 8 + b) (.int .i64 V)) (fun e => by have := Option.some.inj e; have := HG.out; omega))
        have HF5 : Hid (But (fun k => k = g) w (u.setCell ⟨g, 64 + a * 8 + b, none⟩ (.int .i64 V))) := Lib.hid ((HF4.out.trans (But.of_below (Z := fun k => k = g) Fu)).setCell (p := ⟨g, 64 + a * 8 + b, none⟩) (Or.inl rfl) _)
        clear HCA Fu HT4 HM4 HB4 HF4
        generalize u.setCell ⟨g, 64 + a * 8 + b, none⟩ (.int .i64 V) = u5 at *
        try go_wp2_with fail
        refine hK.out _ _ ?_ (fun hHeld => ?_)
        · exact ⟨(two_cell HB5.out).1, (two_cell HB5.out).2.1⟩
        clear hK K
        try simp only [Act.put, List.setIfInBounds_toArray, List.set_cons_zero, List.set_cons_succ]
        refine wpAnyH_done (by kernel_rfl) ?_ _
        go_wp2_with fail
        refine bodyPost_end (results_none rfl _ _ _) rfl ?_
        exact ⟨rfl, HT5.out, by rw [← HVV.out]; exact HM5.out, HF5.out⟩
  · have HIS2 : Hid (∀ W, Calls Try.prog 97 #[spV (a : Nat) (b : Nat)] W fun e w' => e = .returned (.bool false) ∧ Fut W w') := Lib.hid (fun W => by have h := HIS.out W; rw [decide_eq_false hone] at h; exact h)
    have HMV : Hid (manyE mn a b L = 0 + ps L.length) := Lib.hid (by have h := HME.out; rw [if_neg hone] at h; exact h)
    obtain ⟨pt, hpt⟩ : ∃ pt : Nat → Int, pt = fun i => 0 + ps i := ⟨_, rfl⟩
    have HPQ := Lib.hid (fun i => congrFun hpt i)
    have HMW : Hid (pt L.length = manyE mn a b L) := Lib.hid (by rw [HMV.out, hpt])
    have HP1 : Hid (pt 0 = 0) := Lib.hid (by rw [hpt]; show 0 + ps 0 = 0; rw [HP0.out]; rfl)
    clear HIS HME hone hpt HP0 HMV
    go_enter Try.func94, Try.ntmps94
    go_upto_region 1 with fail
    rw [← HW.out]
    clear HW
    have hc0 := two_cell HBX.out
    obtain ⟨c0, c1, _⟩ := hc0
    go_wp2_with fail
    refine (HIS2.out _).mono ?_
    rintro _ w1 ⟨rfl, F1⟩
    have HFw := Lib.hid (HF0.out.trans F1)
    have HBX1 := Lib.hid (heap_fut HBX.out F1)
    clear HIS2 HBX HF0 F1 c0 c1
    go_wp2_with fail
    go_loopw [6, 16] (fun mv iv wr => ∃ (i : Nat), i ≤ L.length ∧ iv = .int .i64 (i : Nat) ∧ mv = .int .i64 (pt i) ∧ Hid (Fut w1 wr)) (fun _ iv _ => L.length - (intOf iv).toNat)
    case atStart => exact ⟨0, by omega, rfl, by rw [HP1.out], Lib.hid Fut.rfl⟩
    case round =>
      obtain ⟨i, hi, rfl, rfl, HF⟩ := hrel
      by_cases hin : i < L.length
      · have hix : (i : Int) < L.length := by omega
        have hkb := HLB.out i hin
        obtain ⟨K, hK⟩ : ∃ K : Nat, (K : Int) = nth L i := ⟨(nth L i).toNat, by omega⟩
        obtain ⟨K1, hK1⟩ : ∃ K1, K1 = K + 1 := ⟨_, rfl⟩
        have hI := HI.out wr (HFw.out.trans HF.out) i hin
        have hps := HPS.out i hin
        have hb1 := HPB.out (i + 1) (by omega)
        have hb0 := HPB.out i (by omega)
        have hkn : (nth L i).toNat = K := by rw [← hK]; rfl
        have hmu : mulE mn a b (nth L i) = mn a K * mn K1 b := by unfold mulE; rw [hkn, hK1]
        rw [← hK] at hI hkb
        rw [hmu] at hps
        obtain ⟨b2, o2, rfl, hb2, cs⟩ := hI
        have HPT : Hid (∀ W, Calls Try.prog 95 #[spV (a : Nat) (b : Nat), .int .i64 (K : Nat)] W fun e w' => e = .returned (.tuple #[spV (a : Nat) (K : Nat), spV (K1 : Nat) (b : Nat)]) ∧ Fut W w') := Lib.hid (fun W => by
          have := parts_any (a : Nat) (b : Nat) (K : Nat) ⟨by omega, by omega⟩ W
          rw [hK1]
          exact this)
        have HO1 : Hid (∀ W, Fut w W → Calls Try.prog 67 #[.pointer (some ⟨g, 64, none⟩), spV (a : Nat) (K : Nat)] W fun e w' => e = .returned (.int .i64 (mn a K)) ∧ Fut W w') := Lib.hid (fun W k => of_any g 64 a K (by omega) (by omega) _ W (HM.out W k a K (by omega) (by omega)).1)
        have HO2 : Hid (∀ W, Fut w W → Calls Try.prog 67 #[.pointer (some ⟨g, 64, none⟩), spV (K1 : Nat) (b : Nat)] W fun e w' => e = .returned (.int .i64 (mn K1 b)) ∧ Fut W w') := Lib.hid (fun W k => of_any g 64 K1 b (by omega) (by omega) _ W (HM.out W k K1 b (by omega) (by omega)).1)
        have hx1 := HMB.out K
        have hx2 := HMC.out K1
        generalize mn a K = x1 at *
        generalize mn K1 b = x2 at *
        have hxx := mul_bnd hx1 hx2
        obtain ⟨xm, hxm⟩ : ∃ xm, xm = x1 * x2 := ⟨_, rfl⟩
        have hwa : IntKind.i64.wrap (x1 * x2) = xm := by rw [hxm]; exact IntWalk.i64_in _ ⟨by omega, by omega⟩
        rw [← hxm] at hps hxx
        have hq0 := HPQ.out i
        have hq1 := HPQ.out (i + 1)
        have hwb : IntKind.i64.wrap (pt i + xm) = pt (i + 1) := by rw [IntWalk.i64_in _ ⟨by omega, by omega⟩]; omega
        have HBX2 := Lib.hid (heap_fut HBX1.out HF.out)
        have hc0 := two_cell HBX2.out
        obtain ⟨c0, c1, _⟩ := hc0
        have hwi : IntKind.i64.wrap ((i : Int) + 1) = ((i + 1 : Nat) : Int) := by rw [IntWalk.i64_in _ ⟨by omega, by omega⟩]; omega
        clear hq0 hq1 hK hK1 hxm hps hmu hkn hb1 hb0 hkb
        go_wp2_with fail
        refine (HPT.out _).mono ?_
        rintro _ w2 ⟨rfl, F2⟩
        go_upto_region 8 with fail
        have FA : Fut w2 ((w2.alloc (Obj.cells #[.int .i64 (a : Nat), .int .i64 (K : Nat)] 69)).alloc (Obj.cells #[.int .i64 (K1 : Nat), .int .i64 (b : Nat)] 69)) := (Fut.alloc _ _).trans (Fut.alloc _ _)
        have g2 : ((w2.alloc (Obj.cells #[.int .i64 (a : Nat), .int .i64 (K : Nat)] 69)).alloc (Obj.cells #[.int .i64 (K1 : Nat), .int .i64 (b : Nat)] 69)).heap[w2.heap.size]? = some (.cells #[.int .i64 (a : Nat), .int .i64 (K : Nat)] 69) := heap_fut (World.alloc_heap_new w2 _) (Fut.alloc _ _)
        have g3 : ((w2.alloc (Obj.cells #[.int .i64 (a : Nat), .int .i64 (K : Nat)] 69)).alloc (Obj.cells #[.int .i64 (K1 : Nat), .int .i64 (b : Nat)] 69)).heap[w2.heap.size + 1]? = some (.cells #[.int .i64 (K1 : Nat), .int .i64 (b : Nat)] 69) := by
          have := World.alloc_heap_new (w2.alloc (Obj.cells #[.int .i64 (a : Nat), .int .i64 (K : Nat)] 69)) (Obj.cells #[.int .i64 (K1 : Nat), .int .i64 (b : Nat)] 69)
          rw [World.size_alloc] at this
          exact this
        have HF3 := Lib.hid ((HF.out.trans F2).trans FA)
        generalize (w2.alloc (Obj.cells #[.int .i64 (a : Nat), .int .i64 (K : Nat)] 69)).alloc (Obj.cells #[.int .i64 (K1 : Nat), .int .i64 (b : Nat)] 69) = w3 at *
        obtain ⟨p2, p3, _⟩ := two_cell g2
        obtain ⟨p4, p5, _⟩ := two_cell g3
        clear HF HBX2 FA F2 g2 g3 c0 c1 cs
        have y2 := cell_after p2
        have y3 := cell_after p3
        have y4 := cell_after p4
        have y5 := cell_after p5
        have HA2 := Lib.hid (fun p : After w3 => HO1.out p.w' ((HFw.out.trans HF3.out).trans p.F))
        have HB2 := Lib.hid (fun p : After w3 => HO2.out p.w' ((HFw.out.trans HF3.out).trans p.F))
        refine region_fut (by kernel_rfl) (by kernel_rfl) ?_
        repeat (go_big_quiet_step (first | with_reducible rfl | (with_reducible (go_at_call 67; rename_i p; exact after_of (HA2.out p))) | (with_reducible (go_at_call 67; rename_i p; exact after_of (HB2.out p)))))
        refine wpQuiet_nil ?_
        intro w4 hw'
        have F4 := after_fut hw'
        have HF4 := Lib.hid (HF3.out.trans F4)
        clear hw' F4 HF3 y2 y3 y4 y5 p2 p3 p4 p5 HA2 HB2 HO1 HO2 HPT
        go_wp2_with fail
        go_roundw
        case rel => first
          | exact ⟨i + 1, by omega, rfl, rfl, HF4⟩
          | ((repeat apply Exists.intro); exact ⟨⟨i + 1, by omega, rfl, rfl, HF4⟩, rfl⟩)
        case measure => simp [intOf]; omega
      · obtain rfl : i = L.length := by omega
        have HVV := HMW
        generalize pt L.length = V at *
        have HFA := Lib.hid (HFw.out.trans HF.out)
        have HBX2 := Lib.hid (heap_fut HBX1.out HF.out)
        have HTA := Lib.hid (HT.out _ HFA.out)
        have HMA := Lib.hid (HM.out _ HFA.out)
        have HOA := Lib.hid (HO.out _ HFA.out)
        clear HF HBX1 HPS HPB HP1 HMB HMC HLB HMW HPQ HI HT HM HO HFw
        go_upto_region 10 with fail
        have HT2 : Hid (TabL wr.drew g 0 B F) := Lib.hid (HTA.out.fut (below_drewN Fut.rfl 1))
        have HM2 : Hid (Tab wr.drew g 64 mn) := Lib.hid (HMA.out.fut (below_drewN Fut.rfl 1))
        have HO2 : Hid (Owns wr.drew B (.slice ta L.length tc) L) := Lib.hid (HOA.out.fut (below_drewN Fut.rfl 1))
        have HB2 : Hid (wr.drew.heap[w.heap.size]? = _) := Lib.hid (heap_fut HBX2.out (below_drewN Fut.rfl 1))
        have HF2 : Hid (Fut w wr.drew) := Lib.hid (HFA.out.trans (below_drewN Fut.rfl 1))
        clear HTA HMA HOA HBX2 HFA
        refine wp_region_held_drew (S := (fun w' => w'.cell? ⟨w.heap.size, 0, none⟩ = some (.int .i64 (a : Nat)) ∧ w'.cell? ⟨w.heap.size, 1, none⟩ = some (.int .i64 (b : Nat)))) (by kernel_rfl) ?_ (fun hHeld => ?_)
        · exact ⟨(two_cell HB2.out).1, (two_cell HB2.out).2.1⟩
        generalize wr.drew = u0 at *
        refine wpAnyH_take (i := 0) (oi := { dst := some 40, op := Op.move (Operand.tmp 0), type := 64, pos := "tree.go:24", after := #[], guard := none }) (v := ?_) rfl (by kernel_rfl) (by kernel_rfl) (by kernel_rfl) (fun _ _ _ h => h) (Or.inl ⟨by rfl, ?_⟩) (by assumption) ?_
        rotate_left
        · (intro w hSw; obtain ⟨s0, s1⟩ := hSw; go_simp <;> with_reducible rfl)
        try simp only [Act.put, List.setIfInBounds_toArray, List.set_cons_zero, List.set_cons_succ]
        refine wpAnyH_take (i := 1) (oi := { dst := some 41, op := Op.nilCheck (Operand.tmp 40), type := 0, pos := "tree.go:24", after := #[{ on := 0, ground := Ground.data }], guard := none }) (v := ?_) rfl (by kernel_rfl) (by kernel_rfl) (by kernel_rfl) (fun _ _ _ h => h) (Or.inl ⟨by rfl, ?_⟩) (by assumption) ?_
        rotate_left
        · (intro w hSw; obtain ⟨s0, s1⟩ := hSw; go_simp <;> with_reducible rfl)
        try simp only [Act.put, List.setIfInBounds_toArray, List.set_cons_zero, List.set_cons_succ]
        refine wpAnyH_take (i := 2) (oi := { dst := some 42, op := Op.fieldAddr 81 (Operand.tmp 41) 0, type := 0, pos := "tree.go:24", after := #[{ on := 1, ground := Ground.data }], guard := none }) (v := ?_) rfl (by kernel_rfl) (by kernel_rfl) (by kernel_rfl) (fun _ _ _ h => h) (Or.inl ⟨by rfl, ?_⟩) (by assumption) ?_
        rotate_left
        · (intro w hSw; obtain ⟨s0, s1⟩ := hSw; go_simp <;> with_reducible rfl)
        try simp only [Act.put, List.setIfInBounds_toArray, List.set_cons_zero, List.set_cons_succ]
        refine wpAnyH_take (i := 3) (oi := { dst := some 43, op := Op.load 69 (Operand.tmp 4), type := 69, pos := "tree.go:24", after := #[], guard := none }) (v := ?_) rfl (by kernel_rfl) (by kernel_rfl) (by kernel_rfl) (fun _ _ _ h => h) (Or.inl ⟨by rfl, ?_⟩) (by assumption) ?_
        rotate_left
        · (intro w hSw; obtain ⟨s0, s1⟩ := hSw; go_simp <;> with_reducible rfl)
        try simp only [Act.put, List.setIfInBounds_toArray, List.set_cons_zero, List.set_cons_succ]
        refine wpAnyH_take (i := 4) (oi := { dst := some 44, op := Op.move (Operand.tmp 2), type := 22, pos := "tree.go:24", after := #[], guard := none }) (v := ?_) rfl (by kernel_rfl) (by kernel_rfl) (by kernel_rfl) (fun _ _ _ h => h) (Or.inl ⟨by rfl, ?_⟩) (by assumption) ?_
        rotate_left
        · (intro w hSw; obtain ⟨s0, s1⟩ := hSw; go_simp <;> with_reducible rfl)
        try simp only [Act.put, List.setIfInBounds_toArray, List.set_cons_zero, List.set_cons_succ]
        refine wpAnyH_ready (rs := [5]) (by kernel_rfl) (by simp) ?_
        refine AllReadyH.cons (o := { dst := some 45, op := Op.call { callee := Callee.value (Operand.func 117), args := #[Operand.tmp 42, Operand.tmp 43, Operand.tmp 44], argTypes := #[76, 69, 22] }, type := 0, pos := "tree.go:24", after := #[{ on := 2, ground := Ground.data }, { on := 3, ground := Ground.data }, { on := 4, ground := Ground.data }], guard := none }) rfl (fun K hK => ?_) AllReadyH.nil
        obtain ⟨l0, m0, q1, q2, _⟩ := HT2.out a b (by omega) hb
        have HCA := Lib.hid (setL_any g 0 a b (by omega) hb ta l0 L.length tc _ m0 u0 q1 q2)
        clear q1 q2
        go_simp
        go_at_call 117
        refine HCA.out.mono ?_
        rintro _ _ ⟨rfl, u, Fu, rfl⟩
        have HT3 := Lib.hid ((HT2.out.fut Fu).set hB a b (by omega) hb (HO2.out.fut Fu))
        have HM3 := Lib.hid ((HM2.out.fut Fu).far (.slice ta L.length tc) (g2 := g) (p := 0 + a * 8 + b) (.inr (.inl (by omega))))
        have HB3 := Lib.hid (heap_kept (heap_fut HB2.out Fu) (set_grown u g (0 + a * 8 + b) (.slice ta L.length tc)) (fun e => by have := Option.some.inj e; have := HG.out; omega))
        have HF3 : Hid (But (fun k => k = g) w (u.setCell ⟨g, 0 + a * 8 + b, none⟩ (.slice ta L.length tc))) := Lib.hid ((But.of_below (Z := fun k => k = g) (HF2.out.trans Fu)).setCell (p := ⟨g, 0 + a * 8 + b, none⟩) (Or.inl rfl) _)
        clear HCA Fu HT2 HM2 HB2 HF2 HO2
        generalize u.setCell ⟨g, 0 + a * 8 + b, none⟩ (.slice ta L.length tc) = u3 at *
        try go_wp2_with fail
        refine hK.out _ _ ?_ (fun hHeld => ?_)
        · exact ⟨(two_cell HB3.out).1, (two_cell HB3.out).2.1⟩
        clear hK K
        try simp only [Act.put, List.setIfInBounds_toArray, List.set_cons_zero, List.set_cons_succ]
        refine wpAnyH_done (by kernel_rfl) ?_ _
        go_upto_region 11 with fail
        have HT4 : Hid (TabL u3.drew g 0 B (upd F a b L)) := Lib.hid (HT3.out.fut (below_drewN Fut.rfl 1))
        have HM4 : Hid (Tab u3.drew g 64 mn) := Lib.hid (HM3.out.fut (below_drewN Fut.rfl 1))
        have HB4 : Hid (u3.drew.heap[w.heap.size]? = _) := Lib.hid (heap_fut HB3.out (below_drewN Fut.rfl 1))
        have HF4 : Hid (But (fun k => k = g) w u3.drew) := Lib.hid (HF3.out.trans (But.of_below (below_drewN Fut.rfl 1)))
        clear HT3 HM3 HB3 HF3
        refine wp_region_held_drew (S := (fun w' => w'.cell? ⟨w.heap.size, 0, none⟩ = some (.int .i64 (a : Nat)) ∧ w'.cell? ⟨w.heap.size, 1, none⟩ = some (.int .i64 (b : Nat)))) (by kernel_rfl) ?_ (fun hHeld => ?_)
        · exact ⟨(two_cell HB4.out).1, (two_cell HB4.out).2.1⟩
        generalize u3.drew = u4 at *
        refine wpAnyH_take (i := 0) (oi := { dst := some 46, op := Op.move (Operand.tmp 0), type := 64, pos := "tree.go:25", after := #[], guard := none }) (v := ?_) rfl (by kernel_rfl) (by kernel_rfl) (by kernel_rfl) (fun _ _ _ h => h) (Or.inl ⟨by rfl, ?_⟩) (by assumption) ?_
        rotate_left
        · (intro w hSw; obtain ⟨s0, s1⟩ := hSw; go_simp <;> with_reducible rfl)
        try simp only [Act.put, List.setIfInBounds_toArray, List.set_cons_zero, List.set_cons_succ]
        refine wpAnyH_take (i := 1) (oi := { dst := some 47, op := Op.nilCheck (Operand.tmp 46), type := 0, pos := "tree.go:25", after := #[{ on := 0, ground := Ground.data }], guard := none }) (v := ?_) rfl (by kernel_rfl) (by kernel_rfl) (by kernel_rfl) (fun _ _ _ h => h) (Or.inl ⟨by rfl, ?_⟩) (by assumption) ?_
        rotate_left
        · (intro w hSw; obtain ⟨s0, s1⟩ := hSw; go_simp <;> with_reducible rfl)
        try simp only [Act.put, List.setIfInBounds_toArray, List.set_cons_zero, List.set_cons_succ]
        refine wpAnyH_take (i := 2) (oi := { dst := some 48, op := Op.fieldAddr 81 (Operand.tmp 47) 1, type := 0, pos := "tree.go:25", after := #[{ on := 1, ground := Ground.data }], guard := none }) (v := ?_) rfl (by kernel_rfl) (by kernel_rfl) (by kernel_rfl) (fun _ _ _ h => h) (Or.inl ⟨by rfl, ?_⟩) (by assumption) ?_
        rotate_left
        · (intro w hSw; obtain ⟨s0, s1⟩ := hSw; go_simp <;> with_reducible rfl)
        try simp only [Act.put, List.setIfInBounds_toArray, List.set_cons_zero, List.set_cons_succ]
        refine wpAnyH_take (i := 3) (oi := { dst := some 49, op := Op.load 69 (Operand.tmp 4), type := 69, pos := "tree.go:25", after := #[], guard := none }) (v := ?_) rfl (by kernel_rfl) (by kernel_rfl) (by kernel_rfl) (fun _ _ _ h => h) (Or.inl ⟨by rfl, ?_⟩) (by assumption) ?_
        rotate_left
        · (intro w hSw; obtain ⟨s0, s1⟩ := hSw; go_simp <;> with_reducible rfl)
        try simp only [Act.put, List.setIfInBounds_toArray, List.set_cons_zero, List.set_cons_succ]
        refine wpAnyH_take (i := 4) (oi := { dst := some 50, op := Op.move (Operand.tmp 6), type := 3, pos := "tree.go:25", after := #[], guard := none }) (v := ?_) rfl (by kernel_rfl) (by kernel_rfl) (by kernel_rfl) (fun _ _ _ h => h) (Or.inl ⟨by rfl, ?_⟩) (by assumption) ?_
        rotate_left
        · (intro w hSw; obtain ⟨s0, s1⟩ := hSw; go_simp <;> with_reducible rfl)
        try simp only [Act.put, List.setIfInBounds_toArray, List.set_cons_zero, List.set_cons_succ]
        refine wpAnyH_ready (rs := [5]) (by kernel_rfl) (by simp) ?_
        refine AllReadyH.cons (o := { dst := some 51, op := Op.call { callee := Callee.value (Operand.func 93), args := #[Operand.tmp 48, Operand.tmp 49, Operand.tmp 50], argTypes := #[79, 69, 3] }, type := 0, pos := "tree.go:25", after := #[{ on := 2, ground := Ground.data }, { on := 3, ground := Ground.data }, { on := 4, ground := Ground.data }], guard := none }) rfl (fun K hK => ?_) AllReadyH.nil
        obtain ⟨q1, q2⟩ := HM4.out a b (by omega) hb
        have HCA := Lib.hid (set_any g 64 a b (by omega) hb V _ u4 q1 q2)
        clear q1 q2
        go_simp
        go_at_call 93
        refine HCA.out.mono ?_
        rintro _ _ ⟨rfl, u, Fu, rfl⟩
        have HM5 := Lib.hid ((HM4.out.fut Fu).set a b (by omega) hb V)
        have HT5 := Lib.hid ((HT4.out.fut Fu).far hB (.int .i64 V) (g2 := g) (p := 64 + a * 8 + b) (.inr (.inr (by omega))))
        have HB5 := Lib.hid (heap_kept (heap_fut HB4.out Fu) (set_grown u g (64 + a * 8 + b) (.int .i64 V)) (fun e => by have := Option.some.inj e; have := HG.out; omega))
        have HF5 : Hid (But (fun k => k = g) w (u.setCell ⟨g, 64 + a * 8 + b, none⟩ (.int .i64 V))) := Lib.hid ((HF4.out.trans (But.of_below (Z := fun k => k = g) Fu)).setCell (p := ⟨g, 64 + a * 8 + b, none⟩) (Or.inl rfl) _)
        clear HCA Fu HT4 HM4 HB4 HF4
        generalize u.setCell ⟨g, 64 + a * 8 + b, none⟩ (.int .i64 V) = u5 at *
        try go_wp2_with fail
        refine hK.out _ _ ?_ (fun hHeld => ?_)
        · exact ⟨(two_cell HB5.out).1, (two_cell HB5.out).2.1⟩
        clear hK K
        try simp only [Act.put, List.setIfInBounds_toArray, List.set_cons_zero, List.set_cons_succ]
        refine wpAnyH_done (by kernel_rfl) ?_ _
        go_wp2_with fail
        refine bodyPost_end (results_none rfl _ _ _) rfl ?_
        exact ⟨rfl, HT5.out, by rw [← HVV.out]; exact HM5.out, HF5.out⟩
end Go.Proofs.Ytjapconhehdcjaa
