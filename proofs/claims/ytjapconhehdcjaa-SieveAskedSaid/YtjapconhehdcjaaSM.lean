/- best -/
import Derived.Test.YtjapconhehdcjaaSL
import Derived.Deep.DeepCutAuto
import Derived.Deep.AppendLies
namespace Go.Proofs.Ytjapconhehdcjaa
open Go.RowKit Go.Sort
set_option maxRecDepth 100000 in
set_option maxHeartbeats 4000000 in
theorem best_any (lb lo cap : Nat) (zs : List Int) (hn1 : 1 ≤ zs.length) (hn : zs.length ≤ 8) (hlc : zs.length ≤ cap) (hz : ∀ z ∈ zs, 0 ≤ z ∧ z ≤ 1000000) (w : World) (hA : IntsAt w (some ⟨lb, lo, none⟩) zs) :
    Calls Try.prog 63 #[.slice (some ⟨lb, lo, none⟩) zs.length cap] w fun e w' => ∃ F mn f, e = .returned (.tuple #[.int .i64 (f 0 (zs.length - 1)), .pointer (some ⟨w.heap.size + 1, 0, none⟩)]) ∧ Fut w w' ∧ TabL w' (w.heap.size + 1) 0 (w.heap.size + 2) F ∧ Tab w' (w.heap.size + 1) 64 mn ∧ Bd mn ∧ Bf f ∧ DoneB zs F mn f (spansL zs.length) := by
  obtain ⟨g, hg⟩ : ∃ g, g = w.heap.size := ⟨_, rfl⟩
  obtain ⟨Wa, hWa⟩ : ∃ Wa, Wa = w.alloc (.cells zero79A 79) := ⟨_, rfl⟩
  have hza : Wa.heap.size = g + 1 := by rw [hWa, World.size_alloc, hg]
  obtain ⟨W0, hW0⟩ : ∃ W0, W0 = Wa.alloc (.cells Try.zeroCells81 81) := ⟨_, rfl⟩
  have FA1 : Fut w Wa := by rw [hWa]; exact Fut.alloc _ _
  have FA2 : Fut Wa W0 := by rw [hW0]; exact Fut.alloc _ _
  have HF0 : Hid (Fut w W0) := Lib.hid (FA1.trans FA2)
  have HT0 : Hid (TabL W0 (g + 1) 0 (g + 2) (fun _ _ => [])) := Lib.hid (by rw [hW0, ← hza]; exact tabL_new Wa _)
  have HM0 : Hid (Tab W0 (g + 1) 64 (fun _ _ => 0)) := Lib.hid (by rw [hW0, ← hza]; exact tab_new Wa)
  have HL0 : Hid (Tab W0 g 0 (fun _ _ => 0)) := Lib.hid (Tab.fut (by rw [hWa, hg]; exact tab_new79 w) FA2)
  have HZ0 : Hid (W0.heap.size = g + 2) := Lib.hid (by rw [hW0, World.size_alloc, hza])
  obtain ⟨n, hnn⟩ : ∃ n, zs.length = n := ⟨_, rfl⟩
  have HSP := Lib.hid (spansOf_any n (by omega) W0)
  have HFC := Lib.hid (fun i hi => sp_facts (n := n) (i := i) (by omega) hi)
  have HIN := Lib.hid (fun W (k : Fut w W) => hA.fut k)
  have HZZ := Lib.hid hz
  have HNN := Lib.hid hnn
  have HG := Lib.hid hg
  have HW : Hid (W0 = (w.alloc (.cells zero79A 79)).alloc (.cells Try.zeroCells81 81)) := Lib.hid (by rw [hW0, hWa])
  have HGL : Hid (lb < g) := Lib.hid (by
    obtain ⟨b, o, e, h, _⟩ := hA 0 (by omega)
    simp at e
    omega)
  have hn8 : n ≤ 8 := by omega
  have hn81 : 1 ≤ n := by omega
  have hnc : n ≤ cap := by omega
  clear hW0 hg hA hz hWa hza FA1 FA2
  go_enter Try.func63, Try.ntmps63
  go_upto_region 3 with fail
  rw [lit79, ← HW.out, ← HG.out]
  clear HW
  rw [hnn]
  clear hn1 hn hlc hnn
  go_wp2_with fail
  refine HSP.out.mono ?_
  rintro _ w1 ⟨v1, rfl, HO1, HF1⟩
  have HOS := Lib.hid HO1
  have HT1 := Lib.hid (HT0.out.fut HF1)
  have HM1 := Lib.hid (HM0.out.fut HF1)
  have HL1 := Lib.hid (HL0.out.fut HF1)
  have HFw := Lib.hid (HF0.out.trans HF1)
  have HZ1 : Hid (g + 2 ≤ w1.heap.size) := Lib.hid (by have := RowKit.Below.size HF1; have := HZ0.out; omega)
  have hlen : (spansL n).length ≤ 100 := by have := spK_len n hn8 n 0; unfold spansL; omega
  obtain ⟨sa, sc, rfl⟩ := row_form HO1
  obtain ⟨ln, hln⟩ : ∃ ln, (spansL n).length = ln := ⟨_, rfl⟩
  have HLN := Lib.hid hln
  rw [hln] at hlen ⊢
  have hlx : (ln : Int) ≤ 100 := by omega
  clear HT0 HM0 HL0 HF0 HSP HO1 HF1 hln
  go_wp2_with fail
  go_loopw [16] (fun iv wr => ∃ (i : Nat), i ≤ ln ∧ iv = .int .i64 (i : Nat) ∧ Hid (But (fun k => k = g ∨ k = g + 1) w1 wr) ∧ Hid (∃ F mn f, TabL wr (g + 1) 0 (g + 2) F ∧ Tab wr (g + 1) 64 mn ∧ Tab wr g 0 f ∧ Bd mn ∧ Bf f ∧ DoneB zs F mn f ((spansL n).take i))) (fun iv _ => ln - (intOf iv).toNat)
  case atStart => exact ⟨0, by omega, rfl, Lib.hid (But.refl _ _), Lib.hid ⟨_, _, _, HT1.out, HM1.out, HL1.out, Bd.zero, fun i j => ⟨Int.le_refl _, by show (0 : Int) ≤ _; omega⟩, fun q hq => absurd hq (by simp)⟩⟩
  case round =>
    obtain ⟨i, hi, rfl, HB, HJ⟩ := hrel
    by_cases hin : i < ln
    · have hix : (i : Int) < ln := by omega
      have hcc := spans_cell (row_but HOS.out HB.out (B := W0.heap.size) (fun k hk => by have := HZ0.out; omega)) (i := i) (by rw [HLN.out]; exact hin)
      obtain ⟨f1, f2, f3, _⟩ := HFC.out i (by rw [HLN.out]; exact hin)
      have HPP : Hid (∀ q ∈ (spansL n).take i, q.1 ≤ q.2 ∧ wid q ≤ wid (nthS (spansL n) i) ∧ q ≠ nthS (spansL n) i) := Lib.hid (fun q hq => by
        obtain ⟨j, hj, rfl⟩ := List.getElem_of_mem hq
        have hj2 : j < (spansL n).length := by rw [List.length_take] at hj; omega
        have hh := HFC.out j hj2
        have e : ((spansL n).take i)[j] = nthS (spansL n) j := by unfold nthS; rw [List.getElem_take, List.getElem?_eq_getElem hj2]; rfl
        rw [e] at hq ⊢
        exact ⟨hh.1, f3 _ hq⟩)
      have HTK : Hid ((spansL n).take (i + 1) = (spansL n).take i ++ [nthS (spansL n) i]) := Lib.hid (take_nthS _ _ (by rw [HLN.out]; exact hin))
      generalize hpp : nthS (spansL n) i = p at *
      obtain ⟨a, b⟩ := p
      simp only at f1 f2 hcc
      obtain ⟨rb, rc, erv, hrb, q0, q1⟩ := hcc
      obtain ⟨rfl, rfl⟩ : sa = some ⟨rb, 0, none⟩ ∧ sc = rc := by
        simp only [Value.slice.injEq] at erv
        exact ⟨erv.1, erv.2.2⟩
      have hb8 : b < 8 := by omega
      have hwi : IntKind.i64.wrap ((i : Int) + 1) = ((i + 1 : Nat) : Int) := by rw [IntWalk.i64_in _ ⟨by omega, by omega⟩]; omega
      clear erv f3 hpp
      rw [Nat.zero_add] at q0 q1
      go_upto_region 6 with fail
      obtain ⟨F, mn, f, hT, hM, hLt, hBd, hBf, hD⟩ := HJ.out
      obtain ⟨H, hH⟩ : ∃ H, H = wr.heap.size := ⟨_, rfl⟩
      rw [← hH]
      obtain ⟨u0, hu0⟩ : ∃ u0, u0 = wr.alloc (Obj.cells #[Value.int IntKind.i64 (a : Nat), Value.int IntKind.i64 (b : Nat)] 69) := ⟨_, rfl⟩
      rw [← hu0]
      have FA : Fut wr u0 := by rw [hu0]; exact Fut.alloc _ _
      have HBX3 : Hid (u0.heap[H]? = some (.cells #[.int .i64 (a : Nat), .int .i64 (b : Nat)] 69)) := Lib.hid (by rw [hH, hu0]; exact World.alloc_heap_new wr _)
      have HT3 := Lib.hid (hT.fut FA)
      have HM3 := Lib.hid (hM.fut FA)
      have HL3 := Lib.hid (hLt.fut FA)
      have HB3 : Hid (But (fun k => k = g ∨ k = g + 1) w1 u0) := Lib.hid (HB.out.trans (But.of_below FA))
      have HZ3 : Hid (g + 2 ≤ u0.heap.size ∧ g + 2 ≤ H) := Lib.hid (by have h1 := HB.out.size; have h2 := RowKit.Below.size FA; have h3 := HZ1.out; exact ⟨by omega, by omega⟩)
      have HBD := Lib.hid hBd
      have HBF := Lib.hid hBf
      have HD := Lib.hid hD
      have hIu : IntsAt u0 (some ⟨lb, lo, none⟩) zs := fun j hj => by
        obtain ⟨b', o', e, h1, h2⟩ := HIN.out w1 HFw.out j hj
        simp only [Option.some.injEq, Addr.mk.injEq, and_true] at e
        obtain ⟨rfl, rfl⟩ := e
        have hlt := HGL.out
        refine ⟨lb, lo, rfl, Nat.lt_of_lt_of_le h1 HB3.out.size, ?_⟩
        exact (HB3.out.cell (p := ⟨lb, lo + j, none⟩) h1 (by simp; omega)).trans h2
      have HCB := Lib.hid (bestTops_any a b f1 hb8 lb lo cap zs (by rw [HNN.out]; omega) (by rw [HNN.out]; exact hnc) (by rw [HNN.out]; omega) HZZ.out g f (HBF.out.le) u0 hIu HL3.out)
      obtain ⟨c0, c1, _⟩ := two_cell HBX3.out
      rw [HNN.out] at HCB
      clear hT hM hLt hBd hBf hD HJ hH FA q0 q1 HB hu0 hIu
      go_wp2_with fail
      refine HCB.out.mono ?_
      rintro _ u1 ⟨v, rfl, hOv, Fu⟩
      obtain ⟨bt, hbt⟩ : ∃ bt, bt = bT zs f (a, b) := ⟨_, rfl⟩
      have ebt : bst (qG ((zs.take (b + 1)).drop a).sum f a b) a (b - a) = bt := by rw [hbt]; rfl
      rw [ebt] at hOv ⊢
      obtain ⟨q, tops⟩ := bt
      simp only at hOv ⊢
      have HBT := Lib.hid hbt.symm
      have HBX4 := Lib.hid (heap_fut HBX3.out Fu)
      have HB4 : Hid (But (fun k => k = g ∨ k = g + 1) w1 u1) := Lib.hid (HB3.out.trans (But.of_below Fu))
      have HT4 := Lib.hid (HT3.out.fut Fu)
      have HM4 := Lib.hid (HM3.out.fut Fu)
      have HL4 := Lib.hid (HL3.out.fut Fu)
      obtain ⟨ta, tc, rfl, _⟩ := hOv.ints
      have HOv := Lib.hid (hOv.base HZ3.out.1)
      clear hbt ebt hOv Fu HBX3 HB3 HT3 HM3 HL3 c0 c1 HCB
      obtain ⟨c0, c1, _⟩ := two_cell HBX4.out
      obtain ⟨q0, q1⟩ := HL4.out a b (by omega) hb8
      have HCA := Lib.hid (set_any g 0 a b (by omega) hb8 q _ u1 q0 q1)
      clear q0 q1
      go_wp2_with fail
      refine HCA.out.mono ?_
      rintro _ _ ⟨rfl, u, Fu, rfl⟩
      have HL5 := Lib.hid ((HL4.out.fut Fu).set a b (by omega) hb8 q)
      have HT5 := Lib.hid ((HT4.out.fut Fu).far (by omega) (.int .i64 q) (g2 := g) (p := 0 + a * 8 + b) (.inl (by omega)))
      have HM5 := Lib.hid ((HM4.out.fut Fu).far (.int .i64 q) (g2 := g) (p := 0 + a * 8 + b) (.inl (by omega)))
      have HBX5 := Lib.hid (heap_kept (heap_fut HBX4.out Fu) (set_grown u g (0 + a * 8 + b) (.int .i64 q)) (fun e => by have := Option.some.inj e; have := HZ3.out.2; omega))
      have HB5 : Hid (But (fun k => k = g ∨ k = g + 1) w1 (u.setCell ⟨g, 0 + a * 8 + b, none⟩ (.int .i64 q))) := Lib.hid ((HB4.out.trans (But.of_below Fu)).setCell (p := ⟨g, 0 + a * 8 + b, none⟩) (Or.inl (Or.inl rfl)) _)
      have HOv5 := Lib.hid ((HOv.out.fut Fu).kept (set_grown u g (0 + a * 8 + b) (.int .i64 q)) (own_ge (HOv.out.fut Fu) (by omega)))
      clear HCA Fu HT4 HM4 HL4 HBX4 HB4 HOv c0 c1
      generalize u.setCell ⟨g, 0 + a * 8 + b, none⟩ (.int .i64 q) = u2 at *
      obtain ⟨c0, c1, _⟩ := two_cell HBX5.out
      have hin2 : ∀ l ∈ tops, (a : Int) ≤ l ∧ l < b := fun l hl => bT_in zs f (a, b) f1 l (by rw [HBT.out]; exact hl)
      have hln2 : tops.length ≤ b - a := by have h := bT_len zs f (a, b); rw [HBT.out] at h; exact h
      have HCD := Lib.hid (add_any a b f1 hb8 ta tc tops hin2 (by omega) (g + 1) (g + 2) (by omega) F mn (HBD.out.le) u2 HOv5.out HT5.out HM5.out)
      have HIN2 := Lib.hid (And.intro hin2 hln2)
      clear hin2 hln2
      go_wp2_with fail
      refine HCD.out.mono ?_
      rintro _ u3 ⟨rfl, hT, hM, hB⟩
      have HB6 : Hid (But (fun k => k = g ∨ k = g + 1) w1 u3) := Lib.hid (HB5.out.trans (hB.mono (fun k _ hk => .inr hk)))
      have HL6 : Hid (Tab u3 g 0 (upd f a b q)) := Lib.hid (fun i j hi hj => by
        obtain ⟨h1, h2⟩ := HL5.out i j hi hj
        have hl : g < u2.heap.size := World.block_lt_of_cell? _ _ h1
        have e := hB.block g hl (by omega)
        exact ⟨(World.cell?_of_block (a := ⟨g, 0 + i * 8 + j, none⟩) e).trans h1, (World.frozen?_of_block (a := ⟨g, 0 + i * 8 + j, none⟩) e).trans h2⟩)
      have HJ6 : Hid (∃ F mn f, TabL u3 (g + 1) 0 (g + 2) F ∧ Tab u3 (g + 1) 64 mn ∧ Tab u3 g 0 f ∧ Bd mn ∧ Bf f ∧ DoneB zs F mn f ((spansL n).take (i + 1))) := Lib.hid (by
        rw [HTK.out]
        have hst := HD.out.step (p := (a, b)) f1 HPP.out
        rw [HBT.out] at hst
        have hbb := bT_bd HZZ.out (by rw [HNN.out]; omega) HBF.out (q := (a, b)) f1 hb8
        rw [HBT.out] at hbb
        exact ⟨_, _, _, hT, hM, HL6.out, HBD.out.upd (manyE_bd HBD.out f1 hb8 HIN2.out.1 HIN2.out.2), HBF.out.upd hbb, hst⟩)
      clear hT hM hB c0 c1 HCD HL5 HT5 HM5 HBX5 HB5 HOv5 HBD HBF HD
      go_wp2_with fail
      go_roundw
      case rel => first
        | exact ⟨i + 1, by omega, rfl, HB6, HJ6⟩
        | ((repeat apply Exists.intro); exact ⟨⟨i + 1, by omega, rfl, HB6, HJ6⟩, rfl⟩)
      case measure => simp [intOf]; omega
    · obtain rfl : i = ln := by omega
      have HE : Hid ((spansL n).take i = spansL n) := Lib.hid (by rw [← HLN.out, List.take_length])
      obtain ⟨F, mn, f, h1, h2, h3, h4, h5, h6⟩ := HJ.out
      rw [HE.out] at h6
      obtain ⟨n1, hn1⟩ : ∃ n1, n1 = n - 1 := ⟨_, rfl⟩
      have HAL : Hid (∀ W, Calls Try.prog 65 #[.int .i64 (n : Nat)] W fun e w' => e = .returned (spV 0 (n1 : Nat)) ∧ Fut W w') := Lib.hid (fun W => by
        have h := allOf_any n (by omega) W
        rw [show ((n : Nat) : Int) - 1 = ((n1 : Nat) : Int) by omega] at h
        exact h)
      have HOF : Hid (∀ W, Fut wr W → Calls Try.prog 67 #[.pointer (some ⟨g, 0, none⟩), spV 0 (n1 : Nat)] W fun e w' => e = .returned (.int .i64 (f 0 n1)) ∧ Fut W w') := Lib.hid (fun W k => of_any g 0 0 n1 (by omega) (by omega) (f 0 n1) W (h3.fut k 0 n1 (by omega) (by omega)).1)
      have HN1 := Lib.hid hn1
      have HRES := Lib.hid (And.intro h1 (And.intro h2 (And.intro h4 (And.intro h5 h6))))
      clear h1 h2 h3 h4 h5 h6 hn1 HJ
      go_wp2_with fail
      refine (HAL.out _).mono ?_
      rintro _ w5 ⟨rfl, F5⟩
      go_wp2_with fail
      refine (HOF.out _ F5).mono ?_
      rintro _ w6 ⟨rfl, F6⟩
      go_wp2_with fail
      go_ret2
      have hge := HG.out
      have F56 : Fut wr w6 := F5.trans F6
      have HFF : Fut w wr := ((But.of_below (Z := fun k => k = g ∨ k = g + 1) HFw.out).trans HB.out).below w.heap.size (Nat.le_refl _) (fun k hk => by omega)
      obtain ⟨h1, h2, h4, h5, h6⟩ := HRES.out
      refine ⟨F, mn, f, ?_, HFF.trans F56, ?_, ?_, h4, h5, ?_⟩
      · rw [HNN.out, ← HN1.out, ← hge]; rfl
      · rw [← hge]; exact h1.fut F56
      · rw [← hge]; exact h2.fut F56
      · rw [HNN.out]; exact h6
end Go.Proofs.Ytjapconhehdcjaa
