/- every -/
import Derived.Test.YtjapconhehdcjaaSJ
import Derived.Deep.DeepCutAuto
import Derived.Deep.AppendLies
namespace Go.Proofs.Ytjapconhehdcjaa
open Go.RowKit Go.Sort
def svT (q : Nat × Nat) : List Int := svP q.1 (q.2 - q.1)
theorem svT_in (q : Nat × Nat) (h : q.1 ≤ q.2) : ∀ l ∈ svT q, (q.1 : Int) ≤ l ∧ l < q.2 := fun l hl => by
  have := svP_mem hl
  omega
theorem spans_cell {w : World} {B : Nat} {v : Value} {ss : List (Nat × Nat)} (h : OwnS w B v ss) {i : Nat} (hi : i < ss.length) : ∃ g cap, v = .slice (some ⟨g, 0, none⟩) ss.length cap ∧ B ≤ g ∧ w.cell? ⟨g, 0 + i * 2, none⟩ = some (.int .i64 ((nthS ss i).1 : Nat)) ∧ w.cell? ⟨g, 0 + i * 2 + 1, none⟩ = some (.int .i64 ((nthS ss i).2 : Nat)) := by
  rcases h.2 with ⟨_, h0⟩ | ⟨g, cap, cur, rfl, hb, hg, _⟩
  · omega
  · refine ⟨g, cap, rfl, hb, ?_, ?_⟩
    · rw [Nat.zero_add, World.ownsRow.cellAt h _ (by omega)]; exact (flatS_get ss i hi).1
    · rw [Nat.zero_add, World.ownsRow.cellAt h _ (by omega)]; exact (flatS_get ss i hi).2
set_option maxRecDepth 100000 in
set_option maxHeartbeats 4000000 in
theorem every_any (n : Nat) (hn1 : 1 ≤ n) (hn : n ≤ 8) (w : World) : Calls Try.prog 72 #[.int .i64 (n : Nat)] w fun e w' => e = .returned (.pointer (some ⟨w.heap.size, 0, none⟩)) ∧ Fut w w' ∧ ∃ F mn, TabL w' w.heap.size 0 (w.heap.size + 1) F ∧ Tab w' w.heap.size 64 mn ∧ Bd mn ∧ DoneP F mn svT (spansL n) := by
  obtain ⟨g, hg⟩ : ∃ g, g = w.heap.size := ⟨_, rfl⟩
  obtain ⟨W0, hW0⟩ : ∃ W0, W0 = w.alloc (.cells Try.zeroCells81 81) := ⟨_, rfl⟩
  have HF0 : Hid (Fut w W0) := Lib.hid (by rw [hW0]; exact Fut.alloc _ _)
  have HT0 : Hid (TabL W0 g 0 (g + 1) (fun _ _ => [])) := Lib.hid (by rw [hW0, hg]; exact tabL_new w _)
  have HM0 : Hid (Tab W0 g 64 (fun _ _ => 0)) := Lib.hid (by rw [hW0, hg]; exact tab_new w)
  have HZ0 : Hid (W0.heap.size = g + 1) := Lib.hid (by rw [hW0, World.size_alloc, hg])
  have HSP := Lib.hid (spansOf_any n hn W0)
  have HFC := Lib.hid (fun i hi => sp_facts (n := n) (i := i) hn hi)
  have HG := Lib.hid hg
  have HW := Lib.hid hW0
  clear hW0 hg
  go_enter Try.func72, Try.ntmps72
  go_upto_region 2 with fail
  rw [← HW.out, ← HG.out]
  clear HW
  go_wp2_with fail
  refine HSP.out.mono ?_
  rintro _ w1 ⟨v1, rfl, HO1, HF1⟩
  have HOS := Lib.hid HO1
  have HT1 := Lib.hid (HT0.out.fut HF1)
  have HM1 := Lib.hid (HM0.out.fut HF1)
  have HFw := Lib.hid (HF0.out.trans HF1)
  have HZ1 : Hid (g + 1 ≤ w1.heap.size) := Lib.hid (by have := RowKit.Below.size HF1; have := HZ0.out; omega)
  have hlen : (spansL n).length ≤ 100 := by have := spK_len n hn n 0; unfold spansL; omega
  obtain ⟨sa, sc, rfl⟩ := row_form HO1
  obtain ⟨ln, hln⟩ : ∃ ln, (spansL n).length = ln := ⟨_, rfl⟩
  have HLN := Lib.hid hln
  rw [hln] at hlen ⊢
  have hlx : (ln : Int) ≤ 100 := by omega
  clear HT0 HM0 HF0 HSP HO1 HF1 hln
  go_wp2_with fail
  go_loopw [11] (fun iv wr => ∃ (i : Nat), i ≤ ln ∧ iv = .int .i64 (i : Nat) ∧ Hid (But (fun k => k = g) w1 wr) ∧ Hid (∃ F mn, TabL wr g 0 (g + 1) F ∧ Tab wr g 64 mn ∧ Bd mn ∧ DoneP F mn svT ((spansL n).take i))) (fun iv _ => ln - (intOf iv).toNat)
  case atStart => exact ⟨0, by omega, rfl, Lib.hid (But.refl _ _), Lib.hid ⟨_, _, HT1.out, HM1.out, Bd.zero, fun q hq => absurd hq (by simp)⟩⟩
  case round =>
    obtain ⟨i, hi, rfl, HB, HJ⟩ := hrel
    by_cases hin : i < ln
    · have hix : (i : Int) < ln := by omega
      have hcc := spans_cell (row_but HOS.out HB.out (B := W0.heap.size) (fun k hk => by have := HZ0.out; omega)) (i := i) (by rw [HLN.out]; exact hin)
      obtain ⟨f1, f2, f3, _⟩ := HFC.out i (by rw [HLN.out]; exact hin)
      have HPP : Hid (∀ q ∈ (spansL n).take i, q.1 ≤ q.2 ∧ wid q ≤ wid (nthS (spansL n) i) ∧ q ≠ nthS (spansL n) i) := Lib.hid (fun q hq => by
        obtain ⟨j, hj, rfl⟩ := List.getElem_of_mem hq
        have hj2 : j < (spansL n).length := by rw [List.length_take] at hj; omega
        have hh := HFC.out j hj2
        have e : ((spansL n).take i)[j] = nthS (spansL n) j := by unfold nthS; rw [List.getElem_take, List.getElem?_eq_getElem hj2]; rfl
        rw [e] at hq ⊢
        exact ⟨hh.1, f3 _ hq⟩)
      have HTK : Hid ((spansL n).take (i + 1) = (spansL n).take i ++ [nthS (spansL n) i]) := Lib.hid (take_nthS _ _ (by rw [HLN.out]; exact hin))
      have HPE := Lib.hid (show nthS (spansL n) i = ((nthS (spansL n) i).1, (nthS (spansL n) i).2) from rfl)
      generalize hpp : nthS (spansL n) i = p at *
      obtain ⟨a, b⟩ := p
      simp only at f1 f2 hcc
      obtain ⟨rb, rc, erv, hrb, q0, q1⟩ := hcc
      obtain ⟨rfl, rfl⟩ : sa = some ⟨rb, 0, none⟩ ∧ sc = rc := by
        simp only [Value.slice.injEq] at erv
        exact ⟨erv.1, erv.2.2⟩
      have hb8 : b < 8 := by omega
      have hwi : IntKind.i64.wrap ((i : Int) + 1) = ((i + 1 : Nat) : Int) := by rw [IntWalk.i64_in _ ⟨by omega, by omega⟩]; omega
      clear erv f3 hpp HPE
      rw [Nat.zero_add] at q0 q1
      go_upto_region 5 with fail
      obtain ⟨F, mn, hT, hM, hBd, hD⟩ := HJ.out
      obtain ⟨H, hH⟩ : ∃ H, H = wr.heap.size := ⟨_, rfl⟩
      rw [← hH]
      have FA : Fut wr (wr.alloc (Obj.cells #[Value.int IntKind.i64 (a : Nat), Value.int IntKind.i64 (b : Nat)] 69)).drew := (Fut.alloc _ _).trans (below_drewN Fut.rfl 1)
      have HBX3 : Hid ((wr.alloc (Obj.cells #[Value.int IntKind.i64 (a : Nat), Value.int IntKind.i64 (b : Nat)] 69)).drew.heap[H]? = some (.cells #[.int .i64 (a : Nat), .int .i64 (b : Nat)] 69)) := Lib.hid (by rw [hH]; exact heap_fut (World.alloc_heap_new wr _) (below_drewN Fut.rfl 1))
      have HT3 := Lib.hid (hT.fut FA)
      have HM3 := Lib.hid (hM.fut FA)
      have HB3 : Hid (But (fun k => k = g) w1 (wr.alloc (Obj.cells #[Value.int IntKind.i64 (a : Nat), Value.int IntKind.i64 (b : Nat)] 69)).drew) := Lib.hid (HB.out.trans (But.of_below FA))
      have HZ3 : Hid (g + 1 ≤ (wr.alloc (Obj.cells #[Value.int IntKind.i64 (a : Nat), Value.int IntKind.i64 (b : Nat)] 69)).drew.heap.size ∧ g + 1 ≤ H) := Lib.hid (by have h1 := HB.out.size; have h2 := RowKit.Below.size FA; have h3 := HZ1.out; exact ⟨by omega, by omega⟩)
      have HBD := Lib.hid hBd
      have HD := Lib.hid hD
      have HSV := Lib.hid (fun W => sieves_any a b f1 (by omega) W)
      clear hT hM hBd hD HJ hH FA q0 q1 HB
      refine wp_region_held_drew (S := (fun w' => w'.cell? ⟨H, 0, none⟩ = some (.int .i64 (a : Nat)) ∧ w'.cell? ⟨H, 1, none⟩ = some (.int .i64 (b : Nat)))) (by kernel_rfl) ?_ (fun hHeld => ?_)
      · exact ⟨(two_cell HBX3.out).1, (two_cell HBX3.out).2.1⟩
      generalize (wr.alloc (Obj.cells #[Value.int IntKind.i64 (a : Nat), Value.int IntKind.i64 (b : Nat)] 69)).drew = u0 at *
      refine wpAnyH_take (i := 0) (oi := { dst := some 15, op := Op.move (Operand.tmp 3), type := 64, pos := "tree.go:48", after := #[], guard := none }) (v := ?_) rfl (by kernel_rfl) (by kernel_rfl) (by kernel_rfl) (fun _ _ _ h => h) (Or.inl ⟨by rfl, ?_⟩) (by assumption) ?_
      rotate_left
      · (intro w hSw; obtain ⟨s0, s1⟩ := hSw; go_simp <;> with_reducible rfl)
      try simp only [Act.put, List.setIfInBounds_toArray, List.set_cons_zero, List.set_cons_succ]
      refine wpAnyH_take (i := 1) (oi := { dst := some 16, op := Op.load 69 (Operand.tmp 5), type := 69, pos := "tree.go:48", after := #[], guard := none }) (v := ?_) rfl (by kernel_rfl) (by kernel_rfl) (by kernel_rfl) (fun _ _ _ h => h) (Or.inl ⟨by rfl, ?_⟩) (by assumption) ?_
      rotate_left
      · (intro w hSw; obtain ⟨s0, s1⟩ := hSw; go_simp <;> with_reducible rfl)
      try simp only [Act.put, List.setIfInBounds_toArray, List.set_cons_zero, List.set_cons_succ]
      refine wpAnyH_take (i := 2) (oi := { dst := some 17, op := Op.load 69 (Operand.tmp 5), type := 69, pos := "tree.go:48", after := #[], guard := none }) (v := ?_) rfl (by kernel_rfl) (by kernel_rfl) (by kernel_rfl) (fun _ _ _ h => h) (Or.inl ⟨by rfl, ?_⟩) (by assumption) ?_
      rotate_left
      · (intro w hSw; obtain ⟨s0, s1⟩ := hSw; go_simp <;> with_reducible rfl)
      try simp only [Act.put, List.setIfInBounds_toArray, List.set_cons_zero, List.set_cons_succ]
      refine wpAnyH_ready (rs := [3]) (by kernel_rfl) (by simp) ?_
      refine AllReadyH.cons (o := { dst := some 18, op := Op.call { callee := Callee.value (Operand.func 96), args := #[Operand.tmp 17], argTypes := #[69] }, type := 22, pos := "tree.go:48", after := #[{ on := 2, ground := Ground.data }], guard := none }) rfl (fun K hK => ?_) AllReadyH.nil
      go_simp
      go_at_call 96
      refine (HSV.out _).mono ?_
      rintro _ u1 ⟨v, rfl, hOv, Fu⟩
      obtain ⟨ta, tc, rfl, _⟩ := hOv.ints
      have HBX4 := Lib.hid (heap_fut HBX3.out Fu)
      have HB4 : Hid (But (fun k => k = g) w1 u1) := Lib.hid (HB3.out.trans (But.of_below Fu))
      have HCA := Lib.hid (add_any a b f1 hb8 ta tc (svP a (b - a)) (svT_in (a, b) f1) (by rw [svP_len]; omega) g (g + 1) (by omega) F mn (HBD.out.le) u1 (hOv.base HZ3.out.1) (HT3.out.fut Fu) (HM3.out.fut Fu))
      clear hOv Fu HBX3 HB3 HT3 HM3
      generalize hLL : svP a (b - a) = L at *
      try go_wp2_with fail
      refine hK.out _ _ ?_ (fun hHeld => ?_)
      · exact ⟨(two_cell HBX4.out).1, (two_cell HBX4.out).2.1⟩
      clear hK K
      try simp only [Act.put, List.setIfInBounds_toArray, List.set_cons_zero, List.set_cons_succ]
      refine wpAnyH_ready (rs := [4]) (by kernel_rfl) (by simp) ?_
      refine AllReadyH.cons (o := { dst := some 19, op := Op.call { callee := Callee.value (Operand.func 94), args := #[Operand.tmp 15, Operand.tmp 16, Operand.tmp 18], argTypes := #[64, 69, 22] }, type := 0, pos := "tree.go:48", after := #[{ on := 0, ground := Ground.data }, { on := 1, ground := Ground.data }, { on := 3, ground := Ground.data }, { on := 3, ground := Ground.chain }], guard := none }) rfl (fun K hK => ?_) AllReadyH.nil
      go_simp
      go_at_call 94
      refine HCA.out.mono ?_
      rintro _ u2 ⟨rfl, hT5, hM5, hB5⟩
      have HBX5 := Lib.hid (but_heap HBX4.out hB5 (by have := HZ3.out.2; omega))
      have HB5 : Hid (But (fun k => k = g) w1 u2) := Lib.hid (HB4.out.trans hB5)
      have HJ5 : Hid (∃ F mn, TabL u2 g 0 (g + 1) F ∧ Tab u2 g 64 mn ∧ Bd mn ∧ DoneP F mn svT ((spansL n).take (i + 1))) := Lib.hid (by
        subst hLL
        rw [HTK.out]
        exact ⟨_, _, hT5, hM5, HBD.out.upd (manyE_bd HBD.out f1 hb8 (svT_in (a, b) f1) (by rw [svP_len]; omega)), HD.out.step (p := (a, b)) f1 svT_in HPP.out⟩)
      clear hT5 hM5 hB5 HCA HBX4 HB4
      try go_wp2_with fail
      refine hK.out _ _ ?_ (fun hHeld => ?_)
      · exact ⟨(two_cell HBX5.out).1, (two_cell HBX5.out).2.1⟩
      clear hK K
      try simp only [Act.put, List.setIfInBounds_toArray, List.set_cons_zero, List.set_cons_succ]
      refine wpAnyH_done (by kernel_rfl) ?_ _
      go_wp2_with fail
      go_roundw
      case rel => first
        | exact ⟨i + 1, by omega, rfl, HB5, HJ5⟩
        | ((repeat apply Exists.intro); exact ⟨⟨i + 1, by omega, rfl, HB5, HJ5⟩, rfl⟩)
      case measure => simp [intOf]; omega
    · obtain rfl : i = ln := by omega
      have HE : Hid ((spansL n).take i = spansL n) := Lib.hid (by rw [← HLN.out, List.take_length])
      go_wp2_with fail
      go_ret
      obtain ⟨F, mn, h1, h2, h3, h4⟩ := HJ.out
      rw [HE.out] at h4
      have hge := HG.out
      have HFF : Fut w wr := ((But.of_below (Z := fun k => k = g) HFw.out).trans HB.out).below w.heap.size (Nat.le_refl _) (fun k hk => by omega)
      rw [← hge]
      exact ⟨rfl, HFF, F, mn, h1, h2, h3, h4⟩
end Go.Proofs.Ytjapconhehdcjaa
