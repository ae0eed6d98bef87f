/- families 42: fams_any -/
import Derived.Test.YtflllkamdihfaaaLNB
import Derived.Test.YtflllkamdihfaaaLNA
import Derived.Test.YtflllkamdihfaaaLHJ
import Derived.Test.YtflllkamdihfaaaLGH
import Derived.Test.YtflllkamdihfaaaLDH
import Derived.Test.YtflllkamdihfaaaLBG
import Derived.Test.YtflllkamdihfaaaLGE
import Derived.Deep.DeepCutAuto
namespace Go.Proofs.Ytflllkamdihfaaa
open Go.RowKit Go.Sort
/-- rows of one's own do not mind what is stored below them. -/
theorem OwnL.low {w w' : World} {B g : Nat} {v : Value} {L : List (List Int)} (h : OwnL w B v L) (hg : g < B) (G : w.grownBy w' (some g)) : OwnL w' B v L := by
  obtain ⟨vals, h1, h2⟩ := h
  exact ⟨vals, World.ownsRow.kept h1 G (.inr fun e => by have := (World.ownsRow.lt h1 g e).1; omega), h2.1, fun j hj => by
    obtain ⟨a, e, ha⟩ := h2.2 j hj
    exact ⟨a, e, ha.kept G (own_ge ha hg)⟩⟩
theorem OwnLL.low {w w' : World} {B g : Nat} {v : Value} {LL : List (List (List Int))} (h : OwnLL w B v LL) (hg : g < B) (G : w.grownBy w' (some g)) : OwnLL w' B v LL := by
  obtain ⟨vals, h1, h2, h3⟩ := h
  exact ⟨vals, World.ownsRow.kept h1 G (.inr fun e => by have := (World.ownsRow.lt h1 g e).1; omega), h2, fun j hj => by
    obtain ⟨a, e, ha⟩ := h3 j hj
    exact ⟨a, e, ha.low hg G⟩⟩
theorem OwnLL.base {w : World} {B B' : Nat} {v : Value} {LL : List (List (List Int))} (h : OwnLL w B v LL) (hB : B' ≤ B) : OwnLL w B' v LL := by
  obtain ⟨vals, h1, h2, h3⟩ := h
  exact ⟨vals, row_base h1 hB, h2, fun j hj => by
    obtain ⟨a, e, ha⟩ := h3 j hj
    exact ⟨a, e, ha.base hB⟩⟩
/-- how the law's ways look. -/
theorem lwL_good {r c : Int} {S Y T : List Int} (hg : ChkG r c S Y T) {y : Int} (hy : y ∈ Y) : (lwL (stL c (r * c) S) S T y).length ≤ 100000 ∧ ∀ l ∈ lwL (stL c (r * c) S) S T y, 0 < l.length ∧ l.length ≤ 16 ∧ ∀ x ∈ l, 0 ≤ x ∧ x < 16 := by
  have hyy := hg.y y hy
  have hp := lwL_cnd hg.side hyy hg.td
  refine ⟨?_, fun l hl => ?_⟩
  · rw [hp.length_eq]
    have hm := side_m hg.side
    have h1 := flat_le (g := fun t => wyL c (r * c) S y t) (b := 2583) T (fun t _ => by
      unfold wyL
      split
      · simp
      · exact Nat.le_trans (rtL_gN hg.side S t 16 y hyy.1 hyy.2.1 (by omega)) (Nat.le_trans (gN_mono (show (r * c - y).toNat ≤ 16 by omega)) (by decide)))
    have h2 := hg.three
    have h3 := hg.len
    have h4 := Nat.mul_le_mul_right 2583 (show T.length ≤ 3 by omega)
    exact Nat.le_trans h1 (Nat.le_trans h4 (by decide))
  · obtain ⟨t, ht, hw⟩ := (mem_cnd hg.side hyy).1 (hp.mem_iff.1 hl)
    have h1 := wto_short hg.side ⟨hyy.1, hyy.2.1⟩ hw
    exact ⟨List.length_pos_iff.2 hw.ne, h1.1, h1.2⟩
theorem but_below {Z : Nat → Prop} {B : Nat} {a b c : World} (h : But Z a b) (k : RowKit.Below B b c) (hB : a.heap.size ≤ B) : But Z a c :=
  ⟨k.os.trans h.os, k.tape.trans h.tape, k.output.trans h.output, Nat.le_trans h.size k.size, fun i hi hz => (k.block i (Nat.lt_of_lt_of_le hi hB)).trans (h.block i hi hz)⟩
theorem below_heap {w w' : World} {B b : Nat} {o : Obj} (h : w.heap[b]? = some o) (k : RowKit.Below B w w') (hb : b < B) : w'.heap[b]? = some o := (k.block b hb).trans h
theorem but_heap {Z : Nat → Prop} {w w' : World} {b : Nat} {o : Obj} (h : w.heap[b]? = some o) (k : But Z w w') (hz : ¬ Z b) : w'.heap[b]? = some o := (k.block b (Array.getElem?_eq_some_iff.1 h).1 hz).trans h
theorem BoxP.but {Z : Nat → Prop} {w w' : World} {B : Nat} {r c : Int} {a : Option Addr} {n cap : Nat} (h : BoxP w B r c a n cap) (b : But Z w w') (hz : ¬ Z B) : BoxP w' B r c a n cap := by
  obtain ⟨h0, h1, h2, h3⟩ := h
  exact ⟨Nat.lt_of_lt_of_le h0 b.size, (World.cell?_of_block (a := ⟨B, 0, none⟩) (b.block B h0 hz)).trans h1, (World.cell?_of_block (a := ⟨B, 1, none⟩) (b.block B h0 hz)).trans h2, (World.cell?_of_block (a := ⟨B, 2, none⟩) (b.block B h0 hz)).trans h3⟩
theorem BoxQ.but {Z : Nat → Prop} {w w' : World} {B : Nat} {ya : Option Addr} {yn yc : Nat} {ta : Option Addr} {tn tc : Nat} (h : BoxQ w B ya yn yc ta tn tc) (b : But Z w w') (hz : ¬ Z B) : BoxQ w' B ya yn yc ta tn tc := by
  obtain ⟨h0, h1, h2⟩ := h
  exact ⟨Nat.lt_of_lt_of_le h0 b.size, (World.cell?_of_block (a := ⟨B, 0, none⟩) (b.block B h0 hz)).trans h1, (World.cell?_of_block (a := ⟨B, 1, none⟩) (b.block B h0 hz)).trans h2⟩
set_option maxRecDepth 100000 in
set_option maxHeartbeats 8000000 in
/-- families: all families by the law, done one by one. -/
theorem fams_any {B1 B2 B3 : Nat} (h12 : B1 ≠ B2) (h13 : B1 ≠ B3) (h23 : B2 ≠ B3) (r c : Int) (a : Option Addr) (cap : Nat) (S : List Int) (ya : Option Addr) (yc : Nat) (Y : List Int) (ta : Option Addr) (tc : Nat) (T : List Int) (w : World) (hc : chkP r c S Y T = 0) (h : InPQ w a S ya yc Y ta tc T) (hTZ : ∀ W, But (Zc B1 B2 B3) w W → IntsAt W ta T) (hI : GsI B1 B2 B3 T [] w) :
    Calls Try.prog 42 #[parV r c a S.length cap, plaV ya Y.length yc ta T.length tc, .func (.func 43) #[] #[.pointer (some ⟨B1, 0, none⟩), .pointer (some ⟨B2, 0, none⟩), .pointer (some ⟨B3, 0, none⟩)]] w fun e w' => e = .returned (.tuple #[]) ∧ But (Zc B1 B2 B3) w w' ∧ GsI B1 B2 B3 T (gfL (Y.map fun y => lwL (stL c (r * c) S) S T y) []) w' := by
  obtain ⟨i2, hi2, hx0, hx1, hx2⟩ := info_parts info35
  have hg := chk_all hc
  obtain ⟨fv, hfv⟩ : ∃ fv : Value, fv = .func (.func 43) #[] #[.pointer (some ⟨B1, 0, none⟩), .pointer (some ⟨B2, 0, none⟩), .pointer (some ⟨B3, 0, none⟩)] := ⟨_, rfl⟩
  obtain ⟨w1, hw1⟩ : ∃ w1, w1 = w.alloc (.cells #[.int .i64 r, .int .i64 c, .slice a S.length cap] 24) := ⟨_, rfl⟩
  obtain ⟨w2, hw2⟩ : ∃ w2, w2 = w1.alloc (.cells #[.slice ya Y.length yc, .slice ta T.length tc] 26) := ⟨_, rfl⟩
  obtain ⟨w3, hw3⟩ : ∃ w3, w3 = w2.alloc (.cells #[fv] 70) := ⟨_, rfl⟩
  obtain ⟨w4, hw4⟩ : ∃ w4, w4 = w3.alloc (.cells #[.slice none 0 0] 106) := ⟨_, rfl⟩
  have e1 : w1.heap.size = w.heap.size + 1 := by rw [hw1, World.size_alloc]
  have e2 : w2.heap.size = w.heap.size + 1 + 1 := by rw [hw2, World.size_alloc, e1]
  have e3 : w3.heap.size = w.heap.size + 1 + 1 + 1 := by rw [hw3, World.size_alloc, e2]
  have e4 : w4.heap.size = w.heap.size + 1 + 1 + 1 + 1 := by rw [hw4, World.size_alloc, e3]
  have F34 : Fut w3 w4 := by rw [hw4]; exact Fut.alloc _ _
  have F23 : Fut w2 w3 := by rw [hw3]; exact Fut.alloc _ _
  have F12 : Fut w1 w2 := by rw [hw2]; exact Fut.alloc _ _
  have F01 : Fut w w1 := by rw [hw1]; exact Fut.alloc _ _
  have hBP : BoxP w4 w.heap.size r c a S.length cap := by
    have := BoxP.new w r c a S.length cap
    rw [← hw1] at this
    exact ((this.fut F12).fut F23).fut F34
  have hBQ : BoxQ w4 (w.heap.size + 1) ya Y.length yc ta T.length tc := by
    have := BoxQ.new w1 ya Y.length yc ta T.length tc
    rw [← hw2, e1] at this
    exact (this.fut F23).fut F34
  have hBX : w4.heap[w.heap.size + 1]? = some (.cells #[.slice ya Y.length yc, .slice ta T.length tc] 26) := by
    have := World.alloc_heap_new w1 (.cells #[.slice ya Y.length yc, .slice ta T.length tc] 26)
    rw [← hw2, e1] at this
    exact heap_fut (heap_fut this F23) F34
  have hBF : w4.heap[w.heap.size + 1 + 1]? = some (.cells #[fv] 70) := by
    have := World.alloc_heap_new w2 (.cells #[fv] 70)
    rw [← hw3, e2] at this
    exact heap_fut this F34
  have hBR : w4.heap[w.heap.size + 1 + 1 + 1]? = some (.cells #[.slice none 0 0] 106) := by
    have := World.alloc_heap_new w3 (.cells #[.slice none 0 0] 106)
    rw [← hw4, e3] at this
    exact this
  have HF4 : Hid (Fut w w4) := Lib.hid (((F01.trans F12).trans F23).trans F34)
  have HE4 := Lib.hid e4
  have HBX := Lib.hid hBX
  have HBF := Lib.hid hBF
  have HBR := Lib.hid hBR
  have HBP := Lib.hid hBP
  have HBQ := Lib.hid hBQ
  have HIN := Lib.hid h
  have HG := Lib.hid hg
  have HTZ := Lib.hid hTZ
  have HI := Lib.hid hI
  have HFVV := Lib.hid hfv
  have HN := Lib.hid (And.intro h12 (And.intro h13 h23))
  have HY3 : Hid (Y.length ≤ 3 ∧ T.length ≤ 3) := Lib.hid ⟨hg.three, by have := hg.len; have := hg.three; omega⟩
  have HGL : Hid ((gfL (Y.map fun y => lwL (stL c (r * c) S) S T y) []).length ≤ 281474976710656) := Lib.hid (by rw [(gess_perm hc).length_eq]; exact famL_le hc)
  have HRL : Hid (∀ row ∈ Y.map fun y => lwL (stL c (r * c) S) S T y, row.length ≤ 100000 ∧ ∀ l ∈ row, 0 < l.length ∧ l.length ≤ 16 ∧ ∀ x ∈ l, 0 ≤ x ∧ x < 16) := Lib.hid (fun row hr => by
    obtain ⟨y, hy, rfl⟩ := List.mem_map.1 hr
    exact lwL_good hg hy)
  have HSID : Hid (Side r c (r * c)) := Lib.hid hg.side
  have HYM : Hid (∀ k, k < Y.length → 0 ≤ nth Y k ∧ nth Y k < r * c) := Lib.hid (fun k hk => by have := hg.y _ (nth_mem hk); exact ⟨this.1, this.2.1⟩)
  obtain ⟨rw1, hrw1⟩ : ∃ f : Int → List (List Int), f = fun y => lwL (stL c (r * c) S) S T y := ⟨_, rfl⟩
  have HWY : Hid (∀ k W, k < Y.length → Fut w W → Calls Try.prog 47 #[parV r c a S.length cap, .int .i64 (nth Y k), .slice ta T.length tc] W fun e w' => ∃ v, e = .returned v ∧ OwnL w' W.heap.size v (rw1 (nth Y k)) ∧ Fut W w') := Lib.hid (fun k W hk F => by
    rw [hrw1]
    exact lways_own r c (r * c) hg.side a cap S (nth Y k) (HYM.out k hk) ta tc T W (h.s.fut F) h.sl (h.t.fut F) h.tl)
  rw [← hrw1] at HGL HRL ⊢
  have HMT := Lib.hid (fun i (hi : i < Y.length) => show (Y.take (i + 1)).map rw1 = (Y.take i).map rw1 ++ [rw1 (nth Y i)] by rw [List.take_succ_eq_append_getElem hi, List.map_append, nth_get hi]; rfl)
  have HME : Hid ((Y.take Y.length).map rw1 = Y.map rw1) := Lib.hid (by rw [List.take_length])
  clear hc h hTZ hI hg F01 F12 F23 F34 hBX hBF hBR hrw1 h12 h13 h23
  clear e1 e2 e3 e4 hBP hBQ
  have HW := Lib.hid (And.intro hw1 (And.intro hw2 (And.intro hw3 hw4)))
  subst hfv
  clear hw1 hw2 hw3 hw4
  go_enter Try.func42, Try.ntmps42
  go_wp2_with fail
  rw [← HW.out.1, ← HW.out.2.1, ← HW.out.2.2.1, ← HW.out.2.2.2]
  clear HW
  obtain ⟨Bw, hBw⟩ : ∃ b, b = w.heap.size := ⟨_, rfl⟩
  obtain ⟨Bx, hBx⟩ : ∃ b, b = w.heap.size + 1 := ⟨_, rfl⟩
  obtain ⟨Bf, hBf⟩ : ∃ b, b = w.heap.size + 1 + 1 := ⟨_, rfl⟩
  obtain ⟨Br, hBr⟩ : ∃ b, b = w.heap.size + 1 + 1 + 1 := ⟨_, rfl⟩
  have HLT : Hid (w.heap.size < Bx ∧ Bx < Bf ∧ Bf < Br ∧ w4.heap.size = Br + 1) := Lib.hid ⟨by omega, by omega, by omega, by have := HE4.out; omega⟩
  rw [← hBr, ← hBf, ← hBx]
  rw [← hBr] at HBR
  rw [← hBf] at HBF
  rw [← hBx] at HBX HBQ
  clear hBr hBf hBx HE4 hBw Bw
  have HX0 : Hid (OwnLL w4 (Br + 1) (.slice none 0 0) ((Y.take 0).map rw1)) := Lib.hid (OwnLL.nil _ _)
  have hyx : (Y.length : Int) ≤ 3 := by have := HY3.out.1; omega
  go_loopw [13] (fun iv wr => ∃ (i : Nat) (oa : Option Addr) (oc : Nat), i ≤ Y.length ∧ iv = .int .i64 i ∧ Hid (wr.heap[Br]? = some (.cells #[.slice oa i oc] 106)) ∧ Hid (OwnLL wr (Br + 1) (.slice oa i oc) ((Y.take i).map rw1)) ∧ Hid (But (fun q => q = Br) w4 wr)) (fun iv _ => Y.length - (intOf iv).toNat)
  case atStart => exact ⟨0, none, 0, Nat.zero_le _, rfl, HBR, HX0, Lib.hid (But.refl _ _)⟩
  case round =>
    obtain ⟨i, oa, oc, hi, rfl, HBRi, HXi, HBi⟩ := hrel
    clear HX0 HBR
    have HFi : Hid (Fut w wr) := Lib.hid (RowKit.Below.trans HF4.out (HBi.out.below w.heap.size (by have := HLT.out; omega) (fun k hk => by have := HLT.out; omega)))
    by_cases hil : i < Y.length
    · have hix : (i : Int) < Y.length := by omega
      obtain ⟨yb, yo, rfl, hyb, cy⟩ := (HIN.out.fut HFi.out).y i hil
      have keep3 : ∀ W, But (fun q => q = Br) w4 W → BoxP W w.heap.size r c a S.length cap ∧ BoxQ W Bx (some ⟨yb, yo, none⟩) Y.length yc ta T.length tc := fun W b => ⟨HBP.out.but b (by have := HLT.out; omega), HBQ.out.but b (by have := HLT.out; omega)⟩
      have FD : Fut wr wr.drew := below_drewN Fut.rfl 1
      have HBu : Hid (But (fun q => q = Br) w4 wr.drew) := Lib.hid (HBi.out.trans (But.of_below FD))
      have keep : ∀ W, Fut wr.drew W → BoxP W w.heap.size r c a S.length cap ∧ BoxQ W Bx (some ⟨yb, yo, none⟩) Y.length yc ta T.length tc := fun W X => keep3 W (HBu.out.trans (But.of_below X))
      have keep2 : ∀ W, RowKit.Below (Br + 1) wr.drew W → BoxP W w.heap.size r c a S.length cap ∧ BoxQ W Bx (some ⟨yb, yo, none⟩) Y.length yc ta T.length tc := fun W X => keep3 W (but_below HBu.out X (by have := HLT.out; omega))
      have HSZ : Hid (w4.heap.size ≤ Br + 1) := Lib.hid (by have := HLT.out; omega)
      have HU0 : Hid (Br + 1 ≤ wr.drew.heap.size) := Lib.hid (by have := HLT.out; have := HBu.out.size; omega)
      have HFW : Hid (Fut w wr.drew) := Lib.hid (HFi.out.trans FD)
      have HB5 : Hid (wr.drew.heap[Br]? = some (.cells #[.slice oa i oc] 106)) := Lib.hid (heap_fut HBRi.out FD)
      have HX5 := Lib.hid (HXi.out.fut FD)
      have HLN : Hid (((Y.take i).map rw1).length = i) := Lib.hid (by rw [List.length_map, List.length_take]; omega)
      clear FD HBRi HXi HBi HFi hyb
      go_upto_region 5 with fail
      refine wp_region_held_drew (S := (fun w' => BoxP w' w.heap.size r c a S.length cap ∧ BoxQ w' Bx (some ⟨yb, yo, none⟩) Y.length yc ta T.length tc)) (by kernel_rfl) ?_ (fun hHeld => ?_)
      · exact keep _ Fut.rfl
      generalize wr.drew = u0 at *
      refine wpAnyH_take (i := 1) (oi := { dst := some 18, op := Op.load 24 (Operand.tmp 3), type := 24, pos := "outright.go:94", after := #[], guard := none }) (v := ?_) rfl (by kernel_rfl) (by kernel_rfl) (by kernel_rfl) (fun _ _ _ h => h) (Or.inl ⟨by rfl, ?_⟩) (by assumption) ?_
      rotate_left
      · (intro w hSw; obtain ⟨⟨_, s0, s1, s2⟩, ⟨_, s3, s4⟩⟩ := hSw; go_simp <;> with_reducible rfl)
      try simp only [Act.put, List.setIfInBounds_toArray, List.set_cons_zero, List.set_cons_succ]
      refine wpAnyH_take (i := 2) (oi := { dst := some 19, op := Op.move (Operand.tmp 8), type := 3, pos := "outright.go:94", after := #[], guard := none }) (v := ?_) rfl (by kernel_rfl) (by kernel_rfl) (by kernel_rfl) (fun _ _ _ h => h) (Or.inl ⟨by rfl, ?_⟩) (by assumption) ?_
      rotate_left
      · (intro w hSw; obtain ⟨⟨_, s0, s1, s2⟩, ⟨_, s3, s4⟩⟩ := hSw; go_simp <;> with_reducible rfl)
      try simp only [Act.put, List.setIfInBounds_toArray, List.set_cons_zero, List.set_cons_succ]
      refine wpAnyH_take (i := 3) (oi := { dst := some 20, op := Op.fieldAddr 26 (Operand.tmp 4) 1, type := 0, pos := "outright.go:94", after := #[], guard := none }) (v := ?_) rfl (by kernel_rfl) (by kernel_rfl) (by kernel_rfl) (fun _ _ _ h => h) (Or.inl ⟨by rfl, ?_⟩) (by assumption) ?_
      rotate_left
      · (intro w hSw; obtain ⟨⟨_, s0, s1, s2⟩, ⟨_, s3, s4⟩⟩ := hSw; go_simp <;> with_reducible rfl)
      try simp only [Act.put, List.setIfInBounds_toArray, List.set_cons_zero, List.set_cons_succ]
      refine wpAnyH_take (i := 4) (oi := { dst := some 21, op := Op.load 22 (Operand.tmp 20), type := 22, pos := "outright.go:94", after := #[{ on := 3, ground := Ground.data }], guard := none }) (v := ?_) rfl (by kernel_rfl) (by kernel_rfl) (by kernel_rfl) (fun _ _ _ h => h) (Or.inl ⟨by rfl, ?_⟩) (by assumption) ?_
      rotate_left
      · (intro w hSw; obtain ⟨⟨_, s0, s1, s2⟩, ⟨_, s3, s4⟩⟩ := hSw; go_simp <;> with_reducible rfl)
      try simp only [Act.put, List.setIfInBounds_toArray, List.set_cons_zero, List.set_cons_succ]
      refine wpAnyH_ready (rs := [0, 5]) (by kernel_rfl) (by simp) ?_
      refine AllReadyH.cons (o := { dst := some 17, op := Op.load 106 (Operand.tmp 6), type := 106, pos := "outright.go:94", after := #[], guard := none }) rfl (fun K hK => ?_) (AllReadyH.cons (o := { dst := some 22, op := Op.call { callee := Callee.value (Operand.func 47), args := #[Operand.tmp 18, Operand.tmp 19, Operand.tmp 21], argTypes := #[24, 3, 22] }, type := 35, pos := "outright.go:94", after := #[{ on := 1, ground := Ground.data }, { on := 2, ground := Ground.data }, { on := 4, ground := Ground.data }], guard := none }) rfl (fun K hK => ?_) (AllReadyH.nil))
      · have c1 := cell_of1 (heap_fut HB5.out (Fut.rfl))
        go_simp
        clear c1
        refine hK.out _ _ ?_ (fun hHeld => ?_)
        · exact keep _ (Fut.rfl)
        clear hK K
        try simp only [Act.put, List.setIfInBounds_toArray, List.set_cons_zero, List.set_cons_succ]
        refine wpAnyH_ready (rs := [5]) (by kernel_rfl) (by simp) ?_
        refine AllReadyH.cons (o := { dst := some 22, op := Op.call { callee := Callee.value (Operand.func 47), args := #[Operand.tmp 18, Operand.tmp 19, Operand.tmp 21], argTypes := #[24, 3, 22] }, type := 35, pos := "outright.go:94", after := #[{ on := 1, ground := Ground.data }, { on := 2, ground := Ground.data }, { on := 4, ground := Ground.data }], guard := none }) rfl (fun K hK => ?_) AllReadyH.nil
        go_simp
        go_at_call 47
        refine (HWY.out i u0 hil (HFW.out.trans (Fut.rfl))).mono ?_
        rintro _ v5 ⟨x5, rfl, hO5, T5⟩
        have G5 : Hid (Fut u0 v5) := Lib.hid ((Fut.rfl).trans T5)
        have O5 : Hid (OwnL v5 (Br + 1) x5 (rw1 (nth Y i))) := Lib.hid (hO5.base (Nat.le_trans HU0.out (RowKit.Below.size (Fut.rfl))))
        clear hO5 T5
        obtain ⟨l5, c5, e5, _, _, _⟩ := O5.out.listsC
        subst e5
        try go_wp2_with fail
        refine hK.out _ _ ?_ (fun hHeld => ?_)
        · exact keep _ G5.out
        clear hK K
        try simp only [Act.put, List.setIfInBounds_toArray, List.set_cons_zero, List.set_cons_succ]
        refine wpAnyH_ready (rs := [6]) (by kernel_rfl) (by simp) ?_
        refine AllReadyH.cons (o := { dst := some 23, op := Op.buildSlice 106 1 #[(0, Operand.tmp 22)], type := 106, pos := "outright.go:94", after := #[{ on := 5, ground := Ground.data }], guard := none }) rfl (fun K hK => ?_) AllReadyH.nil
        go_simp
        obtain ⟨v6, hv6⟩ : ∃ W, W = v5.alloc (.cells #[(.slice l5 (rw1 (nth Y i)).length c5)] 35) := ⟨_, rfl⟩
        have T6 : Hid (Fut v5 v6) := Lib.hid (by rw [hv6]; exact Fut.alloc _ _)
        have G6 : Hid (Fut u0 v6) := Lib.hid ((G5.out).trans T6.out)
        have N6 : Hid (v6.cell? ⟨v5.heap.size, 0, none⟩ = some (.slice l5 (rw1 (nth Y i)).length c5)) := Lib.hid (by rw [hv6]; exact cell_new _ _ _)
        obtain ⟨s6, hs6⟩ : ∃ s, s = v5.heap.size := ⟨_, rfl⟩
        rw [← hv6]
        rw [← hs6] at N6 ⊢
        clear hv6 hs6
        refine hK.out _ _ ?_ (fun hHeld => ?_)
        · exact keep _ G6.out
        clear hK K
        try simp only [Act.put, List.setIfInBounds_toArray, List.set_cons_zero, List.set_cons_succ]
        refine wpAnyH_ready (rs := [7]) (by kernel_rfl) (by simp) ?_
        refine AllReadyH.cons (o := { dst := some 24, op := Op.call { callee := Callee.builtin Builtin.append, args := #[Operand.tmp 17, Operand.tmp 23], argTypes := #[106, 106] }, type := 106, pos := "outright.go:94", after := #[{ on := 0, ground := Ground.data }, { on := 6, ground := Ground.data }, { on := 5, ground := Ground.chain }], guard := none }) rfl (fun K hK => ?_) AllReadyH.nil
        obtain ⟨vals, hrow, hvl, hel⟩ := HX5.out.fut (G6.out)
        rw [HLN.out] at hrow hvl hel
        refine step_append_src rfl _ _ 106 rfl (Br + 1) 35 i2 (.slice none 0 0) 24 Try.underlying106 hi2 hx0 hx1 hx2 rfl (.slice oa i oc) i vals rfl hrow _ 1 [(.slice l5 (rw1 (nth Y i)).length c5)] rfl (.inr ⟨⟨s6, 0, none⟩, 1, rfl, rfl, one_cell (cell_at N6.out (Fut.rfl)), ?_⟩) ?_ ?_ ?_ ?_
        · intro u hu
          rw [List.mem_singleton.1 hu]; rfl
        · have := HY3.out.1; unfold maxLen; omega
        · have := HY3.out.1; omega
        · exact Nat.le_trans HU0.out (RowKit.Below.size (G6.out))
        intro av7 ac7 v7 hown hgr
        have X7 : Hid (OwnLL v7 (Br + 1) (.slice av7 (i + 1) ac7) ((Y.take (i + 1)).map rw1)) := Lib.hid (by rw [HMT.out i hil]; exact OwnLL.add hrow (by rw [HLN.out]; exact hvl) HLN.out (by rw [HLN.out]; exact hel) (O5.out.fut (T6.out)) hown hgr)
        have B7 : Hid (RowKit.Below (Br + 1) u0 v7) := Lib.hid (RowKit.Below.grown (RowKit.Below.mono (G6.out) HU0.out) hgr (Nat.le_trans HU0.out (RowKit.Below.size (G6.out))) fun q hq => (World.ownsRow.lt hrow q hq).1)
        clear hown hgr hrow hvl hel
        refine hK.out _ _ ?_ (fun hHeld => ?_)
        · exact keep2 _ B7.out
        clear hK K
        try simp only [Act.put, List.setIfInBounds_toArray, List.set_cons_zero, List.set_cons_succ]
        refine wpAnyH_ready (rs := [8]) (by kernel_rfl) (by simp) ?_
        refine AllReadyH.cons (o := { dst := none, op := Op.store 106 (Operand.tmp 6) (Operand.tmp 24), type := 0, pos := "outright.go:94", after := #[{ on := 7, ground := Ground.data }, { on := 7, ground := Ground.chain }, { on := 0, ground := Ground.phase }, { on := 1, ground := Ground.phase }, { on := 2, ground := Ground.phase }, { on := 3, ground := Ground.phase }, { on := 4, ground := Ground.phase }, { on := 5, ground := Ground.phase }, { on := 6, ground := Ground.phase }, { on := 7, ground := Ground.phase }], guard := none }) rfl (fun K hK => ?_) AllReadyH.nil
        have c1 := cell_of1 (below_heap HB5.out B7.out (Nat.lt_succ_self _))
        have f1 := froz_of1 (below_heap HB5.out B7.out (Nat.lt_succ_self _))
        have k1 := set_of1 (.slice av7 (i + 1) ac7) (below_heap HB5.out B7.out (Nat.lt_succ_self _))
        have kB : Hid (But (fun q => q = Br) w4 (v7.setCell ⟨Br, 0, none⟩ (.slice av7 (i + 1) ac7))) := Lib.hid ((but_below HBu.out B7.out HSZ.out).setCell (.inl rfl) _)
        have kX := Lib.hid (X7.out.low (Nat.lt_succ_self Br) (set_grown v7 Br 0 (.slice av7 (i + 1) ac7)))
        have k1 := Lib.hid k1
        go_simp
        clear c1 f1
        refine hK.out _ _ ?_ (fun hHeld => ?_)
        · exact keep3 _ kB.out
        clear hK K
        try simp only [Act.put, List.setIfInBounds_toArray, List.set_cons_zero, List.set_cons_succ]
        refine wpAnyH_done (by kernel_rfl) ?_ _
        go_wp2_with fail
        go_roundw
        case rel => first
          | exact ⟨i + 1, av7, ac7, by omega, by go_num, k1, kX, kB⟩
          | ((repeat apply Exists.intro); exact ⟨⟨i + 1, av7, ac7, by omega, by go_num, k1, kX, kB⟩, rfl⟩)
        case measure => simp [intOf]; omega
      · go_simp
        go_at_call 47
        refine (HWY.out i u0 hil (HFW.out.trans (Fut.rfl))).mono ?_
        rintro _ v5 ⟨x5, rfl, hO5, T5⟩
        have G5 : Hid (Fut u0 v5) := Lib.hid ((Fut.rfl).trans T5)
        have O5 : Hid (OwnL v5 (Br + 1) x5 (rw1 (nth Y i))) := Lib.hid (hO5.base (Nat.le_trans HU0.out (RowKit.Below.size (Fut.rfl))))
        clear hO5 T5
        obtain ⟨l5, c5, e5, _, _, _⟩ := O5.out.listsC
        subst e5
        try go_wp2_with fail
        refine hK.out _ _ ?_ (fun hHeld => ?_)
        · exact keep _ G5.out
        clear hK K
        try simp only [Act.put, List.setIfInBounds_toArray, List.set_cons_zero, List.set_cons_succ]
        refine wpAnyH_ready (rs := [0, 6]) (by kernel_rfl) (by simp) ?_
        refine AllReadyH.cons (o := { dst := some 17, op := Op.load 106 (Operand.tmp 6), type := 106, pos := "outright.go:94", after := #[], guard := none }) rfl (fun K hK => ?_) (AllReadyH.cons (o := { dst := some 23, op := Op.buildSlice 106 1 #[(0, Operand.tmp 22)], type := 106, pos := "outright.go:94", after := #[{ on := 5, ground := Ground.data }], guard := none }) rfl (fun K hK => ?_) (AllReadyH.nil))
        · have c1 := cell_of1 (heap_fut HB5.out (G5.out))
          go_simp
          clear c1
          refine hK.out _ _ ?_ (fun hHeld => ?_)
          · exact keep _ (G5.out)
          clear hK K
          try simp only [Act.put, List.setIfInBounds_toArray, List.set_cons_zero, List.set_cons_succ]
          refine wpAnyH_ready (rs := [6]) (by kernel_rfl) (by simp) ?_
          refine AllReadyH.cons (o := { dst := some 23, op := Op.buildSlice 106 1 #[(0, Operand.tmp 22)], type := 106, pos := "outright.go:94", after := #[{ on := 5, ground := Ground.data }], guard := none }) rfl (fun K hK => ?_) AllReadyH.nil
          go_simp
          obtain ⟨v6, hv6⟩ : ∃ W, W = v5.alloc (.cells #[(.slice l5 (rw1 (nth Y i)).length c5)] 35) := ⟨_, rfl⟩
          have T6 : Hid (Fut v5 v6) := Lib.hid (by rw [hv6]; exact Fut.alloc _ _)
          have G6 : Hid (Fut u0 v6) := Lib.hid ((G5.out).trans T6.out)
          have N6 : Hid (v6.cell? ⟨v5.heap.size, 0, none⟩ = some (.slice l5 (rw1 (nth Y i)).length c5)) := Lib.hid (by rw [hv6]; exact cell_new _ _ _)
          obtain ⟨s6, hs6⟩ : ∃ s, s = v5.heap.size := ⟨_, rfl⟩
          rw [← hv6]
          rw [← hs6] at N6 ⊢
          clear hv6 hs6
          refine hK.out _ _ ?_ (fun hHeld => ?_)
          · exact keep _ G6.out
          clear hK K
          try simp only [Act.put, List.setIfInBounds_toArray, List.set_cons_zero, List.set_cons_succ]
          refine wpAnyH_ready (rs := [7]) (by kernel_rfl) (by simp) ?_
          refine AllReadyH.cons (o := { dst := some 24, op := Op.call { callee := Callee.builtin Builtin.append, args := #[Operand.tmp 17, Operand.tmp 23], argTypes := #[106, 106] }, type := 106, pos := "outright.go:94", after := #[{ on := 0, ground := Ground.data }, { on := 6, ground := Ground.data }, { on := 5, ground := Ground.chain }], guard := none }) rfl (fun K hK => ?_) AllReadyH.nil
          obtain ⟨vals, hrow, hvl, hel⟩ := HX5.out.fut (G6.out)
          rw [HLN.out] at hrow hvl hel
          refine step_append_src rfl _ _ 106 rfl (Br + 1) 35 i2 (.slice none 0 0) 24 Try.underlying106 hi2 hx0 hx1 hx2 rfl (.slice oa i oc) i vals rfl hrow _ 1 [(.slice l5 (rw1 (nth Y i)).length c5)] rfl (.inr ⟨⟨s6, 0, none⟩, 1, rfl, rfl, one_cell (cell_at N6.out (Fut.rfl)), ?_⟩) ?_ ?_ ?_ ?_
          · intro u hu
            rw [List.mem_singleton.1 hu]; rfl
          · have := HY3.out.1; unfold maxLen; omega
          · have := HY3.out.1; omega
          · exact Nat.le_trans HU0.out (RowKit.Below.size (G6.out))
          intro av7 ac7 v7 hown hgr
          have X7 : Hid (OwnLL v7 (Br + 1) (.slice av7 (i + 1) ac7) ((Y.take (i + 1)).map rw1)) := Lib.hid (by rw [HMT.out i hil]; exact OwnLL.add hrow (by rw [HLN.out]; exact hvl) HLN.out (by rw [HLN.out]; exact hel) (O5.out.fut (T6.out)) hown hgr)
          have B7 : Hid (RowKit.Below (Br + 1) u0 v7) := Lib.hid (RowKit.Below.grown (RowKit.Below.mono (G6.out) HU0.out) hgr (Nat.le_trans HU0.out (RowKit.Below.size (G6.out))) fun q hq => (World.ownsRow.lt hrow q hq).1)
          clear hown hgr hrow hvl hel
          refine hK.out _ _ ?_ (fun hHeld => ?_)
          · exact keep2 _ B7.out
          clear hK K
          try simp only [Act.put, List.setIfInBounds_toArray, List.set_cons_zero, List.set_cons_succ]
          refine wpAnyH_ready (rs := [8]) (by kernel_rfl) (by simp) ?_
          refine AllReadyH.cons (o := { dst := none, op := Op.store 106 (Operand.tmp 6) (Operand.tmp 24), type := 0, pos := "outright.go:94", after := #[{ on := 7, ground := Ground.data }, { on := 7, ground := Ground.chain }, { on := 0, ground := Ground.phase }, { on := 1, ground := Ground.phase }, { on := 2, ground := Ground.phase }, { on := 3, ground := Ground.phase }, { on := 4, ground := Ground.phase }, { on := 5, ground := Ground.phase }, { on := 6, ground := Ground.phase }, { on := 7, ground := Ground.phase }], guard := none }) rfl (fun K hK => ?_) AllReadyH.nil
          have c1 := cell_of1 (below_heap HB5.out B7.out (Nat.lt_succ_self _))
          have f1 := froz_of1 (below_heap HB5.out B7.out (Nat.lt_succ_self _))
          have k1 := set_of1 (.slice av7 (i + 1) ac7) (below_heap HB5.out B7.out (Nat.lt_succ_self _))
          have kB : Hid (But (fun q => q = Br) w4 (v7.setCell ⟨Br, 0, none⟩ (.slice av7 (i + 1) ac7))) := Lib.hid ((but_below HBu.out B7.out HSZ.out).setCell (.inl rfl) _)
          have kX := Lib.hid (X7.out.low (Nat.lt_succ_self Br) (set_grown v7 Br 0 (.slice av7 (i + 1) ac7)))
          have k1 := Lib.hid k1
          go_simp
          clear c1 f1
          refine hK.out _ _ ?_ (fun hHeld => ?_)
          · exact keep3 _ kB.out
          clear hK K
          try simp only [Act.put, List.setIfInBounds_toArray, List.set_cons_zero, List.set_cons_succ]
          refine wpAnyH_done (by kernel_rfl) ?_ _
          go_wp2_with fail
          go_roundw
          case rel => first
            | exact ⟨i + 1, av7, ac7, by omega, by go_num, k1, kX, kB⟩
            | ((repeat apply Exists.intro); exact ⟨⟨i + 1, av7, ac7, by omega, by go_num, k1, kX, kB⟩, rfl⟩)
          case measure => simp [intOf]; omega
        · go_simp
          obtain ⟨v6, hv6⟩ : ∃ W, W = v5.alloc (.cells #[(.slice l5 (rw1 (nth Y i)).length c5)] 35) := ⟨_, rfl⟩
          have T6 : Hid (Fut v5 v6) := Lib.hid (by rw [hv6]; exact Fut.alloc _ _)
          have G6 : Hid (Fut u0 v6) := Lib.hid ((G5.out).trans T6.out)
          have N6 : Hid (v6.cell? ⟨v5.heap.size, 0, none⟩ = some (.slice l5 (rw1 (nth Y i)).length c5)) := Lib.hid (by rw [hv6]; exact cell_new _ _ _)
          obtain ⟨s6, hs6⟩ : ∃ s, s = v5.heap.size := ⟨_, rfl⟩
          rw [← hv6]
          rw [← hs6] at N6 ⊢
          clear hv6 hs6
          refine hK.out _ _ ?_ (fun hHeld => ?_)
          · exact keep _ G6.out
          clear hK K
          try simp only [Act.put, List.setIfInBounds_toArray, List.set_cons_zero, List.set_cons_succ]
          refine wpAnyH_ready (rs := [0]) (by kernel_rfl) (by simp) ?_
          refine AllReadyH.cons (o := { dst := some 17, op := Op.load 106 (Operand.tmp 6), type := 106, pos := "outright.go:94", after := #[], guard := none }) rfl (fun K hK => ?_) AllReadyH.nil
          have c1 := cell_of1 (heap_fut HB5.out (G6.out))
          go_simp
          clear c1
          refine hK.out _ _ ?_ (fun hHeld => ?_)
          · exact keep _ (G6.out)
          clear hK K
          try simp only [Act.put, List.setIfInBounds_toArray, List.set_cons_zero, List.set_cons_succ]
          refine wpAnyH_ready (rs := [7]) (by kernel_rfl) (by simp) ?_
          refine AllReadyH.cons (o := { dst := some 24, op := Op.call { callee := Callee.builtin Builtin.append, args := #[Operand.tmp 17, Operand.tmp 23], argTypes := #[106, 106] }, type := 106, pos := "outright.go:94", after := #[{ on := 0, ground := Ground.data }, { on := 6, ground := Ground.data }, { on := 5, ground := Ground.chain }], guard := none }) rfl (fun K hK => ?_) AllReadyH.nil
          obtain ⟨vals, hrow, hvl, hel⟩ := HX5.out.fut (G6.out)
          rw [HLN.out] at hrow hvl hel
          refine step_append_src rfl _ _ 106 rfl (Br + 1) 35 i2 (.slice none 0 0) 24 Try.underlying106 hi2 hx0 hx1 hx2 rfl (.slice oa i oc) i vals rfl hrow _ 1 [(.slice l5 (rw1 (nth Y i)).length c5)] rfl (.inr ⟨⟨s6, 0, none⟩, 1, rfl, rfl, one_cell (cell_at N6.out (Fut.rfl)), ?_⟩) ?_ ?_ ?_ ?_
          · intro u hu
            rw [List.mem_singleton.1 hu]; rfl
          · have := HY3.out.1; unfold maxLen; omega
          · have := HY3.out.1; omega
          · exact Nat.le_trans HU0.out (RowKit.Below.size (G6.out))
          intro av7 ac7 v7 hown hgr
          have X7 : Hid (OwnLL v7 (Br + 1) (.slice av7 (i + 1) ac7) ((Y.take (i + 1)).map rw1)) := Lib.hid (by rw [HMT.out i hil]; exact OwnLL.add hrow (by rw [HLN.out]; exact hvl) HLN.out (by rw [HLN.out]; exact hel) (O5.out.fut (T6.out)) hown hgr)
          have B7 : Hid (RowKit.Below (Br + 1) u0 v7) := Lib.hid (RowKit.Below.grown (RowKit.Below.mono (G6.out) HU0.out) hgr (Nat.le_trans HU0.out (RowKit.Below.size (G6.out))) fun q hq => (World.ownsRow.lt hrow q hq).1)
          clear hown hgr hrow hvl hel
          refine hK.out _ _ ?_ (fun hHeld => ?_)
          · exact keep2 _ B7.out
          clear hK K
          try simp only [Act.put, List.setIfInBounds_toArray, List.set_cons_zero, List.set_cons_succ]
          refine wpAnyH_ready (rs := [8]) (by kernel_rfl) (by simp) ?_
          refine AllReadyH.cons (o := { dst := none, op := Op.store 106 (Operand.tmp 6) (Operand.tmp 24), type := 0, pos := "outright.go:94", after := #[{ on := 7, ground := Ground.data }, { on := 7, ground := Ground.chain }, { on := 0, ground := Ground.phase }, { on := 1, ground := Ground.phase }, { on := 2, ground := Ground.phase }, { on := 3, ground := Ground.phase }, { on := 4, ground := Ground.phase }, { on := 5, ground := Ground.phase }, { on := 6, ground := Ground.phase }, { on := 7, ground := Ground.phase }], guard := none }) rfl (fun K hK => ?_) AllReadyH.nil
          have c1 := cell_of1 (below_heap HB5.out B7.out (Nat.lt_succ_self _))
          have f1 := froz_of1 (below_heap HB5.out B7.out (Nat.lt_succ_self _))
          have k1 := set_of1 (.slice av7 (i + 1) ac7) (below_heap HB5.out B7.out (Nat.lt_succ_self _))
          have kB : Hid (But (fun q => q = Br) w4 (v7.setCell ⟨Br, 0, none⟩ (.slice av7 (i + 1) ac7))) := Lib.hid ((but_below HBu.out B7.out HSZ.out).setCell (.inl rfl) _)
          have kX := Lib.hid (X7.out.low (Nat.lt_succ_self Br) (set_grown v7 Br 0 (.slice av7 (i + 1) ac7)))
          have k1 := Lib.hid k1
          go_simp
          clear c1 f1
          refine hK.out _ _ ?_ (fun hHeld => ?_)
          · exact keep3 _ kB.out
          clear hK K
          try simp only [Act.put, List.setIfInBounds_toArray, List.set_cons_zero, List.set_cons_succ]
          refine wpAnyH_done (by kernel_rfl) ?_ _
          go_wp2_with fail
          go_roundw
          case rel => first
            | exact ⟨i + 1, av7, ac7, by omega, by go_num, k1, kX, kB⟩
            | ((repeat apply Exists.intro); exact ⟨⟨i + 1, av7, ac7, by omega, by go_num, k1, kX, kB⟩, rfl⟩)
          case measure => simp [intOf]; omega
    · obtain rfl : i = Y.length := by omega
      have c0 := cell_of1 HBRi.out
      go_wp2_with fail
      obtain ⟨Bg, hBg⟩ : ∃ g, g = wr.heap.size := ⟨_, rfl⟩
      rw [← hBg]
      obtain ⟨w5, hw5⟩ : ∃ W, W = wr.alloc (.cells #[.func (.func 99) #[] #[.pointer (some ⟨Br, 0, none⟩), .pointer (some ⟨Bf, 0, none⟩), .pointer (some ⟨Bx, 0, none⟩), .pointer (some ⟨Bg, 0, none⟩)]] 124) := ⟨_, rfl⟩
      rw [← hw5]
      have F5 : Fut wr w5 := by rw [hw5]; exact Fut.alloc _ _
      have HF5 : Hid (Fut w w5) := Lib.hid (HFi.out.trans F5)
      have hBG : w5.heap[Bg]? = some (.cells #[.func (.func 99) #[] #[.pointer (some ⟨Br, 0, none⟩), .pointer (some ⟨Bf, 0, none⟩), .pointer (some ⟨Bx, 0, none⟩), .pointer (some ⟨Bg, 0, none⟩)]] 124) := by
        rw [hw5]
        have := World.alloc_heap_new wr (.cells #[.func (.func 99) #[] #[.pointer (some ⟨Br, 0, none⟩), .pointer (some ⟨Bf, 0, none⟩), .pointer (some ⟨Bx, 0, none⟩), .pointer (some ⟨Bg, 0, none⟩)]] 124)
        rwa [← hBg] at this
      have hZ : ∀ q, Zc B1 B2 B3 q → q < w.heap.size := fun q hq => by
        have g1 := (Array.getElem?_eq_some_iff.1 HI.out.s).1
        have g2 := (Array.getElem?_eq_some_iff.1 HI.out.n).1
        obtain ⟨_, _, h3, _⟩ := HI.out.f
        have g3 := (Array.getElem?_eq_some_iff.1 h3).1
        rcases hq with rfl | rfl | rfl <;> assumption
      have hgw : w.heap.size ≤ Bg := by rw [hBg]; exact RowKit.Below.size HFi.out
      have hRL : (Y.map rw1).length = Y.length := List.length_map _
      have hX := HXi.out
      rw [HME.out] at hX
      obtain ⟨ra, rcp, er, hRZ⟩ := RowsZ.own (hX.fut F5) (Z := Zc B1 B2 B3) (fun q hq => by have := hZ q hq; have := HLT.out; omega)
      rw [hRL] at er
      simp only [Value.slice.injEq, true_and] at er
      obtain ⟨rfl, rfl⟩ := er
      have hE : GfE (Zc B1 B2 B3) B1 B2 B3 Br Bf Bx Bg (Y.map rw1) oa oc ya Y.length yc ta tc T w5 := by
        refine ⟨fun W b => ?_, fun W b => ?_, fun W b => ?_, fun W b => ?_, fun W b => HTZ.out W ((But.of_below HF5.out).trans b), hRZ⟩
        · rw [hRL]
          exact but_heap (heap_fut HBRi.out F5) b (fun hq => by have := hZ _ hq; have := HLT.out; omega)
        · exact but_heap (heap_fut (but_heap HBF.out HBi.out (by have := HLT.out; omega)) F5) b (fun hq => by have := hZ _ hq; have := HLT.out; omega)
        · exact but_heap (heap_fut (but_heap HBX.out HBi.out (by have := HLT.out; omega)) F5) b (fun hq => by have := hZ _ hq; have := HLT.out; omega)
        · exact but_heap hBG b (fun hq => by have := hZ _ hq; omega)
      have hgo := gofam_any HN.out.1 HN.out.2.1 HN.out.2.2 (by rw [hRL]; exact HY3.out.1) HY3.out.2 HRL.out Y.length [] [] none 0 none 0 w5 (by rw [hRL]; simp) (fun l hl => by cases hl) (HI.out.fut HF5.out) (by have := HGL.out; simp only [List.length_nil, List.drop_zero]; omega) hE (FamZ.nil _ _) (.inl ⟨rfl, rfl, rfl⟩)
      have h2 : Calls Try.prog 99 #[.slice none 0 0, .slice none 0 0, .int .u32 0, .pointer (some ⟨Br, 0, none⟩), .pointer (some ⟨Bf, 0, none⟩), .pointer (some ⟨Bx, 0, none⟩), .pointer (some ⟨Bg, 0, none⟩)] w5 fun e w' => e = .returned (.tuple #[]) ∧ But (Zc B1 B2 B3) w5 w' ∧ GsI B1 B2 B3 T (gfL (Y.map rw1) []) w' := hgo
      have H2 := Lib.hid h2
      clear h2 hgo hE hRZ hX hBG hZ hw5 F5 c0 hRL hgw HBRi HXi HBi
      refine H2.out.mono ?_
      rintro _ w6 ⟨rfl, hB6, hG6⟩
      have HB6 : Hid (But (Zc B1 B2 B3) w w6) := Lib.hid ((But.of_below HF5.out).trans hB6)
      have HG6 := Lib.hid hG6
      clear hB6 hG6 H2
      go_wp2_with fail
      refine bodyPost_end (results_none rfl _ _ _) rfl ?_
      exact ⟨rfl, HB6.out, HG6.out⟩
end Go.Proofs.Ytflllkamdihfaaa
