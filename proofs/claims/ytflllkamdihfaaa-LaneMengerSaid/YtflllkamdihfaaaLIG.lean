/- LaneMenger: law8_any -/
import Derived.Test.YtflllkamdihfaaaLIF
import Derived.Test.YtflllkamdihfaaaLNC
import Derived.Test.YtflllkamdihfaaaLHG
import Derived.Test.YtflllkamdihfaaaLEC
import Derived.Test.YtflllkamdihfaaaLBJ
import Derived.Test.YtflllkamdihfaaaLGH
import Derived.Test.YtflllkamdihfaaaLGC
import Derived.Test.YtflllkamdihfaaaLGE
import Derived.Test.YtflllkamdihfaaaLNE
import Derived.Deep.DeepCutAuto
import Derived.Deep.CutBlock
import Derived.Deep.QuietTactic
import Derived.BigQuiet
namespace Go.Proofs.Ytflllkamdihfaaa
open Go.RowKit Go.Sort
theorem info76 : (Try.prog.info? 76).map (fun i => (i.zero, i.size, i.bytes)) = some (some (.int .u32 0), 1, 4) := by kernel_rfl
/-- sets in a row of one's own. -/
def OwnU (w : World) (B : Nat) (v : Value) (us : List Nat) : Prop := w.ownsRow B 76 1 v us.length (us.map fun n => Value.int .u32 (n : Nat))
theorem OwnU.fut {w w' : World} {B : Nat} {v : Value} {us : List Nat} (h : OwnU w B v us) (F : Fut w w') : OwnU w' B v us := row_fut h F
theorem OwnL.keptU {w w' : World} {B B' : Nat} {v u : Value} {L : List (List Int)} {n : Nat} {xs : List Value} (h : OwnL w B v L) (hu : w.ownsRow B' 76 1 u n xs) (g : w.grownBy w' u.ownBlock) : OwnL w' B v L := by
  obtain ⟨vals, h1, h2⟩ := h
  refine ⟨vals, World.ownsRow.kept h1 g (row_apart (by decide) h1 hu), h2.1, fun j hj => ?_⟩
  obtain ⟨a, e, ha⟩ := h2.2 j hj
  exact ⟨a, e, World.ownsRow.kept ha g (row_apart (by decide) ha hu)⟩
theorem OwnU.low {w w' : World} {B g : Nat} {v : Value} {us : List Nat} (h : OwnU w B v us) (hg : g < B) (G : w.grownBy w' (some g)) : OwnU w' B v us :=
  World.ownsRow.kept h G (.inr fun e => by have := (World.ownsRow.lt h g e).1; omega)
theorem OwnU.at {w : World} {B n : Nat} {aa : Option Addr} {ac : Nat} {us : List Nat} (h : OwnU w B (.slice aa n ac) us) : UAt w aa us := fun k hk => by
  obtain ⟨g, c, e, _⟩ := World.ownsRow.form h (by omega)
  simp only [Value.slice.injEq] at e
  obtain ⟨rfl, rfl, rfl⟩ := e
  refine ⟨g, rfl, (World.ownsRow.lt h g rfl).2, ?_⟩
  rw [World.ownsRow.cellAt h k (by omega), List.getElem?_map]
  unfold unt
  rw [List.getElem?_eq_getElem hk]; rfl
theorem size_set (w : World) (p : Addr) (u : Value) : (w.setCell p u).heap.size = w.heap.size := by simp only [World.setCell, Array.size_modify]
theorem fut_set {a w : World} (h : Fut a w) {B : Nat} (hB : a.heap.size ≤ B) (u : Value) : Fut a (w.setCell ⟨B, 0, none⟩ u) := RowKit.Below.setCell (p := ⟨B, 0, none⟩) h hB u
theorem ints_heap1 {w : World} {b : Nat} {x : Int} (h : w.heap[b]? = some (.cells #[.int .i64 x] 3)) : IntsAt w (some ⟨b, 0, none⟩) [x] := fun j hj => by
  obtain rfl : j = 0 := by simp at hj; exact hj
  exact ⟨b, 0, rfl, (Array.getElem?_eq_some_iff.1 h).1, cell_of1 h⟩
theorem ints_heap2 {w : World} {b : Nat} {x y : Int} (h : w.heap[b]? = some (.cells #[.int .i64 x, .int .i64 y] 3)) : IntsAt w (some ⟨b, 0, none⟩) [x, y] := fun j hj => by
  have hs := (Array.getElem?_eq_some_iff.1 h).1
  obtain ⟨h0, h1, _, _⟩ := two_cell h
  rcases (by simp at hj; omega : j = 0 ∨ j = 1) with rfl | rfl
  · exact ⟨b, 0, rfl, hs, h0⟩
  · exact ⟨b, 0, rfl, hs, h1⟩
theorem OwnL.lowB {w w' : World} {B g : Nat} {v : Value} {L : List (List Int)} (h : OwnL w B v L) (hg : g < B) (G : w.grownBy w' (some g)) : OwnL w' B v L := by
  obtain ⟨vals, h1, h2⟩ := h
  exact ⟨vals, World.ownsRow.kept h1 G (.inr fun e => by have := (World.ownsRow.lt h1 g e).1; omega), h2.1, fun j hj => by
    obtain ⟨a, e, ha⟩ := h2.2 j hj
    exact ⟨a, e, ha.kept G (own_ge ha hg)⟩⟩
set_option maxRecDepth 100000 in
set_option maxHeartbeats 16000000 in
theorem law8_any (t : Nat → Nat) (ht : t 3 ≤ 65535 ∧ ∀ j, j ≠ 3 → t j ≤ 255) (w : World) :
    Calls Try.prog 8 #[planV t] w fun e w' => e = .returned (.bool true) ∧ Fut w w' := by
  have HMD := Lib.hid (fun W => made_any t ht W)
  have HF0 : Hid (Fut w (w.alloc (.cells #[.int .u8 (t 0 : Nat), .int .u8 (t 1 : Nat), .int .u8 (t 2 : Nat), .int .u16 (t 3 : Nat), .int .u8 (t 4 : Nat), .int .u8 (t 5 : Nat), .int .u8 (t 6 : Nat), .int .u8 (t 7 : Nat), .int .u8 (t 8 : Nat), .int .u8 (t 9 : Nat)] 63))) := Lib.hid (Fut.alloc _ _)
  have HPL0 := Lib.hid (BoxPl.new w t)
  have HTT := Lib.hid ht
  unfold planV at *
  go_enter Try.func8, Try.ntmps8
  go_wp2_with fail
  refine (HMD.out _).mono ?_
  rintro _ w1 ⟨sa, sc, ya, yc, ta, tc, rfl, hS, hY, hT, F1⟩
  have HF1 := Lib.hid (HF0.out.trans F1)
  have hA : Fut w1 ((w1.alloc (.cells #[.int .i64 (mR t : Nat), .int .i64 (mC t : Nat), .slice sa (mS t).length sc] 24)).alloc (.cells #[.slice ya (mY t).length yc, .slice ta (mT t).length tc] 26)) := (Fut.alloc _ _).trans (Fut.alloc _ _)
  have hBP := (BoxP.new w1 (mR t : Nat) (mC t : Nat) sa (mS t).length sc).fut (Fut.alloc _ (.cells #[.slice ya (mY t).length yc, .slice ta (mT t).length tc] 26))
  have hBQ := BoxQ.new (w1.alloc (.cells #[.int .i64 (mR t : Nat), .int .i64 (mC t : Nat), .slice sa (mS t).length sc] 24)) ya (mY t).length yc ta (mT t).length tc
  rw [World.size_alloc] at hBQ
  have HF2 := Lib.hid (HF1.out.trans hA)
  have HPL := Lib.hid ((HPL0.out.fut F1).fut hA)
  have HBP := Lib.hid hBP
  have HBQ := Lib.hid hBQ
  have hS2 := hS.fut hA
  have hY2 := hY.fut hA
  have hT2 := hT.fut hA
  have HQC : Hid (_ ∧ t 2 ≤ 255) := Lib.hid ⟨HPL.out.c2, HTT.out.2 2 (by omega)⟩
  clear HMD HF0 HF1 hBP hBQ hA hS hY hT F1 HPL HPL0 HTT
  cases hok : mOk t
  · clear hS2 hY2 hT2 HBP HBQ hok HQC
    go_wp2_with fail
    refine (works_any _).mono ?_
    rintro _ w3 ⟨rfl, F⟩
    have HF3 := Lib.hid (HF2.out.trans F)
    clear F
    go_wp2_with fail
    go_ret
    exact ⟨rfl, HF3.out⟩
  · have hck := made_chk hok
    have hg := made_g hok
    have hsin := made_sin t
    have hsl : (mS t).length ≤ 16 := Nat.le_trans (shL_len _ _) (by unfold mR mC; exact Nat.mul_le_mul (show 1 + t 0 % 4 ≤ 4 by omega) (show 1 + t 1 % 4 ≤ 4 by omega))
    have h : InPQ _ sa (mS t) ya yc (mY t) ta tc (mT t) := inpq_made hS2 hY2 hT2 (by omega) (by have := hg.three; omega) (by have := hg.three; have := hg.len; omega)
    have HIN := Lib.hid h
    have HCK := Lib.hid hck
    have HGG := Lib.hid hg
    have HS16 := Lib.hid hsl
    clear hS2 hY2 hT2 hok hck hg hsin h hsl
    generalize mR t = r at *
    generalize mC t = c at *
    generalize mS t = S at *
    generalize mY t = Y at *
    generalize mT t = T at *
    obtain ⟨_, p0, p1, p2⟩ := HBP.out
    obtain ⟨_, q0, q1⟩ := HBQ.out
    go_wp2_with fail
    generalize hW2 : (w1.alloc (.cells #[.int .i64 (r : Int), .int .i64 (c : Int), .slice sa S.length sc] 24)).alloc (.cells #[.slice ya Y.length yc, .slice ta T.length tc] 26) = w2 at *
    obtain ⟨i0, hi0, hz0, hz1, hz2⟩ := info_parts info3
    obtain ⟨i6, hi6, hw0, hw1, hw2⟩ := info_parts info76
    obtain ⟨Ba, hBa⟩ : ∃ b, b = w1.heap.size + 1 + 1 := ⟨_, rfl⟩
    rw [← hBa]
    have e2 : w2.heap.size = Ba := by rw [← hW2, World.size_alloc, World.size_alloc, hBa]
    obtain ⟨w3, hw3⟩ : ∃ W, W = w2.alloc (.cells #[.slice none 0 0] 75) := ⟨_, rfl⟩
    rw [← hw3]
    have F3 : Fut w2 w3 := by rw [hw3]; exact Fut.alloc _ _
    have hBA0 : w3.heap[Ba]? = some (.cells #[.slice none 0 0] 75) := by
      have := World.alloc_heap_new w2 (.cells #[.slice none 0 0] 75)
      rw [← hw3, e2] at this
      exact this
    have HBA0 := Lib.hid hBA0
    have HF3 := Lib.hid F3
    have HSZ3 : Hid (w2.heap.size = Ba ∧ w3.heap.size = Ba + 1) := Lib.hid ⟨e2, by rw [hw3, World.size_alloc, e2]⟩
    have HY3 : Hid (Y.length ≤ 3 ∧ T.length ≤ 3) := Lib.hid ⟨HGG.out.three, by have := HGG.out.len; have := HGG.out.three; omega⟩
    have hyx : (Y.length : Int) ≤ 3 := by have := HY3.out.1; omega
    have HUZ := Lib.hid (fun k hk => usT_zero (c : Int) ((r : Int) * (c : Int)) S Y T k hk)
    have HUSs := Lib.hid (fun k s hs => usT_succ (c : Int) ((r : Int) * (c : Int)) S Y T k s hs)
    have HUE := Lib.hid (usT_end (c : Int) ((r : Int) * (c : Int)) S Y T)
    have HULe := Lib.hid (fun k s hk h0 => usT_le HCK.out k s hk h0)
    have HROW : Hid (∀ k, k < Y.length → (lwL (stL (c : Int) ((r : Int) * (c : Int)) S) S T (nth Y k)).length ≤ 100000 ∧ ∀ l ∈ lwL (stL (c : Int) ((r : Int) * (c : Int)) S) S T (nth Y k), 0 < l.length ∧ l.length ≤ 16 ∧ ∀ x ∈ l, 0 ≤ x ∧ x < 16) := Lib.hid (fun k hk => lwL_good HGG.out (nth_mem hk))
    have HWY : Hid (∀ k W, k < Y.length → Fut w2 W → Calls Try.prog 47 #[.agg #[.int .i64 (r : Int), .int .i64 (c : Int), .slice sa S.length sc], .int .i64 (nth Y k), .slice ta T.length tc] W fun e w' => ∃ v, e = .returned v ∧ OwnL w' W.heap.size v (lwL (stL (c : Int) ((r : Int) * (c : Int)) S) S T (nth Y k)) ∧ Fut W w') := Lib.hid (fun k W hk F => by
      have hy := HGG.out.y _ (nth_mem hk)
      exact lways_own (r : Int) (c : Int) _ HGG.out.side sa sc S (nth Y k) ⟨hy.1, hy.2.1⟩ ta tc T W (HIN.out.s.fut F) HIN.out.sl (HIN.out.t.fut F) HIN.out.tl)
    have HX0 : Hid (OwnU w3 (Ba + 1) (.slice none 0 0) []) := Lib.hid (World.ownsRow_nil _ _ _ _)
    have HU00 : Hid ([] = usT (c : Int) ((r : Int) * (c : Int)) S Y T 0 0) := Lib.hid rfl
    clear hBA0 F3 e2 hw3 hBa hW2 p0 p1 p2 q0 q1
    go_loopw [41] (fun iv wr => ∃ (k : Nat) (us : List Nat) (oa : Option Addr) (oc : Nat), k ≤ Y.length ∧ iv = .int .i64 k ∧ Hid (us = usT (c : Int) ((r : Int) * (c : Int)) S Y T k 0) ∧ Hid (wr.heap[Ba]? = some (.cells #[.slice oa us.length oc] 75)) ∧ Hid (OwnU wr (Ba + 1) (.slice oa us.length oc) us) ∧ Hid (But (fun q => q = Ba) w3 wr)) (fun iv _ => Y.length - (intOf iv).toNat)
    case atStart => exact ⟨0, [], none, 0, Nat.zero_le _, rfl, HU00, HBA0, HX0, Lib.hid (But.refl _ _)⟩
    case round =>
      obtain ⟨k, us, oa, oc, hk, rfl, HUk, HBk, HXk, HFk⟩ := hrel
      clear HX0 HU00 HBA0
      have HF2k : Hid (Fut w2 wr) := Lib.hid (RowKit.Below.trans HF3.out (HFk.out.below w2.heap.size (by have := HSZ3.out; omega) (fun q hq => by have := HSZ3.out; omega)))
      by_cases hkl : k < Y.length
      · have hkx : (k : Int) < Y.length := by omega
        obtain ⟨yb, yo, rfl, hyb, cy⟩ := (HIN.out.fut HF2k.out).y k hkl
        obtain ⟨_, p0, p1, p2⟩ := HBP.out.fut HF2k.out
        obtain ⟨_, q0, q1⟩ := HBQ.out.fut HF2k.out
        have HROWk := Lib.hid (HROW.out k hkl)
        have HUS1 := Lib.hid (HUSs.out k)
        have HUZ1 := Lib.hid (HUZ.out k hkl)
        have HWY1 := Lib.hid (fun W F => HWY.out k W hkl F)
        obtain ⟨row, hrow⟩ : ∃ row, row = lwL (stL (c : Int) ((r : Int) * (c : Int)) S) S T (nth Y k) := ⟨_, rfl⟩
        rw [← hrow] at HROWk HUS1 HUZ1 HWY1
        clear hrow
        go_wp2_with fail
        refine (HWY1.out wr HF2k.out).mono ?_
        rintro _ w5 ⟨x5, rfl, hO5, F5⟩
        have HR5 := Lib.hid (hO5.base (show Ba + 1 ≤ wr.heap.size by have := HSZ3.out; have := HFk.out.size; omega))
        obtain ⟨ra, rc, e5, _, _, _⟩ := hO5.listsC
        subst e5
        have HB5 := Lib.hid (heap_fut HBk.out F5)
        have HX5 := Lib.hid (HXk.out.fut F5)
        have HF5 := Lib.hid (HFk.out.trans (But.of_below F5))
        have hrl : (row.length : Int) ≤ 100000 := by have := HROWk.out.1; omega
        clear hO5 F5 HBk HXk HFk HF2k p0 p1 p2 q0 q1 cy hyb
        go_wp2_with fail
        go_loopw [51] (fun iv wr => ∃ (s : Nat) (us : List Nat) (oa : Option Addr) (oc : Nat), s ≤ row.length ∧ iv = .int .i64 s ∧ Hid (us = usT (c : Int) ((r : Int) * (c : Int)) S Y T k s) ∧ Hid (wr.heap[Ba]? = some (.cells #[.slice oa us.length oc] 75)) ∧ Hid (OwnU wr (Ba + 1) (.slice oa us.length oc) us) ∧ Hid (OwnL wr (Ba + 1) (.slice ra row.length rc) row) ∧ Hid (But (fun q => q = Ba) w3 wr)) (fun iv _ => row.length - (intOf iv).toNat)
        case atStart => exact ⟨0, us, oa, oc, Nat.zero_le _, rfl, HUk, HB5, HX5, HR5, HF5⟩
        case round =>
          obtain ⟨s, us, oa, oc, hs, rfl, HUs, HBs, HXs, HRs, HFs⟩ := hrel
          by_cases hsl : s < row.length
          · have hsx : (s : Int) < row.length := by omega
            obtain ⟨l, hl⟩ : ∃ l, l = lth row s := ⟨_, rfl⟩
            have hlm : l ∈ row := by rw [hl, lth_get hsl]; exact List.getElem_mem hsl
            have hlg := HROWk.out.2 l hlm
            have HUS : Hid (usT (c : Int) ((r : Int) * (c : Int)) S Y T k (s + 1) = us ++ [bsN l]) := Lib.hid (by rw [HUS1.out s hsl, ← hl, HUs.out])
            obtain ⟨lx, lcx, e9, _, _, hLC⟩ := HRs.out.listsC
            simp only [Value.slice.injEq, true_and] at e9
            obtain ⟨rfl, rfl⟩ := e9
            obtain ⟨rb, ro, la, lc, rfl, hrb, cl, _, _, hIl⟩ := hLC s hsl
            rw [← hl] at cl hIl
            have FD : Fut wr wr.drew := below_drewN Fut.rfl 1
            have HBI : Hid (∀ W, Fut wr.drew W → Calls Try.prog 50 #[.slice la l.length lc] W fun e w' => e = .returned (.int .u32 (bsN l : Nat)) ∧ W = w') := Lib.hid (fun W F => bits_any la lc l W (hIl.fut (FD.trans F)) (by omega) hlg.2.2)
            have HB5 := Lib.hid (heap_fut HBs.out FD)
            have HU5 := Lib.hid (HXs.out.fut FD)
            have HR5 := Lib.hid (HRs.out.fut FD)
            have HBu : Hid (But (fun q => q = Ba) w3 wr.drew) := Lib.hid (HFs.out.trans (But.of_below FD))
            have HSZ : Hid (w3.heap.size ≤ Ba + 1) := Lib.hid (by have := HSZ3.out; omega)
            have HU0 : Hid (Ba + 1 ≤ wr.drew.heap.size) := Lib.hid (by have := HSZ3.out; have := HBu.out.size; omega)
            have HUL : Hid (us.length ≤ 400000) := Lib.hid (by rw [HUs.out]; exact HULe.out k s hk (fun e => by omega))
            clear hrb hIl hLC FD hlg hlm hl HBs HXs HRs HFs HUs
            go_upto_region 11 with fail
            clear cl
            refine wp_region_held_drew (S := (fun _ => True)) (by kernel_rfl) ?_ (fun hHeld => ?_)
            · exact trivial
            generalize wr.drew = u0 at *
            refine wpAnyH_take (i := 1) (oi := { dst := some 56, op := Op.move (Operand.tmp 10), type := 22, pos := "outright.go:186", after := #[], guard := none }) (v := ?_) rfl (by kernel_rfl) (by kernel_rfl) (by kernel_rfl) (fun _ _ _ h => h) (Or.inl ⟨by rfl, ?_⟩) (by assumption) ?_
            rotate_left
            · (intro w hSw; go_simp <;> with_reducible rfl)
            try simp only [Act.put, List.setIfInBounds_toArray, List.set_cons_zero, List.set_cons_succ]
            refine wpAnyH_ready (rs := [0, 2]) (by kernel_rfl) (by simp) ?_
            refine AllReadyH.cons (o := { dst := some 55, op := Op.load 75 (Operand.tmp 6), type := 75, pos := "outright.go:186", after := #[], guard := none }) rfl (fun K hK => ?_) (AllReadyH.cons (o := { dst := some 57, op := Op.call { callee := Callee.value (Operand.func 50), args := #[Operand.tmp 56], argTypes := #[22] }, type := 76, pos := "outright.go:186", after := #[{ on := 1, ground := Ground.data }], guard := none }) rfl (fun K hK => ?_) (AllReadyH.nil))
            · have c1 := cell_of1 (heap_fut HB5.out (Fut.rfl))
              go_simp
              clear c1
              refine hK.out _ _ ?_ (fun hHeld => ?_)
              · exact trivial
              clear hK K
              try simp only [Act.put, List.setIfInBounds_toArray, List.set_cons_zero, List.set_cons_succ]
              refine wpAnyH_ready (rs := [2]) (by kernel_rfl) (by simp) ?_
              refine AllReadyH.cons (o := { dst := some 57, op := Op.call { callee := Callee.value (Operand.func 50), args := #[Operand.tmp 56], argTypes := #[22] }, type := 76, pos := "outright.go:186", after := #[{ on := 1, ground := Ground.data }], guard := none }) rfl (fun K hK => ?_) AllReadyH.nil
              go_simp
              go_at_call 50
              refine (HBI.out u0 (Fut.rfl)).mono ?_
              rintro _ _ ⟨rfl, rfl⟩
              try go_wp2_with fail
              refine hK.out _ _ ?_ (fun hHeld => ?_)
              · exact trivial
              clear hK K
              try simp only [Act.put, List.setIfInBounds_toArray, List.set_cons_zero, List.set_cons_succ]
              refine wpAnyH_ready (rs := [3]) (by kernel_rfl) (by simp) ?_
              refine AllReadyH.cons (o := { dst := some 58, op := Op.buildSlice 75 1 #[(0, Operand.tmp 57)], type := 75, pos := "outright.go:186", after := #[{ on := 2, ground := Ground.data }], guard := none }) rfl (fun K hK => ?_) AllReadyH.nil
              go_simp
              obtain ⟨v3, hv3⟩ : ∃ W, W = u0.alloc (.cells #[(.int .u32 (bsN l : Nat))] 76) := ⟨_, rfl⟩
              have T3 : Hid (Fut u0 v3) := Lib.hid (by rw [hv3]; exact Fut.alloc _ _)
              have G3 : Hid (Fut u0 v3) := Lib.hid ((Fut.rfl).trans T3.out)
              have N3 : Hid (v3.cell? ⟨u0.heap.size, 0, none⟩ = some (.int .u32 (bsN l : Nat))) := Lib.hid (by rw [hv3]; exact cell_new _ _ _)
              obtain ⟨s3, hs3⟩ : ∃ s, s = u0.heap.size := ⟨_, rfl⟩
              rw [← hv3]
              rw [← hs3] at N3 ⊢
              clear hv3 hs3
              refine hK.out _ _ ?_ (fun hHeld => ?_)
              · exact trivial
              clear hK K
              try simp only [Act.put, List.setIfInBounds_toArray, List.set_cons_zero, List.set_cons_succ]
              refine wpAnyH_ready (rs := [4]) (by kernel_rfl) (by simp) ?_
              refine AllReadyH.cons (o := { dst := some 59, op := Op.call { callee := Callee.builtin Builtin.append, args := #[Operand.tmp 55, Operand.tmp 58], argTypes := #[75, 75] }, type := 75, pos := "outright.go:186", after := #[{ on := 0, ground := Ground.data }, { on := 3, ground := Ground.data }, { on := 2, ground := Ground.chain }], guard := none }) rfl (fun K hK => ?_) AllReadyH.nil
              have hOU := HU5.out.fut (G3.out)
              unfold OwnU at hOU
              refine step_append_src rfl _ _ 75 rfl (Ba + 1) 76 i6 (.int .u32 0) 4 Try.underlying75 hi6 hw0 hw1 hw2 rfl (.slice oa us.length oc) us.length (us.map fun n => Value.int .u32 (n : Nat)) rfl hOU _ 1 [(.int .u32 (bsN l : Nat))] rfl (.inr ⟨⟨s3, 0, none⟩, 1, rfl, rfl, one_cell (cell_at N3.out (Fut.rfl)), by simp [Value.oneCell']⟩) ?_ ?_ ?_ ?_
              · have := HUL.out; unfold maxLen; omega
              · have := HUL.out; omega
              · exact Nat.le_trans HU0.out (RowKit.Below.size (G3.out))
              intro av4 ac4 v4 hown hgr
              have X4 : Hid (OwnU v4 (Ba + 1) (.slice av4 (us.length + 1) ac4) (us ++ [bsN l])) := Lib.hid (by unfold OwnU; rw [List.length_append, List.map_append]; exact hown)
              have R4 : Hid (OwnL v4 (Ba + 1) (.slice (some ⟨rb, ro, none⟩) row.length rc) row) := Lib.hid ((HR5.out.fut (G3.out)).keptU hOU hgr)
              have B4 : Hid (RowKit.Below (Ba + 1) u0 v4) := Lib.hid (RowKit.Below.grown (RowKit.Below.mono (G3.out) HU0.out) hgr (Nat.le_trans HU0.out (RowKit.Below.size (G3.out))) fun q hq => (World.ownsRow.lt hOU q hq).1)
              clear hown hgr hOU
              refine hK.out _ _ ?_ (fun hHeld => ?_)
              · exact trivial
              clear hK K
              try simp only [Act.put, List.setIfInBounds_toArray, List.set_cons_zero, List.set_cons_succ]
              refine wpAnyH_ready (rs := [5]) (by kernel_rfl) (by simp) ?_
              refine AllReadyH.cons (o := { dst := none, op := Op.store 75 (Operand.tmp 6) (Operand.tmp 59), type := 0, pos := "outright.go:186", after := #[{ on := 4, ground := Ground.data }, { on := 4, ground := Ground.chain }, { on := 0, ground := Ground.phase }, { on := 1, ground := Ground.phase }, { on := 2, ground := Ground.phase }, { on := 3, ground := Ground.phase }, { on := 4, ground := Ground.phase }], guard := none }) rfl (fun K hK => ?_) AllReadyH.nil
              have k0 := below_heap HB5.out B4.out (Nat.lt_succ_self _)
              have c1 := cell_of1 k0
              have f1 := froz_of1 k0
              have k1 := Lib.hid (set_of1 (.slice av4 (us.length + 1) ac4) k0)
              have kB : Hid (But (fun q => q = Ba) w3 (v4.setCell ⟨Ba, 0, none⟩ (.slice av4 (us.length + 1) ac4))) := Lib.hid ((but_below HBu.out B4.out HSZ.out).setCell (.inl rfl) _)
              have kX := Lib.hid (X4.out.low (Nat.lt_succ_self Ba) (set_grown v4 Ba 0 (.slice av4 (us.length + 1) ac4)))
              have kR := Lib.hid (OwnL.lowB R4.out (Nat.lt_succ_self Ba) (set_grown v4 Ba 0 (.slice av4 (us.length + 1) ac4)))
              clear k0
              go_simp
              clear c1 f1
              refine hK.out _ _ ?_ (fun hHeld => ?_)
              · exact trivial
              clear hK K
              try simp only [Act.put, List.setIfInBounds_toArray, List.set_cons_zero, List.set_cons_succ]
              refine wpAnyH_done (by kernel_rfl) ?_ _
              have kx : Hid (us ++ [bsN l] = usT (c : Int) ((r : Int) * (c : Int)) S Y T k (s + 1)) := Lib.hid (by rw [HUS.out])
              go_wp2_with fail
              go_roundw
              case rel => first
                | exact ⟨s + 1, us ++ [bsN l], av4, ac4, by omega, by go_num, kx, by rw [List.length_append]; exact k1, by rw [List.length_append]; exact kX, kR, kB⟩
                | ((repeat apply Exists.intro); exact ⟨⟨s + 1, us ++ [bsN l], av4, ac4, by omega, by go_num, kx, by rw [List.length_append]; exact k1, by rw [List.length_append]; exact kX, kR, kB⟩, rfl⟩)
              case measure => simp [intOf]; omega
            · go_simp
              go_at_call 50
              refine (HBI.out u0 (Fut.rfl)).mono ?_
              rintro _ _ ⟨rfl, rfl⟩
              try go_wp2_with fail
              refine hK.out _ _ ?_ (fun hHeld => ?_)
              · exact trivial
              clear hK K
              try simp only [Act.put, List.setIfInBounds_toArray, List.set_cons_zero, List.set_cons_succ]
              refine wpAnyH_ready (rs := [0, 3]) (by kernel_rfl) (by simp) ?_
              refine AllReadyH.cons (o := { dst := some 55, op := Op.load 75 (Operand.tmp 6), type := 75, pos := "outright.go:186", after := #[], guard := none }) rfl (fun K hK => ?_) (AllReadyH.cons (o := { dst := some 58, op := Op.buildSlice 75 1 #[(0, Operand.tmp 57)], type := 75, pos := "outright.go:186", after := #[{ on := 2, ground := Ground.data }], guard := none }) rfl (fun K hK => ?_) (AllReadyH.nil))
              · have c1 := cell_of1 (heap_fut HB5.out (Fut.rfl))
                go_simp
                clear c1
                refine hK.out _ _ ?_ (fun hHeld => ?_)
                · exact trivial
                clear hK K
                try simp only [Act.put, List.setIfInBounds_toArray, List.set_cons_zero, List.set_cons_succ]
                refine wpAnyH_ready (rs := [3]) (by kernel_rfl) (by simp) ?_
                refine AllReadyH.cons (o := { dst := some 58, op := Op.buildSlice 75 1 #[(0, Operand.tmp 57)], type := 75, pos := "outright.go:186", after := #[{ on := 2, ground := Ground.data }], guard := none }) rfl (fun K hK => ?_) AllReadyH.nil
                go_simp
                obtain ⟨v3, hv3⟩ : ∃ W, W = u0.alloc (.cells #[(.int .u32 (bsN l : Nat))] 76) := ⟨_, rfl⟩
                have T3 : Hid (Fut u0 v3) := Lib.hid (by rw [hv3]; exact Fut.alloc _ _)
                have G3 : Hid (Fut u0 v3) := Lib.hid ((Fut.rfl).trans T3.out)
                have N3 : Hid (v3.cell? ⟨u0.heap.size, 0, none⟩ = some (.int .u32 (bsN l : Nat))) := Lib.hid (by rw [hv3]; exact cell_new _ _ _)
                obtain ⟨s3, hs3⟩ : ∃ s, s = u0.heap.size := ⟨_, rfl⟩
                rw [← hv3]
                rw [← hs3] at N3 ⊢
                clear hv3 hs3
                refine hK.out _ _ ?_ (fun hHeld => ?_)
                · exact trivial
                clear hK K
                try simp only [Act.put, List.setIfInBounds_toArray, List.set_cons_zero, List.set_cons_succ]
                refine wpAnyH_ready (rs := [4]) (by kernel_rfl) (by simp) ?_
                refine AllReadyH.cons (o := { dst := some 59, op := Op.call { callee := Callee.builtin Builtin.append, args := #[Operand.tmp 55, Operand.tmp 58], argTypes := #[75, 75] }, type := 75, pos := "outright.go:186", after := #[{ on := 0, ground := Ground.data }, { on := 3, ground := Ground.data }, { on := 2, ground := Ground.chain }], guard := none }) rfl (fun K hK => ?_) AllReadyH.nil
                have hOU := HU5.out.fut (G3.out)
                unfold OwnU at hOU
                refine step_append_src rfl _ _ 75 rfl (Ba + 1) 76 i6 (.int .u32 0) 4 Try.underlying75 hi6 hw0 hw1 hw2 rfl (.slice oa us.length oc) us.length (us.map fun n => Value.int .u32 (n : Nat)) rfl hOU _ 1 [(.int .u32 (bsN l : Nat))] rfl (.inr ⟨⟨s3, 0, none⟩, 1, rfl, rfl, one_cell (cell_at N3.out (Fut.rfl)), by simp [Value.oneCell']⟩) ?_ ?_ ?_ ?_
                · have := HUL.out; unfold maxLen; omega
                · have := HUL.out; omega
                · exact Nat.le_trans HU0.out (RowKit.Below.size (G3.out))
                intro av4 ac4 v4 hown hgr
                have X4 : Hid (OwnU v4 (Ba + 1) (.slice av4 (us.length + 1) ac4) (us ++ [bsN l])) := Lib.hid (by unfold OwnU; rw [List.length_append, List.map_append]; exact hown)
                have R4 : Hid (OwnL v4 (Ba + 1) (.slice (some ⟨rb, ro, none⟩) row.length rc) row) := Lib.hid ((HR5.out.fut (G3.out)).keptU hOU hgr)
                have B4 : Hid (RowKit.Below (Ba + 1) u0 v4) := Lib.hid (RowKit.Below.grown (RowKit.Below.mono (G3.out) HU0.out) hgr (Nat.le_trans HU0.out (RowKit.Below.size (G3.out))) fun q hq => (World.ownsRow.lt hOU q hq).1)
                clear hown hgr hOU
                refine hK.out _ _ ?_ (fun hHeld => ?_)
                · exact trivial
                clear hK K
                try simp only [Act.put, List.setIfInBounds_toArray, List.set_cons_zero, List.set_cons_succ]
                refine wpAnyH_ready (rs := [5]) (by kernel_rfl) (by simp) ?_
                refine AllReadyH.cons (o := { dst := none, op := Op.store 75 (Operand.tmp 6) (Operand.tmp 59), type := 0, pos := "outright.go:186", after := #[{ on := 4, ground := Ground.data }, { on := 4, ground := Ground.chain }, { on := 0, ground := Ground.phase }, { on := 1, ground := Ground.phase }, { on := 2, ground := Ground.phase }, { on := 3, ground := Ground.phase }, { on := 4, ground := Ground.phase }], guard := none }) rfl (fun K hK => ?_) AllReadyH.nil
                have k0 := below_heap HB5.out B4.out (Nat.lt_succ_self _)
                have c1 := cell_of1 k0
                have f1 := froz_of1 k0
                have k1 := Lib.hid (set_of1 (.slice av4 (us.length + 1) ac4) k0)
                have kB : Hid (But (fun q => q = Ba) w3 (v4.setCell ⟨Ba, 0, none⟩ (.slice av4 (us.length + 1) ac4))) := Lib.hid ((but_below HBu.out B4.out HSZ.out).setCell (.inl rfl) _)
                have kX := Lib.hid (X4.out.low (Nat.lt_succ_self Ba) (set_grown v4 Ba 0 (.slice av4 (us.length + 1) ac4)))
                have kR := Lib.hid (OwnL.lowB R4.out (Nat.lt_succ_self Ba) (set_grown v4 Ba 0 (.slice av4 (us.length + 1) ac4)))
                clear k0
                go_simp
                clear c1 f1
                refine hK.out _ _ ?_ (fun hHeld => ?_)
                · exact trivial
                clear hK K
                try simp only [Act.put, List.setIfInBounds_toArray, List.set_cons_zero, List.set_cons_succ]
                refine wpAnyH_done (by kernel_rfl) ?_ _
                have kx : Hid (us ++ [bsN l] = usT (c : Int) ((r : Int) * (c : Int)) S Y T k (s + 1)) := Lib.hid (by rw [HUS.out])
                go_wp2_with fail
                go_roundw
                case rel => first
                  | exact ⟨s + 1, us ++ [bsN l], av4, ac4, by omega, by go_num, kx, by rw [List.length_append]; exact k1, by rw [List.length_append]; exact kX, kR, kB⟩
                  | ((repeat apply Exists.intro); exact ⟨⟨s + 1, us ++ [bsN l], av4, ac4, by omega, by go_num, kx, by rw [List.length_append]; exact k1, by rw [List.length_append]; exact kX, kR, kB⟩, rfl⟩)
                case measure => simp [intOf]; omega
              · go_simp
                obtain ⟨v3, hv3⟩ : ∃ W, W = u0.alloc (.cells #[(.int .u32 (bsN l : Nat))] 76) := ⟨_, rfl⟩
                have T3 : Hid (Fut u0 v3) := Lib.hid (by rw [hv3]; exact Fut.alloc _ _)
                have G3 : Hid (Fut u0 v3) := Lib.hid ((Fut.rfl).trans T3.out)
                have N3 : Hid (v3.cell? ⟨u0.heap.size, 0, none⟩ = some (.int .u32 (bsN l : Nat))) := Lib.hid (by rw [hv3]; exact cell_new _ _ _)
                obtain ⟨s3, hs3⟩ : ∃ s, s = u0.heap.size := ⟨_, rfl⟩
                rw [← hv3]
                rw [← hs3] at N3 ⊢
                clear hv3 hs3
                refine hK.out _ _ ?_ (fun hHeld => ?_)
                · exact trivial
                clear hK K
                try simp only [Act.put, List.setIfInBounds_toArray, List.set_cons_zero, List.set_cons_succ]
                refine wpAnyH_ready (rs := [0]) (by kernel_rfl) (by simp) ?_
                refine AllReadyH.cons (o := { dst := some 55, op := Op.load 75 (Operand.tmp 6), type := 75, pos := "outright.go:186", after := #[], guard := none }) rfl (fun K hK => ?_) AllReadyH.nil
                have c1 := cell_of1 (heap_fut HB5.out (G3.out))
                go_simp
                clear c1
                refine hK.out _ _ ?_ (fun hHeld => ?_)
                · exact trivial
                clear hK K
                try simp only [Act.put, List.setIfInBounds_toArray, List.set_cons_zero, List.set_cons_succ]
                refine wpAnyH_ready (rs := [4]) (by kernel_rfl) (by simp) ?_
                refine AllReadyH.cons (o := { dst := some 59, op := Op.call { callee := Callee.builtin Builtin.append, args := #[Operand.tmp 55, Operand.tmp 58], argTypes := #[75, 75] }, type := 75, pos := "outright.go:186", after := #[{ on := 0, ground := Ground.data }, { on := 3, ground := Ground.data }, { on := 2, ground := Ground.chain }], guard := none }) rfl (fun K hK => ?_) AllReadyH.nil
                have hOU := HU5.out.fut (G3.out)
                unfold OwnU at hOU
                refine step_append_src rfl _ _ 75 rfl (Ba + 1) 76 i6 (.int .u32 0) 4 Try.underlying75 hi6 hw0 hw1 hw2 rfl (.slice oa us.length oc) us.length (us.map fun n => Value.int .u32 (n : Nat)) rfl hOU _ 1 [(.int .u32 (bsN l : Nat))] rfl (.inr ⟨⟨s3, 0, none⟩, 1, rfl, rfl, one_cell (cell_at N3.out (Fut.rfl)), by simp [Value.oneCell']⟩) ?_ ?_ ?_ ?_
                · have := HUL.out; unfold maxLen; omega
                · have := HUL.out; omega
                · exact Nat.le_trans HU0.out (RowKit.Below.size (G3.out))
                intro av4 ac4 v4 hown hgr
                have X4 : Hid (OwnU v4 (Ba + 1) (.slice av4 (us.length + 1) ac4) (us ++ [bsN l])) := Lib.hid (by unfold OwnU; rw [List.length_append, List.map_append]; exact hown)
                have R4 : Hid (OwnL v4 (Ba + 1) (.slice (some ⟨rb, ro, none⟩) row.length rc) row) := Lib.hid ((HR5.out.fut (G3.out)).keptU hOU hgr)
                have B4 : Hid (RowKit.Below (Ba + 1) u0 v4) := Lib.hid (RowKit.Below.grown (RowKit.Below.mono (G3.out) HU0.out) hgr (Nat.le_trans HU0.out (RowKit.Below.size (G3.out))) fun q hq => (World.ownsRow.lt hOU q hq).1)
                clear hown hgr hOU
                refine hK.out _ _ ?_ (fun hHeld => ?_)
                · exact trivial
                clear hK K
                try simp only [Act.put, List.setIfInBounds_toArray, List.set_cons_zero, List.set_cons_succ]
                refine wpAnyH_ready (rs := [5]) (by kernel_rfl) (by simp) ?_
                refine AllReadyH.cons (o := { dst := none, op := Op.store 75 (Operand.tmp 6) (Operand.tmp 59), type := 0, pos := "outright.go:186", after := #[{ on := 4, ground := Ground.data }, { on := 4, ground := Ground.chain }, { on := 0, ground := Ground.phase }, { on := 1, ground := Ground.phase }, { on := 2, ground := Ground.phase }, { on := 3, ground := Ground.phase }, { on := 4, ground := Ground.phase }], guard := none }) rfl (fun K hK => ?_) AllReadyH.nil
                have k0 := below_heap HB5.out B4.out (Nat.lt_succ_self _)
                have c1 := cell_of1 k0
                have f1 := froz_of1 k0
                have k1 := Lib.hid (set_of1 (.slice av4 (us.length + 1) ac4) k0)
                have kB : Hid (But (fun q => q = Ba) w3 (v4.setCell ⟨Ba, 0, none⟩ (.slice av4 (us.length + 1) ac4))) := Lib.hid ((but_below HBu.out B4.out HSZ.out).setCell (.inl rfl) _)
                have kX := Lib.hid (X4.out.low (Nat.lt_succ_self Ba) (set_grown v4 Ba 0 (.slice av4 (us.length + 1) ac4)))
                have kR := Lib.hid (OwnL.lowB R4.out (Nat.lt_succ_self Ba) (set_grown v4 Ba 0 (.slice av4 (us.length + 1) ac4)))
                clear k0
                go_simp
                clear c1 f1
                refine hK.out _ _ ?_ (fun hHeld => ?_)
                · exact trivial
                clear hK K
                try simp only [Act.put, List.setIfInBounds_toArray, List.set_cons_zero, List.set_cons_succ]
                refine wpAnyH_done (by kernel_rfl) ?_ _
                have kx : Hid (us ++ [bsN l] = usT (c : Int) ((r : Int) * (c : Int)) S Y T k (s + 1)) := Lib.hid (by rw [HUS.out])
                go_wp2_with fail
                go_roundw
                case rel => first
                  | exact ⟨s + 1, us ++ [bsN l], av4, ac4, by omega, by go_num, kx, by rw [List.length_append]; exact k1, by rw [List.length_append]; exact kX, kR, kB⟩
                  | ((repeat apply Exists.intro); exact ⟨⟨s + 1, us ++ [bsN l], av4, ac4, by omega, by go_num, kx, by rw [List.length_append]; exact k1, by rw [List.length_append]; exact kX, kR, kB⟩, rfl⟩)
                case measure => simp [intOf]; omega
          · obtain rfl : s = row.length := by omega
            have HUn : Hid (us = usT (c : Int) ((r : Int) * (c : Int)) S Y T (k + 1) 0) := Lib.hid (by rw [HUZ1.out]; exact HUs.out)
            clear HUs
            go_wp2_with fail
            go_roundw
            case rel => first
              | exact ⟨k + 1, us, oa, oc, by omega, by go_num, HUn, HBs, HXs, HFs⟩
              | ((repeat apply Exists.intro); exact ⟨⟨k + 1, us, oa, oc, by omega, by go_num, HUn, HBs, HXs, HFs⟩, rfl⟩)
            case measure => simp [intOf]; omega
      · obtain rfl : k = Y.length := by omega
        have HUF : Hid (us = usL (c : Int) ((r : Int) * (c : Int)) S Y T) := Lib.hid (by rw [HUk.out, HUE.out])
        have HULf : Hid (us.length ≤ 400000) := Lib.hid (by rw [HUk.out]; exact HULe.out Y.length 0 (Nat.le_refl _) (fun _ => rfl))
        clear HUk HUZ HUSs HUE HULe HROW HWY
        have HLOW : Hid (∀ W, RowKit.Below (Ba + 1) wr W → W.heap[Ba]? = some (.cells #[.slice oa us.length oc] 75)) := Lib.hid (fun W X => below_heap HBk.out X (Nat.lt_succ_self _))
        obtain ⟨M, hM⟩ : ∃ M, M = r * c := ⟨_, rfl⟩
        have HMI : Hid (((r : Nat) : Int) * ((c : Nat) : Int) = (M : Int)) := Lib.hid (by rw [hM, Int.natCast_mul])
        have hM16 : 1 ≤ M ∧ M ≤ 16 := by have := side_m HGG.out.side; rw [HMI.out] at this; omega
        have hwM : IntKind.i64.wrap ((r : Int) * (c : Int)) = (M : Int) := by rw [HMI.out]; exact IntWalk.i64_in _ ⟨by omega, by omega⟩
        have FD : Fut wr wr.drew := below_drewN Fut.rfl 1
        have HF0 : Hid (Fut w2 wr.drew) := Lib.hid (HF2k.out.trans FD)
        have HBd : Hid (wr.drew.heap[Ba]? = some (.cells #[.slice oa us.length oc] 75)) := Lib.hid (heap_fut HBk.out FD)
        have HXd := Lib.hid (HXk.out.fut FD)
        have HUd : Hid (Ba + 1 ≤ wr.drew.heap.size) := Lib.hid (by have := HSZ3.out; have := HFk.out.size; have := RowKit.Below.size FD; omega)
        have keep : ∀ W, Fut wr.drew W → BoxP W w1.heap.size (r : Int) (c : Int) sa S.length sc ∧ BoxQ W (w1.heap.size + 1) ya Y.length yc ta T.length tc := fun W X => ⟨HBP.out.fut (HF0.out.trans X), HBQ.out.fut (HF0.out.trans X)⟩
        clear FD HBk HXk HFk HF2k hM HLOW
        go_upto_region 14 with fail
        refine wp_region_held_drew (S := (fun w' => BoxP w' w1.heap.size (r : Int) (c : Int) sa S.length sc ∧ BoxQ w' (w1.heap.size + 1) ya Y.length yc ta T.length tc)) (by kernel_rfl) ?_ (fun hHeld => ?_)
        · exact keep _ Fut.rfl
        generalize wr.drew = u0 at *
        refine wpAnyH_take (i := 0) (oi := { dst := some 62, op := Op.fieldAddr 24 (Operand.tmp 3) 0, type := 0, pos := "outright.go:189", after := #[], guard := none }) (v := ?_) rfl (by kernel_rfl) (by kernel_rfl) (by kernel_rfl) (fun _ _ _ h => h) (Or.inl ⟨by rfl, ?_⟩) (by assumption) ?_
        rotate_left
        · (intro w hSw; obtain ⟨⟨_, s0, s1, s2⟩, ⟨_, s3, s4⟩⟩ := hSw; go_simp <;> with_reducible rfl)
        try simp only [Act.put, List.setIfInBounds_toArray, List.set_cons_zero, List.set_cons_succ]
        refine wpAnyH_take (i := 1) (oi := { dst := some 63, op := Op.load 3 (Operand.tmp 62), type := 3, pos := "outright.go:189", after := #[{ on := 0, ground := Ground.data }], guard := none }) (v := ?_) rfl (by kernel_rfl) (by kernel_rfl) (by kernel_rfl) (fun _ _ _ h => h) (Or.inl ⟨by rfl, ?_⟩) (by assumption) ?_
        rotate_left
        · (intro w hSw; obtain ⟨⟨_, s0, s1, s2⟩, ⟨_, s3, s4⟩⟩ := hSw; go_simp <;> with_reducible rfl)
        try simp only [Act.put, List.setIfInBounds_toArray, List.set_cons_zero, List.set_cons_succ]
        refine wpAnyH_take (i := 2) (oi := { dst := some 64, op := Op.fieldAddr 24 (Operand.tmp 3) 1, type := 0, pos := "outright.go:189", after := #[], guard := none }) (v := ?_) rfl (by kernel_rfl) (by kernel_rfl) (by kernel_rfl) (fun _ _ _ h => h) (Or.inl ⟨by rfl, ?_⟩) (by assumption) ?_
        rotate_left
        · (intro w hSw; obtain ⟨⟨_, s0, s1, s2⟩, ⟨_, s3, s4⟩⟩ := hSw; go_simp <;> with_reducible rfl)
        try simp only [Act.put, List.setIfInBounds_toArray, List.set_cons_zero, List.set_cons_succ]
        refine wpAnyH_take (i := 3) (oi := { dst := some 65, op := Op.load 3 (Operand.tmp 64), type := 3, pos := "outright.go:189", after := #[{ on := 2, ground := Ground.data }], guard := none }) (v := ?_) rfl (by kernel_rfl) (by kernel_rfl) (by kernel_rfl) (fun _ _ _ h => h) (Or.inl ⟨by rfl, ?_⟩) (by assumption) ?_
        rotate_left
        · (intro w hSw; obtain ⟨⟨_, s0, s1, s2⟩, ⟨_, s3, s4⟩⟩ := hSw; go_simp <;> with_reducible rfl)
        try simp only [Act.put, List.setIfInBounds_toArray, List.set_cons_zero, List.set_cons_succ]
        refine wpAnyH_take (i := 4) (oi := { dst := some 66, op := Op.binOp BinOp.mul 3 (Operand.tmp 63) (Operand.tmp 65) 3, type := 3, pos := "outright.go:189", after := #[{ on := 1, ground := Ground.data }, { on := 3, ground := Ground.data }], guard := none }) (v := ?_) rfl (by kernel_rfl) (by kernel_rfl) (by kernel_rfl) (fun _ _ _ h => h) (Or.inl ⟨by rfl, ?_⟩) (by assumption) ?_
        rotate_left
        · (intro w hSw; obtain ⟨⟨_, s0, s1, s2⟩, ⟨_, s3, s4⟩⟩ := hSw; go_simp <;> with_reducible rfl)
        try simp only [Act.put, List.setIfInBounds_toArray, List.set_cons_zero, List.set_cons_succ]
        refine wpAnyH_take (i := 5) (oi := { dst := some 67, op := Op.fieldAddr 26 (Operand.tmp 4) 0, type := 0, pos := "outright.go:189", after := #[], guard := none }) (v := ?_) rfl (by kernel_rfl) (by kernel_rfl) (by kernel_rfl) (fun _ _ _ h => h) (Or.inl ⟨by rfl, ?_⟩) (by assumption) ?_
        rotate_left
        · (intro w hSw; obtain ⟨⟨_, s0, s1, s2⟩, ⟨_, s3, s4⟩⟩ := hSw; go_simp <;> with_reducible rfl)
        try simp only [Act.put, List.setIfInBounds_toArray, List.set_cons_zero, List.set_cons_succ]
        refine wpAnyH_take (i := 6) (oi := { dst := some 68, op := Op.load 22 (Operand.tmp 67), type := 22, pos := "outright.go:189", after := #[{ on := 5, ground := Ground.data }], guard := none }) (v := ?_) rfl (by kernel_rfl) (by kernel_rfl) (by kernel_rfl) (fun _ _ _ h => h) (Or.inl ⟨by rfl, ?_⟩) (by assumption) ?_
        rotate_left
        · (intro w hSw; obtain ⟨⟨_, s0, s1, s2⟩, ⟨_, s3, s4⟩⟩ := hSw; go_simp <;> with_reducible rfl)
        try simp only [Act.put, List.setIfInBounds_toArray, List.set_cons_zero, List.set_cons_succ]
        refine wpAnyH_take (i := 7) (oi := { dst := some 69, op := Op.call { callee := Callee.builtin Builtin.len, args := #[Operand.tmp 68], argTypes := #[22] }, type := 3, pos := "outright.go:189", after := #[{ on := 6, ground := Ground.data }], guard := none }) (v := ?_) rfl (by kernel_rfl) (by kernel_rfl) (by kernel_rfl) (fun _ _ _ h => h) (Or.inl ⟨by rfl, ?_⟩) (by assumption) ?_
        rotate_left
        · (intro w hSw; obtain ⟨⟨_, s0, s1, s2⟩, ⟨_, s3, s4⟩⟩ := hSw; go_simp <;> with_reducible rfl)
        try simp only [Act.put, List.setIfInBounds_toArray, List.set_cons_zero, List.set_cons_succ]
        refine wpAnyH_ready (rs := [8]) (by kernel_rfl) (by simp) ?_
        refine AllReadyH.cons (o := { dst := some 12, op := Op.alloc 3, type := 0, pos := "outright.go:189", after := #[], guard := none }) rfl (fun K hK => ?_) AllReadyH.nil
        go_simp
        obtain ⟨v8, hv8⟩ : ∃ W, W = u0.alloc (.cells #[.int .i64 0] 3) := ⟨_, rfl⟩
        have G8 : Hid (Fut u0 v8) := Lib.hid (by rw [hv8]; exact Fut.alloc _ _)
        have N8 : Hid (v8.heap[u0.heap.size]? = some (.cells #[.int .i64 0] 3)) := Lib.hid (by rw [hv8]; exact World.alloc_heap_new _ _)
        have Z8 : Hid (v8.heap.size = u0.heap.size + 1) := Lib.hid (by rw [hv8, World.size_alloc])
        rw [← hv8]
        obtain ⟨Bk, hBk⟩ : ∃ s, s = u0.heap.size := ⟨_, rfl⟩
        have HBK0 : Hid (Bk = u0.heap.size) := Lib.hid hBk
        rw [← hBk] at N8 Z8 ⊢
        clear hv8 hBk
        refine hK.out _ _ ?_ (fun hHeld => ?_)
        · exact keep _ G8.out
        clear hK K
        try simp only [Act.put, List.setIfInBounds_toArray, List.set_cons_zero, List.set_cons_succ]
        refine wpAnyH_ready (rs := [9]) (by kernel_rfl) (by simp) ?_
        refine AllReadyH.cons (o := { dst := some 11, op := Op.assign (Operand.tmp 66), type := 3, pos := "outright.go:189", after := #[{ on := 4, ground := Ground.data }, { on := 0, ground := Ground.phase }, { on := 1, ground := Ground.phase }, { on := 2, ground := Ground.phase }, { on := 3, ground := Ground.phase }, { on := 4, ground := Ground.phase }, { on := 5, ground := Ground.textOnly Departure.lateStores }, { on := 6, ground := Ground.textOnly Departure.lateStores }, { on := 7, ground := Ground.textOnly Departure.lateStoresUnsure }, { on := 8, ground := Ground.phase }], guard := none }) rfl (fun K hK => ?_) AllReadyH.nil
        go_simp
        refine hK.out _ _ ?_ (fun hHeld => ?_)
        · exact keep _ G8.out
        clear hK K
        try simp only [Act.put, List.setIfInBounds_toArray, List.set_cons_zero, List.set_cons_succ]
        refine wpAnyH_ready (rs := [10]) (by kernel_rfl) (by simp) ?_
        refine AllReadyH.cons (o := { dst := none, op := Op.store 3 (Operand.tmp 12) (Operand.tmp 69), type := 0, pos := "outright.go:189", after := #[{ on := 8, ground := Ground.data }, { on := 7, ground := Ground.data }, { on := 9, ground := Ground.chain }, { on := 0, ground := Ground.phase }, { on := 1, ground := Ground.phase }, { on := 2, ground := Ground.phase }, { on := 3, ground := Ground.phase }, { on := 4, ground := Ground.phase }, { on := 5, ground := Ground.phase }, { on := 6, ground := Ground.phase }, { on := 7, ground := Ground.phase }, { on := 8, ground := Ground.phase }, { on := 9, ground := Ground.phase }], guard := none }) rfl (fun K hK => ?_) AllReadyH.nil
        have c1 := cell_of1 N8.out
        have f1 := froz_of1 N8.out
        have k1 := Lib.hid (set_of1 (.int .i64 (Y.length : Nat)) N8.out)
        have kF : Hid (Fut u0 (v8.setCell ⟨Bk, 0, none⟩ (.int .i64 (Y.length : Nat)))) := Lib.hid (fut_set G8.out (show u0.heap.size ≤ Bk by have := HBK0.out; omega) _)
        have kS : Hid ((v8.setCell ⟨Bk, 0, none⟩ (.int .i64 (Y.length : Nat))).heap.size = Bk + 1) := Lib.hid (by rw [size_set]; exact Z8.out)
        go_simp
        clear c1 f1
        refine hK.out _ _ ?_ (fun hHeld => ?_)
        · exact keep _ kF.out
        clear hK K
        try simp only [Act.put, List.setIfInBounds_toArray, List.set_cons_zero, List.set_cons_succ]
        refine wpAnyH_done (by kernel_rfl) ?_ _
        generalize v8.setCell ⟨Bk, 0, none⟩ (.int .i64 (Y.length : Nat)) = w7 at *
        go_wp2_with fail
        obtain ⟨p, hp⟩ : ∃ p, p = brsP (r : Int) (c : Int) S Y T := ⟨_, rfl⟩
        obtain ⟨Bb, hBb⟩ : ∃ b, b = w7.heap.size := ⟨_, rfl⟩
        obtain ⟨Bw, hBw⟩ : ∃ b, b = w7.heap.size + 1 := ⟨_, rfl⟩
        obtain ⟨Bf, hBf⟩ : ∃ b, b = w7.heap.size + 1 + 1 := ⟨_, rfl⟩
        rw [← hBf, ← hBw, ← hBb]
        obtain ⟨wa, hwa⟩ : ∃ W, W = w7.alloc (.cells #[.func (.func 51) #[] #[.pointer (some ⟨Bk, 0, none⟩), .pointer (some ⟨Ba, 0, none⟩)]] 80) := ⟨_, rfl⟩
        obtain ⟨wb, hwb⟩ : ∃ W, W = wa.alloc (.cells #[.slice none 0 0] 22) := ⟨_, rfl⟩
        obtain ⟨w8, hw8⟩ : ∃ W, W = wb.alloc (.cells #[.bool false] 4) := ⟨_, rfl⟩
        rw [← hwa, ← hwb, ← hw8]
        have ea : wa.heap.size = Bw := by rw [hwa, World.size_alloc, hBw]
        have eb : wb.heap.size = Bf := by rw [hwb, World.size_alloc, ea, hBw, hBf]
        have Fa : Fut w7 wa := by rw [hwa]; exact Fut.alloc _ _
        have Fb : Fut wa wb := by rw [hwb]; exact Fut.alloc _ _
        have Fc : Fut wb w8 := by rw [hw8]; exact Fut.alloc _ _
        have j1 : w8.heap[Bb]? = some (.cells #[.func (.func 51) #[] #[.pointer (some ⟨Bk, 0, none⟩), .pointer (some ⟨Ba, 0, none⟩)]] 80) := by
          have := World.alloc_heap_new w7 (.cells #[.func (.func 51) #[] #[.pointer (some ⟨Bk, 0, none⟩), .pointer (some ⟨Ba, 0, none⟩)]] 80)
          rw [← hwa, ← hBb] at this
          exact heap_fut (heap_fut this Fb) Fc
        have j2 : w8.heap[Bw]? = some (.cells #[.slice none 0 0] 22) := by
          have := World.alloc_heap_new wa (.cells #[.slice none 0 0] 22)
          rw [← hwb, ea] at this
          exact heap_fut this Fc
        have j3 : w8.heap[Bf]? = some (.cells #[.bool false] 4) := by
          have := World.alloc_heap_new wb (.cells #[.bool false] 4)
          rw [← hw8, eb] at this
          exact this
        have F78 : Fut w7 w8 := (Fa.trans Fb).trans Fc
        have hF08 : Fut u0 w8 := kF.out.trans F78
        have HF28 : Hid (Fut w2 w8) := Lib.hid (HF0.out.trans hF08)
        have hZ : ∀ q, Zd Bf Bw q → w7.heap.size < q := fun q hq => by rcases hq with rfl | rfl <;> omega
        have hbw : ∀ W, But (Zd Bf Bw) w8 W → Fut w7 W := fun W b => RowKit.Below.trans F78 (b.below w7.heap.size (RowKit.Below.size F78) (fun q hq => Nat.le_of_lt (hZ q hq)))
        have hE : MnE (Zd Bf Bw) Bk Ba Bb Y.length oa oc us w8 := by
          refine ⟨fun W b => ?_, fun W b => ?_, fun W b => ?_, fun W b => ?_⟩
          · exact heap_fut k1.out (hbw W b)
          · exact heap_fut (heap_fut HBd.out kF.out) (hbw W b)
          · exact but_heap j1 b (fun hq => by have := hZ _ hq; omega)
          · exact (OwnU.at HXd.out).fut (kF.out.trans (hbw W b))
        have hT0 : TrI Bf Bw p [] w8 := ⟨j3, none, 0, j2, fun W _ j hj => absurd hj (by simp)⟩
        have hus : ∀ u ∈ us, u < 65536 := fun u hu => by
          rw [HUF.out] at hu
          unfold usL at hu
          obtain ⟨y, hy, hu⟩ := List.mem_flatMap.1 hu
          obtain ⟨l, hl, rfl⟩ := List.mem_map.1 hu
          exact bs_lt ((lwL_good HGG.out hy).2 l hl).2.2
        have hpL : ∀ L : List Int, (∀ x ∈ L, 0 ≤ x ∧ x < 16) → p L = (decide (L.length < Y.length) && !anyU us (bsN L)) := fun L hL => by
          rw [hp, HUF.out]
          unfold brsP anyU
          rw [us_bars HCK.out hL]
        have HTRY : Hid (∀ P W la lc (L : List Int) n, L.length = n → But (Zd Bf Bw) w8 W → TrI Bf Bw p P W → n ≤ 2 → (∀ x ∈ L, 0 ≤ x ∧ x < 16) → (∀ W', But (Zd Bf Bw) W W' → IntsAt W' la L) → Calls Try.prog 54 #[.slice la n lc, .pointer (some ⟨Bf, 0, none⟩), .pointer (some ⟨Bb, 0, none⟩), .pointer (some ⟨Bw, 0, none⟩)] W fun e w' => e = .returned (.tuple #[]) ∧ But (Zd Bf Bw) W w' ∧ TrI Bf Bw p (P ++ [L]) w') := Lib.hid (fun P W la lc L n hn b hT hl hL hI => by
          subst hn
          exact mnTry (show Bf ≠ Bw by omega) HGG.out.three hus (by have := HULf.out; omega) (hE.but b) hT la lc L hl hL hI (hpL L hL))
        have HBAR : Hid (∀ W la lc (L : List Int) n, L.length = n → But (Zd Bf Bw) w8 W → n ≤ 2 → (∀ x ∈ L, 0 ≤ x ∧ x < 16) → IntsAt W la L → Calls Try.prog 51 #[.slice la n lc, .pointer (some ⟨Bk, 0, none⟩), .pointer (some ⟨Ba, 0, none⟩)] W fun e w' => e = .returned (.bool (p L)) ∧ Fut W w') := Lib.hid (fun W la lc L n hn b hl hL hI => by
          subst hn
          rw [hpL L hL]
          exact mnBars Bk Ba Y.length HGG.out.three oa oc us hus (by have := HULf.out; omega) la lc L W ((hE.but b).u W (But.refl _ _)) hI hl hL ((hE.but b).k W (But.refl _ _)) ((hE.but b).a W (But.refl _ _)))
        have HT0 := Lib.hid hT0
        have HP := Lib.hid hp
        have HFU : Hid (∀ W, But (Zd Bf Bw) w8 W → Fut w2 W) := Lib.hid (fun W b => HF0.out.trans (kF.out.trans (hbw W b)))
        have HZB : Hid (∀ q, Zd Bf Bw q → q < w8.heap.size) := Lib.hid (fun q hq => by
          rcases hq with rfl | rfl
          · exact (Array.getElem?_eq_some_iff.1 j3).1
          · exact (Array.getElem?_eq_some_iff.1 j2).1)
        have HBBc : Hid (∀ W, But (Zd Bf Bw) w8 W → W.heap[Bb]? = some (.cells #[.func (.func 51) #[] #[.pointer (some ⟨Bk, 0, none⟩), .pointer (some ⟨Ba, 0, none⟩)]] 80)) := Lib.hid (fun W b => (hE.but b).b W (But.refl _ _))
        have HCF : Hid (candL M = [] :: (cmbL (cmb M 0) (M - 0) 0 ++ cmbL (cmb M 1) (M - 0) 0)) := Lib.hid (cand_form M)
        clear hT0 hp hE hus hpL hbw hZ hF08 F78 j1 j2 j3 Fa Fb Fc ea eb hwa hwb hw8 hBb hBw hBf k1 kF kS HBK0 Z8 N8 G8 HBd HXd HUd keep HF0
        obtain ⟨hM1, hM2⟩ := hM16
        refine (HTRY.out [] w8 none 0 [] 0 rfl (But.refl _ _) HT0.out (by omega) (fun x hx => by cases hx) (fun W' _ j hj => absurd hj (by simp))).mono ?_
        rintro _ w9 ⟨rfl, hB9, hT9⟩
        have HB9 := Lib.hid hB9
        have HT9 := Lib.hid hT9
        have HC9 : Hid (candL M = [[]] ++ (cmbL (cmb M 0) (M - 0) 0 ++ cmbL (cmb M 1) (M - 0) 0)) := Lib.hid HCF.out
        clear hB9 hT9 HT0 HCF
        have hMx : (M : Int) ≤ 16 := by omega
        go_wp2_with fail
        go_loopw [75] (fun iv wr => ∃ (i : Nat) (P : List (List Int)), i ≤ M ∧ iv = .int .i64 i ∧ Hid (TrI Bf Bw p P wr) ∧ Hid (candL M = P ++ (cmbL (cmb M 0) (M - i) i ++ cmbL (cmb M 1) (M - 0) 0)) ∧ Hid (But (Zd Bf Bw) w8 wr)) (fun iv _ => M - (intOf iv).toNat)
        case atStart => exact ⟨0, [[]], Nat.zero_le _, rfl, HT9, HC9, HB9⟩
        case round =>
          obtain ⟨i, P, hi, rfl, HTi, HCi, HBi⟩ := hrel
          clear HT9 HC9 HB9
          by_cases hil : i < M
          · have hix : (i : Int) < M := by omega
            have HCn : Hid (candL M = (P ++ [[(i : Int)]]) ++ (cmbL (cmb M 0) (M - (i + 1)) (i + 1) ++ cmbL (cmb M 1) (M - 0) 0)) := Lib.hid (by rw [HCi.out, cmb1_step M i hil]; simp)
            obtain ⟨wq, hwq⟩ : ∃ W, W = wr.alloc (.cells #[.int .i64 (i : Nat)] 3) := ⟨_, rfl⟩
            obtain ⟨gq, hgq⟩ : ∃ g, g = wr.heap.size := ⟨_, rfl⟩
            have hq1 : wq.heap[gq]? = some (.cells #[.int .i64 (i : Nat)] 3) := by rw [hwq, hgq]; exact World.alloc_heap_new _ _
            have HFq : Hid (Fut wr wq) := Lib.hid (by rw [hwq]; exact Fut.alloc _ _)
            have HIq : Hid (∀ W', But (Zd Bf Bw) wq W' → IntsAt W' (some ⟨gq, 0, none⟩) [(i : Int)]) := Lib.hid (fun W' b => ints_heap1 (but_heap hq1 b (fun hz => by have h1 := HZB.out _ hz; have h2 := HBi.out.size; omega)))
            go_wp2_with fail
            rw [← hwq, ← hgq]
            clear hwq hgq hq1
            refine (list_id _ _).mono ?_
            rintro _ _ ⟨rfl, rfl⟩
            go_wp2_with fail
            refine (HTRY.out P _ (some ⟨gq, 0, none⟩) 1 [(i : Int)] 1 rfl (HBi.out.trans (But.of_below HFq.out)) (HTi.out.fut HFq.out) (by omega) (fun x hx => by rw [List.mem_singleton.1 hx]; omega) HIq.out).mono ?_
            rintro _ wt ⟨rfl, hBt, hTt⟩
            have HBt := Lib.hid ((HBi.out.trans (But.of_below HFq.out)).trans hBt)
            have HTt := Lib.hid hTt
            clear hBt hTt HIq HFq HTi HCi HBi
            go_wp2_with fail
            go_roundw
            case rel => first
              | exact ⟨i + 1, _, by omega, by go_num, HTt, HCn, HBt⟩
              | ((repeat apply Exists.intro); exact ⟨⟨i + 1, _, by omega, by go_num, HTt, HCn, HBt⟩, rfl⟩)
            case measure => simp [intOf]; omega
          · obtain rfl : i = M := by omega
            have HC2 : Hid (candL i = P ++ cmbL (cmb i 1) (i - 0) 0) := Lib.hid (by rw [HCi.out, cmb1_end, List.nil_append])
            clear HCi hi
            obtain ⟨P2, hP2⟩ : ∃ P2, P2 = P := ⟨_, rfl⟩
            rw [← hP2] at HTi HC2
            clear hP2 P
            generalize wr = wm at *
            go_wp2_with fail
            go_loopw [85] (fun iv wr => ∃ (a : Nat) (P : List (List Int)), a ≤ i ∧ iv = .int .i64 a ∧ Hid (TrI Bf Bw p P wr) ∧ Hid (candL i = P ++ cmbL (cmb i 1) (i - a) a) ∧ Hid (But (Zd Bf Bw) w8 wr)) (fun iv _ => i - (intOf iv).toNat)
            case atStart => exact ⟨0, P2, Nat.zero_le _, rfl, HTi, HC2, HBi⟩
            case round =>
              obtain ⟨a, P, ha, rfl, HTa, HCa, HBa⟩ := hrel
              clear HTi HC2 HBi
              by_cases hal : a < i
              · have hax : (a : Int) < i := by omega
                have HC3 : Hid (candL i = P ++ ((cmbL (cmb i 0) (i - (a + 1)) (a + 1)).map ((a : Int) :: ·) ++ cmbL (cmb i 1) (i - (a + 1)) (a + 1))) := Lib.hid (by rw [HCa.out, cmb2_step i a hal])
                have hw1 : IntKind.i64.wrap ((a : Int) + 1) = ((a + 1 : Nat) : Int) := by rw [IntWalk.i64_in _ ⟨by omega, by omega⟩]; omega
                clear HCa
                obtain ⟨P4, hP4⟩ : ∃ P4, P4 = P := ⟨_, rfl⟩
                rw [← hP4] at HTa HC3
                clear hP4 P
                go_wp2_with fail
                generalize wr = wn at *
                go_loopw [19] (fun iv wr => ∃ (b : Nat) (P : List (List Int)), a + 1 ≤ b ∧ b ≤ i ∧ iv = .int .i64 b ∧ Hid (TrI Bf Bw p P wr) ∧ Hid (candL i = P ++ ((cmbL (cmb i 0) (i - b) b).map ((a : Int) :: ·) ++ cmbL (cmb i 1) (i - (a + 1)) (a + 1))) ∧ Hid (But (Zd Bf Bw) w8 wr)) (fun iv _ => i - (intOf iv).toNat)
                case atStart => exact ⟨a + 1, P4, Nat.le_refl _, by omega, by go_num, HTa, HC3, HBa⟩
                case round =>
                  obtain ⟨b, P, hb1, hb2, rfl, HTb, HCb, HBb⟩ := hrel
                  clear HTa HC3 HBa
                  by_cases hbl : b < i
                  · have hbx : (b : Int) < i := by omega
                    have HCn : Hid (candL i = (P ++ [[(a : Int), (b : Int)]]) ++ ((cmbL (cmb i 0) (i - (b + 1)) (b + 1)).map ((a : Int) :: ·) ++ cmbL (cmb i 1) (i - (a + 1)) (a + 1))) := Lib.hid (by rw [HCb.out, cmb1_step i b hbl]; simp)
                    obtain ⟨wq, hwq⟩ : ∃ W, W = wr.alloc (.cells #[.int .i64 (a : Nat), .int .i64 (b : Nat)] 3) := ⟨_, rfl⟩
                    obtain ⟨gq, hgq⟩ : ∃ g, g = wr.heap.size := ⟨_, rfl⟩
                    have hq1 : wq.heap[gq]? = some (.cells #[.int .i64 (a : Nat), .int .i64 (b : Nat)] 3) := by rw [hwq, hgq]; exact World.alloc_heap_new _ _
                    have HFq : Hid (Fut wr wq) := Lib.hid (by rw [hwq]; exact Fut.alloc _ _)
                    have HIq : Hid (∀ W', But (Zd Bf Bw) wq W' → IntsAt W' (some ⟨gq, 0, none⟩) [(a : Int), (b : Int)]) := Lib.hid (fun W' bb => ints_heap2 (but_heap hq1 bb (fun hz => by have h1 := HZB.out _ hz; have h2 := HBb.out.size; omega)))
                    go_wp2_with fail
                    rw [← hwq, ← hgq]
                    clear hwq hgq hq1
                    refine (list_id _ _).mono ?_
                    rintro _ _ ⟨rfl, rfl⟩
                    go_wp2_with fail
                    refine (HTRY.out P _ (some ⟨gq, 0, none⟩) 2 [(a : Int), (b : Int)] 2 rfl (HBb.out.trans (But.of_below HFq.out)) (HTb.out.fut HFq.out) (by omega) (fun x hx => by simp at hx; omega) HIq.out).mono ?_
                    rintro _ wt ⟨rfl, hBt, hTt⟩
                    have HBt := Lib.hid ((HBb.out.trans (But.of_below HFq.out)).trans hBt)
                    have HTt := Lib.hid hTt
                    clear hBt hTt HIq HFq HTb HCb HBb
                    go_wp2_with fail
                    go_roundw
                    case rel => first
                      | exact ⟨b + 1, _, by omega, by omega, by go_num, HTt, HCn, HBt⟩
                      | ((repeat apply Exists.intro); exact ⟨⟨b + 1, _, by omega, by omega, by go_num, HTt, HCn, HBt⟩, rfl⟩)
                    case measure => simp [intOf]; omega
                  · obtain rfl : b = i := by omega
                    have HC4 : Hid (candL b = P ++ cmbL (cmb b 1) (b - (a + 1)) (a + 1)) := Lib.hid (by rw [HCb.out, cmb1_end, List.map_nil, List.nil_append])
                    clear HCb
                    go_wp2_with fail
                    go_roundw
                    case rel => first
                      | exact ⟨a + 1, P, by omega, by go_num, HTb, HC4, HBb⟩
                      | ((repeat apply Exists.intro); exact ⟨⟨a + 1, P, by omega, by go_num, HTb, HC4, HBb⟩, rfl⟩)
                    case measure => simp [intOf]; omega
              · obtain rfl : a = i := by omega
                have HC5 : Hid (candL a = P) := Lib.hid (by rw [HCa.out, cmb2_end, List.append_nil])
                clear HCa
                obtain ⟨cn, hcn⟩ : ∃ cn, (famL (c : Int) ((r : Int) * (c : Int)) S Y T).length = cn := ⟨_, rfl⟩
                obtain ⟨Q, hQ⟩ : ∃ Q, Q = (candL a).find? p := ⟨_, rfl⟩
                have HQB : Hid (brO (r : Int) (c : Int) S Y T = Q) := Lib.hid (by
                  rw [brO_find HGG.out, hQ, HP.out, HMI.out, Int.toNat_natCast])
                have HQM : Hid (cn = 0 ↔ Q.isSome = true) := Lib.hid (by
                  rw [← hcn, hQ, HP.out, List.length_eq_zero_iff, men_iff HCK.out, HMI.out, Int.toNat_natCast])
                have HTQ1 : Hid (wr.heap[Bf]? = some (.cells #[.bool Q.isSome] 4)) := Lib.hid (by have h := HTa.out.f; rw [← HC5.out, ← hQ] at h; exact h)
                have HTQ2 : Hid (∃ wa wc, wr.heap[Bw]? = some (.cells #[.slice wa (Q.getD []).length wc] 22) ∧ ∀ W, But (Zd Bf Bw) wr W → IntsAt W wa (Q.getD [])) := Lib.hid (by have h := HTa.out.x; rw [← HC5.out, ← hQ] at h; exact h)
                have HCN := Lib.hid hcn
                have HQL : Hid ((Q.getD []).length ≤ 2) := Lib.hid (by
                  cases hq : Q with
                  | none => simp
                  | some L =>
                    have hm := List.mem_of_find?_eq_some (hQ.symm.trans hq)
                    unfold candL at hm
                    simp only [List.mem_append] at hm
                    rcases hm with h | h | h
                    · have := cmb_len a 0 0 L h; simp; omega
                    · have := cmb_len a 1 0 L h; simp; omega
                    · have := cmb_len a 2 0 L h; simp; omega)
                have HF9 : Hid (Fut w2 wr) := Lib.hid (HFU.out wr HBa.out)
                clear hcn hQ HTa HC5 HTRY
                generalize wr = w9 at *
                obtain ⟨_, p0, p1, p2⟩ := HBP.out.fut HF9.out
                obtain ⟨_, q0, q1⟩ := HBQ.out.fut HF9.out
                go_wp2_with fail
                refine (count_ok3 (cap := sc) (HIN.out.fut HF9.out) HCK.out rfl rfl rfl HCN.out).mono ?_
                rintro _ w10 ⟨rfl, F10⟩
                have HF10 := Lib.hid (HF9.out.trans F10)
                have HT10a := Lib.hid F10
                clear F10 p0 p1 p2 q0 q1
                obtain ⟨_, p0, p1, p2⟩ := HBP.out.fut HF10.out
                obtain ⟨_, q0, q1⟩ := HBQ.out.fut HF10.out
                go_wp2_with fail
                refine (bar_any (r : Int) (c : Int) sa sc S ya yc Y ta tc T _ (HIN.out.fut HF10.out) (by have := HS16.out; omega)).mono ?_
                rintro _ w11 ⟨l11, lc11, rfl, hc11, hI11, F11⟩
                obtain ⟨E, hE⟩ : ∃ E, E = brE (r : Int) (c : Int) S Y T := ⟨_, rfl⟩
                obtain ⟨R, hR⟩ : ∃ R, R = brR (r : Int) (c : Int) S Y T := ⟨_, rfl⟩
                rw [← hE, ← hR]
                rw [← hR] at hI11
                have HER : Hid (E = (if Q.isSome = true then 0 else 13) ∧ R = Q.getD []) := Lib.hid ⟨by rw [hE]; unfold brE; rw [if_pos HCK.out, HQB.out], by rw [hR]; unfold brR; rw [if_pos HCK.out, HQB.out]⟩
                have HI11 := Lib.hid hI11
                have HF11 := Lib.hid (HF10.out.trans F11)
                have HT11 := Lib.hid (HT10a.out.trans F11)
                clear hE hR hI11 hc11 F11 HT10a HF10 p0 p1 p2 q0 q1 HF9
                have HB11 : Hid (But (Zd Bf Bw) w8 w11) := Lib.hid (HBa.out.trans (But.of_below HT11.out))
                clear HBa
                go_upto_region 35 with fail
                go_cut [147] from 114 to 147 (fun s147 wx => s147 = .bool false ∧ Hid (But (Zd Bf Bw) w8 wx))
                case first =>
                  have f11 := cell_of1 (heap_fut HTQ1.out HT11.out)
                  obtain ⟨wa, wc, h1, h2⟩ := HTQ2.out
                  have g11 := cell_of1 (heap_fut h1 HT11.out)
                  have H2 := Lib.hid h2
                  obtain ⟨hEE, hRR⟩ := HER.out
                  have hqm := HQM.out
                  clear h1 h2
                  cases hq : Q.isSome
                  · rw [hq] at hEE hqm f11
                    have hRn : R = [] := by
                      rw [hRR]
                      cases Q with
                      | none => rfl
                      | some _ => cases hq
                    have hcz : ((cn : Int) == 0) = false := by rw [beq_eq_false_iff_ne]; intro e; have := hqm.1 (by omega); cases this
                    have hE13 : (E != 13) = false := by rw [hEE]; rfl
                    have HL0 : Hid (R.length = 0) := Lib.hid (by rw [hRn]; rfl)
                    clear hEE hRR hqm hRn hq
                    go_wp2_with fail
                    go_meet
                    exact ⟨by rw [HL0.out]; rfl, HB11⟩
                  · rw [hq] at hEE hqm f11
                    have hcz : ((cn : Int) == 0) = true := by rw [hqm.2 rfl]; rfl
                    have hE0 : (E != 0) = false := by rw [hEE]; rfl
                    have HSM := Lib.hid (same_any l11 wa lc11 wc R (Q.getD []) w11 (by rw [hRR]; have := HQL.out; omega) (by have := HQL.out; omega) HI11.out (H2.out w11 (But.of_below HT11.out)))
                    have hdd : sameB R (Q.getD []) = true := by rw [hRR]; unfold sameB; simp
                    rw [hdd] at HSM
                    have HF0q : Hid (w11.heap[Bf]? = some (.cells #[.bool true] 4)) := Lib.hid (by rw [← hq]; exact heap_fut HTQ1.out HT11.out)
                    clear hEE hRR hqm hq hdd
                    go_wp2_with fail
                    refine HSM.out.mono ?_
                    rintro _ w12 ⟨rfl, qd, rfl⟩
                    have F12 := Fut.drewN w11 qd
                    have f12 := cell_of1 (heap_fut HF0q.out F12)
                    generalize w11.drewN qd = w12 at *
                    have HB12 : Hid (But (Zd Bf Bw) w8 w12) := Lib.hid (HB11.out.trans (But.of_below F12))
                    clear F12 f11 g11 HSM
                    go_wp2_with fail
                    go_meet
                    exact ⟨rfl, HB12⟩
                case rest =>
                  obtain ⟨rfl, HBc⟩ := hcut
                  clear HTQ1 HTQ2 HT11 HB11 HI11 HER HQL HQM HQB HCN
                  have HBc := HBc
                  generalize wc = w12 at *
                  obtain ⟨tq, htq⟩ : ∃ tq, tq = t 2 := ⟨_, rfl⟩
                  rw [← htq] at HQC
                  clear htq
                  go_wp2_with fail
                  go_loopw [149] (fun iv wr => ∃ x : Nat, x ≤ a ∧ iv = .int .i64 x ∧ Hid (But (Zd Bf Bw) w8 wr)) (fun iv _ => a - (intOf iv).toNat)
                  case atStart => exact ⟨0, Nat.zero_le _, rfl, HBc⟩
                  case round =>
                    obtain ⟨x, hx, rfl, HBx⟩ := hrel
                    clear HBc
                    have HFx : Hid (Fut w2 wr) := Lib.hid (HFU.out wr HBx.out)
                    by_cases hxa : x < a
                    · have hxx : (x : Int) < a := by omega
                      have hqb := HQC.out.2
                      have cq : wr.cell? ⟨w.heap.size, 2, none⟩ = some (.int .u8 (tq : Nat)) := (RowKit.Below.cell HFx.out (p := ⟨w.heap.size, 2, none⟩) (World.block_lt_of_cell? _ _ HQC.out.1)).trans HQC.out.1
                      obtain ⟨y, hy⟩ : ∃ y, y = (x + 1 + tq) % a := ⟨_, rfl⟩
                      have hya : y < a := by rw [hy]; exact Nat.mod_lt _ (by omega)
                      have hwx : IntKind.i64.wrap ((x : Int) + 1) = ((x + 1 : Nat) : Int) := by rw [IntWalk.i64_in _ ⟨by omega, by omega⟩]; omega
                      have hwt : IntKind.i64.wrap ((tq : Nat) : Int) = (tq : Int) := IntWalk.i64_in _ ⟨by omega, by omega⟩
                      have hwy : IntKind.i64.wrap (((x + 1 : Nat) : Int) + (tq : Nat)) = ((x + 1 + tq : Nat) : Int) := by rw [IntWalk.i64_in _ ⟨by omega, by omega⟩]; omega
                      have hrm : ((x + 1 + tq : Nat) : Int).tmod (a : Int) = (y : Int) := by rw [hy]; exact Int.ofNat_tmod _ _
                      have ha0 : ¬ (a : Int) = 0 := by omega
                      have hwr : IntKind.i64.wrap (y : Int) = (y : Int) := IntWalk.i64_in _ ⟨by omega, by omega⟩
                      clear hy
                      go_upto_region 41 with fail
                      clear hwx hwt hwy hrm ha0 hwr cq
                      have hyr : 0 ≤ ((x : Int) + 1 + (tq : Int)) % (a : Int) ∧ ((x : Int) + 1 + (tq : Int)) % (a : Int) < a := ⟨Int.emod_nonneg _ (by omega), Int.emod_lt_of_pos _ (by omega)⟩
                      generalize ((x : Int) + 1 + (tq : Int)) % (a : Int) = yi at *
                      obtain ⟨lo, hlo⟩ : ∃ lo, min (x : Int) yi = lo := ⟨_, rfl⟩
                      obtain ⟨hi, hhi⟩ : ∃ hi, max (x : Int) yi = hi := ⟨_, rfl⟩
                      have hlr : 0 ≤ lo ∧ lo ≤ hi ∧ hi < a := by omega
                      obtain ⟨hlr1, hlr2, hlr3⟩ := hlr
                      clear hyr hya
                      have HLO := Lib.hid hlo
                      have HHI := Lib.hid hhi
                      clear hlo hhi
                      go_wp2_with fail
                      refine (list_id _ _).mono ?_
                      rintro _ _ ⟨rfl, rfl⟩
                      go_wp2_with fail
                      rw [HLO.out, HHI.out]
                      refine (list_id _ _).mono ?_
                      rintro _ _ ⟨rfl, rfl⟩
                      go_wp2_with fail
                      obtain ⟨g1, hg1⟩ : ∃ g, g = wr.heap.size := ⟨_, rfl⟩
                      obtain ⟨g2, hg2⟩ : ∃ g, g = wr.heap.size + 1 := ⟨_, rfl⟩
                      obtain ⟨g3, hg3⟩ : ∃ g, g = wr.heap.size + 1 + 1 := ⟨_, rfl⟩
                      rw [← hg3, ← hg2, ← hg1]
                      obtain ⟨wx1, hwx1⟩ : ∃ W, W = wr.alloc (.cells #[.int .i64 (x : Nat)] 3) := ⟨_, rfl⟩
                      obtain ⟨wx2, hwx2⟩ : ∃ W, W = wx1.alloc (.cells #[.int .i64 lo, .int .i64 hi] 3) := ⟨_, rfl⟩
                      obtain ⟨w13, hw13⟩ : ∃ W, W = wx2.alloc (.cells #[.slice (some ⟨g1, 0, none⟩) 1 1, .slice (some ⟨g2, 0, none⟩) 2 2] 22) := ⟨_, rfl⟩
                      rw [← hwx1, ← hwx2, ← hw13]
                      have s1 : wx1.heap.size = g2 := by rw [hwx1, World.size_alloc, hg2]
                      have s2 : wx2.heap.size = g3 := by rw [hwx2, World.size_alloc, s1, hg2, hg3]
                      have Fx1 : Fut wr wx1 := by rw [hwx1]; exact Fut.alloc _ _
                      have Fx2 : Fut wx1 wx2 := by rw [hwx2]; exact Fut.alloc _ _
                      have Fx3 : Fut wx2 w13 := by rw [hw13]; exact Fut.alloc _ _
                      have o1 : w13.heap[g1]? = some (.cells #[.int .i64 (x : Nat)] 3) := by
                        have := World.alloc_heap_new wr (.cells #[.int .i64 (x : Nat)] 3)
                        rw [← hwx1, ← hg1] at this
                        exact heap_fut (heap_fut this Fx2) Fx3
                      have o2 : w13.heap[g2]? = some (.cells #[.int .i64 lo, .int .i64 hi] 3) := by
                        have := World.alloc_heap_new wx1 (.cells #[.int .i64 lo, .int .i64 hi] 3)
                        rw [← hwx2, s1] at this
                        exact heap_fut this Fx3
                      have o3 : w13.heap[g3]? = some (.cells #[.slice (some ⟨g1, 0, none⟩) 1 1, .slice (some ⟨g2, 0, none⟩) 2 2] 22) := by
                        have := World.alloc_heap_new wx2 (.cells #[.slice (some ⟨g1, 0, none⟩) 1 1, .slice (some ⟨g2, 0, none⟩) 2 2] 22)
                        rw [← hw13, s2] at this
                        exact this
                      have HO1 := Lib.hid o1
                      have HO2 := Lib.hid o2
                      have HO3 := Lib.hid o3
                      have HB13 : Hid (But (Zd Bf Bw) w8 w13) := Lib.hid (HBx.out.trans (But.of_below ((Fx1.trans Fx2).trans Fx3)))
                      clear o1 o2 o3 Fx1 Fx2 Fx3 s1 s2 hwx1 hwx2 hw13 hg1 hg2 hg3 HBx HFx HLO HHI
                      generalize wr = wy at *
                      go_loopw [173] (fun iv wq => ∃ j : Nat, j ≤ 2 ∧ iv = .int .i64 j ∧ Hid (But (Zd Bf Bw) w8 wq) ∧ Hid (Fut w13 wq)) (fun iv _ => 2 - (intOf iv).toNat)
                      case atStart => exact ⟨0, by omega, rfl, HB13, Lib.hid Fut.rfl⟩
                      case round =>
                        obtain ⟨j, hj, rfl, HBq, HFq⟩ := hrel
                        generalize wr = wq at *
                        obtain ⟨d0, d1, _, _⟩ := two_cell (heap_fut HO3.out HFq.out)
                        rcases (by omega : j = 0 ∨ j = 1 ∨ j = 2) with rfl | rfl | rfl
                        · go_upto_region 44 with fail
                          go_quiet (fail)
                          have HBq := Lib.hid (HBq.out.trans (But.of_below (Fut.drewN wq nq)))
                          have HFq := Lib.hid (HFq.out.trans (Fut.drewN wq nq))
                          clear d0 d1
                          generalize wq.drewN nq = wq at *
                          have hIq : IntsAt wq (some ⟨g1, 0, none⟩) [(x : Int)] := ints_heap1 (heap_fut HO1.out HFq.out)
                          go_upto_region 46 with fail
                          have HBC := Lib.hid (HBAR.out wq (some ⟨g1, 0, none⟩) 1 [(x : Int)] 1 rfl HBq.out (by omega) (fun z hz => by rw [List.mem_singleton.1 hz]; omega) hIq)
                          have HPV := Lib.hid (fun W (F : Fut wq W) => proves_any (r : Int) (c : Int) sa sc S ya yc Y ta tc T (some ⟨g1, 0, none⟩) 1 [(x : Int)] W (HIN.out.fut ((HFU.out wq HBq.out).trans F)) (by have := HS16.out; omega) (hIq.fut F) (by simp))
                          have HPR : Hid (prvE (r : Int) (c : Int) S Y T [(x : Int)] = if p [(x : Int)] = true then 0 else 14) := Lib.hid (by rw [HP.out]; exact prv_ok HCK.out (fun z hz => by rw [List.mem_singleton.1 hz, HMI.out]; omega) (by simp))
                          clear hIq
                          generalize p [(x : Int)] = pb at *
                          generalize prvE (r : Int) (c : Int) S Y T [(x : Int)] = pv at *
                          have cb := cell_of1 (HBBc.out wq HBq.out)
                          go_wp2_with fail
                          refine HBC.out.mono ?_
                          rintro _ wu ⟨rfl, Fu⟩
                          have HFu := Lib.hid Fu
                          have HBu : Hid (But (Zd Bf Bw) w8 wu) := Lib.hid (HBq.out.trans (But.of_below Fu))
                          clear Fu cb HBC
                          obtain ⟨_, p0, p1, p2⟩ := HBP.out.fut (HFU.out wu HBu.out)
                          obtain ⟨_, q0, q1⟩ := HBQ.out.fut (HFU.out wu HBu.out)
                          cases pb
                          · simp only [Bool.false_eq_true, if_false] at HPR
                            go_wp2_with fail
                            refine (HPV.out wu HFu.out).mono ?_
                            rintro _ wv ⟨rfl, Fv⟩
                            rw [HPR.out]
                            have HFv : Hid (Fut w13 wv) := Lib.hid ((HFq.out.trans HFu.out).trans Fv)
                            have HBv : Hid (But (Zd Bf Bw) w8 wv) := Lib.hid (HBu.out.trans (But.of_below Fv))
                            clear Fv HPV p0 p1 p2 q0 q1
                            go_wp2_with fail
                            go_roundw
                            case rel => first
                              | exact ⟨0 + 1, by omega, by go_num, HBv, HFv⟩
                              | ((repeat apply Exists.intro); exact ⟨⟨0 + 1, by omega, by go_num, HBv, HFv⟩, rfl⟩)
                            case measure => simp [intOf]
                          · simp only [if_true] at HPR
                            go_wp2_with fail
                            refine (HPV.out wu HFu.out).mono ?_
                            rintro _ wv ⟨rfl, Fv⟩
                            rw [HPR.out]
                            have HFv : Hid (Fut w13 wv) := Lib.hid ((HFq.out.trans HFu.out).trans Fv)
                            have HBv : Hid (But (Zd Bf Bw) w8 wv) := Lib.hid (HBu.out.trans (But.of_below Fv))
                            clear Fv HPV p0 p1 p2 q0 q1
                            go_wp2_with fail
                            go_roundw
                            case rel => first
                              | exact ⟨0 + 1, by omega, by go_num, HBv, HFv⟩
                              | ((repeat apply Exists.intro); exact ⟨⟨0 + 1, by omega, by go_num, HBv, HFv⟩, rfl⟩)
                            case measure => simp [intOf]
                        · have HI2 : Hid (∀ W, Fut w13 W → IntsAt W (some ⟨g2, 0, none⟩) [lo, hi]) := Lib.hid (fun W F => ints_heap2 (heap_fut HO2.out F))
                          obtain ⟨m0, m1, _, _⟩ := two_cell (heap_fut HO2.out HFq.out)
                          rcases Int.lt_or_eq_of_le hlr2 with hlt | heq
                          · have hbq : (lo == hi) = false := by rw [beq_eq_false_iff_ne]; omega
                            go_upto_region 44 with fail
                            go_quiet (fail)
                            have HBq := Lib.hid (HBq.out.trans (But.of_below (Fut.drewN wq nq)))
                            have HFq := Lib.hid (HFq.out.trans (Fut.drewN wq nq))
                            clear d0 d1 m0 m1
                            generalize wq.drewN nq = wq at *
                            have hIq := HI2.out wq HFq.out
                            clear hbq
                            go_upto_region 46 with fail
                            have HBC := Lib.hid (HBAR.out wq (some ⟨g2, 0, none⟩) 2 [lo, hi] 2 rfl HBq.out (by omega) (fun z hz => by simp at hz; omega) hIq)
                            have HPV := Lib.hid (fun W (F : Fut wq W) => proves_any (r : Int) (c : Int) sa sc S ya yc Y ta tc T (some ⟨g2, 0, none⟩) 2 [lo, hi] W (HIN.out.fut ((HFU.out wq HBq.out).trans F)) (by have := HS16.out; omega) (hIq.fut F) (by simp))
                            have HPR : Hid (prvE (r : Int) (c : Int) S Y T [lo, hi] = if p [lo, hi] = true then 0 else 14) := Lib.hid (by rw [HP.out]; exact prv_ok HCK.out (fun z hz => by rw [HMI.out]; simp at hz; omega) (by simp; omega))
                            clear hIq
                            generalize p [lo, hi] = pb at *
                            generalize prvE (r : Int) (c : Int) S Y T [lo, hi] = pv at *
                            have cb := cell_of1 (HBBc.out wq HBq.out)
                            go_wp2_with fail
                            refine HBC.out.mono ?_
                            rintro _ wu ⟨rfl, Fu⟩
                            have HFu := Lib.hid Fu
                            have HBu : Hid (But (Zd Bf Bw) w8 wu) := Lib.hid (HBq.out.trans (But.of_below Fu))
                            clear Fu cb HBC
                            obtain ⟨_, p0, p1, p2⟩ := HBP.out.fut (HFU.out wu HBu.out)
                            obtain ⟨_, q0, q1⟩ := HBQ.out.fut (HFU.out wu HBu.out)
                            cases pb
                            · simp only [Bool.false_eq_true, if_false] at HPR
                              go_wp2_with fail
                              refine (HPV.out wu HFu.out).mono ?_
                              rintro _ wv ⟨rfl, Fv⟩
                              rw [HPR.out]
                              have HFv : Hid (Fut w13 wv) := Lib.hid ((HFq.out.trans HFu.out).trans Fv)
                              have HBv : Hid (But (Zd Bf Bw) w8 wv) := Lib.hid (HBu.out.trans (But.of_below Fv))
                              clear Fv HPV p0 p1 p2 q0 q1
                              go_wp2_with fail
                              go_roundw
                              case rel => first
                                | exact ⟨1 + 1, by omega, by go_num, HBv, HFv⟩
                                | ((repeat apply Exists.intro); exact ⟨⟨1 + 1, by omega, by go_num, HBv, HFv⟩, rfl⟩)
                              case measure => simp [intOf]
                            · simp only [if_true] at HPR
                              go_wp2_with fail
                              refine (HPV.out wu HFu.out).mono ?_
                              rintro _ wv ⟨rfl, Fv⟩
                              rw [HPR.out]
                              have HFv : Hid (Fut w13 wv) := Lib.hid ((HFq.out.trans HFu.out).trans Fv)
                              have HBv : Hid (But (Zd Bf Bw) w8 wv) := Lib.hid (HBu.out.trans (But.of_below Fv))
                              clear Fv HPV p0 p1 p2 q0 q1
                              go_wp2_with fail
                              go_roundw
                              case rel => first
                                | exact ⟨1 + 1, by omega, by go_num, HBv, HFv⟩
                                | ((repeat apply Exists.intro); exact ⟨⟨1 + 1, by omega, by go_num, HBv, HFv⟩, rfl⟩)
                              case measure => simp [intOf]
                          · have hbq : (lo == hi) = true := by rw [beq_iff_eq]; exact heq
                            go_upto_region 44 with fail
                            go_quiet (fail)
                            have HBq := Lib.hid (HBq.out.trans (But.of_below (Fut.drewN wq nq)))
                            have HFq := Lib.hid (HFq.out.trans (Fut.drewN wq nq))
                            clear d0 d1 m0 m1 hbq heq
                            generalize wq.drewN nq = wq at *
                            go_wp2_with fail
                            go_roundw
                            case rel => first
                              | exact ⟨1 + 1, by omega, by go_num, HBq, HFq⟩
                              | ((repeat apply Exists.intro); exact ⟨⟨1 + 1, by omega, by go_num, HBq, HFq⟩, rfl⟩)
                            case measure => simp [intOf]
                        · clear d0 d1
                          go_wp2_with fail
                          go_roundw
                          case rel => first
                            | exact ⟨x + 1, by omega, by go_num, HBq⟩
                            | ((repeat apply Exists.intro); exact ⟨⟨x + 1, by omega, by go_num, HBq⟩, rfl⟩)
                          case measure => simp [intOf]; omega
                    · obtain rfl : x = a := by omega
                      go_wp2_with fail
                      refine (works_any _).mono ?_
                      rintro _ wg ⟨rfl, F⟩
                      have HF3 := Lib.hid ((HF2.out.trans HFx.out).trans F)
                      clear F
                      go_wp2_with fail
                      go_ret
                      exact ⟨rfl, HF3.out⟩
end Go.Proofs.Ytflllkamdihfaaa
