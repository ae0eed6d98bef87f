/- LaneGessel: law7_any -/
import Derived.Test.YtflllkamdihfaaaLIB
import Derived.Test.YtflllkamdihfaaaLNC
import Derived.Test.YtflllkamdihfaaaLHO
import Derived.Test.YtflllkamdihfaaaLHG
import Derived.Test.YtflllkamdihfaaaLEC
import Derived.Test.YtflllkamdihfaaaLBJ
import Derived.Test.YtflllkamdihfaaaLHI
import Derived.Test.YtflllkamdihfaaaLBH
import Derived.Deep.AppendLies
import Derived.Deep.DeepCutAuto
namespace Go.Proofs.Ytflllkamdihfaaa
open Go.RowKit Go.Sort
theorem one_ints {w : World} {s : Nat} {x : Int} (h : w.cell? ⟨s, 0, none⟩ = some (.int .i64 x)) (hs : s < w.heap.size) : IntsAt w (some ⟨s, 0, none⟩) [x] := fun j hj => by
  obtain rfl : j = 0 := by simp at hj; exact hj
  exact ⟨s, 0, rfl, hs, h⟩
theorem fut_own {a b c : World} {row : Option Nat} (h : Fut a b) (g : b.grownBy c row) (hr : ∀ q, row = some q → a.heap.size ≤ q) : Fut a c := RowKit.Below.grown h g (RowKit.Below.size h) hr
/-- the table's rows with no row begun. -/
theorem FamX.cut {w : World} {B : Nat} {fv ov : Value} {F : List (List Int)} {O : List Int} (h : FamX w B fv ov F O) : FamX w B fv (.slice none 0 0) F [] := by
  obtain ⟨⟨vals, h1, h2, _⟩, _⟩ := h
  refine ⟨⟨vals, h1, h2, fun j u hu => ?_⟩, World.ownsRow_nil _ _ _ _⟩
  cases h : u.ownBlock with
  | none => exact .inl rfl
  | some g => exact .inr (by simp [Value.ownBlock])
set_option maxRecDepth 100000 in
set_option maxHeartbeats 16000000 in
theorem law7_any (t : Nat → Nat) (ht : t 3 ≤ 65535 ∧ ∀ j, j ≠ 3 → t j ≤ 255) (w : World) :
    Calls Try.prog 7 #[planV t] w fun e w' => e = .returned (.bool true) ∧ Fut w w' := by
  have HMD := Lib.hid (fun W => made_any t ht W)
  have HF0 : Hid (Fut w (w.alloc (.cells #[.int .u8 (t 0 : Nat), .int .u8 (t 1 : Nat), .int .u8 (t 2 : Nat), .int .u16 (t 3 : Nat), .int .u8 (t 4 : Nat), .int .u8 (t 5 : Nat), .int .u8 (t 6 : Nat), .int .u8 (t 7 : Nat), .int .u8 (t 8 : Nat), .int .u8 (t 9 : Nat)] 63))) := Lib.hid (Fut.alloc _ _)
  unfold planV at *
  go_enter Try.func7, Try.ntmps7
  go_wp2_with fail
  refine (HMD.out _).mono ?_
  rintro _ w1 ⟨sa, sc, ya, yc, ta, tc, rfl, hS, hY, hT, F1⟩
  have HF1 := Lib.hid (HF0.out.trans F1)
  have hA : Fut w1 ((w1.alloc (.cells #[.int .i64 (mR t : Nat), .int .i64 (mC t : Nat), .slice sa (mS t).length sc] 24)).alloc (.cells #[.slice ya (mY t).length yc, .slice ta (mT t).length tc] 26)) := (Fut.alloc _ _).trans (Fut.alloc _ _)
  have hBP := (BoxP.new w1 (mR t : Nat) (mC t : Nat) sa (mS t).length sc).fut (Fut.alloc _ (.cells #[.slice ya (mY t).length yc, .slice ta (mT t).length tc] 26))
  have hBQ := BoxQ.new (w1.alloc (.cells #[.int .i64 (mR t : Nat), .int .i64 (mC t : Nat), .slice sa (mS t).length sc] 24)) ya (mY t).length yc ta (mT t).length tc
  rw [World.size_alloc] at hBQ
  have HF2 := Lib.hid (HF1.out.trans hA)
  have HBP := Lib.hid hBP
  have HBQ := Lib.hid hBQ
  have hS2 := hS.fut hA
  have hY2 := hY.fut hA
  have hT2 := hT.fut hA
  clear HMD HF0 HF1 hBP hBQ hA hS hY hT F1
  cases hok : mOk t
  · clear hS2 hY2 hT2 HBP HBQ hok
    go_wp2_with fail
    refine (works_any _).mono ?_
    rintro _ w3 ⟨rfl, F⟩
    have HF3 := Lib.hid (HF2.out.trans F)
    clear F
    go_wp2_with fail
    go_ret
    exact ⟨rfl, HF3.out⟩
  · have hck := made_chk hok
    have hg := made_g hok
    have hsin := made_sin t
    have hsl : (mS t).length ≤ 16 := Nat.le_trans (shL_len _ _) (by unfold mR mC; exact Nat.mul_le_mul (show 1 + t 0 % 4 ≤ 4 by omega) (show 1 + t 1 % 4 ≤ 4 by omega))
    have h : InPQ _ sa (mS t) ya yc (mY t) ta tc (mT t) := inpq_made hS2 hY2 hT2 (by omega) (by have := hg.three; omega) (by have := hg.three; have := hg.len; omega)
    have HIN := Lib.hid h
    have HCK := Lib.hid hck
    have HGG := Lib.hid hg
    clear hS2 hY2 hT2 hok hck hg hsin h hsl
    generalize mR t = r at *
    generalize mC t = c at *
    generalize mS t = S at *
    generalize mY t = Y at *
    generalize mT t = T at *
    obtain ⟨_, p0, p1, p2⟩ := HBP.out
    obtain ⟨_, q0, q1⟩ := HBQ.out
    go_wp2_with fail
    generalize hW2 : (w1.alloc (.cells #[.int .i64 (r : Int), .int .i64 (c : Int), .slice sa S.length sc] 24)).alloc (.cells #[.slice ya Y.length yc, .slice ta T.length tc] 26) = w2 at *
    clear p0 p1 p2 q0 q1
    obtain ⟨i0, hi0, hz0, hz1, hz2⟩ := info_parts info3
    obtain ⟨i1, hi1, hy0, hy1, hy2⟩ := info_parts info22
    obtain ⟨B1, hB1⟩ : ∃ b, b = w1.heap.size + 1 + 1 := ⟨_, rfl⟩
    obtain ⟨B2, hB2⟩ : ∃ b, b = w1.heap.size + 1 + 1 + 1 := ⟨_, rfl⟩
    obtain ⟨B3, hB3⟩ : ∃ b, b = w1.heap.size + 1 + 1 + 1 + 1 := ⟨_, rfl⟩
    rw [← hB3, ← hB2, ← hB1]
    have e2 : w2.heap.size = B1 := by rw [← hW2, World.size_alloc, World.size_alloc, hB1]
    obtain ⟨wa, hwa⟩ : ∃ W, W = w2.alloc (.cells #[.int .i64 0] 3) := ⟨_, rfl⟩
    obtain ⟨wb, hwb⟩ : ∃ W, W = wa.alloc (.cells #[.int .i64 0] 3) := ⟨_, rfl⟩
    obtain ⟨w3, hw3⟩ : ∃ W, W = wb.alloc (.cells #[.slice none 0 0] 35) := ⟨_, rfl⟩
    have ea : wa.heap.size = B2 := by rw [hwa, World.size_alloc, e2, hB1, hB2]
    have eb : wb.heap.size = B3 := by rw [hwb, World.size_alloc, ea, hB2, hB3]
    rw [← hwa, ← hwb, ← hw3]
    have Fa : Fut w2 wa := by rw [hwa]; exact Fut.alloc _ _
    have Fb : Fut wa wb := by rw [hwb]; exact Fut.alloc _ _
    have Fc : Fut wb w3 := by rw [hw3]; exact Fut.alloc _ _
    have F3 : Fut w2 w3 := (Fa.trans Fb).trans Fc
    have k1 : w3.heap[B1]? = some (.cells #[.int .i64 0] 3) := by
      have := World.alloc_heap_new w2 (.cells #[.int .i64 0] 3)
      rw [← hwa, e2] at this
      exact heap_fut (heap_fut this Fb) Fc
    have k2 : w3.heap[B2]? = some (.cells #[.int .i64 0] 3) := by
      have := World.alloc_heap_new wa (.cells #[.int .i64 0] 3)
      rw [← hwb, ea] at this
      exact heap_fut this Fc
    have k3 : w3.heap[B3]? = some (.cells #[.slice none 0 0] 35) := by
      have := World.alloc_heap_new wb (.cells #[.slice none 0 0] 35)
      rw [← hw3, eb] at this
      exact this
    have hI : GsI B1 B2 B3 T [] w3 := ⟨k1, k2, ⟨none, 0, k3, fun W _ j hj => absurd hj (by simp [lstF])⟩, by simp [lstF], fun j hj => absurd hj (by simp [lstF])⟩
    have hFW : ∀ W, But (Zc B1 B2 B3) w3 W → Fut w2 W := fun W b => RowKit.Below.trans F3 (b.below w2.heap.size (RowKit.Below.size F3) (fun q hq => by rcases hq with rfl | rfl | rfl <;> omega))
    have hfa := fams_any (B1 := B1) (B2 := B2) (B3 := B3) (by omega) (by omega) (by omega) (r : Int) (c : Int) sa sc S ya yc Y ta tc T w3 HCK.out (HIN.out.fut F3) (fun W b => HIN.out.t.fut (hFW W b)) hI
    obtain ⟨D, hD⟩ : ∃ D, D = gfL (Y.map fun y => lwL (stL (c : Int) ((r : Int) * (c : Int)) S) S T y) [] := ⟨_, rfl⟩
    obtain ⟨g1, g2, g3⟩ := gess_end HCK.out hD
    rw [← hD] at hfa
    have HFA := Lib.hid hfa
    have HFW := Lib.hid hFW
    clear hfa hFW hI k1 k2 k3 Fa Fb Fc F3 hwa hwb hw3 ea eb e2 hW2 hD hB1 hB2 hB3
    refine HFA.out.mono ?_
    rintro _ w4 ⟨rfl, hB4, hG4⟩
    have HF24 : Hid (Fut w2 w4) := Lib.hid (HFW.out _ hB4)
    have HG4 := Lib.hid hG4
    have HF4 := Lib.hid (HF2.out.trans HF24.out)
    have HIN4 := Lib.hid (HIN.out.fut HF24.out)
    have HBP4 := Lib.hid (HBP.out.fut HF24.out)
    have HBQ4 := Lib.hid (HBQ.out.fut HF24.out)
    clear hB4 hG4 HFA HFW HF2 HF24 HIN HBP HBQ
    have HG1 := Lib.hid g1
    have HG2 := Lib.hid g2
    have HG3 := Lib.hid g3
    clear g1 g2 g3
    obtain ⟨tb, htb⟩ : ∃ tb, tb = tabL (r : Int) (c : Int) S Y T := ⟨_, rfl⟩
    have htg := tab_good HCK.out
    rw [← htb] at htg
    have HTG := Lib.hid htg
    have HTB := Lib.hid htb
    have HY3 : Hid (Y.length ≤ 3 ∧ T.length ≤ 3) := Lib.hid ⟨HGG.out.three, by have := HGG.out.len; have := HGG.out.three; omega⟩
    have HRL : Hid (∀ k s, s ≤ T.length → (rowT (c : Int) ((r : Int) * (c : Int)) S Y T k s).length = s) := Lib.hid (fun k s hs => by unfold rowT; rw [List.length_map, List.length_take]; omega)
    have HRS := Lib.hid (fun k s hs => rowT_succ (c : Int) ((r : Int) * (c : Int)) S Y T k s hs)
    have HWL : Hid (∀ k s, k < Y.length → s < T.length → (lwL (stL (c : Int) ((r : Int) * (c : Int)) S) S [nth T s] (nth Y k)).length = wayN (c : Int) ((r : Int) * (c : Int)) S (nth Y k) (nth T s)) := Lib.hid (fun k s hk _ => by
      have hy := HGG.out.y _ (nth_mem hk)
      rw [wayN_len HGG.out.side S _ _ ⟨hy.1, hy.2.1⟩, (lwL_perm S (nth Y k) (nth T s)).length_eq])
    have HWY : Hid (∀ k s W l, k < Y.length → s < T.length → Fut w4 W → IntsAt W (some ⟨l, 0, none⟩) [nth T s] → Calls Try.prog 47 #[.agg #[.int .i64 (r : Int), .int .i64 (c : Int), .slice sa S.length sc], .int .i64 (nth Y k), .slice (some ⟨l, 0, none⟩) 1 1] W fun e w' => ∃ v, e = .returned v ∧ OwnL w' W.heap.size v (lwL (stL (c : Int) ((r : Int) * (c : Int)) S) S [nth T s] (nth Y k)) ∧ Fut W w') := Lib.hid (fun k s W l hk _ F hI => by
      have hy := HGG.out.y _ (nth_mem hk)
      exact lways_own (r : Int) (c : Int) _ HGG.out.side sa sc S (nth Y k) ⟨hy.1, hy.2.1⟩ (some ⟨l, 0, none⟩) 1 [nth T s] W (HIN4.out.s.fut F) HIN4.out.sl hI (by simp))
    have HTL : Hid (∀ k, k ≤ Y.length → (tb.take k).length = k) := Lib.hid (fun k hk => by rw [List.length_take, htg.1]; omega)
    have HTE : Hid (tb.take Y.length = tb) := Lib.hid (List.take_of_length_le (by rw [htg.1]; exact Nat.le_refl _))
    have HTS : Hid (∀ k, k < Y.length → tb.take (k + 1) = tb.take k ++ [rowT (c : Int) ((r : Int) * (c : Int)) S Y T k T.length]) := Lib.hid (fun k hk => by
      rw [List.take_succ_eq_append_getElem (by rw [htg.1]; exact hk), ← lth_get (by rw [htg.1]; exact hk), htg.2.1 k hk])
    have hyx : (Y.length : Int) ≤ 3 := by have := HY3.out.1; omega
    have htx : (T.length : Int) ≤ 3 := by have := HY3.out.2; omega
    have HX0 : Hid (FamX w4 w4.heap.size (.slice none 0 0) (.slice none 0 0) (tb.take 0) []) := Lib.hid (FamX.nil _ _)
    have q0 := HBQ4.out.c0
    clear htb htg
    go_wp2_with fail
    clear q0
    go_loopw [9, 39] (fun ov iv wr => ∃ (k : Nat) (oa : Option Addr) (oc : Nat), k ≤ Y.length ∧ iv = .int .i64 k ∧ ov = .slice oa k oc ∧ Hid (FamX wr w4.heap.size (.slice oa k oc) (.slice none 0 0) (tb.take k) []) ∧ Hid (Fut w4 wr)) (fun _ iv _ => Y.length - (intOf iv).toNat)
    case atStart => exact ⟨0, none, 0, Nat.zero_le _, rfl, rfl, HX0, Lib.hid Fut.rfl⟩
    case round =>
      obtain ⟨k, oa, oc, hk, rfl, rfl, HXk, HFk⟩ := hrel
      clear HX0
      by_cases hkl : k < Y.length
      · have hkx : (k : Int) < Y.length := by omega
        obtain ⟨yb, yo, rfl, hyb, cy⟩ := (HIN4.out.fut HFk.out).y k hkl
        have q1 := (HBQ4.out.fut HFk.out).c1
        have HXs : Hid (FamX wr w4.heap.size (.slice oa k oc) (.slice none 0 0) (tb.take k) (rowT (c : Int) ((r : Int) * (c : Int)) S Y T k 0)) := HXk
        go_wp2_with fail
        clear q1 cy hyb HXk
        obtain ⟨wo, hwo⟩ : ∃ wo, wo = wr := ⟨_, rfl⟩
        subst hwo
        go_loopw [12, 46] (fun lv sv wr => ∃ (s : Nat) (la : Option Addr) (lc : Nat), s ≤ T.length ∧ sv = .int .i64 s ∧ lv = .slice la s lc ∧ Hid (FamX wr w4.heap.size (.slice oa k oc) (.slice la s lc) (tb.take k) (rowT (c : Int) ((r : Int) * (c : Int)) S Y T k s)) ∧ Hid (Fut w4 wr)) (fun _ sv _ => T.length - (intOf sv).toNat)
        case atStart => exact ⟨0, none, 0, Nat.zero_le _, rfl, rfl, HXs, HFk⟩
        case round =>
          obtain ⟨s, la, lc, hs, rfl, rfl, HXs2, HFs⟩ := hrel
          clear HXs
          by_cases hsl : s < T.length
          · have hsx : (s : Int) < T.length := by omega
            obtain ⟨tbk, tbo, rfl, htbk, ct⟩ := (HIN4.out.fut HFs.out).t s hsl
            have FD : Fut wr wr.drew := below_drewN Fut.rfl 1
            have HF0 : Hid (Fut w4 wr.drew) := Lib.hid (HFs.out.trans FD)
            have HFX0 := Lib.hid (HXs2.out.fut FD)
            have HU0 : Hid (w4.heap.size ≤ wr.drew.heap.size) := Lib.hid (RowKit.Below.size HF0.out)
            have keep3 : ∀ W, Fut w4 W → BoxP W w1.heap.size (r : Int) (c : Int) sa S.length sc := fun W X => HBP4.out.fut X
            have keep : ∀ W, Fut wr.drew W → BoxP W w1.heap.size (r : Int) (c : Int) sa S.length sc := fun W X => keep3 W (HF0.out.trans X)
            clear FD HXs2 HFs
            go_upto_region 15 with fail
            clear ct htbk
            refine wp_region_held_drew (S := (fun w' => BoxP w' w1.heap.size (r : Int) (c : Int) sa S.length sc)) (by kernel_rfl) ?_ (fun hHeld => ?_)
            · exact keep _ Fut.rfl
            generalize wr.drew = u0 at *
            refine wpAnyH_take (i := 0) (oi := { dst := some 50, op := Op.move (Operand.tmp 12), type := 22, pos := "outright.go:160", after := #[], guard := none }) (v := ?_) rfl (by kernel_rfl) (by kernel_rfl) (by kernel_rfl) (fun _ _ _ h => h) (Or.inl ⟨by rfl, ?_⟩) (by assumption) ?_
            rotate_left
            · (intro w hSw; obtain ⟨_, s0, s1, s2⟩ := hSw; go_simp <;> with_reducible rfl)
            try simp only [Act.put, List.setIfInBounds_toArray, List.set_cons_zero, List.set_cons_succ]
            refine wpAnyH_take (i := 1) (oi := { dst := some 51, op := Op.load 24 (Operand.tmp 3), type := 24, pos := "outright.go:160", after := #[], guard := none }) (v := ?_) rfl (by kernel_rfl) (by kernel_rfl) (by kernel_rfl) (fun _ _ _ h => h) (Or.inl ⟨by rfl, ?_⟩) (by assumption) ?_
            rotate_left
            · (intro w hSw; obtain ⟨_, s0, s1, s2⟩ := hSw; go_simp <;> with_reducible rfl)
            try simp only [Act.put, List.setIfInBounds_toArray, List.set_cons_zero, List.set_cons_succ]
            refine wpAnyH_take (i := 2) (oi := { dst := some 52, op := Op.move (Operand.tmp 11), type := 3, pos := "outright.go:160", after := #[], guard := none }) (v := ?_) rfl (by kernel_rfl) (by kernel_rfl) (by kernel_rfl) (fun _ _ _ h => h) (Or.inl ⟨by rfl, ?_⟩) (by assumption) ?_
            rotate_left
            · (intro w hSw; obtain ⟨_, s0, s1, s2⟩ := hSw; go_simp <;> with_reducible rfl)
            try simp only [Act.put, List.setIfInBounds_toArray, List.set_cons_zero, List.set_cons_succ]
            refine wpAnyH_take (i := 3) (oi := { dst := some 53, op := Op.move (Operand.tmp 14), type := 3, pos := "outright.go:160", after := #[], guard := none }) (v := ?_) rfl (by kernel_rfl) (by kernel_rfl) (by kernel_rfl) (fun _ _ _ h => h) (Or.inl ⟨by rfl, ?_⟩) (by assumption) ?_
            rotate_left
            · (intro w hSw; obtain ⟨_, s0, s1, s2⟩ := hSw; go_simp <;> with_reducible rfl)
            try simp only [Act.put, List.setIfInBounds_toArray, List.set_cons_zero, List.set_cons_succ]
            refine wpAnyH_ready (rs := [4]) (by kernel_rfl) (by simp) ?_
            refine AllReadyH.cons (o := { dst := some 54, op := Op.buildSlice 22 1 #[(0, Operand.tmp 53)], type := 22, pos := "outright.go:160", after := #[{ on := 3, ground := Ground.data }], guard := none }) rfl (fun K hK => ?_) AllReadyH.nil
            go_simp
            obtain ⟨v4, hv4⟩ : ∃ W, W = u0.alloc (.cells #[(.int .i64 (nth T s))] 3) := ⟨_, rfl⟩
            have T4 : Hid (Fut u0 v4) := Lib.hid (by rw [hv4]; exact Fut.alloc _ _)
            have G4 : Hid (Fut u0 v4) := Lib.hid ((Fut.rfl).trans T4.out)
            have N4 : Hid (v4.cell? ⟨u0.heap.size, 0, none⟩ = some (.int .i64 (nth T s)) ∧ u0.heap.size < v4.heap.size) := Lib.hid (by rw [hv4]; exact ⟨cell_new _ _ _, by rw [World.size_alloc]; omega⟩)
            obtain ⟨s4, hs4⟩ : ∃ s, s = u0.heap.size := ⟨_, rfl⟩
            rw [← hv4]
            rw [← hs4] at N4 ⊢
            clear hv4 hs4
            refine hK.out _ _ ?_ (fun hHeld => ?_)
            · exact keep _ G4.out
            clear hK K
            try simp only [Act.put, List.setIfInBounds_toArray, List.set_cons_zero, List.set_cons_succ]
            refine wpAnyH_ready (rs := [5]) (by kernel_rfl) (by simp) ?_
            refine AllReadyH.cons (o := { dst := some 55, op := Op.call { callee := Callee.value (Operand.func 48), args := #[Operand.tmp 54], argTypes := #[22] }, type := 22, pos := "outright.go:160", after := #[{ on := 4, ground := Ground.data }], guard := none }) rfl (fun K hK => ?_) AllReadyH.nil
            go_simp
            go_at_call 48
            refine (list_id _ _).mono ?_
            rintro _ _ ⟨rfl, rfl⟩
            try go_wp2_with fail
            refine hK.out _ _ ?_ (fun hHeld => ?_)
            · exact keep _ G4.out
            clear hK K
            try simp only [Act.put, List.setIfInBounds_toArray, List.set_cons_zero, List.set_cons_succ]
            refine wpAnyH_ready (rs := [6]) (by kernel_rfl) (by simp) ?_
            refine AllReadyH.cons (o := { dst := some 56, op := Op.call { callee := Callee.value (Operand.func 47), args := #[Operand.tmp 51, Operand.tmp 52, Operand.tmp 55], argTypes := #[24, 3, 22] }, type := 35, pos := "outright.go:160", after := #[{ on := 1, ground := Ground.data }, { on := 2, ground := Ground.data }, { on := 5, ground := Ground.data }, { on := 5, ground := Ground.chain }], guard := none }) rfl (fun K hK => ?_) AllReadyH.nil
            go_simp
            go_at_call 47
            refine (HWY.out k s v4 s4 hkl hsl (HF0.out.trans G4.out) (one_ints N4.out.1 N4.out.2)).mono ?_
            rintro _ v6 ⟨x6, rfl, hO6, T6⟩
            have G6 : Hid (Fut u0 v6) := Lib.hid (G4.out.trans T6)
            obtain ⟨l6, c6, e6, _, _, _⟩ := hO6.listsC
            subst e6
            rw [HWL.out k s hkl hsl]
            clear hO6 T6
            try go_wp2_with fail
            refine hK.out _ _ ?_ (fun hHeld => ?_)
            · exact keep _ G6.out
            clear hK K
            try simp only [Act.put, List.setIfInBounds_toArray, List.set_cons_zero, List.set_cons_succ]
            refine wpAnyH_take (i := 7) (oi := { dst := some 57, op := Op.call { callee := Callee.builtin Builtin.len, args := #[Operand.tmp 56], argTypes := #[35] }, type := 3, pos := "outright.go:160", after := #[{ on := 6, ground := Ground.data }], guard := none }) (v := ?_) rfl (by kernel_rfl) (by kernel_rfl) (by kernel_rfl) (fun _ _ _ h => h) (Or.inl ⟨by rfl, ?_⟩) (by assumption) ?_
            rotate_left
            · (intro w hSw; obtain ⟨_, s0, s1, s2⟩ := hSw; go_simp <;> with_reducible rfl)
            try simp only [Act.put, List.setIfInBounds_toArray, List.set_cons_zero, List.set_cons_succ]
            refine wpAnyH_ready (rs := [8]) (by kernel_rfl) (by simp) ?_
            refine AllReadyH.cons (o := { dst := some 58, op := Op.buildSlice 22 1 #[(0, Operand.tmp 57)], type := 22, pos := "outright.go:160", after := #[{ on := 7, ground := Ground.data }], guard := none }) rfl (fun K hK => ?_) AllReadyH.nil
            go_simp
            obtain ⟨v8, hv8⟩ : ∃ W, W = v6.alloc (.cells #[(.int .i64 (wayN (c : Int) ((r : Int) * (c : Int)) S (nth Y k) (nth T s) : Nat))] 3) := ⟨_, rfl⟩
            have T8 : Hid (Fut v6 v8) := Lib.hid (by rw [hv8]; exact Fut.alloc _ _)
            have G8 : Hid (Fut u0 v8) := Lib.hid ((G6.out).trans T8.out)
            have N8 : Hid (v8.cell? ⟨v6.heap.size, 0, none⟩ = some (.int .i64 (wayN (c : Int) ((r : Int) * (c : Int)) S (nth Y k) (nth T s) : Nat)) ∧ v6.heap.size < v8.heap.size) := Lib.hid (by rw [hv8]; exact ⟨cell_new _ _ _, by rw [World.size_alloc]; omega⟩)
            obtain ⟨s8, hs8⟩ : ∃ s, s = v6.heap.size := ⟨_, rfl⟩
            rw [← hv8]
            rw [← hs8] at N8 ⊢
            clear hv8 hs8
            refine hK.out _ _ ?_ (fun hHeld => ?_)
            · exact keep _ G8.out
            clear hK K
            try simp only [Act.put, List.setIfInBounds_toArray, List.set_cons_zero, List.set_cons_succ]
            refine wpAnyH_ready (rs := [9]) (by kernel_rfl) (by simp) ?_
            refine AllReadyH.cons (o := { dst := some 59, op := Op.call { callee := Callee.builtin Builtin.append, args := #[Operand.tmp 50, Operand.tmp 58], argTypes := #[22, 22] }, type := 22, pos := "outright.go:160", after := #[{ on := 0, ground := Ground.data }, { on := 8, ground := Ground.data }, { on := 6, ground := Ground.chain }], guard := none }) rfl (fun K hK => ?_) AllReadyH.nil
            have hFX9 := HFX0.out.fut G8.out
            refine step_append_lies v8 rfl _ _ 22 rfl w4.heap.size 3 i0 (.int .i64 0) 1 8 Try.underlying22 hi0 hz0 hz1 hz2 rfl (by decide) (.slice la s lc) s ((rowT (c : Int) ((r : Int) * (c : Int)) S Y T k s).map (Value.int .i64)) rfl (by have := hFX9.o; unfold Owns at this; rwa [HRL.out k s (by omega)] at this) ⟨s8, 0, none⟩ 1 1 [(.int .i64 (wayN (c : Int) ((r : Int) * (c : Int)) S (nth Y k) (nth T s) : Nat))] rfl rfl (one_cell N8.out.1) (by simp [Value.oneCell']) (by omega) (by have := HY3.out.2; unfold maxLen; omega) (by have := HY3.out.2; omega) (Nat.le_trans HU0.out (RowKit.Below.size G8.out)) _ rfl ?_
            intro g9 c9 v9 hown hgr hat hlt9
            have X9 : Hid (FamX v9 w4.heap.size (.slice oa k oc) (.slice (some ⟨g9, 0, none⟩) (s + 1) c9) (tb.take k) (rowT (c : Int) ((r : Int) * (c : Int)) S Y T k (s + 1))) := Lib.hid (hFX9.addO (g := g9) (by unfold Owns; rw [HRL.out k (s + 1) (by omega), HRS.out k s hsl, List.map_append]; exact hown) rfl hgr hat)
            have B9 : Hid (Fut w4 v9) := Lib.hid (fut_own (HF0.out.trans G8.out) hgr (fun q hq => by have h1 := hFX9.o; have := (World.ownsRow.lt h1 q hq).1; omega))
            clear hown hgr hat hlt9 hFX9
            refine hK.out _ _ ?_ (fun hHeld => ?_)
            · exact keep3 _ B9.out
            clear hK K
            try simp only [Act.put, List.setIfInBounds_toArray, List.set_cons_zero, List.set_cons_succ]
            refine wpAnyH_ready (rs := [10]) (by kernel_rfl) (by simp) ?_
            refine AllReadyH.cons (o := { dst := some 12, op := Op.assign (Operand.tmp 59), type := 22, pos := "outright.go:160", after := #[{ on := 9, ground := Ground.data }, { on := 9, ground := Ground.chain }, { on := 0, ground := Ground.phase }, { on := 1, ground := Ground.phase }, { on := 2, ground := Ground.phase }, { on := 3, ground := Ground.phase }, { on := 4, ground := Ground.phase }, { on := 5, ground := Ground.phase }, { on := 6, ground := Ground.phase }, { on := 7, ground := Ground.phase }, { on := 8, ground := Ground.phase }, { on := 9, ground := Ground.phase }], guard := none }) rfl (fun K hK => ?_) AllReadyH.nil
            go_simp
            refine hK.out _ _ ?_ (fun hHeld => ?_)
            · exact keep3 _ B9.out
            clear hK K
            try simp only [Act.put, List.setIfInBounds_toArray, List.set_cons_zero, List.set_cons_succ]
            refine wpAnyH_done (by kernel_rfl) ?_ _
            go_wp2_with fail
            go_roundw
            case rel => first
              | exact ⟨s + 1, _, c9, by omega, by go_num, rfl, X9, B9⟩
              | ((repeat apply Exists.intro); exact ⟨⟨s + 1, _, c9, by omega, by go_num, rfl, X9, B9⟩, rfl⟩)
            case measure => simp [intOf]; omega
          · obtain rfl : s = T.length := by omega
            have hc := HXs2.out
            have hxo := hc.o
            obtain ⟨⟨vals, hr, hE, hap⟩, ho⟩ := hc.cut
            rw [HTL.out k hk] at hr
            have FA : Fut wr (wr.alloc (.cells #[.slice la T.length lc] 22)) := Fut.alloc _ _
            have HRW := Lib.hid (row_fut hr FA)
            have HEL := Lib.hid (hE.fut FA)
            have HAP := Lib.hid hap
            have HOW := Lib.hid (ho.fut FA)
            have HXO := Lib.hid (hxo.fut FA)
            have HFA := Lib.hid (HFs.out.trans FA)
            have HZA : Hid (w4.heap.size ≤ (wr.alloc (.cells #[.slice la T.length lc] 22)).heap.size) := Lib.hid (RowKit.Below.size HFA.out)
            have hk3 : k < 3 := by have := HY3.out.1; omega
            clear hc hxo hr hE hap ho FA HXs2 HFs
            go_wp2_with (at_builtin; refine wpList_append_lies _ rfl _ _ 35 rfl w4.heap.size 22 i1 (.slice none 0 0) 1 24 Try.underlying35 hi1 hy0 hy1 hy2 rfl (by decide) (.slice oa k oc) k vals rfl HRW.out ⟨wr.heap.size, 0, none⟩ 1 1 [.slice la T.length lc] rfl rfl (cell_one (by simp [go_sem])) (by simp [Value.oneCell']) (by omega) (by unfold maxLen; omega) (by omega) HZA.out _ rfl ?_)
            intro g8 c8 w8 hown8 hgrow8 hat8 _
            have HX8 : Hid (FamX w8 w4.heap.size (.slice (some ⟨g8, 0, none⟩) (k + 1) c8) (.slice none 0 0) (tb.take (k + 1)) []) := Lib.hid (by
              rw [HTS.out k hkl]
              exact FamX.addF HRW.out HEL.out HAP.out HOW.out HXO.out (by
                cases hq : (Value.slice la T.length lc).ownBlock with
                | none => exact .inl rfl
                | some g => exact .inr (by simp [Value.ownBlock])) (HTL.out k hk) hown8 hgrow8)
            have HF8 : Hid (Fut w4 w8) := Lib.hid (fut_own HFA.out hgrow8 (fun q hq => (World.ownsRow.lt HRW.out q hq).1))
            clear HRW HEL HAP HOW HXO HFA HZA hown8 hgrow8 hat8
            go_wp2_with fail
            go_roundw
            case rel => first
              | exact ⟨k + 1, _, c8, by omega, by go_num, rfl, HX8, HF8⟩
              | ((repeat apply Exists.intro); exact ⟨⟨k + 1, _, c8, by omega, by go_num, rfl, HX8, HF8⟩, rfl⟩)
            case measure => simp [intOf]; omega
      · obtain rfl : k = Y.length := by omega
        have hrow := HXk.out.row
        obtain ⟨vals, hr, hE, _⟩ := hrow
        have hOL : OwnL wr w4.heap.size (.slice oa Y.length oc) (tb.take Y.length) := ⟨vals, hr, hE⟩
        rw [HTE.out] at hOL
        obtain ⟨_, _, e9, _, _, hLC⟩ := hOL.listsC
        rw [HTG.out.1] at e9
        simp only [Value.slice.injEq, true_and] at e9
        obtain ⟨rfl, rfl⟩ := e9
        have HLT := Lib.hid hLC
        have HF5 := HFk
        clear hOL hLC hr hE HXk HFk hk
        generalize wr = w5 at *
        obtain ⟨_, p0, p1, p2⟩ := HBP4.out.fut HF5.out
        obtain ⟨_, q0, q1⟩ := HBQ4.out.fut HF5.out
        go_wp2_with fail
        refine (table_ok2 (cap := sc) (HIN4.out.fut HF5.out) HCK.out rfl rfl rfl HTB.out.symm).mono ?_
        rintro _ w6 ⟨l6, lc6, rfl, hc61, hc62, hL6, F6⟩
        rw [HTG.out.1]
        have HF6 := Lib.hid (HF5.out.trans F6)
        have HL6 := Lib.hid hL6
        have HLT6 := Lib.hid (HLT.out.fut F6)
        clear hL6 F6 p0 p1 p2 q0 q1 HLT HF5 hc61
        obtain ⟨_, p0, p1, p2⟩ := HBP4.out.fut HF6.out
        obtain ⟨_, q0, q1⟩ := HBQ4.out.fut HF6.out
        obtain ⟨sg, hsg⟩ : ∃ sg, sgnV (r : Int) (c : Int) S Y T = sg := ⟨_, rfl⟩
        obtain ⟨cn, hcn⟩ : ∃ cn, (famL (c : Int) ((r : Int) * (c : Int)) S Y T).length = cn := ⟨_, rfl⟩
        have HSG := Lib.hid hsg
        have HCN := Lib.hid hcn
        have HSB : Hid (-1688849860263936 ≤ sg ∧ sg ≤ 1688849860263936) := Lib.hid (by rw [← hsg]; exact sgn_le HCK.out)
        have HCB : Hid (cn ≤ 281474976710656) := Lib.hid (by rw [← hcn]; exact famL_le HCK.out)
        clear hsg hcn
        go_wp2_with fail
        refine (signed_ok2 (cap := sc) (HIN4.out.fut HF6.out) HCK.out rfl rfl rfl HSG.out).mono ?_
        rintro _ w7 ⟨rfl, F7⟩
        have HF7 := Lib.hid (HF6.out.trans F7)
        have HL7 := Lib.hid (HL6.out.fut F7)
        have HLT7 := Lib.hid (HLT6.out.fut F7)
        clear F7 p0 p1 p2 q0 q1 HL6 HLT6 HF6
        obtain ⟨_, p0, p1, p2⟩ := HBP4.out.fut HF7.out
        obtain ⟨_, q0, q1⟩ := HBQ4.out.fut HF7.out
        go_wp2_with fail
        refine (count_ok3 (cap := sc) (HIN4.out.fut HF7.out) HCK.out rfl rfl rfl HCN.out).mono ?_
        rintro _ w8 ⟨rfl, F8⟩
        have HF8 := Lib.hid (HF7.out.trans F8)
        have HL8 := Lib.hid (HL7.out.fut F8)
        have HLT8 := Lib.hid (HLT7.out.fut F8)
        clear F8 p0 p1 p2 q0 q1 HL7 HLT7 HF7
        obtain ⟨_, p0, p1, p2⟩ := HBP4.out.fut HF8.out
        obtain ⟨_, q0, q1⟩ := HBQ4.out.fut HF8.out
        go_wp2_with fail
        refine (first_any (r : Int) (c : Int) sa sc S ya yc Y ta tc T _ (HIN4.out.fut HF8.out)).mono ?_
        rintro _ w9 ⟨l9, lc9, rfl, hc91, hc92, hL9, F9⟩
        have HF9 := Lib.hid (HF8.out.trans F9)
        have HL8b := Lib.hid (HL8.out.fut F9)
        have HLT9 := Lib.hid (HLT8.out.fut F9)
        have HL9 := Lib.hid hL9
        clear F9 p0 p1 p2 q0 q1 HL8 HLT8 HF8 hL9
        obtain ⟨X, hX⟩ : ∃ X, X = fstL (r : Int) (c : Int) S Y T := ⟨_, rfl⟩
        obtain ⟨ex, hex⟩ : ∃ ex, ex = fstE (r : Int) (c : Int) S Y T := ⟨_, rfl⟩
        rw [← hX, ← hex]
        rw [← hX] at HL9 hc91
        have HX := Lib.hid hX
        have HEX := Lib.hid hex
        clear hX hex
        have hs9 := cell_of1 (HG4.out.fut HF9.out).s
        have hn9 := cell_of1 (HG4.out.fut HF9.out).n
        rw [HG1.out, HSG.out] at hs9
        rw [HG2.out, HCN.out] at hn9
        have HAL : Hid (Calls Try.prog 20 #[.slice l6 Y.length lc6, .slice oa Y.length oc] w9 fun e w' => e = .returned (.bool true) ∧ Fut w9 w') := Lib.hid (by
          have h := lists_self (cap := lc6) (dap := oc) tb w9 HL8b.out HLT9.out (by have := HTG.out.1; have := HY3.out.1; omega)
          rwa [HTG.out.1] at h)
        go_wp2_with fail
        refine HAL.out.mono ?_
        rintro _ wd ⟨rfl, Fd⟩
        have HFd := Lib.hid (HF9.out.trans Fd)
        have HLTd := Lib.hid (HLT9.out.fut Fd)
        have HL9d := Lib.hid (HL9.out.fut Fd)
        clear Fd hs9 hn9 HAL HL8b HLT9 HL9 HF9
        have hs9 := cell_of1 (HG4.out.fut HFd.out).s
        have hn9 := cell_of1 (HG4.out.fut HFd.out).n
        rw [HG1.out, HSG.out] at hs9
        rw [HG2.out, HCN.out] at hn9
        go_wp2_with fail
        have HDT : Hid (detF Y.length tb = sg) := Lib.hid (by rw [← HSG.out, HTB.out]; unfold sgnV; rw [if_pos HCK.out])
        refine (det49_any Y.length HGG.out.one HGG.out.three oa oc tb wd HLTd.out.lst HTG.out.1 HTG.out.2.2.1 HTG.out.2.2.2).mono ?_
        rintro _ we ⟨rfl, Fe⟩
        rw [HDT.out]
        have HFe := Lib.hid (HFd.out.trans Fe)
        have HL9e := Lib.hid (HL9d.out.fut Fe)
        clear Fe hs9 hn9 HLTd HL9d HFd HDT
        have hn9 := cell_of1 (HG4.out.fut HFe.out).n
        rw [HG2.out, HCN.out] at hn9
        by_cases hcz : cn = 0
        · have hfn : famL (c : Int) ((r : Int) * (c : Int)) S Y T = [] := List.eq_nil_of_length_eq_zero (by rw [HCN.out, hcz])
          have hx0 : X.length = 0 := by rw [HX.out]; unfold fstL; rw [if_pos HCK.out, hfn]; rfl
          have he0 : ex = 12 := by rw [HEX.out]; unfold fstE; rw [if_pos HCK.out, if_pos hfn]
          rw [hx0, he0]
          subst hcz
          clear hfn hx0 he0
          go_wp2_with fail
          refine (works_any _).mono ?_
          rintro _ wf ⟨rfl, F⟩
          have HF3 := Lib.hid ((HF4.out.trans HFe.out).trans F)
          clear F hn9
          go_wp2_with fail
          go_ret
          exact ⟨rfl, HF3.out⟩
        · have hfn : famL (c : Int) ((r : Int) * (c : Int)) S Y T ≠ [] := fun e => hcz (by rw [← HCN.out, e]; rfl)
          have he0 : ex = 0 := by rw [HEX.out]; unfold fstE; rw [if_pos HCK.out, if_neg hfn]
          have hxe : lstF 0 [] D = X := by rw [HX.out]; unfold fstL; rw [if_pos HCK.out]; exact HG3.out hfn
          obtain ⟨fa, fc, h1, h2⟩ := (HG4.out.fut HFe.out).f
          have h3 := HG4.out.ml
          rw [hxe] at h1 h2 h3
          have c3 := cell_of1 h1
          have hcx : ((cn : Int) == 0) = false := by rw [beq_eq_false_iff_ne]; omega
          have hLA : Hid (Calls Try.prog 20 #[.slice l9 X.length lc9, .slice fa X.length fc] we fun e w' => e = .returned (.bool true) ∧ Fut we w') := Lib.hid (by
            have hb : ∀ k, k < X.length → (lth X k).length ≤ 9223372036854775807 := fun k hk => by
              have := HG4.out.mw k (by rw [hxe]; exact hk)
              rw [hxe] at this
              omega
            have h := lists_any l9 fa lc9 fc X X we HL9e.out.lst (h2 we (But.refl _ _)) (by omega) (by omega) hb hb
            rwa [decide_eq_true rfl] at h)
          rw [he0]
          clear hfn he0 hxe h1 h2 hcz
          go_wp2_with fail
          refine hLA.out.mono ?_
          rintro _ wf ⟨rfl, Ff⟩
          have HFf := Lib.hid (HFe.out.trans Ff)
          clear Ff hLA c3 hn9 HFe HL9e
          go_wp2_with fail
          refine (works_any _).mono ?_
          rintro _ wg ⟨rfl, F⟩
          have HF3 := Lib.hid ((HF4.out.trans HFf.out).trans F)
          clear F
          go_wp2_with fail
          go_ret
          exact ⟨rfl, HF3.out⟩
end Go.Proofs.Ytflllkamdihfaaa
