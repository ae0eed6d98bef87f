/- drawn 98 (drawn_any) -/
import Derived.Test.YtflllkamdihfaaaLEA
import Derived.Test.YtflllkamdihfaaaLCG
import Derived.Test.YtflllkamdihfaaaLB
namespace Go.Proofs.Ytflllkamdihfaaa
open Go.RowKit Go.Sort
/-- members drawn by numbers. -/
def drw (f : Nat → Nat) : Nat → Nat → List Int → List Int
  | 0, _, _ => []
  | n + 1, i, L => nth L (f i % L.length) :: drw f n (i + 1) (L.take (f i % L.length) ++ L.drop (f i % L.length + 1))
set_option maxRecDepth 100000 in
set_option maxHeartbeats 8000000 in
theorem drawn_any (n : Nat) (f : Nat → Nat) (hf : ∀ j, f j ≤ 255) (l : Option Addr) (lc : Nat) (zs : List Int) (B off bc : Nat) (w : World) (hz : IntsAt w l zs) (h1 : 1 ≤ n) (hn : n ≤ zs.length) (hl : zs.length ≤ 1000) (hb : ∀ j, j < n → w.cell? ⟨B, off + j, none⟩ = some (.int .u8 (f j : Nat))) :
    Calls Try.prog 98 #[.slice l zs.length lc, .slice (some ⟨B, off, none⟩) n bc] w fun e w' => ∃ v, e = .returned v ∧ Owns w' w.heap.size v (drw f n 0 zs) ∧ Fut w w' := by
  obtain ⟨i0, hi0, hz0, hz1, hz2⟩ := info_parts info3
  have HCL := Lib.hid (clone_any l lc zs w hz hl)
  have HB := Lib.hid hb
  have HFB := Lib.hid hf
  have hnx : (n : Int) ≤ 1000 := by omega
  have HDR : Hid (∀ L i m, drw f (m + 1) i L = nth L (f i % L.length) :: drw f m (i + 1) (L.take (f i % L.length) ++ L.drop (f i % L.length + 1))) := Lib.hid (fun L i m => rfl)
  have HDZ : Hid (∀ L i, drw f 0 i L = []) := Lib.hid (fun L i => rfl)
  have HNZ := Lib.hid (And.intro hn hl)
  obtain ⟨E, hE⟩ : ∃ E, E = drw f n 0 zs := ⟨_, rfl⟩
  rw [← hE]
  have HE : Hid (E = [] ++ drw f (n - 0) 0 zs) := Lib.hid hE
  clear hz hb hf hE
  generalize drw f = D at *
  go_enter Try.func98, Try.ntmps98
  go_wp2_with fail
  refine HCL.out.mono ?_
  rintro _ w1 ⟨v1, rfl, hO1, F1⟩
  obtain ⟨g1, c1, rfl, hg1, hg2, hR1, hc1, hc2⟩ := row_ints hO1 rfl (by omega)
  have HR1 := Lib.hid hR1
  have HX1 : Hid (zs.length ≤ c1 ∧ c1 ≤ 9223372036854775807 ∧ w.heap.size ≤ g1 ∧ g1 < w1.heap.size) := Lib.hid ⟨hc1, hc2, hg1, hg2⟩
  have HF1 := Lib.hid F1
  clear HCL hO1 F1 hR1 hc1 hc2 hg1 hg2
  go_wp2_with fail
  go_loopw [5, 6, 14] (fun lv ov iv wr => ∃ (i : Nat) (L o : List Int) (lg lcap : Nat) (oa : Option Addr) (oc : Nat), i ≤ n ∧ lv = .slice (some ⟨lg, 0, none⟩) L.length lcap ∧ ov = .slice oa o.length oc ∧ iv = .int .i64 i ∧ Hid (RowN wr lg L) ∧ Hid (L.length ≤ lcap ∧ lcap ≤ 9223372036854775807 ∧ w.heap.size ≤ lg ∧ lg < wr.heap.size) ∧ Hid (Owns wr (lg + 1) (.slice oa o.length oc) o) ∧ Hid (E = o ++ D (n - i) i L) ∧ Hid (L.length + i = zs.length ∧ o.length = i) ∧ Hid (Fut w wr)) (fun _ _ iv _ => n - (intOf iv).toNat)
  case atStart => exact ⟨0, zs, [], g1, c1, none, 0, Nat.zero_le _, rfl, rfl, rfl, HR1, HX1, Lib.hid (World.ownsRow_nil _ _ _ _), HE, Lib.hid ⟨rfl, rfl⟩, HF1⟩
  case round =>
    obtain ⟨i, L, o, lg, lcap, oa, oc, hi, rfl, rfl, rfl, HR, HX, HO, HD, HL, HF⟩ := hrel
    by_cases hil : i < n
    · have hix : (i : Int) < n := by omega
      have hLp : 0 < L.length := by have := HL.out; have := HNZ.out; omega
      obtain ⟨k, hk⟩ : ∃ k, k = f i % L.length := ⟨_, rfl⟩
      have hkl : k < L.length := by rw [hk]; exact Nat.mod_lt _ hLp
      have hkr : ((f i : Nat) : Int) % (L.length : Int) = (k : Int) := by rw [hk]; simp
      have cb := (RowKit.Below.cell HF.out (p := ⟨B, off + i, none⟩) (World.block_lt_of_cell? _ _ (HB.out i hil))).trans (HB.out i hil)
      have hfb := HFB.out i
      have ck := HR.out.1 k hkl
      have HDN : Hid (D (n - i) i L = nth L k :: D (n - (i + 1)) (i + 1) (L.take k ++ L.drop (k + 1))) := Lib.hid (by
        rw [show n - i = (n - (i + 1)) + 1 by omega, HDR.out, ← hk])
      have hkx : (k : Int) < L.length := by omega
      have hLx : (L.length : Int) ≤ 1000 := by have := HL.out; have := HNZ.out; omega
      have hL0 : ¬ (L.length : Int) = 0 := by omega
      have hw1 : IntKind.i64.wrap ((k : Int) + 1) = (k : Int) + 1 := IntWalk.i64_in _ ⟨by omega, by omega⟩
      have hq1 : IntKind.i64.wrap ((f i : Nat) : Int) = ((f i : Nat) : Int) := IntWalk.i64_in _ ⟨by omega, by omega⟩
      have HBZ : Hid (lg + 1 ≤ wr.heap.size) := Lib.hid HX.out.2.2.2
      generalize nth L k = x at *
      clear hk
      have HKL := Lib.hid hkl
      generalize f i = b at *
      have FBa : RowKit.Below (lg + 1) wr (wr.alloc (.cells #[.int .i64 x] 3)) := (RowKit.Below.refl _ wr).alloc HBZ.out _
      have HRW : Hid ((wr.alloc (.cells #[.int .i64 x] 3)).ownsRow (lg + 1) 3 1 (.slice oa o.length oc) o.length (o.map (Value.int .i64))) := Lib.hid (World.ownsRow.alloc HO.out _)
      have hoc : o.length ≤ 1000 := by have := HL.out; omega
      go_wp2_with (at_builtin; refine wpList_append_src rfl _ _ 22 rfl (lg + 1) 3 i0 (.int .i64 0) 8 Try.underlying22 hi0 hz0 hz1 hz2 rfl (.slice oa o.length oc) o.length (o.map (Value.int .i64)) rfl HRW.out _ 1 [.int .i64 x] rfl (.inr ⟨⟨wr.heap.size, 0, none⟩, 1, rfl, rfl, cell_one (by simp [go_sem]), by simp [Value.oneCell']⟩) (by unfold maxLen; omega) (by omega) (Nat.le_trans HBZ.out (RowKit.Below.size FBa)) ?_)
      intro av ac w8 hown hgr
      have FB : RowKit.Below (lg + 1) wr w8 := RowKit.Below.grown FBa hgr (Nat.le_trans HBZ.out (RowKit.Below.size FBa)) fun q hq => (World.ownsRow.lt HRW.out q hq).1
      have FW : Fut w w8 := RowKit.Below.grown (HF.out.trans (Fut.alloc wr (.cells #[.int .i64 x] 3))) hgr (RowKit.Below.size (HF.out.trans (Fut.alloc wr (.cells #[.int .i64 x] 3)))) fun q hq => by
        have h1 := (World.ownsRow.lt HRW.out q hq).1
        have h2 := HX.out.2.2.1
        omega
      have HR8 := Lib.hid (HR.out.below FB (Nat.lt_succ_self lg))
      have HO8 : Hid (w8.ownsRow (lg + 1) 3 1 (.slice av (o.length + 1) ac) (o.length + 1) ((o ++ [x]).map (Value.int .i64))) := Lib.hid (by rw [List.map_append]; exact hown)
      have HF8 := Lib.hid FW
      have HZ8 : Hid (lg < w8.heap.size) := Lib.hid (Nat.lt_of_lt_of_le HX.out.2.2.2 (RowKit.Below.size FB))
      have HDL := Lib.hid (del_any lg lcap k L w8 HR8.out HX.out.1 HX.out.2.1 HKL.out)
      clear hown hgr FB FW FBa HRW ck cb HR HO HF
      go_wp2_with fail
      refine HDL.out.mono ?_
      rintro _ w9 ⟨rfl, hR9, hB9, hs9, hO9⟩
      have HR9 := Lib.hid hR9
      have HO9 := Lib.hid (hO9 _ _ _ _ HO8.out (Nat.lt_succ_self lg))
      have HF9 : Hid (Fut w w9) := Lib.hid (RowKit.Below.trans HF8.out (hB9 w.heap.size HX.out.2.2.1))
      have HX9 : Hid ((L.take k ++ L.drop (k + 1)).length ≤ lcap ∧ lcap ≤ 9223372036854775807 ∧ w.heap.size ≤ lg ∧ lg < w9.heap.size) := Lib.hid ⟨by have := HX.out.1; have := HKL.out; simp; omega, HX.out.2.1, HX.out.2.2.1, Nat.lt_of_lt_of_le HZ8.out hs9⟩
      have HLE : Hid ((L.take k ++ L.drop (k + 1)).length = L.length - 1) := Lib.hid (by have := HKL.out; simp; omega)
      have HLN : Hid ((L.take k ++ L.drop (k + 1)).length + (i + 1) = zs.length ∧ (o ++ [x]).length = i + 1) := Lib.hid ⟨by rw [HLE.out]; have := HL.out; have := HKL.out; omega, by rw [List.length_append, HL.out.2]; rfl⟩
      have HDE : Hid (E = (o ++ [x]) ++ D (n - (i + 1)) (i + 1) (L.take k ++ L.drop (k + 1))) := Lib.hid (by rw [HD.out, HDN.out]; simp)
      have HO10 : Hid (Owns w9 (lg + 1) (.slice av (o ++ [x]).length ac) (o ++ [x])) := Lib.hid (by unfold Owns; rw [List.length_append]; exact HO9.out)
      clear hR9 hB9 hs9 hO9 HDL HR8 HO8 HF8 hw1 hkr
      go_wp2_with fail
      go_roundw
      case rel => first
        | exact ⟨i + 1, _, o ++ [x], lg, lcap, av, ac, by omega, by rw [HLE.out], by rw [List.length_append]; rfl, by go_num, HR9, HX9, HO10, HDE, HLN, HF9⟩
        | ((repeat apply Exists.intro); exact ⟨⟨i + 1, _, o ++ [x], lg, lcap, av, ac, by omega, by rw [HLE.out], by rw [List.length_append]; rfl, by go_num, HR9, HX9, HO10, HDE, HLN, HF9⟩, rfl⟩)
      case measure => simp [intOf]; omega
    · obtain rfl : n = i := by omega
      have hd := HD.out
      rw [Nat.sub_self, HDZ.out, List.append_nil] at hd
      have HOE : Hid (Owns wr w.heap.size (.slice oa o.length oc) E) := Lib.hid (by rw [hd]; exact HO.out.base (by have := HX.out; omega))
      clear hd
      go_wp2_with fail
      go_ret
      exact ⟨_, rfl, HOE.out, HF.out⟩
end Go.Proofs.Ytflllkamdihfaaa
