/- rows without a number: without_any -/
import Derived.Test.YtflllkamdihfaaaLI
namespace Go.Proofs.Ytflllkamdihfaaa
open Go.RowKit Go.Sort
theorem slice_fromI (b o n cap k : Nat) (h : k ≤ n) (_h2 : n ≤ cap) (W : World) : (Instr.sliceAt 22 (.slice (some ⟨b, o, none⟩) n cap) (some (.int .i64 k)) none none).run Try.prog W = .ok (.slice (some ⟨b, offK o k cap, none⟩) (n - k) (cap - k)) W := by
  have hu : Try.prog.underlying 22 = some (.slice (Try.prog.elem 22)) := by kernel_rfl
  have hs : (sizeOf (Try.prog.elem 22)).run Try.prog W = .ok 1 W := by kernel_rfl
  rw [run_sliceAt_slice _ _ _ _ _ _ hu, run_slice_l _ _ _ _ _ hu _ _ (by omega) (by omega), hs]
  unfold offK
  simp [sliced, Result.andThen, Addr.add]
  split
  · rfl
  · split
    · subst k; rfl
    · rfl
theorem IntsAt.drop {w : World} {b o k cap : Nat} {zs : List Int} (h : IntsAt w (some ⟨b, o, none⟩) zs) (hc : zs.length ≤ cap) : IntsAt w (some ⟨b, offK o k cap, none⟩) (zs.drop k) := fun j hj => by
  rw [List.length_drop] at hj
  obtain ⟨b', o', e, h1, h2⟩ := h (k + j) (by omega)
  simp only [Option.some.injEq, Addr.mk.injEq, and_true] at e
  obtain ⟨rfl, rfl⟩ := e
  have e2 : nth (zs.drop k) j = nth zs (k + j) := by rw [nth_eq, List.getElem?_drop, nth_eq]
  rw [e2]
  refine ⟨b, offK o k cap, rfl, h1, ?_⟩
  unfold offK
  rw [if_neg (by omega), Nat.add_assoc]
  exact h2
/-- rows without one of their numbers. -/
def woL (col : Nat) (rows : List (List Int)) : List (List Int) := rows.map fun r => r.take col ++ r.drop (col + 1)
theorem woL_take (col : Nat) (rows : List (List Int)) (k : Nat) (h : k < rows.length) : woL col (rows.take (k + 1)) = woL col (rows.take k) ++ [(lth rows k).take col ++ (lth rows k).drop (col + 1)] := by
  unfold woL
  rw [List.take_succ_eq_append_getElem h, List.map_append, lth_eq, List.getElem?_eq_getElem h]
  rfl
set_option maxRecDepth 100000 in
set_option maxHeartbeats 4000000 in
theorem without_any (col : Nat) (a : Option Addr) (cap : Nat) (rows : List (List Int)) (w : World) (hL : LstC w a rows) (hl : rows.length ≤ 100) (hz : ∀ k, k < rows.length → col < (lth rows k).length ∧ (lth rows k).length ≤ 1000) :
    Calls Try.prog 109 #[.int .i64 col, .slice a rows.length cap] w fun e w' => ∃ v, e = .returned v ∧ OwnL w' w.heap.size v (woL col rows) ∧ Fut w w' := by
  obtain ⟨i1, hi1, hy0, hy1, hy2⟩ := info_parts info22
  have HL := Lib.hid hL
  have HZ := Lib.hid hz
  have hlx : (rows.length : Int) ≤ 100 := by omega
  have HWT := Lib.hid (fun k (hk : k < rows.length) => woL_take col rows k hk)
  have HW0 : Hid (woL col (rows.take 0) = []) := Lib.hid rfl
  have HWA : Hid (woL col (rows.take rows.length) = woL col rows) := Lib.hid (by rw [List.take_length])
  have HWN : Hid (∀ k, k ≤ rows.length → (woL col (rows.take k)).length = k) := Lib.hid (fun k hk => by unfold woL; simp; omega)
  clear hL hz
  go_enter Try.func109, Try.ntmps109
  go_wp2_with fail
  go_loopw [5, 10] (fun ov iv wr => ∃ (k : Nat) (l : Option Addr) (c : Nat), k ≤ rows.length ∧ ov = .slice l k c ∧ iv = .int .i64 k ∧ Hid (OwnL wr w.heap.size (.slice l k c) (woL col (rows.take k))) ∧ Hid (Fut w wr)) (fun _ iv _ => rows.length - (intOf iv).toNat)
  case atStart => exact ⟨0, none, 0, Nat.zero_le _, rfl, rfl, by rw [HW0.out]; exact Lib.hid (OwnL.nil _ _), Lib.hid Fut.rfl⟩
  case round =>
    obtain ⟨k, l, cc, hk, rfl, rfl, HO, HF⟩ := hrel
    obtain ⟨wo, hwo⟩ : ∃ wo, wo = wr := ⟨_, rfl⟩
    subst hwo
    by_cases hkl : k < rows.length
    · have hkx : (k : Int) < rows.length := by omega
      obtain ⟨bb, off, rl, rc, rfl, _, c1, hq1, hq2, hIr⟩ := (HL.out.fut HF.out) k hkl
      obtain ⟨hz1, hz2⟩ := HZ.out k hkl
      have HWK := Lib.hid (HWT.out k hkl)
      have hwn := HWN.out k hk
      generalize lth rows k = r at *
      generalize woL col (rows.take k) = acc at *
      obtain ⟨rb, ro, er, _, _⟩ := hIr 0 (by omega)
      subst er
      have hzx : (col : Int) < r.length := by omega
      have hzx2 : (r.length : Int) ≤ 1000 := by omega
      have hs1 := fun W => slice_toI rb ro r.length rc col (by omega) W
      have hs2 : ∀ W, (Instr.sliceAt 22 (.slice (some ⟨rb, ro, none⟩) r.length rc) (some (.int .i64 ((col : Int) + 1))) none none).run Try.prog W = .ok (.slice (some ⟨rb, offK ro (col + 1) rc, none⟩) (r.length - (col + 1)) (rc - (col + 1))) W := fun W => slice_fromI rb ro r.length rc (col + 1) (by omega) hq1 W
      have hcw : IntKind.i64.wrap ((col : Int) + 1) = (col : Int) + 1 := IntWalk.i64_in _ ⟨by omega, by omega⟩
      have HCC : Hid (∀ W, Fut wo W → Calls Try.prog 46 #[.slice (some ⟨W.heap.size, 0, none⟩) 2 2] (W.alloc (.cells #[.slice (some ⟨rb, ro, none⟩) col rc, .slice (some ⟨rb, offK ro (col + 1) rc, none⟩) (r.length - (col + 1)) (rc - (col + 1))] 22)) fun e w' => ∃ v, e = .returned v ∧ Owns w' W.heap.size v (r.take col ++ r.drop (col + 1)) ∧ Fut W w') := Lib.hid (fun W F => by
        have hl1 : (r.take col).length = col := by rw [List.length_take]; omega
        have hl2 : (r.drop (col + 1)).length = r.length - (col + 1) := List.length_drop
        have hb : W.heap.size < (W.alloc (.cells #[.slice (some ⟨rb, ro, none⟩) col rc, .slice (some ⟨rb, offK ro (col + 1) rc, none⟩) (r.length - (col + 1)) (rc - (col + 1))] 22)).heap.size := by simp
        have hn := World.alloc_heap_new W (.cells #[.slice (some ⟨rb, ro, none⟩) col rc, .slice (some ⟨rb, offK ro (col + 1) rc, none⟩) (r.length - (col + 1)) (rc - (col + 1))] 22)
        have hLs : LstAt (W.alloc (.cells #[.slice (some ⟨rb, ro, none⟩) col rc, .slice (some ⟨rb, offK ro (col + 1) rc, none⟩) (r.length - (col + 1)) (rc - (col + 1))] 22)) (some ⟨W.heap.size, 0, none⟩) [r.take col, r.drop (col + 1)] := fun j hj => by
          have hj2 : j < 2 := hj
          rcases (by omega : j = 0 ∨ j = 1) with rfl | rfl
          · refine ⟨W.heap.size, 0, some ⟨rb, ro, none⟩, rc, rfl, hb, ?_, (hIr.take col).fut (F.trans (Fut.alloc _ _))⟩
            show _ = some (Value.slice _ (r.take col).length rc)
            rw [hl1]; unfold World.cell?; rw [hn]; rfl
          · refine ⟨W.heap.size, 0, some ⟨rb, offK ro (col + 1) rc, none⟩, rc - (col + 1), rfl, hb, ?_, (hIr.drop hq1).fut (F.trans (Fut.alloc _ _))⟩
            show _ = some (Value.slice _ (r.drop (col + 1)).length (rc - (col + 1)))
            rw [hl2]; unfold World.cell?; rw [hn]; rfl
        have h := concat_any (some ⟨W.heap.size, 0, none⟩) 2 [r.take col, r.drop (col + 1)] _ hLs (by simp) (fun j hj => by
          have hj2 : j < 2 := hj
          rcases (by omega : j = 0 ∨ j = 1) with rfl | rfl
          · show (r.take col).length ≤ 1000; omega
          · show (r.drop (col + 1)).length ≤ 1000; omega)
        refine h.mono ?_
        rintro _ w5 ⟨v5, rfl, hO, F5⟩
        refine ⟨v5, rfl, ?_, (Fut.alloc _ _).trans F5⟩
        have := hO.base (B' := W.heap.size) (by simp)
        simpa using this)
      obtain ⟨vals, hrow, hel⟩ := HO.out
      rw [hwn] at hrow
      have HROW := Lib.hid hrow
      have HEL := Lib.hid hel
      have HWN2 := Lib.hid hwn
      generalize r.take col ++ r.drop (col + 1) = rd at *
      have hk100 : k ≤ 100 := by omega
      have hszo := RowKit.Below.size HF.out
      clear hrow hel hwn hIr
      go_upto_region 5 with fail
      clear c1
      go_region_law
        (first
          | (go_simp; go_at_call 46; refine (HCC.out wo.drew (Fut.drewN wo 1)).mono ?_; rintro _ w5 ⟨v5, rfl, hO5, F5⟩; obtain ⟨l5, c5, rfl, _⟩ := hO5.ints; have FA5 : Fut wo w5 := Fut.trans (Fut.drewN wo 1) F5)
          | (refine step_append_src (by rfl) _ _ _ (by rfl) w.heap.size 22 i1 (.slice none 0 0) 24 Try.underlying35 hi1 hy0 hy1 hy2 rfl (.slice l k cc) k vals (by rfl) (row_fut HROW.out (FA5.trans (Fut.alloc w5 (.cells #[.slice l5 rd.length c5] 22)))) (.slice (some ⟨w5.heap.size, 0, none⟩) 1 1) 1 [.slice l5 rd.length c5] (by rfl) (.inr ⟨⟨w5.heap.size, 0, none⟩, 1, rfl, rfl, cell_one (by simp [go_sem]), by simp [Value.oneCell']⟩) (by unfold maxLen; omega) (by omega) (by have h7 := RowKit.Below.size FA5; simp only [World.size_alloc]; omega) ?_; intro av9 ac9 w9 hown9 hgrow9; obtain ⟨g9, rfl⟩ := own_some hown9))
      all_goals
        have hF5 : Fut w (w5.alloc (.cells #[.slice l5 rd.length c5] 22)) := (HF.out.trans FA5).trans (Fut.alloc _ _)
        have HO9 : Hid (OwnL w9 w.heap.size (.slice (some ⟨g9, 0, none⟩) (k + 1) ac9) (woL col (rows.take (k + 1)))) := Lib.hid (by
          rw [HWK.out]
          have h1 : (w5.alloc (.cells #[.slice l5 rd.length c5] 22)).ownsRow w.heap.size 22 1 (.slice l k cc) acc.length vals := by rw [HWN2.out]; exact row_fut HROW.out (FA5.trans (Fut.alloc _ _))
          have h2 := OwnL.app h1 (HEL.out.fut (FA5.trans (Fut.alloc w5 (.cells #[.slice l5 rd.length c5] 22)))) ((hO5.base (show w.heap.size ≤ wo.drew.heap.size from hszo)).fut (Fut.alloc w5 (.cells #[.slice l5 rd.length c5] 22))) (by rw [HWN2.out]; exact hown9) hgrow9
          rw [HWN2.out] at h2
          exact h2)
        have HF9 : Hid (Fut w w9) := Lib.hid (RowKit.Below.grown hF5 hgrow9 (RowKit.Below.size hF5) fun q hq => (World.ownsRow.lt HROW.out q hq).1)
        clear hown9 hgrow9 hF5 FA5 F5 hO5
        go_wp2
        go_roundw
      all_goals first
        | exact ⟨k + 1, some ⟨g9, 0, none⟩, ac9, by omega, by go_num, by go_num, HO9, HF9⟩
        | (simp [intOf]; omega)
    · obtain rfl : rows.length = k := by omega
      rw [HWA.out] at HO
      go_wp2_with fail
      go_ret
      exact ⟨_, rfl, HO.out, HF.out⟩
end Go.Proofs.Ytflllkamdihfaaa
