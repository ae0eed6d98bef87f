/- a family copied: kept_any -/
import Derived.Test.YtflllkamdihfaaaLQ
import Derived.Test.YtflllkamdihfaaaLH
import Derived.Laws.CopyOwn
namespace Go.Proofs.Ytflllkamdihfaaa
open Go.RowKit Go.Sort
theorem made_list (n : Nat) : madeCells #[Value.int .i64 0] n = (List.replicate n (Value.int .i64 0)).toArray := by
  apply Array.ext'
  apply List.ext_getElem
  · simp [madeCells]
  · intro j h1 h2; simp [madeCells, Nat.mod_one]
theorem copied_own {w' : World} {b B : Nat} {zs : List Int} (hB : B ≤ b) (hl : zs.length ≤ 1000) (h : w'.heap[b]? = some (.cells (splice (List.replicate zs.length (Value.int .i64 0)) 0 (zs.map (Value.int .i64))).toArray 3 (0, 0))) : Owns w' B (.slice (some ⟨b, 0, none⟩) zs.length zs.length) zs := by
  have e : splice (List.replicate zs.length (Value.int .i64 0)) 0 (zs.map (Value.int .i64)) = zs.map (Value.int .i64) := by unfold splice; simp
  rw [e] at h
  refine ⟨by simp, .inr ⟨b, zs.length, _, rfl, hB, h, Nat.le_refl _, by unfold maxLen; omega, by simp, by rw [Nat.mul_one]; exact List.take_of_length_le (by simp)⟩⟩
set_option maxRecDepth 100000 in
set_option maxHeartbeats 4000000 in
theorem kept_any (fa : Option Addr) (fc : Nat) (F : List (List Int)) (w : World) (hF : LstAt w fa F) (hFl : F.length ≤ 1000) (hFk : ∀ k, k < F.length → (lth F k).length ≤ 1000) :
    Calls Try.prog 113 #[.slice fa F.length fc] w fun e w' => ∃ g vs, e = .returned (.slice (some ⟨g, 0, none⟩) F.length F.length) ∧ w.heap.size ≤ g ∧ FreeSt w' g F.length vs F.length (fun i => lth F i) ∧ Fut w w' := by
  have HFA := Lib.hid hF
  have HFK := Lib.hid hFk
  have hfx : (F.length : Int) ≤ 1000 := by omega
  have hmk2 := fun W => mk_rows F.length hFl W
  clear hF hFk
  go_enter Try.func113, Try.ntmps113
  go_wp2_with fail
  have hG0 : FreeSt (w.alloc (.cells (madeCells #[Value.slice none 0 0] F.length) 22)) w.heap.size F.length (fun _ => .slice none 0 0) 0 (fun i => lth F i) :=
    ⟨World.rowIs_made w (.slice none 0 0) F.length 22, fun i hi => absurd hi (Nat.not_lt_zero i), fun _ _ _ => rfl⟩
  have F1 : Fut w (w.alloc (.cells (madeCells #[Value.slice none 0 0] F.length) 22)) := Fut.alloc _ _
  generalize w.alloc (.cells (madeCells #[Value.slice none 0 0] F.length) 22) = W1 at *
  have HB0 := Lib.hid F1
  have HG0 := Lib.hid hG0
  have HGS : Hid (∃ g, g = w.heap.size) := Lib.hid ⟨_, rfl⟩
  clear hG0 F1 hmk2
  go_loopw [11] (fun iv wr => ∃ (k : Nat) (vs : Nat → Value), k ≤ F.length ∧ iv = .int .i64 k ∧ Hid (FreeSt wr w.heap.size F.length vs k (fun i => lth F i)) ∧ Hid (Fut w wr)) (fun iv _ => F.length - (intOf iv).toNat)
  case atStart => exact ⟨0, _, Nat.zero_le _, rfl, HG0, HB0⟩
  case round =>
    obtain ⟨k, vs, hk, rfl, HG, HFX⟩ := hrel
    obtain ⟨wo, hwo⟩ : ∃ wo, wo = wr := ⟨_, rfl⟩
    subst hwo
    by_cases hkl : k < F.length
    · have hkx : (k : Int) < F.length := by omega
      obtain ⟨fb, fo, l, lc, rfl, hfb, d0, hI⟩ := HFA.out k hkl
      have d1 := (RowKit.Below.cell HFX.out (p := ⟨fb, fo + k, none⟩) hfb).trans d0
      have hwl := HFK.out k hkl
      have hgw : w.heap.size < wo.heap.size := HG.out.outer.lt
      generalize hway : lth F k = way at *
      have hwx : (way.length : Int) ≤ 1000 := by omega
      have HWAY := Lib.hid hway
      have hmk1 := fun W => mk_row way.length hwl W
      have e1 := HG.out.outer.cell hkl
      have e2 := HG.out.outer.frozen k
      have HI := Lib.hid hI
      clear hI hway d0 hfb
      go_upto_region 6 with fail
      have hsz1 : (wo.setCell ⟨w.heap.size, k, none⟩ (.slice (some ⟨wo.heap.size, 0, none⟩) way.length way.length)).heap.size = wo.heap.size := by simp [World.setCell]
      have hh : ((wo.setCell ⟨w.heap.size, k, none⟩ (.slice (some ⟨wo.heap.size, 0, none⟩) way.length way.length)).alloc (.cells (madeCells #[Value.int .i64 0] way.length) 3)).heap[wo.heap.size]? = some (.cells (List.replicate way.length (Value.int .i64 0)).toArray 3 (0, 0)) := by
        have h := World.alloc_heap_new (wo.setCell ⟨w.heap.size, k, none⟩ (.slice (some ⟨wo.heap.size, 0, none⟩) way.length way.length)) (.cells (madeCells #[Value.int .i64 0] way.length) 3)
        rw [hsz1] at h
        rw [h, made_list]
      have hR : ((wo.setCell ⟨w.heap.size, k, none⟩ (.slice (some ⟨wo.heap.size, 0, none⟩) way.length way.length)).alloc (.cells (madeCells #[Value.int .i64 0] way.length) 3)).rowIs w.heap.size 22 F.length (fun i => if i = k then .slice (some ⟨wo.heap.size, 0, none⟩) way.length way.length else vs i) := (HG.out.outer.set k _).alloc _
      have hBu : But (fun q => q = w.heap.size) wo ((wo.setCell ⟨w.heap.size, k, none⟩ (.slice (some ⟨wo.heap.size, 0, none⟩) way.length way.length)).alloc (.cells (madeCells #[Value.int .i64 0] way.length) 3)) := (But.setCell (Z := fun q => q = w.heap.size) (But.refl _ _) (p := ⟨w.heap.size, k, none⟩) (.inl rfl) _).thenBut (Z' := fun _ => False) (But.of_below (Fut.alloc _ _)) (fun _ h => h.elim)
      have hFX5 : Fut w ((wo.setCell ⟨w.heap.size, k, none⟩ (.slice (some ⟨wo.heap.size, 0, none⟩) way.length way.length)).alloc (.cells (madeCells #[Value.int .i64 0] way.length) 3)) := (RowKit.Below.setCell HFX.out (p := ⟨w.heap.size, k, none⟩) (Nat.le_refl _) _).alloc (by rw [hsz1]; omega) _
      have hI5 : IntsAt ((wo.setCell ⟨w.heap.size, k, none⟩ (.slice (some ⟨wo.heap.size, 0, none⟩) way.length way.length)).alloc (.cells (madeCells #[Value.int .i64 0] way.length) 3)) l way := HI.out.fut hFX5
      have e3 := hR.cell hkl
      simp only [if_pos] at e3
      clear e1 e2 d1 hmk1
      generalize (wo.setCell ⟨w.heap.size, k, none⟩ (.slice (some ⟨wo.heap.size, 0, none⟩) way.length way.length)).alloc (.cells (madeCells #[Value.int .i64 0] way.length) 3) = W5 at *
      have HR := Lib.hid hR
      have HBU := Lib.hid hBu
      have HFX5 := Lib.hid hFX5
      have HH := Lib.hid hh
      clear hR hBu hFX5 hsz1 hh
      go_wp2_with (refine wpList_copy_splice (o := ⟨some 27, _, _, _, _, _⟩) rfl _ _ 22 22 rfl 3 Try.underlying22 (by kernel_rfl) (some ⟨wo.heap.size, 0, none⟩) l way.length way.length way.length lc rfl rfl wo.heap.size 0 (List.replicate way.length (Value.int .i64 0)) 3 HH.out (way.map (Value.int .i64)) (by simp) (fun hp => ⟨rfl, by
        obtain ⟨b0, o0, e0, _⟩ := hI5 0 (by simpa using hp)
        refine ⟨_, e0, fun j v hj => ?_⟩
        have hlt : j < way.length := by simpa using (List.getElem?_eq_some_iff.1 hj).1
        obtain ⟨b9, o9, e9, _, c9⟩ := hI5 j hlt
        rw [e9] at e0
        simp only [Option.some.injEq] at e0
        rw [← e0, Addr.add_lit, c9, ← hj, nth_eq]
        simp [List.getElem?_eq_getElem hlt]⟩) (by simp) (by intro u hu; obtain ⟨z, _, rfl⟩ := List.mem_map.1 hu; rfl) wo.heap.size W5 (RowKit.Below.refl _ _) (Nat.le_refl _) ?_)
      intro w7 hh7 hB7
      have hsw : wo.heap.size ≤ W5.heap.size := HBU.out.size
      have hBU7 : But (fun q => q = w.heap.size) wo w7 := ⟨hB7.os.trans HBU.out.os, hB7.tape.trans HBU.out.tape, hB7.output.trans HBU.out.output, Nat.le_trans hsw hB7.size, fun q hq hz => (hB7.block q hq).trans (HBU.out.block q hq hz)⟩
      have HOW := Lib.hid (copied_own (B := w.heap.size + 1) (zs := way) (by omega) hwl hh7)
      have HR7 := Lib.hid (HR.out.of_block (hB7.block w.heap.size hgw))
      have HG7 : Hid (FreeSt w7 w.heap.size F.length (fun i => if i = k then .slice (some ⟨wo.heap.size, 0, none⟩) way.length way.length else vs i) (k + 1) (fun i => lth F i)) := Lib.hid ⟨HR7.out, fun i hi => by
        by_cases e : i = k
        · subst e
          show Owns w7 _ (if i = i then _ else vs i) (lth F i)
          rw [if_pos rfl, HWAY.out]
          exact HOW.out
        · show Owns w7 _ (if i = k then _ else vs i) (lth F i)
          rw [if_neg e]
          exact (HG.out.done i (by omega)).but hBU7 (fun q hq => by omega), fun i hi hin => by
        show (if i = k then _ else vs i) = _
        rw [if_neg (by omega)]
        exact HG.out.rest i (by omega) hin⟩
      have HF7 : Hid (Fut w w7) := Lib.hid (HFX5.out.trans' (RowKit.Below.mono hB7 (by omega)) (Nat.le_refl _))
      clear hh7 hB7 hBU7 e3
      go_wp2
      go_roundw
      case rel =>
        first
        | exact ⟨k + 1, _, by omega, by go_num, HG7, HF7⟩
        | ((repeat apply Exists.intro); exact ⟨⟨k + 1, _, by omega, by go_num, HG7, HF7⟩, rfl⟩)
      case measure => simp [intOf]; omega
    · obtain rfl : F.length = k := by omega
      go_wp2_with fail
      go_ret
      exact ⟨_, vs, rfl, Nat.le_refl _, HG.out, HFX.out⟩
end Go.Proofs.Ytflllkamdihfaaa
