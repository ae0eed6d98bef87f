/- Layer 1: an order's division added. -/
import Derived.Test.YtdnbdaegahcoeaaO
namespace Go.Proofs.Ytdnbdaegahcoeaa
open Go.RowKit Go.Sort
theorem RowAt.drew {w : World} {b : Nat} {g : Fin 5 → Int} (h : RowAt w b g) : RowAt w.drew b g := h
theorem RowAt.congr {w : World} {b : Nat} {g g' : Fin 5 → Int} (h : RowAt w b g) (e : cells5 g = cells5 g') : RowAt w b g' := by unfold RowAt at *; rw [← e]; exact h
theorem OrdAt.drew {w : World} {b : Nat} {o : List (Fin 5)} (h : OrdAt w b o) : OrdAt w.drew b o := h
set_option maxRecDepth 100000 in
set_option maxHeartbeats 2000000 in
theorem add_base (n : Nat) (x : Int) (f g : Fin 5 → Int) (ob sb dap : Nat) (o : List (Fin 5)) (w : World) (hx : 0 ≤ x ∧ x ≤ 10000000) (hf : ∀ i, Pt (f i)) (hg : ∀ i, 0 ≤ g i ∧ g i ≤ 1000000000) (hl : o.length ≤ 1000)
    (hO : OrdAt w ob o) (hS : RowAt w sb g) :
    Calls Try.prog 73 #[hv n x (f 0) (f 1) (f 2) (f 3) (f 4), .slice (some ⟨ob, 0, none⟩) o.length dap, .int .i64 o.length, .pointer (some ⟨sb, 0, none⟩)] w fun e w' =>
      e = .returned (.int .i64 1) ∧ RowAt w' sb (addAll f x [o] g) ∧ But sb w w' := by
  have hpt := inF_pt f hf o x (fun _ => 0) hx.1 (fun _ => ⟨by decide, by decide⟩)
  have HI : Hid (∀ W, RowKit.Below w.heap.size w W → Calls Try.prog 70 #[hv n x (f 0) (f 1) (f 2) (f 3) (f 4), .slice (some ⟨ob, 0, none⟩) o.length dap] W fun e w' => e = .returned (agg5 (inF f o x (fun _ => 0))) ∧ RowKit.Below W.heap.size W w') := fun W hW =>
    inOrder_any n x f _ dap o W hx hf hl (hO.ints.below hW)
  have hfin : addAll f x [o] g = fun i => g i + inF f o x (fun _ => 0) i := rfl
  rw [hfin]
  generalize inF f o x (fun _ => 0) = v at HI hpt ⊢
  have HS := Lib.hid hS
  have hv0 := hpt 0; have hv1 := hpt 1; have hv2 := hpt 2; have hv3 := hpt 3; have hv4 := hpt 4
  obtain ⟨a0, b0⟩ := hv0; obtain ⟨a1, b1⟩ := hv1; obtain ⟨a2, b2⟩ := hv2; obtain ⟨a3, b3⟩ := hv3; obtain ⟨a4, b4⟩ := hv4
  obtain ⟨c0, d0⟩ := hg 0; obtain ⟨c1, d1⟩ := hg 1; obtain ⟨c2, d2⟩ := hg 2; obtain ⟨c3, d3⟩ := hg 3; obtain ⟨c4, d4⟩ := hg 4
  clear hpt hf hg hO hS hfin hx
  have i0 : ∀ w, (Instr.index 66 (.agg #[.int .i64 (v 0), .int .i64 (v 1), .int .i64 (v 2), .int .i64 (v 3), .int .i64 (v 4)]) (.int .i64 0)).run Try.prog w = .ok (.int .i64 (v 0)) w := fun _ => by kernel_rfl
  have i1 : ∀ w, (Instr.index 66 (.agg #[.int .i64 (v 0), .int .i64 (v 1), .int .i64 (v 2), .int .i64 (v 3), .int .i64 (v 4)]) (.int .i64 1)).run Try.prog w = .ok (.int .i64 (v 1)) w := fun _ => by kernel_rfl
  have i2 : ∀ w, (Instr.index 66 (.agg #[.int .i64 (v 0), .int .i64 (v 1), .int .i64 (v 2), .int .i64 (v 3), .int .i64 (v 4)]) (.int .i64 2)).run Try.prog w = .ok (.int .i64 (v 2)) w := fun _ => by kernel_rfl
  have i3 : ∀ w, (Instr.index 66 (.agg #[.int .i64 (v 0), .int .i64 (v 1), .int .i64 (v 2), .int .i64 (v 3), .int .i64 (v 4)]) (.int .i64 3)).run Try.prog w = .ok (.int .i64 (v 3)) w := fun _ => by kernel_rfl
  have i4 : ∀ w, (Instr.index 66 (.agg #[.int .i64 (v 0), .int .i64 (v 1), .int .i64 (v 2), .int .i64 (v 3), .int .i64 (v 4)]) (.int .i64 4)).run Try.prog w = .ok (.int .i64 (v 4)) w := fun _ => by kernel_rfl
  have hBa := (RowKit.Below.refl w.heap.size w).alloc (Nat.le_refl _) (.cells #[.int .i64 n, .int .i64 x, .int .i64 (f 0), .int .i64 (f 1), .int .i64 (f 2), .int .i64 (f 3), .int .i64 (f 4)] 68)
  have HBA := Lib.hid hBa; clear hBa
  go_enter Try.func73, Try.ntmps73
  go_wp2_with fail
  refine (HI.out _ HBA.out).mono ?_
  rintro e w1 ⟨rfl, hB⟩
  have hBw := HBA.out.trans (hB.mono (by simp))
  have hS1 := HS.out.other hBw HS.out.lt
  have s0 : w1.cell? ⟨sb, 0, none⟩ = some (.int .i64 (g 0)) := hS1.cell 0
  have s1 : w1.cell? ⟨sb, 1, none⟩ = some (.int .i64 (g 1)) := hS1.cell 1
  have s2 : w1.cell? ⟨sb, 2, none⟩ = some (.int .i64 (g 2)) := hS1.cell 2
  have s3 : w1.cell? ⟨sb, 3, none⟩ = some (.int .i64 (g 3)) := hS1.cell 3
  have s4 : w1.cell? ⟨sb, 4, none⟩ = some (.int .i64 (g 4)) := hS1.cell 4
  have f0 : w1.frozen? ⟨sb, 0, none⟩ = false := hS1.free 0
  have f1 : w1.frozen? ⟨sb, 1, none⟩ = false := hS1.free 1
  have f2 : w1.frozen? ⟨sb, 2, none⟩ = false := hS1.free 2
  have f3 : w1.frozen? ⟨sb, 3, none⟩ = false := hS1.free 3
  have f4 : w1.frozen? ⟨sb, 4, none⟩ = false := hS1.free 4
  have HS1 := Lib.hid hS1
  clear hS1
  go_wp2_with fail
  refine wp_loop_rounds 6 ?_
  iterate 5 (rw [rounds_succ]; go_wp2; go_region; go_wp2)
  rw [rounds_succ]
  go_wp2
  go_ret
  have hr := ((((HS1.out.set 0 (g 0 + v 0)).set 1 (g 1 + v 1)).set 2 (g 2 + v 2)).set 3 (g 3 + v 3)).set 4 (g 4 + v 4)
  have hb := (((((But.of hBw : But sb w w1).setS 0 (.int .i64 (g 0 + v 0))).setS 1 (.int .i64 (g 1 + v 1))).setS 2 (.int .i64 (g 2 + v 2))).setS 3 (.int .i64 (g 3 + v 3))).setS 4 (.int .i64 (g 4 + v 4))
  have hr' := hr.congr (g' := fun i => g i + v i) (by unfold cells5; simp [upd])
  refine ⟨rfl, ?_, ?_⟩
  · (repeat with_reducible apply RowAt.drew)
    exact hr'
  · repeat (first | with_reducible exact hb | with_reducible apply But.drew)
end Go.Proofs.Ytdnbdaegahcoeaa
