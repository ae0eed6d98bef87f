/- merged: SA SB SC SD SE SF SG SH SI SJ SK SL SM SN -/
import Derived.Test.YtjapconhehdcjaaLC
import Derived.Deep.DeepCutAuto
import Derived.Deep.AppendLies
namespace Go.Proofs.Ytjapconhehdcjaa
open Go.RowKit Go.Sort
section
abbrev spV (a b : Int) : Value := .agg #[.int .i64 a, .int .i64 b]
theorem results_one_cell {fn : Func} {p : Tmp} {ty : TypeId} (h : fn.results = #[.cell p ty]) (tmps : Array Value) (P : Program) (w : World) :
    (results fn tmps).run P w = ((asAddr (tmps.getD p undef)).run P w).andThen fun a w₁ => (loadVar ty a).run P w₁ := by
  simp only [results, h]
  simp [Sem.run_bind, Result.andThen]
theorem results_two_cells {fn : Func} {p q : Tmp} {ty tz : TypeId} (h : fn.results = #[.cell p ty, .cell q tz]) (tmps : Array Value) (P : Program) (w : World) :
    (results fn tmps).run P w = ((asAddr (tmps.getD p undef)).run P w).andThen fun a w₁ => ((loadVar ty a).run P w₁).andThen fun v w₂ => ((asAddr (tmps.getD q undef)).run P w₂).andThen fun b w₃ => ((loadVar tz b).run P w₃).andThen fun y w₄ => .ok (.tuple #[v, y]) w₄ := by
  simp only [results, h]
  simp [Sem.run_bind, Result.andThen]
theorem load69 {w : World} {B : Nat} {cs : Array Value} (hc : cs.size = 2) (hw : w.heap[B]? = some (.cells cs 69)) : (loadVar 69 ⟨B, 0, none⟩).run Try.prog w = .ok (.agg cs) w :=
  run_loadVar_row (P := Try.prog) w B 69 69 cs (0, 0) _ hw Try.underlying69 rfl (by rw [hc]; kernel_rfl)
theorem res_one69 {fn : Func} {p : Tmp} (hf : fn.results = #[.cell p 69]) {tmps : Array Value} {w : World} {B : Nat} {a b : Int} (h0 : tmps.getD p undef = .pointer (some ⟨B, 0, none⟩)) (hw : w.heap[B]? = some (.cells #[.int .i64 a, .int .i64 b] 69)) :
    (results fn tmps).run Try.prog w = .ok (spV a b) w := by
  rw [results_one_cell hf, h0]
  have hr := load69 rfl hw
  simp [asAddr, hr, Result.andThen]
theorem res_two69 {fn : Func} {p q : Tmp} (hf : fn.results = #[.cell p 69, .cell q 69]) {tmps : Array Value} {w : World} {B C : Nat} {a b c d : Int} (h0 : tmps.getD p undef = .pointer (some ⟨B, 0, none⟩)) (h1 : tmps.getD q undef = .pointer (some ⟨C, 0, none⟩)) (hw : w.heap[B]? = some (.cells #[.int .i64 a, .int .i64 b] 69)) (hv : w.heap[C]? = some (.cells #[.int .i64 c, .int .i64 d] 69)) :
    (results fn tmps).run Try.prog w = .ok (.tuple #[spV a b, spV c d]) w := by
  rw [results_two_cells hf, h0, h1]
  have hr := load69 rfl hw
  have hr2 := load69 rfl hv
  simp [asAddr, hr, hr2, Result.andThen]
theorem allOf_any (n : Nat) (h : n ≤ 100) (w : World) : Calls Try.prog 65 #[.int .i64 (n : Nat)] w fun e w' => e = .returned (spV 0 ((n : Int) - 1)) ∧ Fut w w' := by
  have h1 : IntKind.i64.wrap ((n : Int) - 1) = (n : Int) - 1 := IntWalk.i64_in _ ⟨by omega, by omega⟩
  go_enter Try.func65, Try.ntmps65
  go_wp2_with fail
  refine bodyPost_ret (res_one69 rfl rfl (World.alloc_heap_new _ _)) rfl ?_
  exact ⟨rfl, Fut.alloc _ _⟩
theorem kinds_any (n : Int) (w : World) : Calls Try.prog 71 #[.int .i64 n] w fun e w' => e = .returned (.bool (decide (1 ≤ n ∧ n ≤ 8))) ∧ w = w' := by
  by_cases h1 : 1 ≤ n
  · go_enter Try.func71, Try.ntmps71
    go_wp2_with fail
    go_ret
    exact ⟨ret_bool (by simp [h1]), rfl⟩
  · go_enter Try.func71, Try.ntmps71
    go_wp2_with fail
    go_ret
    exact ⟨ret_bool (by simp; omega), rfl⟩
theorem isOne_any (a b : Int) (w : World) : Calls Try.prog 97 #[spV a b] w fun e w' => e = .returned (.bool (a == b)) ∧ Fut w w' := by
  have c0 : (w.alloc (.cells #[.int .i64 a, .int .i64 b] 69)).cell? ⟨w.heap.size, 0, none⟩ = some (.int .i64 a) := (two_cell (World.alloc_heap_new w _)).1
  have c1 : (w.alloc (.cells #[.int .i64 a, .int .i64 b] 69)).cell? ⟨w.heap.size, 1, none⟩ = some (.int .i64 b) := (two_cell (World.alloc_heap_new w _)).2.1
  have HF := Lib.hid (Fut.alloc w (.cells #[.int .i64 a, .int .i64 b] 69))
  go_enter Try.func97, Try.ntmps97
  go_wp2_with fail
  go_ret
  exact ⟨rfl, HF.out⟩
theorem isDiv_any (a b k : Int) (w : World) : Calls Try.prog 98 #[spV a b, .int .i64 k] w fun e w' => e = .returned (.bool (decide (a ≤ k ∧ k < b))) ∧ Fut w w' := by
  have c0 : (w.alloc (.cells #[.int .i64 a, .int .i64 b] 69)).cell? ⟨w.heap.size, 0, none⟩ = some (.int .i64 a) := (two_cell (World.alloc_heap_new w _)).1
  have c1 : (w.alloc (.cells #[.int .i64 a, .int .i64 b] 69)).cell? ⟨w.heap.size, 1, none⟩ = some (.int .i64 b) := (two_cell (World.alloc_heap_new w _)).2.1
  have HF := Lib.hid (Fut.alloc w (.cells #[.int .i64 a, .int .i64 b] 69))
  by_cases h1 : a ≤ k
  · go_enter Try.func98, Try.ntmps98
    go_wp2_with fail
    go_ret
    exact ⟨ret_bool (by simp [h1]), HF.out⟩
  · go_enter Try.func98, Try.ntmps98
    go_wp2_with fail
    go_ret
    exact ⟨ret_bool (by simp; omega), HF.out⟩
theorem of_any (g o : Nat) (a b : Nat) (ha : a < 8) (hb : b < 8) (x : Int) (w : World) (hx : w.cell? ⟨g, o + a * 8 + b, none⟩ = some (.int .i64 x)) : Calls Try.prog 67 #[.pointer (some ⟨g, o, none⟩), spV (a : Nat) (b : Nat)] w fun e w' => e = .returned (.int .i64 x) ∧ Fut w w' := by
  have c0 : (w.alloc (.cells #[.int .i64 (a : Nat), .int .i64 (b : Nat)] 69)).cell? ⟨w.heap.size, 0, none⟩ = some (.int .i64 (a : Nat)) := (two_cell (World.alloc_heap_new w _)).1
  have c1 : (w.alloc (.cells #[.int .i64 (a : Nat), .int .i64 (b : Nat)] 69)).cell? ⟨w.heap.size, 1, none⟩ = some (.int .i64 (b : Nat)) := (two_cell (World.alloc_heap_new w _)).2.1
  have HF := Lib.hid (Fut.alloc w (.cells #[.int .i64 (a : Nat), .int .i64 (b : Nat)] 69))
  have hax : (a : Int) < 8 := by omega
  have hbx : (b : Int) < 8 := by omega
  have hx2 := (RowKit.Below.cell HF.out (p := ⟨g, o + a * 8 + b, none⟩) (World.block_lt_of_cell? _ _ hx)).trans hx
  go_enter Try.func67, Try.ntmps67
  go_upto_region 1 with fail
  go_quiet (fail)
  have HF2 := Lib.hid (HF.out.trans (Fut.drewN _ nq))
  clear c0 c1 hx2
  generalize (w.alloc (.cells #[.int .i64 (a : Nat), .int .i64 (b : Nat)] 69)).drewN nq = w2 at *
  go_wp2_with fail
  go_ret
  exact ⟨rfl, HF2.out⟩
theorem ofL_any (g o : Nat) (a b : Nat) (ha : a < 8) (hb : b < 8) (la : Option Addr) (n lc : Nat) (w : World) (hx : w.cell? ⟨g, o + a * 8 + b, none⟩ = some (.slice la n lc)) : Calls Try.prog 69 #[.pointer (some ⟨g, o, none⟩), spV (a : Nat) (b : Nat)] w fun e w' => e = .returned (.slice la n lc) ∧ Fut w w' := by
  have c0 : (w.alloc (.cells #[.int .i64 (a : Nat), .int .i64 (b : Nat)] 69)).cell? ⟨w.heap.size, 0, none⟩ = some (.int .i64 (a : Nat)) := (two_cell (World.alloc_heap_new w _)).1
  have c1 : (w.alloc (.cells #[.int .i64 (a : Nat), .int .i64 (b : Nat)] 69)).cell? ⟨w.heap.size, 1, none⟩ = some (.int .i64 (b : Nat)) := (two_cell (World.alloc_heap_new w _)).2.1
  have HF := Lib.hid (Fut.alloc w (.cells #[.int .i64 (a : Nat), .int .i64 (b : Nat)] 69))
  have hax : (a : Int) < 8 := by omega
  have hbx : (b : Int) < 8 := by omega
  have hx2 := (RowKit.Below.cell HF.out (p := ⟨g, o + a * 8 + b, none⟩) (World.block_lt_of_cell? _ _ hx)).trans hx
  go_enter Try.func69, Try.ntmps69
  go_upto_region 1 with fail
  go_quiet (fail)
  have HF2 := Lib.hid (HF.out.trans (Fut.drewN _ nq))
  clear c0 c1 hx2
  generalize (w.alloc (.cells #[.int .i64 (a : Nat), .int .i64 (b : Nat)] 69)).drewN nq = w2 at *
  go_wp2_with fail
  go_ret
  exact ⟨rfl, HF2.out⟩
set_option maxRecDepth 100000 in
theorem set_any (g o : Nat) (a b : Nat) (ha : a < 8) (hb : b < 8) (x y : Int) (w : World) (hx : w.cell? ⟨g, o + a * 8 + b, none⟩ = some (.int .i64 y)) (hf : w.frozen? ⟨g, o + a * 8 + b, none⟩ = false) : Calls Try.prog 93 #[.pointer (some ⟨g, o, none⟩), spV (a : Nat) (b : Nat), (.int .i64 x)] w fun e w' => e = .returned (.tuple #[]) ∧ ∃ u, Fut w u ∧ w' = u.setCell ⟨g, o + a * 8 + b, none⟩ (.int .i64 x) := by
  have c0 : (w.alloc (.cells #[.int .i64 (a : Nat), .int .i64 (b : Nat)] 69)).cell? ⟨w.heap.size, 0, none⟩ = some (.int .i64 (a : Nat)) := (two_cell (World.alloc_heap_new w _)).1
  have c1 : (w.alloc (.cells #[.int .i64 (a : Nat), .int .i64 (b : Nat)] 69)).cell? ⟨w.heap.size, 1, none⟩ = some (.int .i64 (b : Nat)) := (two_cell (World.alloc_heap_new w _)).2.1
  have HF := Lib.hid (Fut.alloc w (.cells #[.int .i64 (a : Nat), .int .i64 (b : Nat)] 69))
  have hax : (a : Int) < 8 := by omega
  have hbx : (b : Int) < 8 := by omega
  have hx2 := (RowKit.Below.cell HF.out (p := ⟨g, o + a * 8 + b, none⟩) (World.block_lt_of_cell? _ _ hx)).trans hx
  have hf2 := (RowKit.Below.frozen HF.out (p := ⟨g, o + a * 8 + b, none⟩) (World.block_lt_of_cell? _ _ hx)).trans hf
  go_enter Try.func93, Try.ntmps93
  have HX3 : Hid ((w.alloc (.cells #[.int .i64 (a : Nat), .int .i64 (b : Nat)] 69)).drew.cell? ⟨g, o + a * 8 + b, none⟩ = some (.int .i64 y) ∧ (w.alloc (.cells #[.int .i64 (a : Nat), .int .i64 (b : Nat)] 69)).drew.frozen? ⟨g, o + a * 8 + b, none⟩ = false) := Lib.hid ⟨hx2, hf2⟩
  have HFd : Hid (Fut w (w.alloc (.cells #[.int .i64 (a : Nat), .int .i64 (b : Nat)] 69)).drew) := Lib.hid (HF.out.trans (below_drewN Fut.rfl 1))
  have HC : Hid ((w.alloc (.cells #[.int .i64 (a : Nat), .int .i64 (b : Nat)] 69)).drew.cell? ⟨w.heap.size, 0, none⟩ = some (.int .i64 (a : Nat)) ∧ (w.alloc (.cells #[.int .i64 (a : Nat), .int .i64 (b : Nat)] 69)).drew.cell? ⟨w.heap.size, 1, none⟩ = some (.int .i64 (b : Nat))) := Lib.hid ⟨c0, c1⟩
  have HGL : Hid (g ≠ w.heap.size) := Lib.hid (Nat.ne_of_lt (show g < w.heap.size from World.block_lt_of_cell? _ _ hx))
  clear c0 c1 hx2 hf2 hx hf
  go_upto_region 1 with fail
  refine wp_region_held_drew (S := (fun w' => w'.cell? ⟨w.heap.size, 0, none⟩ = some (.int .i64 (a : Nat)) ∧ w'.cell? ⟨w.heap.size, 1, none⟩ = some (.int .i64 (b : Nat)))) (by kernel_rfl) ?_ (fun hHeld => ?_)
  · exact HC.out
  generalize (w.alloc (.cells #[.int .i64 (a : Nat), .int .i64 (b : Nat)] 69)).drew = u0 at *
  refine wpAnyH_take (i := 0) (oi := { dst := some 6, op := Op.move (Operand.tmp 0), type := 107, pos := "span.go:11", after := #[], guard := none }) (v := ?_) rfl (by kernel_rfl) (by kernel_rfl) (by kernel_rfl) (fun _ _ _ h => h) (Or.inl ⟨by rfl, ?_⟩) (by assumption) ?_
  rotate_left
  · (intro w hSw; obtain ⟨s0, s1⟩ := hSw; go_simp <;> with_reducible rfl)
  try simp only [Act.put, List.setIfInBounds_toArray, List.set_cons_zero, List.set_cons_succ]
  refine wpAnyH_take (i := 1) (oi := { dst := some 7, op := Op.fieldAddr 69 (Operand.tmp 4) 0, type := 0, pos := "span.go:11", after := #[], guard := none }) (v := ?_) rfl (by kernel_rfl) (by kernel_rfl) (by kernel_rfl) (fun _ _ _ h => h) (Or.inl ⟨by rfl, ?_⟩) (by assumption) ?_
  rotate_left
  · (intro w hSw; obtain ⟨s0, s1⟩ := hSw; go_simp <;> with_reducible rfl)
  try simp only [Act.put, List.setIfInBounds_toArray, List.set_cons_zero, List.set_cons_succ]
  refine wpAnyH_take (i := 2) (oi := { dst := some 8, op := Op.load 3 (Operand.tmp 7), type := 3, pos := "span.go:11", after := #[{ on := 1, ground := Ground.data }], guard := none }) (v := ?_) rfl (by kernel_rfl) (by kernel_rfl) (by kernel_rfl) (fun _ _ _ h => h) (Or.inl ⟨by rfl, ?_⟩) (by assumption) ?_
  rotate_left
  · (intro w hSw; obtain ⟨s0, s1⟩ := hSw; go_simp <;> with_reducible rfl)
  try simp only [Act.put, List.setIfInBounds_toArray, List.set_cons_zero, List.set_cons_succ]
  refine wpAnyH_take (i := 3) (oi := { dst := some 9, op := Op.fieldAddr 69 (Operand.tmp 4) 1, type := 0, pos := "span.go:11", after := #[], guard := none }) (v := ?_) rfl (by kernel_rfl) (by kernel_rfl) (by kernel_rfl) (fun _ _ _ h => h) (Or.inl ⟨by rfl, ?_⟩) (by assumption) ?_
  rotate_left
  · (intro w hSw; obtain ⟨s0, s1⟩ := hSw; go_simp <;> with_reducible rfl)
  try simp only [Act.put, List.setIfInBounds_toArray, List.set_cons_zero, List.set_cons_succ]
  refine wpAnyH_take (i := 4) (oi := { dst := some 10, op := Op.load 3 (Operand.tmp 9), type := 3, pos := "span.go:11", after := #[{ on := 3, ground := Ground.data }], guard := none }) (v := ?_) rfl (by kernel_rfl) (by kernel_rfl) (by kernel_rfl) (fun _ _ _ h => h) (Or.inl ⟨by rfl, ?_⟩) (by assumption) ?_
  rotate_left
  · (intro w hSw; obtain ⟨s0, s1⟩ := hSw; go_simp <;> with_reducible rfl)
  try simp only [Act.put, List.setIfInBounds_toArray, List.set_cons_zero, List.set_cons_succ]
  refine wpAnyH_take (i := 5) (oi := { dst := some 11, op := Op.move (Operand.tmp 2), type := 3, pos := "span.go:11", after := #[], guard := none }) (v := ?_) rfl (by kernel_rfl) (by kernel_rfl) (by kernel_rfl) (fun _ _ _ h => h) (Or.inl ⟨by rfl, ?_⟩) (by assumption) ?_
  rotate_left
  · (intro w hSw; obtain ⟨s0, s1⟩ := hSw; go_simp <;> with_reducible rfl)
  try simp only [Act.put, List.setIfInBounds_toArray, List.set_cons_zero, List.set_cons_succ]
  refine wpAnyH_take (i := 6) (oi := { dst := some 12, op := Op.nilCheck (Operand.tmp 6), type := 0, pos := "span.go:11", after := #[{ on := 0, ground := Ground.data }], guard := none }) (v := ?_) rfl (by kernel_rfl) (by kernel_rfl) (by kernel_rfl) (fun _ _ _ h => h) (Or.inl ⟨by rfl, ?_⟩) (by assumption) ?_
  rotate_left
  · (intro w hSw; obtain ⟨s0, s1⟩ := hSw; go_simp <;> with_reducible rfl)
  try simp only [Act.put, List.setIfInBounds_toArray, List.set_cons_zero, List.set_cons_succ]
  refine wpAnyH_take (i := 7) (oi := { dst := some 13, op := Op.indexAddr 79 (Operand.tmp 12) (Operand.tmp 8), type := 0, pos := "span.go:11", after := #[{ on := 6, ground := Ground.data }, { on := 2, ground := Ground.data }], guard := none }) (v := ?_) rfl (by kernel_rfl) (by kernel_rfl) (by kernel_rfl) (fun _ _ _ h => h) (Or.inl ⟨by rfl, ?_⟩) (by assumption) ?_
  rotate_left
  · (intro w hSw; obtain ⟨s0, s1⟩ := hSw; go_simp <;> with_reducible rfl)
  try simp only [Act.put, List.setIfInBounds_toArray, List.set_cons_zero, List.set_cons_succ]
  refine wpAnyH_take (i := 8) (oi := { dst := some 14, op := Op.indexAddr 77 (Operand.tmp 13) (Operand.tmp 10), type := 0, pos := "span.go:11", after := #[{ on := 7, ground := Ground.data }, { on := 4, ground := Ground.data }, { on := 0, ground := Ground.phase }, { on := 1, ground := Ground.phase }, { on := 2, ground := Ground.phase }, { on := 3, ground := Ground.phase }, { on := 4, ground := Ground.phase }, { on := 5, ground := Ground.phase }], guard := none }) (v := ?_) rfl (by kernel_rfl) (by kernel_rfl) (by kernel_rfl) (fun _ _ _ h => h) (Or.inl ⟨by rfl, ?_⟩) (by assumption) ?_
  rotate_left
  · (intro w hSw; obtain ⟨s0, s1⟩ := hSw; go_simp <;> with_reducible rfl)
  try simp only [Act.put, List.setIfInBounds_toArray, List.set_cons_zero, List.set_cons_succ]
  refine wpAnyH_ready (rs := [9]) (by kernel_rfl) (by simp) ?_
  refine AllReadyH.cons (o := { dst := none, op := Op.store 3 (Operand.tmp 14) (Operand.tmp 11), type := 0, pos := "span.go:11", after := #[{ on := 8, ground := Ground.data }, { on := 5, ground := Ground.data }, { on := 0, ground := Ground.phase }, { on := 1, ground := Ground.phase }, { on := 2, ground := Ground.phase }, { on := 3, ground := Ground.phase }, { on := 4, ground := Ground.phase }, { on := 5, ground := Ground.phase }], guard := none }) rfl (fun K hK => ?_) AllReadyH.nil
  obtain ⟨c1, f1⟩ := HX3.out
  go_simp
  clear c1 f1
  refine hK.out _ _ ?_ (fun hHeld => ?_)
  · exact ⟨(World.cell?_setCell_far _ _ _ _ HGL.out).trans HC.out.1, (World.cell?_setCell_far _ _ _ _ HGL.out).trans HC.out.2⟩
  clear hK K
  try simp only [Act.put, List.setIfInBounds_toArray, List.set_cons_zero, List.set_cons_succ]
  refine wpAnyH_done (by kernel_rfl) ?_ _
  go_wp2_with fail
  refine bodyPost_end (results_none rfl _ _ _) rfl ?_
  exact ⟨rfl, u0, HFd.out, rfl⟩
set_option maxRecDepth 100000 in
theorem setL_any (g o : Nat) (a b : Nat) (ha : a < 8) (hb : b < 8) (la lb : Option Addr) (n lc m mc : Nat) (w : World) (hx : w.cell? ⟨g, o + a * 8 + b, none⟩ = some (.slice lb m mc)) (hf : w.frozen? ⟨g, o + a * 8 + b, none⟩ = false) : Calls Try.prog 117 #[.pointer (some ⟨g, o, none⟩), spV (a : Nat) (b : Nat), (.slice la n lc)] w fun e w' => e = .returned (.tuple #[]) ∧ ∃ u, Fut w u ∧ w' = u.setCell ⟨g, o + a * 8 + b, none⟩ (.slice la n lc) := by
  have c0 : (w.alloc (.cells #[.int .i64 (a : Nat), .int .i64 (b : Nat)] 69)).cell? ⟨w.heap.size, 0, none⟩ = some (.int .i64 (a : Nat)) := (two_cell (World.alloc_heap_new w _)).1
  have c1 : (w.alloc (.cells #[.int .i64 (a : Nat), .int .i64 (b : Nat)] 69)).cell? ⟨w.heap.size, 1, none⟩ = some (.int .i64 (b : Nat)) := (two_cell (World.alloc_heap_new w _)).2.1
  have HF := Lib.hid (Fut.alloc w (.cells #[.int .i64 (a : Nat), .int .i64 (b : Nat)] 69))
  have hax : (a : Int) < 8 := by omega
  have hbx : (b : Int) < 8 := by omega
  have hx2 := (RowKit.Below.cell HF.out (p := ⟨g, o + a * 8 + b, none⟩) (World.block_lt_of_cell? _ _ hx)).trans hx
  have hf2 := (RowKit.Below.frozen HF.out (p := ⟨g, o + a * 8 + b, none⟩) (World.block_lt_of_cell? _ _ hx)).trans hf
  go_enter Try.func117, Try.ntmps117
  have HX3 : Hid ((w.alloc (.cells #[.int .i64 (a : Nat), .int .i64 (b : Nat)] 69)).drew.cell? ⟨g, o + a * 8 + b, none⟩ = some (.slice lb m mc) ∧ (w.alloc (.cells #[.int .i64 (a : Nat), .int .i64 (b : Nat)] 69)).drew.frozen? ⟨g, o + a * 8 + b, none⟩ = false) := Lib.hid ⟨hx2, hf2⟩
  have HFd : Hid (Fut w (w.alloc (.cells #[.int .i64 (a : Nat), .int .i64 (b : Nat)] 69)).drew) := Lib.hid (HF.out.trans (below_drewN Fut.rfl 1))
  have HC : Hid ((w.alloc (.cells #[.int .i64 (a : Nat), .int .i64 (b : Nat)] 69)).drew.cell? ⟨w.heap.size, 0, none⟩ = some (.int .i64 (a : Nat)) ∧ (w.alloc (.cells #[.int .i64 (a : Nat), .int .i64 (b : Nat)] 69)).drew.cell? ⟨w.heap.size, 1, none⟩ = some (.int .i64 (b : Nat))) := Lib.hid ⟨c0, c1⟩
  have HGL : Hid (g ≠ w.heap.size) := Lib.hid (Nat.ne_of_lt (show g < w.heap.size from World.block_lt_of_cell? _ _ hx))
  clear c0 c1 hx2 hf2 hx hf
  go_upto_region 1 with fail
  refine wp_region_held_drew (S := (fun w' => w'.cell? ⟨w.heap.size, 0, none⟩ = some (.int .i64 (a : Nat)) ∧ w'.cell? ⟨w.heap.size, 1, none⟩ = some (.int .i64 (b : Nat)))) (by kernel_rfl) ?_ (fun hHeld => ?_)
  · exact HC.out
  generalize (w.alloc (.cells #[.int .i64 (a : Nat), .int .i64 (b : Nat)] 69)).drew = u0 at *
  refine wpAnyH_take (i := 0) (oi := { dst := some 6, op := Op.move (Operand.tmp 0), type := 112, pos := "span.go:11", after := #[], guard := none }) (v := ?_) rfl (by kernel_rfl) (by kernel_rfl) (by kernel_rfl) (fun _ _ _ h => h) (Or.inl ⟨by rfl, ?_⟩) (by assumption) ?_
  rotate_left
  · (intro w hSw; obtain ⟨s0, s1⟩ := hSw; go_simp <;> with_reducible rfl)
  try simp only [Act.put, List.setIfInBounds_toArray, List.set_cons_zero, List.set_cons_succ]
  refine wpAnyH_take (i := 1) (oi := { dst := some 7, op := Op.fieldAddr 69 (Operand.tmp 4) 0, type := 0, pos := "span.go:11", after := #[], guard := none }) (v := ?_) rfl (by kernel_rfl) (by kernel_rfl) (by kernel_rfl) (fun _ _ _ h => h) (Or.inl ⟨by rfl, ?_⟩) (by assumption) ?_
  rotate_left
  · (intro w hSw; obtain ⟨s0, s1⟩ := hSw; go_simp <;> with_reducible rfl)
  try simp only [Act.put, List.setIfInBounds_toArray, List.set_cons_zero, List.set_cons_succ]
  refine wpAnyH_take (i := 2) (oi := { dst := some 8, op := Op.load 3 (Operand.tmp 7), type := 3, pos := "span.go:11", after := #[{ on := 1, ground := Ground.data }], guard := none }) (v := ?_) rfl (by kernel_rfl) (by kernel_rfl) (by kernel_rfl) (fun _ _ _ h => h) (Or.inl ⟨by rfl, ?_⟩) (by assumption) ?_
  rotate_left
  · (intro w hSw; obtain ⟨s0, s1⟩ := hSw; go_simp <;> with_reducible rfl)
  try simp only [Act.put, List.setIfInBounds_toArray, List.set_cons_zero, List.set_cons_succ]
  refine wpAnyH_take (i := 3) (oi := { dst := some 9, op := Op.fieldAddr 69 (Operand.tmp 4) 1, type := 0, pos := "span.go:11", after := #[], guard := none }) (v := ?_) rfl (by kernel_rfl) (by kernel_rfl) (by kernel_rfl) (fun _ _ _ h => h) (Or.inl ⟨by rfl, ?_⟩) (by assumption) ?_
  rotate_left
  · (intro w hSw; obtain ⟨s0, s1⟩ := hSw; go_simp <;> with_reducible rfl)
  try simp only [Act.put, List.setIfInBounds_toArray, List.set_cons_zero, List.set_cons_succ]
  refine wpAnyH_take (i := 4) (oi := { dst := some 10, op := Op.load 3 (Operand.tmp 9), type := 3, pos := "span.go:11", after := #[{ on := 3, ground := Ground.data }], guard := none }) (v := ?_) rfl (by kernel_rfl) (by kernel_rfl) (by kernel_rfl) (fun _ _ _ h => h) (Or.inl ⟨by rfl, ?_⟩) (by assumption) ?_
  rotate_left
  · (intro w hSw; obtain ⟨s0, s1⟩ := hSw; go_simp <;> with_reducible rfl)
  try simp only [Act.put, List.setIfInBounds_toArray, List.set_cons_zero, List.set_cons_succ]
  refine wpAnyH_take (i := 5) (oi := { dst := some 11, op := Op.move (Operand.tmp 2), type := 22, pos := "span.go:11", after := #[], guard := none }) (v := ?_) rfl (by kernel_rfl) (by kernel_rfl) (by kernel_rfl) (fun _ _ _ h => h) (Or.inl ⟨by rfl, ?_⟩) (by assumption) ?_
  rotate_left
  · (intro w hSw; obtain ⟨s0, s1⟩ := hSw; go_simp <;> with_reducible rfl)
  try simp only [Act.put, List.setIfInBounds_toArray, List.set_cons_zero, List.set_cons_succ]
  refine wpAnyH_take (i := 6) (oi := { dst := some 12, op := Op.nilCheck (Operand.tmp 6), type := 0, pos := "span.go:11", after := #[{ on := 0, ground := Ground.data }], guard := none }) (v := ?_) rfl (by kernel_rfl) (by kernel_rfl) (by kernel_rfl) (fun _ _ _ h => h) (Or.inl ⟨by rfl, ?_⟩) (by assumption) ?_
  rotate_left
  · (intro w hSw; obtain ⟨s0, s1⟩ := hSw; go_simp <;> with_reducible rfl)
  try simp only [Act.put, List.setIfInBounds_toArray, List.set_cons_zero, List.set_cons_succ]
  refine wpAnyH_take (i := 7) (oi := { dst := some 13, op := Op.indexAddr 76 (Operand.tmp 12) (Operand.tmp 8), type := 0, pos := "span.go:11", after := #[{ on := 6, ground := Ground.data }, { on := 2, ground := Ground.data }], guard := none }) (v := ?_) rfl (by kernel_rfl) (by kernel_rfl) (by kernel_rfl) (fun _ _ _ h => h) (Or.inl ⟨by rfl, ?_⟩) (by assumption) ?_
  rotate_left
  · (intro w hSw; obtain ⟨s0, s1⟩ := hSw; go_simp <;> with_reducible rfl)
  try simp only [Act.put, List.setIfInBounds_toArray, List.set_cons_zero, List.set_cons_succ]
  refine wpAnyH_take (i := 8) (oi := { dst := some 14, op := Op.indexAddr 74 (Operand.tmp 13) (Operand.tmp 10), type := 0, pos := "span.go:11", after := #[{ on := 7, ground := Ground.data }, { on := 4, ground := Ground.data }, { on := 0, ground := Ground.phase }, { on := 1, ground := Ground.phase }, { on := 2, ground := Ground.phase }, { on := 3, ground := Ground.phase }, { on := 4, ground := Ground.phase }, { on := 5, ground := Ground.phase }], guard := none }) (v := ?_) rfl (by kernel_rfl) (by kernel_rfl) (by kernel_rfl) (fun _ _ _ h => h) (Or.inl ⟨by rfl, ?_⟩) (by assumption) ?_
  rotate_left
  · (intro w hSw; obtain ⟨s0, s1⟩ := hSw; go_simp <;> with_reducible rfl)
  try simp only [Act.put, List.setIfInBounds_toArray, List.set_cons_zero, List.set_cons_succ]
  refine wpAnyH_ready (rs := [9]) (by kernel_rfl) (by simp) ?_
  refine AllReadyH.cons (o := { dst := none, op := Op.store 22 (Operand.tmp 14) (Operand.tmp 11), type := 0, pos := "span.go:11", after := #[{ on := 8, ground := Ground.data }, { on := 5, ground := Ground.data }, { on := 0, ground := Ground.phase }, { on := 1, ground := Ground.phase }, { on := 2, ground := Ground.phase }, { on := 3, ground := Ground.phase }, { on := 4, ground := Ground.phase }, { on := 5, ground := Ground.phase }], guard := none }) rfl (fun K hK => ?_) AllReadyH.nil
  obtain ⟨c1, f1⟩ := HX3.out
  go_simp
  clear c1 f1
  refine hK.out _ _ ?_ (fun hHeld => ?_)
  · exact ⟨(World.cell?_setCell_far _ _ _ _ HGL.out).trans HC.out.1, (World.cell?_setCell_far _ _ _ _ HGL.out).trans HC.out.2⟩
  clear hK K
  try simp only [Act.put, List.setIfInBounds_toArray, List.set_cons_zero, List.set_cons_succ]
  refine wpAnyH_done (by kernel_rfl) ?_ _
  go_wp2_with fail
  refine bodyPost_end (results_none rfl _ _ _) rfl ?_
  exact ⟨rfl, u0, HFd.out, rfl⟩
theorem set2_both {w : World} {B : Nat} {t : TypeId} {x y : Value} (u v : Value) (h : w.heap[B]? = some (.cells #[x, y] t)) :
    (w.cell? ⟨B, 0, none⟩ = some x ∧ w.frozen? ⟨B, 0, none⟩ = false) ∧ ((w.setCell ⟨B, 0, none⟩ u).cell? ⟨B, 1, none⟩ = some y ∧ (w.setCell ⟨B, 0, none⟩ u).frozen? ⟨B, 1, none⟩ = false) ∧
    ((w.setCell ⟨B, 0, none⟩ u).setCell ⟨B, 1, none⟩ v).heap[B]? = some (.cells #[u, v] t) := by
  have h1 := two_set0 u h
  have h2 := two_set1 v h1
  obtain ⟨a1, _, a3, _⟩ := two_cell h
  obtain ⟨_, b2, _, b4⟩ := two_cell h1
  exact ⟨⟨a1, a3⟩, ⟨b2, b4⟩, h2⟩
set_option maxRecDepth 100000 in
set_option maxHeartbeats 2000000 in
theorem parts_any (a b k : Int) (hk : -1000 ≤ k ∧ k ≤ 1000) (w : World) : Calls Try.prog 95 #[spV a b, .int .i64 k] w fun e w' => e = .returned (.tuple #[spV a k, spV (k + 1) b]) ∧ Fut w w' := by
  have hwk : IntKind.i64.wrap (k + 1) = k + 1 := IntWalk.i64_in _ ⟨by omega, by omega⟩
  obtain ⟨W0, hW0⟩ : ∃ W0, W0 = ((w.alloc (.cells #[.int .i64 a, .int .i64 b] 69)).alloc (.cells #[.int .i64 0, .int .i64 0] 69)).alloc (.cells #[.int .i64 0, .int .i64 0] 69) := ⟨_, rfl⟩
  have g0 : W0.heap[w.heap.size]? = some (.cells #[.int .i64 a, .int .i64 b] 69) := by
    rw [hW0]
    exact heap_fut (heap_fut (World.alloc_heap_new w _) (Fut.alloc _ _)) (Fut.alloc _ _)
  have g1 : W0.heap[w.heap.size + 1]? = some (.cells #[.int .i64 0, .int .i64 0] 69) := by
    rw [hW0]
    have := World.alloc_heap_new (w.alloc (.cells #[.int .i64 a, .int .i64 b] 69)) (.cells #[.int .i64 0, .int .i64 0] 69)
    rw [World.size_alloc] at this
    exact heap_fut this (Fut.alloc _ _)
  have g2 : W0.heap[w.heap.size + 2]? = some (.cells #[.int .i64 0, .int .i64 0] 69) := by
    rw [hW0]
    have := World.alloc_heap_new ((w.alloc (.cells #[.int .i64 a, .int .i64 b] 69)).alloc (.cells #[.int .i64 0, .int .i64 0] 69)) (.cells #[.int .i64 0, .int .i64 0] 69)
    rw [World.size_alloc, World.size_alloc] at this
    exact this
  have HB0 : Hid (W0.drew.heap[w.heap.size]? = some (.cells #[.int .i64 a, .int .i64 b] 69)) := Lib.hid g0
  have HB1 : Hid (W0.drew.heap[w.heap.size + 1]? = some (.cells #[.int .i64 0, .int .i64 0] 69)) := Lib.hid g1
  have HB2 : Hid (W0.drew.heap[w.heap.size + 2]? = some (.cells #[.int .i64 0, .int .i64 0] 69)) := Lib.hid g2
  have HFU : Hid (Fut w W0.drew) := Lib.hid (Fut.trans (by rw [hW0]; exact ((Fut.alloc _ _).trans (Fut.alloc _ _)).trans (Fut.alloc _ _)) (below_drewN Fut.rfl 1))
  have HW := Lib.hid hW0
  clear g0 g1 g2 hW0
  go_enter Try.func95, Try.ntmps95
  go_upto_region 1 with fail
  rw [← HW.out]
  clear HW
  refine wp_region_held_drew (S := (fun w' => w'.cell? ⟨w.heap.size, 0, none⟩ = some (.int .i64 a) ∧ w'.cell? ⟨w.heap.size, 1, none⟩ = some (.int .i64 b))) (by kernel_rfl) ?_ (fun hHeld => ?_)
  · exact ⟨(two_cell HB0.out).1, (two_cell HB0.out).2.1⟩
  generalize W0.drew = u0 at *
  refine wpAnyH_take (i := 0) (oi := { dst := some 6, op := Op.fieldAddr 69 (Operand.tmp 2) 0, type := 0, pos := "span.go:42", after := #[], guard := none }) (v := ?_) rfl (by kernel_rfl) (by kernel_rfl) (by kernel_rfl) (fun _ _ _ h => h) (Or.inl ⟨by rfl, ?_⟩) (by assumption) ?_
  rotate_left
  · (intro w hSw; obtain ⟨s0, s1⟩ := hSw; go_simp <;> with_reducible rfl)
  try simp only [Act.put, List.setIfInBounds_toArray, List.set_cons_zero, List.set_cons_succ]
  refine wpAnyH_take (i := 1) (oi := { dst := some 7, op := Op.load 3 (Operand.tmp 6), type := 3, pos := "span.go:42", after := #[{ on := 0, ground := Ground.data }], guard := none }) (v := ?_) rfl (by kernel_rfl) (by kernel_rfl) (by kernel_rfl) (fun _ _ _ h => h) (Or.inl ⟨by rfl, ?_⟩) (by assumption) ?_
  rotate_left
  · (intro w hSw; obtain ⟨s0, s1⟩ := hSw; go_simp <;> with_reducible rfl)
  try simp only [Act.put, List.setIfInBounds_toArray, List.set_cons_zero, List.set_cons_succ]
  refine wpAnyH_take (i := 2) (oi := { dst := some 8, op := Op.move (Operand.tmp 1), type := 3, pos := "span.go:42", after := #[], guard := none }) (v := ?_) rfl (by kernel_rfl) (by kernel_rfl) (by kernel_rfl) (fun _ _ _ h => h) (Or.inl ⟨by rfl, ?_⟩) (by assumption) ?_
  rotate_left
  · (intro w hSw; obtain ⟨s0, s1⟩ := hSw; go_simp <;> with_reducible rfl)
  try simp only [Act.put, List.setIfInBounds_toArray, List.set_cons_zero, List.set_cons_succ]
  refine wpAnyH_take (i := 3) (oi := { dst := some 9, op := Op.build 69 #[(0, Operand.tmp 7), (1, Operand.tmp 8)], type := 69, pos := "span.go:42", after := #[{ on := 1, ground := Ground.data }, { on := 2, ground := Ground.data }], guard := none }) (v := ?_) rfl (by kernel_rfl) (by kernel_rfl) (by kernel_rfl) (fun _ _ _ h => h) (Or.inl ⟨by rfl, ?_⟩) (by assumption) ?_
  rotate_left
  · (intro w hSw; obtain ⟨s0, s1⟩ := hSw; go_simp <;> with_reducible rfl)
  try simp only [Act.put, List.setIfInBounds_toArray, List.set_cons_zero, List.set_cons_succ]
  refine wpAnyH_take (i := 4) (oi := { dst := some 10, op := Op.move (Operand.tmp 1), type := 3, pos := "span.go:42", after := #[{ on := 9, ground := Ground.gcOnly Departure.lateStores }], guard := none }) (v := ?_) rfl (by kernel_rfl) (by kernel_rfl) (by kernel_rfl) (fun _ _ _ h => h) (Or.inl ⟨by rfl, ?_⟩) (by assumption) ?_
  rotate_left
  · (intro w hSw; obtain ⟨s0, s1⟩ := hSw; go_simp <;> with_reducible rfl)
  try simp only [Act.put, List.setIfInBounds_toArray, List.set_cons_zero, List.set_cons_succ]
  refine wpAnyH_take (i := 5) (oi := { dst := some 11, op := Op.binOp BinOp.add 3 (Operand.tmp 10) (Operand.const (Value.int IntKind.i64 1)) 3, type := 3, pos := "span.go:42", after := #[{ on := 4, ground := Ground.data }, { on := 9, ground := Ground.gcOnly Departure.lateStores }], guard := none }) (v := ?_) rfl (by kernel_rfl) (by kernel_rfl) (by kernel_rfl) (fun _ _ _ h => h) (Or.inl ⟨by rfl, ?_⟩) (by assumption) ?_
  rotate_left
  · (intro w hSw; obtain ⟨s0, s1⟩ := hSw; go_simp <;> with_reducible rfl)
  try simp only [Act.put, List.setIfInBounds_toArray, List.set_cons_zero, List.set_cons_succ]
  refine wpAnyH_take (i := 6) (oi := { dst := some 12, op := Op.fieldAddr 69 (Operand.tmp 2) 1, type := 0, pos := "span.go:42", after := #[{ on := 9, ground := Ground.gcOnly Departure.lateStores }], guard := none }) (v := ?_) rfl (by kernel_rfl) (by kernel_rfl) (by kernel_rfl) (fun _ _ _ h => h) (Or.inl ⟨by rfl, ?_⟩) (by assumption) ?_
  rotate_left
  · (intro w hSw; obtain ⟨s0, s1⟩ := hSw; go_simp <;> with_reducible rfl)
  try simp only [Act.put, List.setIfInBounds_toArray, List.set_cons_zero, List.set_cons_succ]
  refine wpAnyH_take (i := 7) (oi := { dst := some 13, op := Op.load 3 (Operand.tmp 12), type := 3, pos := "span.go:42", after := #[{ on := 6, ground := Ground.data }, { on := 9, ground := Ground.gcOnly Departure.lateStores }], guard := none }) (v := ?_) rfl (by kernel_rfl) (by kernel_rfl) (by kernel_rfl) (fun _ _ _ h => h) (Or.inl ⟨by rfl, ?_⟩) (by assumption) ?_
  rotate_left
  · (intro w hSw; obtain ⟨s0, s1⟩ := hSw; go_simp <;> with_reducible rfl)
  try simp only [Act.put, List.setIfInBounds_toArray, List.set_cons_zero, List.set_cons_succ]
  refine wpAnyH_take (i := 8) (oi := { dst := some 14, op := Op.build 69 #[(0, Operand.tmp 11), (1, Operand.tmp 13)], type := 69, pos := "span.go:42", after := #[{ on := 5, ground := Ground.data }, { on := 7, ground := Ground.data }, { on := 9, ground := Ground.gcOnly Departure.lateStores }], guard := none }) (v := ?_) rfl (by kernel_rfl) (by kernel_rfl) (by kernel_rfl) (fun _ _ _ h => h) (Or.inl ⟨by rfl, ?_⟩) (by assumption) ?_
  rotate_left
  · (intro w hSw; obtain ⟨s0, s1⟩ := hSw; go_simp <;> with_reducible rfl)
  try simp only [Act.put, List.setIfInBounds_toArray, List.set_cons_zero, List.set_cons_succ]
  refine wpAnyH_ready (rs := [9]) (by kernel_rfl) (by simp) ?_
  refine AllReadyH.cons (o := { dst := none, op := Op.store 69 (Operand.tmp 4) (Operand.tmp 9), type := 0, pos := "span.go:42", after := #[{ on := 3, ground := Ground.data }, { on := 0, ground := Ground.phase }, { on := 1, ground := Ground.phase }, { on := 2, ground := Ground.phase }, { on := 3, ground := Ground.phase }, { on := 4, ground := Ground.textOnly Departure.lateStores }, { on := 5, ground := Ground.textOnly Departure.lateStores }, { on := 6, ground := Ground.textOnly Departure.lateStores }, { on := 7, ground := Ground.textOnly Departure.lateStores }, { on := 8, ground := Ground.textOnly Departure.lateStores }], guard := none }) rfl (fun K hK => ?_) AllReadyH.nil
  have q1 := two_cell HB1.out
  have e1 := set2_both (.int .i64 a) (.int .i64 k) HB1.out
  obtain ⟨⟨y1, y2⟩, ⟨y3, y4⟩, y5⟩ := e1
  have HY5 := Lib.hid y5
  have HB2b : Hid (((u0.setCell ⟨w.heap.size + 1, 0, none⟩ (.int .i64 a)).setCell ⟨w.heap.size + 1, 1, none⟩ (.int .i64 k)).heap[w.heap.size + 2]? = some (.cells #[.int .i64 0, .int .i64 0] 69)) := Lib.hid (heap_kept (heap_kept HB2.out (set_grown _ _ _ _) (fun e => by have := Option.some.inj e; omega)) (set_grown _ _ _ _) (fun e => by have := Option.some.inj e; omega))
  have HB0b : Hid (((u0.setCell ⟨w.heap.size + 1, 0, none⟩ (.int .i64 a)).setCell ⟨w.heap.size + 1, 1, none⟩ (.int .i64 k)).heap[w.heap.size]? = some (.cells #[.int .i64 a, .int .i64 b] 69)) := Lib.hid (heap_kept (heap_kept HB0.out (set_grown _ _ _ _) (fun e => by have := Option.some.inj e; omega)) (set_grown _ _ _ _) (fun e => by have := Option.some.inj e; omega))
  have HFb : Hid (Fut w ((u0.setCell ⟨w.heap.size + 1, 0, none⟩ (.int .i64 a)).setCell ⟨w.heap.size + 1, 1, none⟩ (.int .i64 k))) := Lib.hid (RowKit.Below.setCell (p := ⟨w.heap.size + 1, 1, none⟩) (RowKit.Below.setCell (p := ⟨w.heap.size + 1, 0, none⟩) HFU.out (Nat.le_succ _) _) (Nat.le_succ _) _)
  go_simp
  clear y1 y2 y3 y4 y5 q1
  generalize (u0.setCell ⟨w.heap.size + 1, 0, none⟩ (.int .i64 a)).setCell ⟨w.heap.size + 1, 1, none⟩ (.int .i64 k) = u1 at *
  refine hK.out _ _ ?_ (fun hHeld => ?_)
  · exact ⟨(two_cell HB0b.out).1, (two_cell HB0b.out).2.1⟩
  clear hK K
  try simp only [Act.put, List.setIfInBounds_toArray, List.set_cons_zero, List.set_cons_succ]
  refine wpAnyH_ready (rs := [10]) (by kernel_rfl) (by simp) ?_
  refine AllReadyH.cons (o := { dst := none, op := Op.store 69 (Operand.tmp 5) (Operand.tmp 14), type := 0, pos := "span.go:42", after := #[{ on := 8, ground := Ground.data }, { on := 9, ground := Ground.chain }, { on := 0, ground := Ground.phase }, { on := 1, ground := Ground.phase }, { on := 2, ground := Ground.phase }, { on := 3, ground := Ground.phase }, { on := 4, ground := Ground.phase }, { on := 5, ground := Ground.phase }, { on := 6, ground := Ground.phase }, { on := 7, ground := Ground.phase }, { on := 8, ground := Ground.phase }, { on := 9, ground := Ground.phase }], guard := none }) rfl (fun K hK => ?_) AllReadyH.nil
  have e1 := set2_both (.int .i64 (k + 1)) (.int .i64 b) HB2b.out
  obtain ⟨⟨y1, y2⟩, ⟨y3, y4⟩, y5⟩ := e1
  have HZ5 := Lib.hid y5
  have HY6 : Hid (((u1.setCell ⟨w.heap.size + 2, 0, none⟩ (.int .i64 (k + 1))).setCell ⟨w.heap.size + 2, 1, none⟩ (.int .i64 b)).heap[w.heap.size + 1]? = some (.cells #[.int .i64 a, .int .i64 k] 69)) := Lib.hid (heap_kept (heap_kept HY5.out (set_grown _ _ _ _) (fun e => by have := Option.some.inj e; omega)) (set_grown _ _ _ _) (fun e => by have := Option.some.inj e; omega))
  have HB0c : Hid (((u1.setCell ⟨w.heap.size + 2, 0, none⟩ (.int .i64 (k + 1))).setCell ⟨w.heap.size + 2, 1, none⟩ (.int .i64 b)).heap[w.heap.size]? = some (.cells #[.int .i64 a, .int .i64 b] 69)) := Lib.hid (heap_kept (heap_kept HB0b.out (set_grown _ _ _ _) (fun e => by have := Option.some.inj e; omega)) (set_grown _ _ _ _) (fun e => by have := Option.some.inj e; omega))
  have HFc : Hid (Fut w ((u1.setCell ⟨w.heap.size + 2, 0, none⟩ (.int .i64 (k + 1))).setCell ⟨w.heap.size + 2, 1, none⟩ (.int .i64 b))) := Lib.hid (RowKit.Below.setCell (p := ⟨w.heap.size + 2, 1, none⟩) (RowKit.Below.setCell (p := ⟨w.heap.size + 2, 0, none⟩) HFb.out (show w.heap.size ≤ w.heap.size + 2 by omega) _) (show w.heap.size ≤ w.heap.size + 2 by omega) _)
  go_simp
  clear y1 y2 y3 y4 y5
  refine hK.out _ _ ?_ (fun hHeld => ?_)
  · exact ⟨(two_cell HB0c.out).1, (two_cell HB0c.out).2.1⟩
  clear hK K
  try simp only [Act.put, List.setIfInBounds_toArray, List.set_cons_zero, List.set_cons_succ]
  refine wpAnyH_done (by kernel_rfl) ?_ _
  go_wp2_with fail
  refine bodyPost_ret (res_two69 rfl rfl rfl HY6.out HZ5.out) rfl ?_
  exact ⟨rfl, HFc.out⟩
end
section
theorem sum_take (zs : List Int) (i : Nat) (h : i < zs.length) : (zs.take (i + 1)).sum = (zs.take i).sum + nth zs i := by
  rw [List.take_succ_eq_append_getElem h, List.sum_append, nth_eq, List.getElem?_eq_getElem h]
  simp
theorem sum_bnd {zs : List Int} (h : ∀ z ∈ zs, 0 ≤ z ∧ z ≤ 1000000) : ∀ i, 0 ≤ (zs.take i).sum ∧ (zs.take i).sum ≤ 1000000 * i
  | 0 => by simp
  | i + 1 => by
    rcases Nat.lt_or_ge i zs.length with q | q
    · have h1 := sum_bnd h i
      have h2 := h (nth zs i) (nth_mem q)
      rw [sum_take zs i q]
      omega
    · have h1 := sum_bnd h i
      rw [List.take_of_length_le (by omega)] at h1 ⊢
      omega
set_option maxRecDepth 100000 in
theorem sum_any (a : Option Addr) (cap : Nat) (zs : List Int) (w : World) (hA : IntsAt w a zs) (hl : zs.length ≤ 1000) (hz : ∀ z ∈ zs, 0 ≤ z ∧ z ≤ 1000000) :
    Calls Try.prog 116 #[.slice a zs.length cap] w fun e w' => e = .returned (.int .i64 zs.sum) ∧ w = w' := by
  have HA := Lib.hid hA
  have HB := Lib.hid (sum_bnd hz)
  have HT := Lib.hid (sum_take zs)
  have HE : Hid ((zs.take zs.length).sum = zs.sum) := Lib.hid (by rw [List.take_length])
  have hlx : (zs.length : Int) ≤ 1000 := by omega
  obtain ⟨f, hf⟩ : ∃ f : Nat → Int, f = fun i => (zs.take i).sum := ⟨_, rfl⟩
  have HF := Lib.hid hf
  have HF0 : Hid (f 0 = 0) := Lib.hid (by rw [hf]; rfl)
  clear hA hz hf
  go_enter Try.func116, Try.ntmps116
  go_wp2_with fail
  go_loopw [3, 8] (fun sv iv wr => ∃ i : Nat, i ≤ zs.length ∧ iv = .int .i64 i ∧ sv = .int .i64 (f i) ∧ w = wr) (fun _ iv _ => zs.length - (intOf iv).toNat)
  case atStart => exact ⟨0, Nat.zero_le _, rfl, by rw [HF0.out], rfl⟩
  case round =>
    obtain ⟨i, hi, rfl, rfl, rfl⟩ := hrel
    by_cases hil : i < zs.length
    · have hix : (i : Int) < zs.length := by omega
      obtain ⟨b, o, rfl, hb, c⟩ := HA.out i hil
      have hs : f (i + 1) = f i + nth zs i := by rw [HF.out]; exact HT.out i hil
      have h1 := HB.out (i + 1)
      have h2 : f (i + 1) = (zs.take (i + 1)).sum := by rw [HF.out]
      rw [← h2, hs] at h1
      have hw : IntKind.i64.wrap (f i + nth zs i) = f i + nth zs i := IntWalk.i64_in _ ⟨by omega, by omega⟩
      have HS := Lib.hid hs
      clear hs h1 h2
      go_wp2_with fail
      go_roundw
      case rel => exact ⟨i + 1, by omega, by go_num, by rw [HS.out], trivial⟩
      case measure => simp [intOf]; omega
    · obtain rfl : i = zs.length := by omega
      go_wp2_with fail
      go_ret
      exact ⟨ret_int (by rw [HF.out]; exact HE.out), rfl⟩
/-- the sieves of a span. -/
def svP (a i : Nat) : List Int := (List.range i).map fun j => ((a + j : Nat) : Int)
theorem svP_succ (a i : Nat) : svP a (i + 1) = svP a i ++ [((a + i : Nat) : Int)] := by unfold svP; rw [List.range_succ, List.map_append]; rfl
theorem svP_len (a i : Nat) : (svP a i).length = i := by unfold svP; simp
set_option maxRecDepth 100000 in
theorem sieves_any (a b : Nat) (hab : a ≤ b) (hb : b ≤ 100) (w : World) : Calls Try.prog 96 #[spV (a : Nat) (b : Nat)] w fun e w' => ∃ v, e = .returned v ∧ Owns w' w.heap.size v (svP a (b - a)) ∧ Fut w w' := by
  obtain ⟨i0, hi0, hz0, hz1, hz2⟩ := info_parts info3
  obtain ⟨w1, hw1⟩ : ∃ W, W = w.alloc (.cells #[.int .i64 (a : Nat), .int .i64 (b : Nat)] 69) := ⟨_, rfl⟩
  have hbx : (b : Int) ≤ 100 := by omega
  have HBX : Hid (w1.heap[w.heap.size]? = some (.cells #[.int .i64 (a : Nat), .int .i64 (b : Nat)] 69)) := Lib.hid (by rw [hw1]; exact World.alloc_heap_new w _)
  have HF1 : Hid (Fut w w1) := Lib.hid (by rw [hw1]; exact Fut.alloc _ _)
  have HZ : Hid (w1.heap.size = w.heap.size + 1) := Lib.hid (by rw [hw1, World.size_alloc])
  have HW := Lib.hid hw1
  have c0 : (w.alloc (.cells #[.int .i64 (a : Nat), .int .i64 (b : Nat)] 69)).cell? ⟨w.heap.size, 0, none⟩ = some (.int .i64 (a : Nat)) := (two_cell (World.alloc_heap_new w _)).1
  clear hw1
  go_enter Try.func96, Try.ntmps96
  go_wp2_with fail
  rw [← HW.out]
  clear HW c0
  go_loopw [3, 4] (fun lv kv wr => ∃ (i : Nat) (oa : Option Addr) (oc : Nat), a + i ≤ b ∧ kv = .int .i64 ((a + i : Nat) : Int) ∧ lv = .slice oa i oc ∧ Hid (Owns wr w1.heap.size (.slice oa i oc) (svP a i)) ∧ Hid (Fut w1 wr)) (fun _ kv _ => b - (intOf kv).toNat)
  case atStart => exact ⟨0, none, 0, by omega, rfl, rfl, Lib.hid (World.ownsRow_nil _ _ _ _), Lib.hid Fut.rfl⟩
  case round =>
    obtain ⟨i, oa, oc, hi, rfl, rfl, HO, HF⟩ := hrel
    have hc := heap_fut HBX.out HF.out
    have c1 := (two_cell hc).2.1
    by_cases hil : a + i < b
    · have hix : ((a + i : Nat) : Int) < b := by omega
      have hwx : IntKind.i64.wrap (((a + i : Nat) : Int) + 1) = ((a + (i + 1) : Nat) : Int) := by rw [IntWalk.i64_in _ ⟨by omega, by omega⟩]; omega
      have FA : Fut wr (wr.alloc (.cells #[.int .i64 ((a + i : Nat) : Int)] 3)) := Fut.alloc _ _
      have HOW : Hid ((wr.alloc (.cells #[.int .i64 ((a + i : Nat) : Int)] 3)).ownsRow w1.heap.size 3 1 (.slice oa i oc) i ((svP a i).map (Value.int .i64))) := Lib.hid (by have h := HO.out.fut FA; unfold Owns at h; rwa [svP_len] at h)
      have HFA := Lib.hid (HF.out.trans FA)
      have HZA : Hid (w1.heap.size ≤ (wr.alloc (.cells #[.int .i64 ((a + i : Nat) : Int)] 3)).heap.size) := Lib.hid (RowKit.Below.size HFA.out)
      generalize hq : ((a + i : Nat) : Int) = q at *
      have HQ := Lib.hid hq
      clear hq FA hc HO
      go_wp2_with (at_builtin; refine wpList_append_lies _ rfl _ _ 22 rfl w1.heap.size 3 i0 (.int .i64 0) 1 8 Try.underlying22 hi0 hz0 hz1 hz2 rfl (by decide) (.slice oa i oc) i ((svP a i).map (Value.int .i64)) rfl HOW.out ⟨wr.heap.size, 0, none⟩ 1 1 [.int .i64 q] rfl rfl (cell_one (by simp [go_sem])) (by simp [Value.oneCell']) (by omega) (by unfold maxLen; omega) (by omega) HZA.out _ rfl ?_)
      intro g8 c8 w8 hown8 hgrow8 hat8 _
      have HX8 : Hid (Owns w8 w1.heap.size (.slice (some ⟨g8, 0, none⟩) (i + 1) c8) (svP a (i + 1))) := Lib.hid (by
        unfold Owns
        rw [svP_len, svP_succ, HQ.out, List.map_append]; exact hown8)
      have HF8 : Hid (Fut w1 w8) := Lib.hid (fut_own HFA.out hgrow8 (fun q hq => (World.ownsRow.lt HOW.out q hq).1))
      clear hown8 hgrow8 hat8 HOW HFA HZA c1
      go_wp2_with fail
      go_roundw
      case rel => first
        | exact ⟨i + 1, _, c8, by omega, rfl, rfl, HX8, HF8⟩
        | ((repeat apply Exists.intro); exact ⟨⟨i + 1, _, c8, by omega, rfl, rfl, HX8, HF8⟩, rfl⟩)
      case measure => have := HQ.out; simp [intOf]; omega
    · have hib : a + i = b := by omega
      have hix : ¬ ((a + i : Nat) : Int) < b := by omega
      have HIB : Hid (b - a = i) := Lib.hid (by omega)
      clear hib hc
      go_wp2_with fail
      go_ret
      exact ⟨_, rfl, by rw [HIB.out]; exact HO.out.base (by have := HZ.out; omega), HF1.out.trans HF.out⟩
end
section
def badL (x : Int) : Bool := decide (x < 1) || decide (100 < x)
def chkL (zs : List Int) : Int := if zs.length = 0 then 4 else if 8 < zs.length then 3 else if zs.any badL then 1 else 0
theorem chkL_bad {zs : List Int} (h0 : zs.length ≠ 0) (h1 : zs.length ≤ 8) {i : Nat} (hi : i < zs.length) (hb : badL (nth zs i) = true) : chkL zs = 1 := by
  unfold chkL
  rw [if_neg h0, if_neg (by omega), if_pos (List.any_eq_true.2 ⟨nth zs i, nth_mem hi, hb⟩)]
theorem chkL_ok {zs : List Int} (h0 : zs.length ≠ 0) (h1 : zs.length ≤ 8) (h : ∀ j, j < zs.length → badL (nth zs j) = false) : chkL zs = 0 := by
  unfold chkL
  rw [if_neg h0, if_neg (by omega), if_neg]
  intro q
  obtain ⟨x, hx, hb⟩ := List.any_eq_true.1 q
  obtain ⟨j, hj, rfl⟩ := List.getElem_of_mem hx
  have := h j hj
  rw [nth_eq, List.getElem?_eq_getElem hj] at this
  simp at this
  rw [this] at hb
  cases hb
set_option maxRecDepth 100000 in
theorem check_any (a : Option Addr) (cap : Nat) (zs : List Int) (w : World) (hA : IntsAt w a zs) (hl : zs.length ≤ 1000) :
    Calls Try.prog 25 #[.slice a zs.length cap] w fun e w' => e = .returned (.int .i64 (chkL zs)) ∧ w = w' := by
  have HA := Lib.hid hA
  clear hA
  have hlx : (zs.length : Int) ≤ 1000 := by omega
  by_cases h0 : zs.length = 0
  · have HC : Hid (chkL zs = 4) := Lib.hid (by unfold chkL; rw [if_pos h0])
    have h0x : (zs.length : Int) = 0 := by omega
    go_enter Try.func25, Try.ntmps25
    go_wp2_with fail
    go_ret
    exact ⟨ret_int HC.out.symm, rfl⟩
  by_cases h1 : 8 < zs.length
  · have HC : Hid (chkL zs = 3) := Lib.hid (by unfold chkL; rw [if_neg h0, if_pos h1])
    have h0x : ¬ (zs.length : Int) = 0 := by omega
    have h1x : (8 : Int) < zs.length := by omega
    go_enter Try.func25, Try.ntmps25
    go_wp2_with fail
    go_ret
    exact ⟨ret_int HC.out.symm, rfl⟩
  have HB := Lib.hid (fun i hi hb => chkL_bad (zs := zs) h0 (by omega) (i := i) hi hb)
  have HK := Lib.hid (fun h => chkL_ok (zs := zs) h0 (by omega) h)
  have h0x : ¬ (zs.length : Int) = 0 := by omega
  have h1x : ¬ (8 : Int) < zs.length := by omega
  go_enter Try.func25, Try.ntmps25
  go_wp2_with fail
  go_loopw [13] (fun iv wr => ∃ i : Nat, i ≤ zs.length ∧ iv = .int .i64 i ∧ Hid (∀ j, j < i → badL (nth zs j) = false) ∧ w = wr) (fun iv _ => zs.length - (intOf iv).toNat)
  case atStart => exact ⟨0, Nat.zero_le _, rfl, Lib.hid (fun j hj => absurd hj (by omega)), rfl⟩
  case round =>
    obtain ⟨i, hi, rfl, HJ, rfl⟩ := hrel
    by_cases hil : i < zs.length
    · have hix : (i : Int) < zs.length := by omega
      obtain ⟨b, o, rfl, hb, c⟩ := HA.out i hil
      by_cases hq : badL (nth zs i) = true
      · have HE := Lib.hid (HB.out i hil hq)
        unfold badL at hq
        generalize nth zs i = x at *
        by_cases q1 : x < 1
        · go_wp2_with fail
          go_ret
          exact ⟨ret_int HE.out.symm, rfl⟩
        · have q2 : 100 < x := by simpa [q1] using hq
          go_wp2_with fail
          go_ret
          exact ⟨ret_int HE.out.symm, rfl⟩
      · have hq' : badL (nth zs i) = false := by simpa using hq
        have HJ2 : Hid (∀ j, j < i + 1 → badL (nth zs j) = false) := Lib.hid (fun j hj => by
          rcases Nat.lt_or_ge j i with q | q
          · exact HJ.out j q
          · obtain rfl : j = i := by omega
            exact hq')
        unfold badL at hq'
        have q1 : ¬ nth zs i < 1 := by simp at hq'; omega
        have q2 : ¬ 100 < nth zs i := by simp at hq'; omega
        clear hq hq'
        generalize nth zs i = x at c q1 q2
        go_wp2_with fail
        go_roundw
        case rel => exact ⟨i + 1, by omega, by go_num, HJ2, trivial⟩
        case measure => simp [intOf]; omega
    · obtain rfl : i = zs.length := by omega
      have HE := Lib.hid (HK.out HJ.out)
      go_wp2_with fail
      go_ret
      exact ⟨ret_int HE.out.symm, rfl⟩
end
section
set_option maxRecDepth 100000 in
theorem partWith_any (a b k s : Int) (hs : -1000 ≤ s ∧ s ≤ 1000) (w : World) : Calls Try.prog 99 #[spV a b, .int .i64 k, .int .i64 s] w fun e w' => e = .returned (if k ≤ s then spV a s else spV (s + 1) b) ∧ Fut w w' := by
  obtain ⟨W0, hW0⟩ : ∃ W0, W0 = (w.alloc (.cells #[.int .i64 a, .int .i64 b] 69)).alloc (.cells #[.int .i64 0, .int .i64 0] 69) := ⟨_, rfl⟩
  have g0 : W0.heap[w.heap.size]? = some (.cells #[.int .i64 a, .int .i64 b] 69) := by
    rw [hW0]
    exact heap_fut (World.alloc_heap_new w _) (Fut.alloc _ _)
  have g1 : W0.heap[w.heap.size + 1]? = some (.cells #[.int .i64 0, .int .i64 0] 69) := by
    rw [hW0]
    have := World.alloc_heap_new (w.alloc (.cells #[.int .i64 a, .int .i64 b] 69)) (.cells #[.int .i64 0, .int .i64 0] 69)
    rw [World.size_alloc] at this
    exact this
  have HP := Lib.hid (parts_any a b s hs W0)
  have HB0 := Lib.hid g0
  have HB1 := Lib.hid g1
  have HFU : Hid (Fut w W0) := Lib.hid (by rw [hW0]; exact (Fut.alloc _ _).trans (Fut.alloc _ _))
  have HW := Lib.hid hW0
  clear g0 g1 hW0
  go_enter Try.func99, Try.ntmps99
  go_upto_region 1 with fail
  rw [← HW.out]
  clear HW
  have hc0 := two_cell HB0.out
  obtain ⟨c0, c1, _⟩ := hc0
  go_wp2_with fail
  refine HP.out.mono ?_
  rintro _ w2 ⟨rfl, F2⟩
  go_upto_region 2 with fail
  have FA : Fut w2 ((w2.alloc (Obj.cells #[.int .i64 a, .int .i64 s] 69)).alloc (Obj.cells #[.int .i64 (s + 1), .int .i64 b] 69)) := (Fut.alloc _ _).trans (Fut.alloc _ _)
  have g2 : ((w2.alloc (Obj.cells #[.int .i64 a, .int .i64 s] 69)).alloc (Obj.cells #[.int .i64 (s + 1), .int .i64 b] 69)).heap[w2.heap.size]? = some (.cells #[.int .i64 a, .int .i64 s] 69) := heap_fut (World.alloc_heap_new w2 _) (Fut.alloc _ _)
  have g3 : ((w2.alloc (Obj.cells #[.int .i64 a, .int .i64 s] 69)).alloc (Obj.cells #[.int .i64 (s + 1), .int .i64 b] 69)).heap[w2.heap.size + 1]? = some (.cells #[.int .i64 (s + 1), .int .i64 b] 69) := by
    have := World.alloc_heap_new (w2.alloc (Obj.cells #[.int .i64 a, .int .i64 s] 69)) (Obj.cells #[.int .i64 (s + 1), .int .i64 b] 69)
    rw [World.size_alloc] at this
    exact this
  have g1 := heap_fut (heap_fut HB1.out F2) FA
  have HF3 := Lib.hid ((HFU.out.trans F2).trans FA)
  generalize (w2.alloc (Obj.cells #[.int .i64 a, .int .i64 s] 69)).alloc (Obj.cells #[.int .i64 (s + 1), .int .i64 b] 69) = w3 at *
  clear HP HB0 HB1 HFU c0 c1 F2 FA
  have hz : w.heap.size ≤ w.heap.size + 1 := by omega
  by_cases hk : k ≤ s
  · have e1 := set2_both (.int .i64 a) (.int .i64 s) g1
    obtain ⟨⟨y1, y2⟩, ⟨y3, y4⟩, y5⟩ := e1
    obtain ⟨l0, l1, _⟩ := two_cell g2
    have HR := Lib.hid y5
    have HFC : Hid (Fut w ((w3.setCell ⟨w.heap.size + 1, 0, none⟩ (.int .i64 a)).setCell ⟨w.heap.size + 1, 1, none⟩ (.int .i64 s))) := Lib.hid (RowKit.Below.setCell (p := ⟨w.heap.size + 1, 1, none⟩) (RowKit.Below.setCell (p := ⟨w.heap.size + 1, 0, none⟩) HF3.out hz _) hz _)
    clear g1 g2 g3 y5
    go_wp2_with fail
    refine bodyPost_ret (res_one69 rfl rfl HR.out) rfl ?_
    exact ⟨rfl, HFC.out⟩
  · have e1 := set2_both (.int .i64 (s + 1)) (.int .i64 b) g1
    obtain ⟨⟨y1, y2⟩, ⟨y3, y4⟩, y5⟩ := e1
    obtain ⟨l0, l1, _⟩ := two_cell g3
    have HR := Lib.hid y5
    have HFC : Hid (Fut w ((w3.setCell ⟨w.heap.size + 1, 0, none⟩ (.int .i64 (s + 1))).setCell ⟨w.heap.size + 1, 1, none⟩ (.int .i64 b))) := Lib.hid (RowKit.Below.setCell (p := ⟨w.heap.size + 1, 1, none⟩) (RowKit.Below.setCell (p := ⟨w.heap.size + 1, 0, none⟩) HF3.out hz _) hz _)
    clear g1 g2 g3 y5
    go_wp2_with fail
    refine bodyPost_ret (res_one69 rfl rfl HR.out) rfl ?_
    exact ⟨rfl, HFC.out⟩
end
section
def flatS : List (Nat × Nat) → List Value
  | [] => []
  | p :: l => .int .i64 (p.1 : Nat) :: .int .i64 (p.2 : Nat) :: flatS l
theorem flatS_app : ∀ (l : List (Nat × Nat)) (p : Nat × Nat), flatS (l ++ [p]) = flatS l ++ [.int .i64 (p.1 : Nat), .int .i64 (p.2 : Nat)]
  | [], _ => rfl
  | q :: l, p => by show _ :: _ :: flatS (l ++ [p]) = _; rw [flatS_app l p]; rfl
theorem flatS_get : ∀ (l : List (Nat × Nat)) (j : Nat), j < l.length → (flatS l)[j * 2]? = some (.int .i64 ((l[j]?.getD (0, 0)).1 : Nat)) ∧ (flatS l)[j * 2 + 1]? = some (.int .i64 ((l[j]?.getD (0, 0)).2 : Nat))
  | [], j, h => by simp at h
  | p :: l, 0, _ => ⟨rfl, rfl⟩
  | p :: l, j + 1, h => by
    have := flatS_get l j (by simpa using h)
    rw [show (j + 1) * 2 = j * 2 + 1 + 1 by omega]
    exact this
def OwnS (w : World) (B : Nat) (v : Value) (ss : List (Nat × Nat)) : Prop := w.ownsRow B 69 2 v ss.length (flatS ss)
theorem row_futs {w w' : World} {B size n : Nat} {e : TypeId} {v : Value} {xs : List Value} (h : w.ownsRow B e size v n xs) (F : Fut w w') : w'.ownsRow B e size v n xs := by
  rcases h with ⟨h0, h | ⟨g, cap, cur, rfl, hB, hg, h1⟩⟩
  · exact ⟨h0, .inl h⟩
  · exact ⟨h0, .inr ⟨g, cap, cur, rfl, hB, heap_fut hg F, h1⟩⟩
def spR (m f : Nat) : List (Nat × Nat) := (List.range f).map fun j => (j, j + m)
def spK (n m f : Nat) : List (Nat × Nat) := ((List.range m).flatMap fun i => spR i (n - i)) ++ spR m f
def spansL (n : Nat) : List (Nat × Nat) := spK n n 0
theorem spK_succ (n m f : Nat) : spK n m (f + 1) = spK n m f ++ [(f, f + m)] := by
  unfold spK spR
  rw [List.range_succ, List.map_append, ← List.append_assoc]
  rfl
theorem spK_row (n m : Nat) : spK n (m + 1) 0 = spK n m (n - m) := by
  unfold spK
  rw [List.range_succ, List.flatMap_append]
  simp [spR]
theorem spK_len (n : Nat) (hn : n ≤ 8) : ∀ m f, (spK n m f).length ≤ 8 * m + f
  | 0, f => by unfold spK spR; simp
  | m + 1, 0 => by
    rw [spK_row]
    have := spK_len n hn m (n - m)
    omega
  | m + 1, f + 1 => by
    rw [spK_succ, List.length_append]
    have := spK_len n hn (m + 1) f
    simp
    omega
theorem info69 : (Try.prog.info? 69).map (fun i => (i.zero, i.size, i.bytes)) = some (some (.agg #[.int .i64 0, .int .i64 0]), 2, 16) := by kernel_rfl
theorem cells_two {w : World} {b : Nat} {x y : Value} (h : w.cell? ⟨b, 0, none⟩ = some x) (h' : w.cell? ⟨b, 1, none⟩ = some y) : ∀ j u, [x, y][j]? = some u → w.cell? ((⟨b, 0, none⟩ : Addr).add j) = some u := fun j u hj => by
  match j, hj with
  | 0, hj => simp at hj; subst hj; exact h
  | 1, hj => simp at hj; subst hj; exact h'
set_option maxRecDepth 100000 in
theorem spansOf_any (n : Nat) (hn : n ≤ 8) (w : World) : Calls Try.prog 91 #[.int .i64 (n : Nat)] w fun e w' => ∃ v, e = .returned v ∧ OwnS w' w.heap.size v (spansL n) ∧ Fut w w' := by
  obtain ⟨i0, hi0, hz0, hz1, hz2⟩ := info_parts info69
  have HL := Lib.hid (spK_len n hn)
  have hnx : (n : Int) ≤ 8 := by omega
  go_enter Try.func91, Try.ntmps91
  go_wp2_with fail
  go_loopw [3, 7] (fun lv kv wr => ∃ (m : Nat) (oa : Option Addr) (k oc : Nat), m ≤ n ∧ kv = .int .i64 ((m : Nat) : Int) ∧ lv = .slice oa k oc ∧ Hid (k = (spK n m 0).length ∧ OwnS wr w.heap.size (.slice oa k oc) (spK n m 0)) ∧ Hid (Fut w wr)) (fun _ kv _ => n - (intOf kv).toNat)
  case atStart => exact ⟨0, none, 0, 0, by omega, rfl, rfl, Lib.hid ⟨by unfold spK spR; simp, World.ownsRow_nil _ _ _ _⟩, Lib.hid Fut.rfl⟩
  case round =>
    obtain ⟨m, oa, k, oc, hm, rfl, rfl, HO, HF⟩ := hrel
    by_cases hmn : m < n
    · have hmx : ((m : Nat) : Int) < n := by omega
      have hw1 : IntKind.i64.wrap (((n : Nat) : Int) - ((m : Nat) : Int)) = ((n - m : Nat) : Int) := by rw [IntWalk.i64_in _ ⟨by omega, by omega⟩]; omega
      have hw2 : IntKind.i64.wrap (((m : Nat) : Int) + 1) = ((m + 1 : Nat) : Int) := by rw [IntWalk.i64_in _ ⟨by omega, by omega⟩]; omega
      go_wp2_with fail
      go_loopw [3, 13] (fun lv kv wr => ∃ (f : Nat) (oa : Option Addr) (k oc : Nat), f ≤ n - m ∧ kv = .int .i64 ((f : Nat) : Int) ∧ lv = .slice oa k oc ∧ Hid (k = (spK n m f).length ∧ OwnS wr w.heap.size (.slice oa k oc) (spK n m f)) ∧ Hid (Fut w wr)) (fun _ kv _ => (n - m) - (intOf kv).toNat)
      case atStart => exact ⟨0, oa, k, oc, by omega, rfl, rfl, HO, HF⟩
      case round =>
        obtain ⟨f, oa, k, oc, hf, rfl, rfl, HO, HF⟩ := hrel
        by_cases hfn : f < n - m
        · have hfx : ((f : Nat) : Int) < ((n - m : Nat) : Int) := by omega
          have hw3 : IntKind.i64.wrap (((f : Nat) : Int) + ((m : Nat) : Int)) = ((f + m : Nat) : Int) := by rw [IntWalk.i64_in _ ⟨by omega, by omega⟩]; omega
          have hw4 : IntKind.i64.wrap (((f : Nat) : Int) + 1) = ((f + 1 : Nat) : Int) := by rw [IntWalk.i64_in _ ⟨by omega, by omega⟩]; omega
          have hkb : k ≤ 200 := by have := HL.out m f; have := HO.out.1; omega
          generalize hq : ((f + m : Nat) : Int) = q at *
          have HQ := Lib.hid hq
          obtain ⟨wa, hwa⟩ : ∃ wa, wa = wr.alloc (.cells #[.int .i64 (f : Nat), .int .i64 q] 69) := ⟨_, rfl⟩
          have FA : Fut wr wa := by rw [hwa]; exact Fut.alloc _ _
          have hnew : wa.heap[wr.heap.size]? = some (.cells #[.int .i64 (f : Nat), .int .i64 q] 69) := by rw [hwa]; exact World.alloc_heap_new wr _
          have HC := Lib.hid (two_cell hnew)
          have HOW : Hid (wa.ownsRow w.heap.size 69 2 (.slice oa k oc) k (flatS (spK n m f))) := Lib.hid (by
            have h := HO.out.2
            unfold OwnS at h
            rw [← HO.out.1] at h
            exact row_futs h FA)
          have HFA := Lib.hid (HF.out.trans FA)
          have HZA : Hid (w.heap.size ≤ wa.heap.size) := Lib.hid (RowKit.Below.size HFA.out)
          have HKL := Lib.hid HO.out.1
          have HWA := Lib.hid hwa
          clear hq FA hnew HO hwa
          go_wp2_with (at_builtin; rw [← HWA.out]; refine wpList_append_lies _ rfl _ _ 103 rfl w.heap.size 69 i0 (.agg #[.int .i64 0, .int .i64 0]) 2 16 Try.underlying103 hi0 hz0 hz1 hz2 rfl (by decide) (.slice oa k oc) k (flatS (spK n m f)) rfl HOW.out ⟨wr.heap.size, 0, none⟩ 1 1 [.int .i64 (f : Nat), .int .i64 q] rfl rfl (cells_two HC.out.1 HC.out.2.1) (by simp [Value.oneCell']) (by omega) (by unfold maxLen; omega) (by omega) HZA.out _ rfl ?_)
          intro g8 c8 w8 hown8 hgrow8 hat8 _
          have HX8 : Hid (k + 1 = (spK n m (f + 1)).length ∧ OwnS w8 w.heap.size (.slice (some ⟨g8, 0, none⟩) (k + 1) c8) (spK n m (f + 1))) := Lib.hid (by
            have hl : (spK n m (f + 1)).length = k + 1 := by rw [spK_succ, List.length_append, ← HKL.out]; rfl
            refine ⟨hl.symm, ?_⟩
            unfold OwnS
            rw [hl, spK_succ, flatS_app]
            show w8.ownsRow w.heap.size 69 2 _ _ (_ ++ [_, .int .i64 ((f + m : Nat) : Int)])
            rw [HQ.out]; exact hown8)
          have HF8 : Hid (Fut w w8) := Lib.hid (fut_own HFA.out hgrow8 (fun q hq => (World.ownsRow.lt HOW.out q hq).1))
          clear hown8 hgrow8 hat8 HOW HFA HZA HC HWA
          go_wp2_with fail
          go_roundw
          case rel => first
            | exact ⟨f + 1, _, _, c8, by omega, rfl, rfl, HX8, HF8⟩
            | ((repeat apply Exists.intro); exact ⟨⟨f + 1, _, _, c8, by omega, rfl, rfl, HX8, HF8⟩, rfl⟩)
          case measure => simp [intOf]; omega
        · obtain rfl : f = n - m := by omega
          have HR : Hid (k = (spK n (m + 1) 0).length ∧ OwnS wr w.heap.size (.slice oa k oc) (spK n (m + 1) 0)) := Lib.hid (by rw [spK_row]; exact HO.out)
          go_wp2_with fail
          go_roundw
          case rel => first
            | exact ⟨m + 1, _, _, oc, by omega, rfl, rfl, HR, HF⟩
            | ((repeat apply Exists.intro); exact ⟨⟨m + 1, _, _, oc, by omega, rfl, rfl, HR, HF⟩, rfl⟩)
          case measure => simp [intOf]; omega
    · obtain rfl : m = n := by omega
      go_wp2_with fail
      go_ret
      exact ⟨_, rfl, by have h := HO.out.2; exact h, HF.out⟩
end
section
theorem slice_mid (g o n cap i j : Nat) (h : i ≤ j) (h2 : j ≤ cap) (h3 : i < cap) (W : World) : (Instr.sliceAt 22 (.slice (some ⟨g, o, none⟩) n cap) (some (.int .i64 i)) (some (.int .i64 j)) none).run Try.prog W = .ok (.slice (some ⟨g, o + i, none⟩) (j - i) (cap - i)) W := by
  have hu : Try.prog.underlying 22 = some (.slice (Try.prog.elem 22)) := by kernel_rfl
  have hs : (sizeOf (Try.prog.elem 22)).run Try.prog W = .ok 1 W := by kernel_rfl
  rw [run_sliceAt_slice _ _ _ _ _ _ hu, run_slice_lh _ _ _ _ _ hu _ _ _ _ (by omega) (by omega) (by omega), hs]
  have hne : cap ≠ i := by omega
  simp [sliced, Result.andThen, Addr.add]
  rw [if_neg hne]
  split
  · subst i; rfl
  · rfl
theorem ints_mid {w : World} {g o : Nat} {zs : List Int} (h : IntsAt w (some ⟨g, o, none⟩) zs) (i j : Nat) (hj : j ≤ zs.length) : IntsAt w (some ⟨g, o + i, none⟩) ((zs.take j).drop i) := fun k hk => by
  rw [List.length_drop, List.length_take] at hk
  obtain ⟨b', o', e, h1, h2⟩ := h (i + k) (by omega)
  simp only [Option.some.injEq, Addr.mk.injEq, and_true] at e
  obtain ⟨rfl, rfl⟩ := e
  have e2 : nth ((zs.take j).drop i) k = nth zs (i + k) := by rw [nth_eq, List.getElem?_drop, List.getElem?_take, if_pos (by omega), nth_eq]
  rw [e2]
  refine ⟨g, o + i, rfl, h1, ?_⟩
  rw [Nat.add_assoc]
  exact h2
/-- a table of 8 by 8 numbers. -/
def Tab (w : World) (g o : Nat) (f : Nat → Nat → Int) : Prop := ∀ a b, a < 8 → b < 8 → w.cell? ⟨g, o + a * 8 + b, none⟩ = some (.int .i64 (f a b)) ∧ w.frozen? ⟨g, o + a * 8 + b, none⟩ = false
theorem Tab.fut {w w' : World} {g o : Nat} {f : Nat → Nat → Int} (h : Tab w g o f) (F : Fut w w') : Tab w' g o f := fun a b ha hb => by
  obtain ⟨h1, h2⟩ := h a b ha hb
  have hl : g < w.heap.size := World.block_lt_of_cell? _ _ h1
  exact ⟨(RowKit.Below.cell F (p := ⟨g, o + a * 8 + b, none⟩) hl).trans h1, (RowKit.Below.frozen F (p := ⟨g, o + a * 8 + b, none⟩) hl).trans h2⟩
/-- the questions and the tops of a span, after some of its sieves. -/
def bst (G : Nat → Int) (a : Nat) : Nat → Int × List Int
  | 0 => (0, [])
  | i + 1 => if (bst G a i).2 = [] ∨ G (a + i) < (bst G a i).1 then (G (a + i), [((a + i : Nat) : Int)]) else if G (a + i) = (bst G a i).1 then ((bst G a i).1, (bst G a i).2 ++ [((a + i : Nat) : Int)]) else bst G a i
theorem bst_len (G : Nat → Int) (a : Nat) : ∀ i, (bst G a i).2.length ≤ i
  | 0 => Nat.le_refl _
  | i + 1 => by
    have := bst_len G a i
    rw [bst]
    split
    · simp
    · split
      · simp; omega
      · omega
theorem bst_new {G : Nat → Int} {a i : Nat} (h : (bst G a i).2 = [] ∨ G (a + i) < (bst G a i).1) : bst G a (i + 1) = (G (a + i), [((a + i : Nat) : Int)]) := by rw [bst, if_pos h]
theorem bst_eq {G : Nat → Int} {a i : Nat} (h : ¬ ((bst G a i).2 = [] ∨ G (a + i) < (bst G a i).1)) (h2 : G (a + i) = (bst G a i).1) : bst G a (i + 1) = ((bst G a i).1, (bst G a i).2 ++ [((a + i : Nat) : Int)]) := by rw [bst, if_neg h, if_pos h2]
theorem bst_gt {G : Nat → Int} {a i : Nat} (h : ¬ ((bst G a i).2 = [] ∨ G (a + i) < (bst G a i).1)) (h2 : G (a + i) ≠ (bst G a i).1) : bst G a (i + 1) = bst G a i := by rw [bst, if_neg h, if_neg h2]
theorem svP_nth (a n i : Nat) (h : i < n) : nth (svP a n) i = ((a + i : Nat) : Int) := by
  unfold svP
  rw [nth_eq, List.getElem?_map, List.getElem?_range h]
  rfl
theorem sum_le {zs : List Int} (h : ∀ z ∈ zs, 0 ≤ z ∧ z ≤ 1000000) (hl : zs.length ≤ 1000) : 0 ≤ zs.sum ∧ zs.sum ≤ 1000000000 := by
  have := sum_bnd h zs.length
  rw [List.take_length] at this
  omega
end
section
def qG (S : Int) (f : Nat → Nat → Int) (a b : Nat) (k : Nat) : Int := S + f a k + f (k + 1) b
set_option maxRecDepth 100000 in
set_option maxHeartbeats 4000000 in
theorem bestTops_any (a b : Nat) (hab : a ≤ b) (hb : b < 8) (lb lo cap : Nat) (zs : List Int) (hbz : b < zs.length) (hlc : zs.length ≤ cap) (_hl : zs.length ≤ 1000) (hz : ∀ z ∈ zs, 0 ≤ z ∧ z ≤ 1000000) (g : Nat) (f : Nat → Nat → Int) (hf : ∀ i j, 0 ≤ f i j ∧ f i j ≤ 1000000000000000) (w : World) (hA : IntsAt w (some ⟨lb, lo, none⟩) zs) (hT : Tab w g 0 f) :
    Calls Try.prog 92 #[.slice (some ⟨lb, lo, none⟩) zs.length cap, spV (a : Nat) (b : Nat), .pointer (some ⟨g, 0, none⟩)] w fun e w' => ∃ v, e = .returned (.tuple #[.int .i64 (bst (qG ((zs.take (b + 1)).drop a).sum f a b) a (b - a)).1, v]) ∧ Owns w' w.heap.size v (bst (qG ((zs.take (b + 1)).drop a).sum f a b) a (b - a)).2 ∧ Fut w w' := by
  obtain ⟨i0, hi0, hz0, hz1, hz2⟩ := info_parts info3
  obtain ⟨b1, hb1⟩ : ∃ b1, b1 = b + 1 := ⟨_, rfl⟩
  rw [← hb1]
  obtain ⟨S, hS⟩ : ∃ S, S = ((zs.take b1).drop a).sum := ⟨_, rfl⟩
  have hzz : ∀ z ∈ (zs.take b1).drop a, 0 ≤ z ∧ z ≤ 1000000 := fun z hm => hz z (List.mem_of_mem_take (List.mem_of_mem_drop hm))
  have hlen : ((zs.take b1).drop a).length = b1 - a := by rw [List.length_drop, List.length_take, Nat.min_eq_left (by omega)]
  have hSb := sum_le hzz (by omega)
  rw [← hS] at hSb ⊢
  have HSU : Hid (∀ W, Fut w W → Calls Try.prog 116 #[.slice (some ⟨lb, lo + a, none⟩) (b1 - a) (cap - a)] W fun e w' => e = .returned (.int .i64 S) ∧ W = w') := Lib.hid (fun W F => by
    have := sum_any (some ⟨lb, lo + a, none⟩) (cap - a) ((zs.take b1).drop a) W ((ints_mid hA a b1 (by omega)).fut F) (by omega) hzz
    rw [hlen, ← hS] at this
    exact this)
  have HSL : Hid (∀ W, (Instr.sliceAt 22 (.slice (some ⟨lb, lo, none⟩) zs.length cap) (some (.int .i64 a)) (some (.int .i64 b1)) none).run Try.prog W = .ok (.slice (some ⟨lb, lo + a, none⟩) (b1 - a) (cap - a)) W) := Lib.hid (fun W => slice_mid lb lo zs.length cap a b1 (by omega) (by omega) (by omega) W)
  have HTB : Hid (∀ W, Fut w W → Tab W g 0 f) := Lib.hid (fun W F => hT.fut F)
  have hw1 : IntKind.i64.wrap ((b : Int) + 1) = (b1 : Int) := by rw [IntWalk.i64_in _ ⟨by omega, by omega⟩, hb1]; omega
  have HB1 := Lib.hid hb1
  clear hA hT hz hzz hlen hS
  generalize lo + a = lo2 at *
  generalize b1 - a = nl at *
  generalize cap - a = nc at *
  obtain ⟨W0, hW0⟩ : ∃ W0, W0 = w.alloc (.cells #[.int .i64 (a : Nat), .int .i64 (b : Nat)] 69) := ⟨_, rfl⟩
  have HBX : Hid (W0.heap[w.heap.size]? = some (.cells #[.int .i64 (a : Nat), .int .i64 (b : Nat)] 69)) := Lib.hid (by rw [hW0]; exact World.alloc_heap_new w _)
  have HF0 : Hid (Fut w W0) := Lib.hid (by rw [hW0]; exact Fut.alloc _ _)
  have HSV := Lib.hid (sieves_any a b hab (by omega) W0)
  have HW := Lib.hid hW0
  clear hW0 hb1
  obtain ⟨G, hG⟩ : ∃ G, G = qG S f a b := ⟨_, rfl⟩
  rw [← hG]
  have HG := Lib.hid hG
  clear hG
  go_enter Try.func92, Try.ntmps92
  go_upto_region 1 with fail
  rw [← HW.out]
  clear HW
  have hc0 := two_cell HBX.out
  obtain ⟨c0, c1, _⟩ := hc0
  go_wp2_with fail
  refine HSV.out.mono ?_
  rintro _ w1 ⟨v1, rfl, HO1, HF1⟩
  obtain ⟨sa, sc, rfl, hI1⟩ := HO1.ints
  have HI1 := Lib.hid hI1
  have HFw := Lib.hid (HF0.out.trans HF1)
  have HBX1 := Lib.hid (heap_fut HBX.out HF1)
  rw [svP_len] at *
  have HZ1 : Hid (w.heap.size ≤ w1.heap.size) := Lib.hid (RowKit.Below.size HFw.out)
  have hnab : a + (b - a) = b := by omega
  obtain ⟨n, hn⟩ : ∃ n, b - a = n := ⟨_, rfl⟩
  rw [hn] at HI1 hnab
  have HN := Lib.hid hn
  have hnx : (n : Int) ≤ 8 := by omega
  rw [hn]
  clear hn HSV HBX HF0 c0 c1 hI1 HO1 HF1
  go_wp2_with fail
  go_loopw [6, 7, 16] (fun qv tv iv wr => ∃ (i : Nat) (oa : Option Addr) (k oc : Nat) (q : Int), i ≤ n ∧ iv = .int .i64 (i : Nat) ∧ tv = .slice oa k oc ∧ qv = .int .i64 q ∧ Hid (q = (bst G a i).1 ∧ k = (bst G a i).2.length ∧ Owns wr w1.heap.size (.slice oa k oc) (bst G a i).2) ∧ Hid (Fut w1 wr)) (fun _ _ iv _ => n - (intOf iv).toNat)
  case atStart => exact ⟨0, none, 0, 0, 0, by omega, rfl, rfl, rfl, Lib.hid ⟨rfl, rfl, World.ownsRow_nil _ _ _ _⟩, Lib.hid Fut.rfl⟩
  case round =>
    obtain ⟨i, oa, k, oc, q, hi, rfl, rfl, rfl, HO, HF⟩ := hrel
    by_cases hin : i < n
    · have hix : (i : Int) < n := by omega
      obtain ⟨K, hK⟩ : ∃ K, K = a + i := ⟨_, rfl⟩
      obtain ⟨K1, hK1⟩ : ∃ K1, K1 = K + 1 := ⟨_, rfl⟩
      have hKb : K < b := by omega
      have hI := HI1.out.fut HF.out i (by rw [svP_len]; omega)
      rw [svP_nth a n i hin, ← hK] at hI
      obtain ⟨b2, o2, rfl, hb2, cs⟩ := hI
      have HPT : Hid (∀ W, Calls Try.prog 95 #[spV (a : Nat) (b : Nat), .int .i64 (K : Nat)] W fun e w' => e = .returned (.tuple #[spV (a : Nat) (K : Nat), spV (K1 : Nat) (b : Nat)]) ∧ Fut W w') := Lib.hid (fun W => by
        have := parts_any (a : Nat) (b : Nat) (K : Nat) ⟨by omega, by omega⟩ W
        rw [hK1]
        exact this)
      have HO1 : Hid (∀ W, Fut w W → Calls Try.prog 67 #[.pointer (some ⟨g, 0, none⟩), spV (a : Nat) (K : Nat)] W fun e w' => e = .returned (.int .i64 (f a K)) ∧ Fut W w') := Lib.hid (fun W F => of_any g 0 a K (by omega) (by omega) _ W (HTB.out W F a K (by omega) (by omega)).1)
      have HO2 : Hid (∀ W, Fut w W → Calls Try.prog 67 #[.pointer (some ⟨g, 0, none⟩), spV (K1 : Nat) (b : Nat)] W fun e w' => e = .returned (.int .i64 (f K1 b)) ∧ Fut W w') := Lib.hid (fun W F => of_any g 0 K1 b (by omega) (by omega) _ W (HTB.out W F K1 b (by omega) (by omega)).1)
      have hf1 := hf a K
      have hf2 := hf K1 b
      have HQ : Hid (G (a + i) = S + f a K + f K1 b) := Lib.hid (by rw [HG.out, ← hK, hK1]; rfl)
      have HK := Lib.hid hK
      generalize f a K = x1 at *
      generalize f K1 b = x2 at *
      have hwa : IntKind.i64.wrap (S + x1) = S + x1 := IntWalk.i64_in _ ⟨by omega, by omega⟩
      have hwb : IntKind.i64.wrap (S + x1 + x2) = S + x1 + x2 := IntWalk.i64_in _ ⟨by omega, by omega⟩
      have HBX2 := Lib.hid (heap_fut HBX1.out HF.out)
      have hc0 := two_cell HBX2.out
      obtain ⟨c0, c1, _⟩ := hc0
      have hwi : IntKind.i64.wrap ((i : Int) + 1) = ((i + 1 : Nat) : Int) := by rw [IntWalk.i64_in _ ⟨by omega, by omega⟩]; omega
      clear hK hK1
      go_wp2_with fail
      refine (HPT.out _).mono ?_
      rintro _ w2 ⟨rfl, F2⟩
      go_upto_region 5 with fail
      have FA : Fut w2 ((w2.alloc (Obj.cells #[.int .i64 (a : Nat), .int .i64 (K : Nat)] 69)).alloc (Obj.cells #[.int .i64 (K1 : Nat), .int .i64 (b : Nat)] 69)) := (Fut.alloc _ _).trans (Fut.alloc _ _)
      have g2 : ((w2.alloc (Obj.cells #[.int .i64 (a : Nat), .int .i64 (K : Nat)] 69)).alloc (Obj.cells #[.int .i64 (K1 : Nat), .int .i64 (b : Nat)] 69)).heap[w2.heap.size]? = some (.cells #[.int .i64 (a : Nat), .int .i64 (K : Nat)] 69) := heap_fut (World.alloc_heap_new w2 _) (Fut.alloc _ _)
      have g3 : ((w2.alloc (Obj.cells #[.int .i64 (a : Nat), .int .i64 (K : Nat)] 69)).alloc (Obj.cells #[.int .i64 (K1 : Nat), .int .i64 (b : Nat)] 69)).heap[w2.heap.size + 1]? = some (.cells #[.int .i64 (K1 : Nat), .int .i64 (b : Nat)] 69) := by
        have := World.alloc_heap_new (w2.alloc (Obj.cells #[.int .i64 (a : Nat), .int .i64 (K : Nat)] 69)) (Obj.cells #[.int .i64 (K1 : Nat), .int .i64 (b : Nat)] 69)
        rw [World.size_alloc] at this
        exact this
      have HBX3 := heap_fut (heap_fut HBX2.out F2) FA
      have HF3 := Lib.hid ((HF.out.trans F2).trans FA)
      have HO3 := Lib.hid (HO.out.2.2.fut (F2.trans FA))
      have HOL := Lib.hid (And.intro HO.out.1 HO.out.2.1)
      generalize (w2.alloc (Obj.cells #[.int .i64 (a : Nat), .int .i64 (K : Nat)] 69)).alloc (Obj.cells #[.int .i64 (K1 : Nat), .int .i64 (b : Nat)] 69) = w3 at *
      obtain ⟨p0, p1, _⟩ := two_cell HBX3
      obtain ⟨p2, p3, _⟩ := two_cell g2
      obtain ⟨p4, p5, _⟩ := two_cell g3
      clear HF HO HBX2 HBX3 FA F2 g2 g3 c0 c1 cs
      have y0 := cell_after p0
      have y1 := cell_after p1
      have y2 := cell_after p2
      have y3 := cell_after p3
      have y4 := cell_after p4
      have y5 := cell_after p5
      have HS2 := Lib.hid (fun p : After w3 => HSU.out p.w' ((HFw.out.trans HF3.out).trans p.F))
      have HA2 := Lib.hid (fun p : After w3 => HO1.out p.w' ((HFw.out.trans HF3.out).trans p.F))
      have HB2 := Lib.hid (fun p : After w3 => HO2.out p.w' ((HFw.out.trans HF3.out).trans p.F))
      have hsl := HSL.out
      refine region_fut (by kernel_rfl) (by kernel_rfl) ?_
      repeat (go_big_quiet_step (first | with_reducible rfl | (with_reducible (go_at_call 116; rename_i p; exact after_same (HS2.out p))) | (with_reducible (go_at_call 67; rename_i p; exact after_of (HA2.out p))) | (with_reducible (go_at_call 67; rename_i p; exact after_of (HB2.out p)))))
      refine wpQuiet_nil ?_
      intro w4 hw'
      have F4 := after_fut hw'
      have HF4 := Lib.hid (HF3.out.trans F4)
      have HO4 := Lib.hid (HO3.out.fut F4)
      clear hw' F4 HF3 HO3 y0 y1 y2 y3 y4 y5 p0 p1 p2 p3 p4 p5 HS2 HA2 HB2 hsl HO1 HO2 HPT
      clear hwa hwb hf1 hf2
      generalize S + x1 + x2 = nq at *
      by_cases hk0 : k = 0
      · have HOR : Hid ((bst G a i).2 = [] ∨ G (a + i) < (bst G a i).1) := Lib.hid (.inl (List.length_eq_zero_iff.1 (HOL.out.2.symm.trans hk0)))
        have hk0x : (k : Int) = 0 := by omega
        clear hk0
        have FA : Fut w4 (w4.alloc (.cells #[.int .i64 (K : Nat)] 3)) := Fut.alloc _ _
        have HOW : Hid ((w4.alloc (.cells #[.int .i64 (K : Nat)] 3)).ownsRow w1.heap.size 3 1 (.slice none 0 0) 0 []) := Lib.hid (by exact World.ownsRow_nil _ _ _ _)
        have HFA := Lib.hid (HF4.out.trans FA)
        have HZA : Hid (w1.heap.size ≤ (w4.alloc (.cells #[.int .i64 (K : Nat)] 3)).heap.size) := Lib.hid (RowKit.Below.size HFA.out)
        clear FA
        go_wp2_with (at_builtin; refine wpList_append_lies _ rfl _ _ 22 rfl w1.heap.size 3 i0 (.int .i64 0) 1 8 Try.underlying22 hi0 hz0 hz1 hz2 rfl (by decide) (.slice none 0 0) 0 [] rfl HOW.out ⟨w4.heap.size, 0, none⟩ 1 1 [.int .i64 (K : Nat)] rfl rfl (cell_one (by simp [go_sem])) (by simp [Value.oneCell']) (by omega) (by unfold maxLen; omega) (by omega) HZA.out _ rfl ?_)
        intro g8 c8 w8 hown8 hgrow8 hat8 _
        have HX8 : Hid (nq = (bst G a (i + 1)).1 ∧ 0 + 1 = (bst G a (i + 1)).2.length ∧ Owns w8 w1.heap.size (.slice (some ⟨g8, 0, none⟩) (0 + 1) c8) (bst G a (i + 1)).2) := Lib.hid (by
          rw [bst_new HOR.out, HQ.out]
          refine ⟨rfl, rfl, ?_⟩
          rw [← HK.out]
          exact hown8)
        have HF8 : Hid (Fut w1 w8) := Lib.hid (fut_own HFA.out hgrow8 (fun q hq => (World.ownsRow.lt HOW.out q hq).1))
        clear hown8 hgrow8 hat8 HOW HFA HZA
        go_wp2_with fail
        go_roundw
        case rel => first
          | exact ⟨i + 1, _, _, c8, _, by omega, rfl, rfl, rfl, HX8, HF8⟩
          | ((repeat apply Exists.intro); exact ⟨⟨i + 1, _, _, c8, _, by omega, rfl, rfl, rfl, HX8, HF8⟩, rfl⟩)
        case measure => simp [intOf]; omega
      have hk0x : ¬ (k : Int) = 0 := by omega
      by_cases hlt : nq < q
      · have HOR : Hid ((bst G a i).2 = [] ∨ G (a + i) < (bst G a i).1) := Lib.hid (.inr (by rw [HQ.out, ← HOL.out.1]; exact hlt))
        have FA : Fut w4 (w4.alloc (.cells #[.int .i64 (K : Nat)] 3)) := Fut.alloc _ _
        have HOW : Hid ((w4.alloc (.cells #[.int .i64 (K : Nat)] 3)).ownsRow w1.heap.size 3 1 (.slice none 0 0) 0 []) := Lib.hid (by exact World.ownsRow_nil _ _ _ _)
        have HFA := Lib.hid (HF4.out.trans FA)
        have HZA : Hid (w1.heap.size ≤ (w4.alloc (.cells #[.int .i64 (K : Nat)] 3)).heap.size) := Lib.hid (RowKit.Below.size HFA.out)
        clear FA
        go_wp2_with (at_builtin; refine wpList_append_lies _ rfl _ _ 22 rfl w1.heap.size 3 i0 (.int .i64 0) 1 8 Try.underlying22 hi0 hz0 hz1 hz2 rfl (by decide) (.slice none 0 0) 0 [] rfl HOW.out ⟨w4.heap.size, 0, none⟩ 1 1 [.int .i64 (K : Nat)] rfl rfl (cell_one (by simp [go_sem])) (by simp [Value.oneCell']) (by omega) (by unfold maxLen; omega) (by omega) HZA.out _ rfl ?_)
        intro g8 c8 w8 hown8 hgrow8 hat8 _
        have HX8 : Hid (nq = (bst G a (i + 1)).1 ∧ 0 + 1 = (bst G a (i + 1)).2.length ∧ Owns w8 w1.heap.size (.slice (some ⟨g8, 0, none⟩) (0 + 1) c8) (bst G a (i + 1)).2) := Lib.hid (by
          rw [bst_new HOR.out, HQ.out]
          refine ⟨rfl, rfl, ?_⟩
          rw [← HK.out]
          exact hown8)
        have HF8 : Hid (Fut w1 w8) := Lib.hid (fut_own HFA.out hgrow8 (fun q hq => (World.ownsRow.lt HOW.out q hq).1))
        clear hown8 hgrow8 hat8 HOW HFA HZA
        go_wp2_with fail
        go_roundw
        case rel => first
          | exact ⟨i + 1, _, _, c8, _, by omega, rfl, rfl, rfl, HX8, HF8⟩
          | ((repeat apply Exists.intro); exact ⟨⟨i + 1, _, _, c8, _, by omega, rfl, rfl, rfl, HX8, HF8⟩, rfl⟩)
        case measure => simp [intOf]; omega
      have HNO : Hid (¬ ((bst G a i).2 = [] ∨ G (a + i) < (bst G a i).1)) := Lib.hid (by
        rintro (h | h)
        · rw [h] at HOL; exact hk0 HOL.out.2
        · rw [HQ.out, ← HOL.out.1] at h; exact hlt h)
      have hkb : k ≤ 8 := by have := bst_len G a i; have := HOL.out.2; omega
      by_cases hqq : nq = q
      · have HEQ : Hid (G (a + i) = (bst G a i).1) := Lib.hid (by rw [HQ.out, ← HOL.out.1]; exact hqq)
        have FA : Fut w4 (w4.alloc (.cells #[.int .i64 (K : Nat)] 3)) := Fut.alloc _ _
        have HOW : Hid ((w4.alloc (.cells #[.int .i64 (K : Nat)] 3)).ownsRow w1.heap.size 3 1 (.slice oa k oc) k ((bst G a i).2.map (Value.int .i64))) := Lib.hid (by have h := HO4.out.fut FA; unfold Owns at h; rwa [← HOL.out.2] at h)
        have HFA := Lib.hid (HF4.out.trans FA)
        have HZA : Hid (w1.heap.size ≤ (w4.alloc (.cells #[.int .i64 (K : Nat)] 3)).heap.size) := Lib.hid (RowKit.Below.size HFA.out)
        clear FA
        go_wp2_with (at_builtin; refine wpList_append_lies _ rfl _ _ 22 rfl w1.heap.size 3 i0 (.int .i64 0) 1 8 Try.underlying22 hi0 hz0 hz1 hz2 rfl (by decide) (.slice oa k oc) k ((bst G a i).2.map (Value.int .i64)) rfl HOW.out ⟨w4.heap.size, 0, none⟩ 1 1 [.int .i64 (K : Nat)] rfl rfl (cell_one (by simp [go_sem])) (by simp [Value.oneCell']) (by omega) (by unfold maxLen; omega) (by omega) HZA.out _ rfl ?_)
        intro g8 c8 w8 hown8 hgrow8 hat8 _
        have HX8 : Hid (q = (bst G a (i + 1)).1 ∧ k + 1 = (bst G a (i + 1)).2.length ∧ Owns w8 w1.heap.size (.slice (some ⟨g8, 0, none⟩) (k + 1) c8) (bst G a (i + 1)).2) := Lib.hid (by
          rw [bst_eq HNO.out HEQ.out]
          refine ⟨HOL.out.1, by simp [HOL.out.2], ?_⟩
          unfold Owns
          rw [List.length_append, ← HOL.out.2, List.map_append, ← HK.out]
          exact hown8)
        have HF8 : Hid (Fut w1 w8) := Lib.hid (fut_own HFA.out hgrow8 (fun q hq => (World.ownsRow.lt HOW.out q hq).1))
        clear hown8 hgrow8 hat8 HOW HFA HZA
        go_wp2_with fail
        go_roundw
        case rel => first
          | exact ⟨i + 1, _, _, c8, _, by omega, rfl, rfl, rfl, HX8, HF8⟩
          | ((repeat apply Exists.intro); exact ⟨⟨i + 1, _, _, c8, _, by omega, rfl, rfl, rfl, HX8, HF8⟩, rfl⟩)
        case measure => simp [intOf]; omega
      · have HEQ : Hid (G (a + i) ≠ (bst G a i).1) := Lib.hid (by rw [HQ.out, ← HOL.out.1]; exact hqq)
        have HX8 : Hid (q = (bst G a (i + 1)).1 ∧ k = (bst G a (i + 1)).2.length ∧ Owns w4 w1.heap.size (.slice oa k oc) (bst G a (i + 1)).2) := Lib.hid (by rw [bst_gt HNO.out HEQ.out]; exact ⟨HOL.out.1, HOL.out.2, HO4.out⟩)
        go_wp2_with fail
        go_roundw
        case rel => first
          | exact ⟨i + 1, _, _, oc, _, by omega, rfl, rfl, rfl, HX8, HF4⟩
          | ((repeat apply Exists.intro); exact ⟨⟨i + 1, _, _, oc, _, by omega, rfl, rfl, rfl, HX8, HF4⟩, rfl⟩)
        case measure => simp [intOf]; omega
    · obtain rfl : i = n := by omega
      go_wp2_with fail
      go_ret2
      obtain ⟨e1, _, e2⟩ := HO.out
      exact ⟨_, by rw [HN.out, e1]; rfl, by rw [HN.out]; exact e2.base HZ1.out, HFw.out.trans HF.out⟩
end
section
theorem frz_set (w : World) (p q : Addr) (v : Value) : (w.setCell p v).frozen? q = w.frozen? q := by simp [go_sem]
theorem cell_put {w : World} {p : Addr} {u v : Value} (h : w.cell? p = some u) : (w.setCell p v).cell? p = some v := by simp [go_sem, h]
def upd {α : Type} (f : Nat → Nat → α) (a b : Nat) (x : α) (i j : Nat) : α := if i = a ∧ j = b then x else f i j
theorem upd_same {α : Type} (f : Nat → Nat → α) (a b : Nat) (x : α) : upd f a b x a b = x := by unfold upd; rw [if_pos ⟨rfl, rfl⟩]
theorem upd_ne {α : Type} (f : Nat → Nat → α) (a b : Nat) (x : α) (i j : Nat) (h : ¬ (i = a ∧ j = b)) : upd f a b x i j = f i j := by unfold upd; rw [if_neg h]
theorem Tab.set {w : World} {g o : Nat} {f : Nat → Nat → Int} (h : Tab w g o f) (a b : Nat) (ha : a < 8) (hb : b < 8) (x : Int) : Tab (w.setCell ⟨g, o + a * 8 + b, none⟩ (.int .i64 x)) g o (upd f a b x) := fun i j hi hj => by
  obtain ⟨h1, h2⟩ := h i j hi hj
  refine ⟨?_, by rw [frz_set]; exact h2⟩
  by_cases e : i = a ∧ j = b
  · obtain ⟨rfl, rfl⟩ := e
    rw [upd_same]
    exact cell_put h1
  · rw [upd_ne _ _ _ _ _ _ e, World.cell?_setCell_other _ _ _ _ (fun q => e (by have := congrArg Addr.off q; simp at this; omega))]
    exact h1
theorem Tab.far {w : World} {g o g2 p : Nat} {f : Nat → Nat → Int} (h : Tab w g o f) (v : Value) (hp : g2 ≠ g ∨ p < o ∨ o + 64 ≤ p) : Tab (w.setCell ⟨g2, p, none⟩ v) g o f := fun i j hi hj => by
  obtain ⟨h1, h2⟩ := h i j hi hj
  refine ⟨?_, by rw [frz_set]; exact h2⟩
  rw [World.cell?_setCell_other _ _ _ _ (fun q => by have := congrArg Addr.off q; have := congrArg Addr.block q; simp at *; omega)]
  exact h1
/-- a table of 8 by 8 rows of one's own. -/
def TabL (w : World) (g o B : Nat) (F : Nat → Nat → List Int) : Prop := ∀ a b, a < 8 → b < 8 → ∃ la lc, w.cell? ⟨g, o + a * 8 + b, none⟩ = some (.slice la (F a b).length lc) ∧ w.frozen? ⟨g, o + a * 8 + b, none⟩ = false ∧ Owns w B (.slice la (F a b).length lc) (F a b)
theorem TabL.fut {w w' : World} {g o B : Nat} {F : Nat → Nat → List Int} (h : TabL w g o B F) (k : Fut w w') : TabL w' g o B F := fun a b ha hb => by
  obtain ⟨la, lc, h1, h2, h3⟩ := h a b ha hb
  have hl : g < w.heap.size := World.block_lt_of_cell? _ _ h1
  exact ⟨la, lc, (RowKit.Below.cell k (p := ⟨g, o + a * 8 + b, none⟩) hl).trans h1, (RowKit.Below.frozen k (p := ⟨g, o + a * 8 + b, none⟩) hl).trans h2, h3.fut k⟩
theorem TabL.set {w : World} {g o B : Nat} {F : Nat → Nat → List Int} (h : TabL w g o B F) (hB : g < B) (a b : Nat) (ha : a < 8) (hb : b < 8) {la : Option Addr} {lc : Nat} {L : List Int} (hL : Owns w B (.slice la L.length lc) L) : TabL (w.setCell ⟨g, o + a * 8 + b, none⟩ (.slice la L.length lc)) g o B (upd F a b L) := fun i j hi hj => by
  obtain ⟨l1, c1, h1, h2, h3⟩ := h i j hi hj
  by_cases e : i = a ∧ j = b
  · obtain ⟨rfl, rfl⟩ := e
    rw [upd_same]
    exact ⟨la, lc, cell_put h1, by rw [frz_set]; exact h2, hL.kept (set_grown _ _ _ _) (own_ge hL hB)⟩
  · rw [upd_ne _ _ _ _ _ _ e]
    refine ⟨l1, c1, ?_, by rw [frz_set]; exact h2, h3.kept (set_grown _ _ _ _) (own_ge h3 hB)⟩
    rw [World.cell?_setCell_other _ _ _ _ (fun q => e (by have := congrArg Addr.off q; simp at this; omega))]
    exact h1
theorem TabL.far {w : World} {g o g2 p B : Nat} {F : Nat → Nat → List Int} (h : TabL w g o B F) (hB : g2 < B) (v : Value) (hp : g2 ≠ g ∨ p < o ∨ o + 64 ≤ p) : TabL (w.setCell ⟨g2, p, none⟩ v) g o B F := fun i j hi hj => by
  obtain ⟨l1, c1, h1, h2, h3⟩ := h i j hi hj
  refine ⟨l1, c1, ?_, by rw [frz_set]; exact h2, h3.kept (set_grown _ _ _ _) (own_ge h3 hB)⟩
  rw [World.cell?_setCell_other _ _ _ _ (fun q => by have := congrArg Addr.off q; have := congrArg Addr.block q; simp at *; omega)]
  exact h1
/-- the trees of a span through a top. -/
def mulE (mn : Nat → Nat → Int) (a b : Nat) (k : Int) : Int := mn a k.toNat * mn (k.toNat + 1) b
def manyE (mn : Nat → Nat → Int) (a b : Nat) (L : List Int) : Int := (if a = b then 1 else 0) + (L.map (mulE mn a b)).sum
theorem mul_bnd {x y : Int} (hx : 0 ≤ x ∧ x ≤ 1000000) (hy : 0 ≤ y ∧ y ≤ 1000000) : 0 ≤ x * y ∧ x * y ≤ 1000000000000 := by
  refine ⟨Int.mul_nonneg hx.1 hy.1, ?_⟩
  have h1 := Int.mul_le_mul hx.2 hy.2 hy.1 (by omega)
  omega
theorem mulE_bnd {mn : Nat → Nat → Int} (h : ∀ i j, 0 ≤ mn i j ∧ mn i j ≤ 1000000) (a b : Nat) (k : Int) : 0 ≤ mulE mn a b k ∧ mulE mn a b k ≤ 1000000000000 := mul_bnd (h _ _) (h _ _)
def partS (mn : Nat → Nat → Int) (a b : Nat) (L : List Int) (i : Nat) : Int := ((L.take i).map (mulE mn a b)).sum
theorem partS_succ (mn : Nat → Nat → Int) (a b : Nat) (L : List Int) (i : Nat) (h : i < L.length) : partS mn a b L (i + 1) = partS mn a b L i + mulE mn a b (nth L i) := by
  unfold partS
  rw [List.take_succ_eq_append_getElem h, List.map_append, List.sum_append, nth_eq, List.getElem?_eq_getElem h]
  simp
theorem partS_bnd {mn : Nat → Nat → Int} (h : ∀ i j, 0 ≤ mn i j ∧ mn i j ≤ 1000000) (a b : Nat) (L : List Int) : ∀ i, i ≤ L.length → 0 ≤ partS mn a b L i ∧ partS mn a b L i ≤ 1000000000000 * i
  | 0, _ => by simp [partS]
  | i + 1, hi => by
    have h1 := partS_bnd h a b L i (by omega)
    have h2 := mulE_bnd h a b (nth L i)
    rw [partS_succ _ _ _ _ _ (by omega)]
    omega
end
section
set_option maxRecDepth 100000 in
set_option maxHeartbeats 4000000 in
theorem add_any (a b : Nat) (hab : a ≤ b) (hb : b < 8) (ta : Option Addr) (tc : Nat) (L : List Int) (hL : ∀ l ∈ L, (a : Int) ≤ l ∧ l < b) (hl : L.length ≤ 8) (g B : Nat) (hB : g < B) (F : Nat → Nat → List Int) (mn : Nat → Nat → Int) (hm : ∀ i j, 0 ≤ mn i j ∧ mn i j ≤ 1000000) (w : World) (hO : Owns w B (.slice ta L.length tc) L) (hT : TabL w g 0 B F) (hM : Tab w g 64 mn) :
    Calls Try.prog 94 #[.pointer (some ⟨g, 0, none⟩), spV (a : Nat) (b : Nat), .slice ta L.length tc] w fun e w' => e = .returned (.tuple #[]) ∧ TabL w' g 0 B (upd F a b L) ∧ Tab w' g 64 (upd mn a b (manyE mn a b L)) ∧ But (fun k => k = g) w w' := by
  have HMB := Lib.hid (fun k => hm a k)
  have HMC := Lib.hid (fun k => hm k b)
  have HPB := Lib.hid (partS_bnd hm a b L)
  have HPS := Lib.hid (partS_succ mn a b L)
  obtain ⟨ps, hps⟩ : ∃ ps, ps = partS mn a b L := ⟨_, rfl⟩
  rw [← hps] at HPB HPS
  have HP0 : Hid (ps 0 = 0) := Lib.hid (by rw [hps]; rfl)
  have HME : Hid (manyE mn a b L = (if a = b then 1 else 0) + ps L.length) := Lib.hid (by rw [hps]; unfold manyE partS; rw [List.take_length])
  have HLB := Lib.hid (fun i (hi : i < L.length) => hL (nth L i) (nth_mem hi))
  obtain ⟨a2, c2, e2, hI2⟩ := hO.ints
  obtain ⟨rfl, _, rfl⟩ : ta = a2 ∧ L.length = L.length ∧ tc = c2 := by simpa using e2
  have hlx : (L.length : Int) ≤ 8 := by omega
  obtain ⟨W0, hW0⟩ : ∃ W0, W0 = w.alloc (.cells #[.int .i64 (a : Nat), .int .i64 (b : Nat)] 69) := ⟨_, rfl⟩
  have HF0 : Hid (Fut w W0) := Lib.hid (by rw [hW0]; exact Fut.alloc _ _)
  have HBX : Hid (W0.heap[w.heap.size]? = some (.cells #[.int .i64 (a : Nat), .int .i64 (b : Nat)] 69)) := Lib.hid (by rw [hW0]; exact World.alloc_heap_new w _)
  have HO := Lib.hid (fun W (k : Fut w W) => hO.fut k)
  have HI := Lib.hid (fun W (k : Fut w W) => hI2.fut k)
  have HT := Lib.hid (fun W (k : Fut w W) => hT.fut k)
  have HM := Lib.hid (fun W (k : Fut w W) => hM.fut k)
  have hg : g < w.heap.size := World.block_lt_of_cell? _ _ (hM a b (by omega) hb).1
  have HG := Lib.hid hg
  have HW := Lib.hid hW0
  clear hO hI2 hT hM hL hm hps hW0 e2 hg
  have HIS : Hid (∀ W, Calls Try.prog 97 #[spV (a : Nat) (b : Nat)] W fun e w' => e = .returned (.bool (decide (a = b))) ∧ Fut W w') := Lib.hid (fun W => by
    have h := isOne_any (a : Nat) (b : Nat) W
    have e : (((a : Nat) : Int) == ((b : Nat) : Int)) = decide (a = b) := by
      rw [Bool.eq_iff_iff]; simp; omega
    rw [e] at h
    exact h)
  have hax : (a : Int) ≤ 8 := by omega
  by_cases hone : a = b
  · have HIS2 : Hid (∀ W, Calls Try.prog 97 #[spV (a : Nat) (b : Nat)] W fun e w' => e = .returned (.bool true) ∧ Fut W w') := Lib.hid (fun W => by have h := HIS.out W; rw [decide_eq_true hone] at h; exact h)
    have HMV : Hid (manyE mn a b L = 1 + ps L.length) := Lib.hid (by have h := HME.out; rw [if_pos hone] at h; exact h)
    obtain ⟨pt, hpt⟩ : ∃ pt : Nat → Int, pt = fun i => 1 + ps i := ⟨_, rfl⟩
    have HPQ := Lib.hid (fun i => congrFun hpt i)
    have HMW : Hid (pt L.length = manyE mn a b L) := Lib.hid (by rw [HMV.out, hpt])
    have HP1 : Hid (pt 0 = 1) := Lib.hid (by rw [hpt]; show 1 + ps 0 = 1; rw [HP0.out]; rfl)
    clear HIS HME hone hpt HP0 HMV
    go_enter Try.func94, Try.ntmps94
    go_upto_region 1 with fail
    rw [← HW.out]
    clear HW
    have hc0 := two_cell HBX.out
    obtain ⟨c0, c1, _⟩ := hc0
    go_wp2_with fail
    refine (HIS2.out _).mono ?_
    rintro _ w1 ⟨rfl, F1⟩
    have HFw := Lib.hid (HF0.out.trans F1)
    have HBX1 := Lib.hid (heap_fut HBX.out F1)
    clear HIS2 HBX HF0 F1 c0 c1
    go_wp2_with fail
    go_loopw [6, 16] (fun mv iv wr => ∃ (i : Nat), i ≤ L.length ∧ iv = .int .i64 (i : Nat) ∧ mv = .int .i64 (pt i) ∧ Hid (Fut w1 wr)) (fun _ iv _ => L.length - (intOf iv).toNat)
    case atStart => exact ⟨0, by omega, rfl, by rw [HP1.out], Lib.hid Fut.rfl⟩
    case round =>
      obtain ⟨i, hi, rfl, rfl, HF⟩ := hrel
      by_cases hin : i < L.length
      · have hix : (i : Int) < L.length := by omega
        have hkb := HLB.out i hin
        obtain ⟨K, hK⟩ : ∃ K : Nat, (K : Int) = nth L i := ⟨(nth L i).toNat, by omega⟩
        obtain ⟨K1, hK1⟩ : ∃ K1, K1 = K + 1 := ⟨_, rfl⟩
        have hI := HI.out wr (HFw.out.trans HF.out) i hin
        have hps := HPS.out i hin
        have hb1 := HPB.out (i + 1) (by omega)
        have hb0 := HPB.out i (by omega)
        have hkn : (nth L i).toNat = K := by rw [← hK]; rfl
        have hmu : mulE mn a b (nth L i) = mn a K * mn K1 b := by unfold mulE; rw [hkn, hK1]
        rw [← hK] at hI hkb
        rw [hmu] at hps
        obtain ⟨b2, o2, rfl, hb2, cs⟩ := hI
        have HPT : Hid (∀ W, Calls Try.prog 95 #[spV (a : Nat) (b : Nat), .int .i64 (K : Nat)] W fun e w' => e = .returned (.tuple #[spV (a : Nat) (K : Nat), spV (K1 : Nat) (b : Nat)]) ∧ Fut W w') := Lib.hid (fun W => by
          have := parts_any (a : Nat) (b : Nat) (K : Nat) ⟨by omega, by omega⟩ W
          rw [hK1]
          exact this)
        have HO1 : Hid (∀ W, Fut w W → Calls Try.prog 67 #[.pointer (some ⟨g, 64, none⟩), spV (a : Nat) (K : Nat)] W fun e w' => e = .returned (.int .i64 (mn a K)) ∧ Fut W w') := Lib.hid (fun W k => of_any g 64 a K (by omega) (by omega) _ W (HM.out W k a K (by omega) (by omega)).1)
        have HO2 : Hid (∀ W, Fut w W → Calls Try.prog 67 #[.pointer (some ⟨g, 64, none⟩), spV (K1 : Nat) (b : Nat)] W fun e w' => e = .returned (.int .i64 (mn K1 b)) ∧ Fut W w') := Lib.hid (fun W k => of_any g 64 K1 b (by omega) (by omega) _ W (HM.out W k K1 b (by omega) (by omega)).1)
        have hx1 := HMB.out K
        have hx2 := HMC.out K1
        generalize mn a K = x1 at *
        generalize mn K1 b = x2 at *
        have hxx := mul_bnd hx1 hx2
        obtain ⟨xm, hxm⟩ : ∃ xm, xm = x1 * x2 := ⟨_, rfl⟩
        have hwa : IntKind.i64.wrap (x1 * x2) = xm := by rw [hxm]; exact IntWalk.i64_in _ ⟨by omega, by omega⟩
        rw [← hxm] at hps hxx
        have hq0 := HPQ.out i
        have hq1 := HPQ.out (i + 1)
        have hwb : IntKind.i64.wrap (pt i + xm) = pt (i + 1) := by rw [IntWalk.i64_in _ ⟨by omega, by omega⟩]; omega
        have HBX2 := Lib.hid (heap_fut HBX1.out HF.out)
        have hc0 := two_cell HBX2.out
        obtain ⟨c0, c1, _⟩ := hc0
        have hwi : IntKind.i64.wrap ((i : Int) + 1) = ((i + 1 : Nat) : Int) := by rw [IntWalk.i64_in _ ⟨by omega, by omega⟩]; omega
        clear hq0 hq1 hK hK1 hxm hps hmu hkn hb1 hb0 hkb
        go_wp2_with fail
        refine (HPT.out _).mono ?_
        rintro _ w2 ⟨rfl, F2⟩
        go_upto_region 8 with fail
        have FA : Fut w2 ((w2.alloc (Obj.cells #[.int .i64 (a : Nat), .int .i64 (K : Nat)] 69)).alloc (Obj.cells #[.int .i64 (K1 : Nat), .int .i64 (b : Nat)] 69)) := (Fut.alloc _ _).trans (Fut.alloc _ _)
        have g2 : ((w2.alloc (Obj.cells #[.int .i64 (a : Nat), .int .i64 (K : Nat)] 69)).alloc (Obj.cells #[.int .i64 (K1 : Nat), .int .i64 (b : Nat)] 69)).heap[w2.heap.size]? = some (.cells #[.int .i64 (a : Nat), .int .i64 (K : Nat)] 69) := heap_fut (World.alloc_heap_new w2 _) (Fut.alloc _ _)
        have g3 : ((w2.alloc (Obj.cells #[.int .i64 (a : Nat), .int .i64 (K : Nat)] 69)).alloc (Obj.cells #[.int .i64 (K1 : Nat), .int .i64 (b : Nat)] 69)).heap[w2.heap.size + 1]? = some (.cells #[.int .i64 (K1 : Nat), .int .i64 (b : Nat)] 69) := by
          have := World.alloc_heap_new (w2.alloc (Obj.cells #[.int .i64 (a : Nat), .int .i64 (K : Nat)] 69)) (Obj.cells #[.int .i64 (K1 : Nat), .int .i64 (b : Nat)] 69)
          rw [World.size_alloc] at this
          exact this
        have HF3 := Lib.hid ((HF.out.trans F2).trans FA)
        generalize (w2.alloc (Obj.cells #[.int .i64 (a : Nat), .int .i64 (K : Nat)] 69)).alloc (Obj.cells #[.int .i64 (K1 : Nat), .int .i64 (b : Nat)] 69) = w3 at *
        obtain ⟨p2, p3, _⟩ := two_cell g2
        obtain ⟨p4, p5, _⟩ := two_cell g3
        clear HF HBX2 FA F2 g2 g3 c0 c1 cs
        have y2 := cell_after p2
        have y3 := cell_after p3
        have y4 := cell_after p4
        have y5 := cell_after p5
        have HA2 := Lib.hid (fun p : After w3 => HO1.out p.w' ((HFw.out.trans HF3.out).trans p.F))
        have HB2 := Lib.hid (fun p : After w3 => HO2.out p.w' ((HFw.out.trans HF3.out).trans p.F))
        refine region_fut (by kernel_rfl) (by kernel_rfl) ?_
        repeat (go_big_quiet_step (first | with_reducible rfl | (with_reducible (go_at_call 67; rename_i p; exact after_of (HA2.out p))) | (with_reducible (go_at_call 67; rename_i p; exact after_of (HB2.out p)))))
        refine wpQuiet_nil ?_
        intro w4 hw'
        have F4 := after_fut hw'
        have HF4 := Lib.hid (HF3.out.trans F4)
        clear hw' F4 HF3 y2 y3 y4 y5 p2 p3 p4 p5 HA2 HB2 HO1 HO2 HPT
        go_wp2_with fail
        go_roundw
        case rel => first
          | exact ⟨i + 1, by omega, rfl, rfl, HF4⟩
          | ((repeat apply Exists.intro); exact ⟨⟨i + 1, by omega, rfl, rfl, HF4⟩, rfl⟩)
        case measure => simp [intOf]; omega
      · obtain rfl : i = L.length := by omega
        have HVV := HMW
        generalize pt L.length = V at *
        have HFA := Lib.hid (HFw.out.trans HF.out)
        have HBX2 := Lib.hid (heap_fut HBX1.out HF.out)
        have HTA := Lib.hid (HT.out _ HFA.out)
        have HMA := Lib.hid (HM.out _ HFA.out)
        have HOA := Lib.hid (HO.out _ HFA.out)
        clear HF HBX1 HPS HPB HP1 HMB HMC HLB HMW HPQ HI HT HM HO HFw
        go_upto_region 10 with fail
        have HT2 : Hid (TabL wr.drew g 0 B F) := Lib.hid (HTA.out.fut (below_drewN Fut.rfl 1))
        have HM2 : Hid (Tab wr.drew g 64 mn) := Lib.hid (HMA.out.fut (below_drewN Fut.rfl 1))
        have HO2 : Hid (Owns wr.drew B (.slice ta L.length tc) L) := Lib.hid (HOA.out.fut (below_drewN Fut.rfl 1))
        have HB2 : Hid (wr.drew.heap[w.heap.size]? = _) := Lib.hid (heap_fut HBX2.out (below_drewN Fut.rfl 1))
        have HF2 : Hid (Fut w wr.drew) := Lib.hid (HFA.out.trans (below_drewN Fut.rfl 1))
        clear HTA HMA HOA HBX2 HFA
        refine wp_region_held_drew (S := (fun w' => w'.cell? ⟨w.heap.size, 0, none⟩ = some (.int .i64 (a : Nat)) ∧ w'.cell? ⟨w.heap.size, 1, none⟩ = some (.int .i64 (b : Nat)))) (by kernel_rfl) ?_ (fun hHeld => ?_)
        · exact ⟨(two_cell HB2.out).1, (two_cell HB2.out).2.1⟩
        generalize wr.drew = u0 at *
        refine wpAnyH_take (i := 0) (oi := { dst := some 40, op := Op.move (Operand.tmp 0), type := 64, pos := "tree.go:24", after := #[], guard := none }) (v := ?_) rfl (by kernel_rfl) (by kernel_rfl) (by kernel_rfl) (fun _ _ _ h => h) (Or.inl ⟨by rfl, ?_⟩) (by assumption) ?_
        rotate_left
        · (intro w hSw; obtain ⟨s0, s1⟩ := hSw; go_simp <;> with_reducible rfl)
        try simp only [Act.put, List.setIfInBounds_toArray, List.set_cons_zero, List.set_cons_succ]
        refine wpAnyH_take (i := 1) (oi := { dst := some 41, op := Op.nilCheck (Operand.tmp 40), type := 0, pos := "tree.go:24", after := #[{ on := 0, ground := Ground.data }], guard := none }) (v := ?_) rfl (by kernel_rfl) (by kernel_rfl) (by kernel_rfl) (fun _ _ _ h => h) (Or.inl ⟨by rfl, ?_⟩) (by assumption) ?_
        rotate_left
        · (intro w hSw; obtain ⟨s0, s1⟩ := hSw; go_simp <;> with_reducible rfl)
        try simp only [Act.put, List.setIfInBounds_toArray, List.set_cons_zero, List.set_cons_succ]
        refine wpAnyH_take (i := 2) (oi := { dst := some 42, op := Op.fieldAddr 81 (Operand.tmp 41) 0, type := 0, pos := "tree.go:24", after := #[{ on := 1, ground := Ground.data }], guard := none }) (v := ?_) rfl (by kernel_rfl) (by kernel_rfl) (by kernel_rfl) (fun _ _ _ h => h) (Or.inl ⟨by rfl, ?_⟩) (by assumption) ?_
        rotate_left
        · (intro w hSw; obtain ⟨s0, s1⟩ := hSw; go_simp <;> with_reducible rfl)
        try simp only [Act.put, List.setIfInBounds_toArray, List.set_cons_zero, List.set_cons_succ]
        refine wpAnyH_take (i := 3) (oi := { dst := some 43, op := Op.load 69 (Operand.tmp 4), type := 69, pos := "tree.go:24", after := #[], guard := none }) (v := ?_) rfl (by kernel_rfl) (by kernel_rfl) (by kernel_rfl) (fun _ _ _ h => h) (Or.inl ⟨by rfl, ?_⟩) (by assumption) ?_
        rotate_left
        · (intro w hSw; obtain ⟨s0, s1⟩ := hSw; go_simp <;> with_reducible rfl)
        try simp only [Act.put, List.setIfInBounds_toArray, List.set_cons_zero, List.set_cons_succ]
        refine wpAnyH_take (i := 4) (oi := { dst := some 44, op := Op.move (Operand.tmp 2), type := 22, pos := "tree.go:24", after := #[], guard := none }) (v := ?_) rfl (by kernel_rfl) (by kernel_rfl) (by kernel_rfl) (fun _ _ _ h => h) (Or.inl ⟨by rfl, ?_⟩) (by assumption) ?_
        rotate_left
        · (intro w hSw; obtain ⟨s0, s1⟩ := hSw; go_simp <;> with_reducible rfl)
        try simp only [Act.put, List.setIfInBounds_toArray, List.set_cons_zero, List.set_cons_succ]
        refine wpAnyH_ready (rs := [5]) (by kernel_rfl) (by simp) ?_
        refine AllReadyH.cons (o := { dst := some 45, op := Op.call { callee := Callee.value (Operand.func 117), args := #[Operand.tmp 42, Operand.tmp 43, Operand.tmp 44], argTypes := #[76, 69, 22] }, type := 0, pos := "tree.go:24", after := #[{ on := 2, ground := Ground.data }, { on := 3, ground := Ground.data }, { on := 4, ground := Ground.data }], guard := none }) rfl (fun K hK => ?_) AllReadyH.nil
        obtain ⟨l0, m0, q1, q2, _⟩ := HT2.out a b (by omega) hb
        have HCA := Lib.hid (setL_any g 0 a b (by omega) hb ta l0 L.length tc _ m0 u0 q1 q2)
        clear q1 q2
        go_simp
        go_at_call 117
        refine HCA.out.mono ?_
        rintro _ _ ⟨rfl, u, Fu, rfl⟩
        have HT3 := Lib.hid ((HT2.out.fut Fu).set hB a b (by omega) hb (HO2.out.fut Fu))
        have HM3 := Lib.hid ((HM2.out.fut Fu).far (.slice ta L.length tc) (g2 := g) (p := 0 + a * 8 + b) (.inr (.inl (by omega))))
        have HB3 := Lib.hid (heap_kept (heap_fut HB2.out Fu) (set_grown u g (0 + a * 8 + b) (.slice ta L.length tc)) (fun e => by have := Option.some.inj e; have := HG.out; omega))
        have HF3 : Hid (But (fun k => k = g) w (u.setCell ⟨g, 0 + a * 8 + b, none⟩ (.slice ta L.length tc))) := Lib.hid ((But.of_below (Z := fun k => k = g) (HF2.out.trans Fu)).setCell (p := ⟨g, 0 + a * 8 + b, none⟩) (Or.inl rfl) _)
        clear HCA Fu HT2 HM2 HB2 HF2 HO2
        generalize u.setCell ⟨g, 0 + a * 8 + b, none⟩ (.slice ta L.length tc) = u3 at *
        try go_wp2_with fail
        refine hK.out _ _ ?_ (fun hHeld => ?_)
        · exact ⟨(two_cell HB3.out).1, (two_cell HB3.out).2.1⟩
        clear hK K
        try simp only [Act.put, List.setIfInBounds_toArray, List.set_cons_zero, List.set_cons_succ]
        refine wpAnyH_done (by kernel_rfl) ?_ _
        go_upto_region 11 with fail
        have HT4 : Hid (TabL u3.drew g 0 B (upd F a b L)) := Lib.hid (HT3.out.fut (below_drewN Fut.rfl 1))
        have HM4 : Hid (Tab u3.drew g 64 mn) := Lib.hid (HM3.out.fut (below_drewN Fut.rfl 1))
        have HB4 : Hid (u3.drew.heap[w.heap.size]? = _) := Lib.hid (heap_fut HB3.out (below_drewN Fut.rfl 1))
        have HF4 : Hid (But (fun k => k = g) w u3.drew) := Lib.hid (HF3.out.trans (But.of_below (below_drewN Fut.rfl 1)))
        clear HT3 HM3 HB3 HF3
        refine wp_region_held_drew (S := (fun w' => w'.cell? ⟨w.heap.size, 0, none⟩ = some (.int .i64 (a : Nat)) ∧ w'.cell? ⟨w.heap.size, 1, none⟩ = some (.int .i64 (b : Nat)))) (by kernel_rfl) ?_ (fun hHeld => ?_)
        · exact ⟨(two_cell HB4.out).1, (two_cell HB4.out).2.1⟩
        generalize u3.drew = u4 at *
        refine wpAnyH_take (i := 0) (oi := { dst := some 46, op := Op.move (Operand.tmp 0), type := 64, pos := "tree.go:25", after := #[], guard := none }) (v := ?_) rfl (by kernel_rfl) (by kernel_rfl) (by kernel_rfl) (fun _ _ _ h => h) (Or.inl ⟨by rfl, ?_⟩) (by assumption) ?_
        rotate_left
        · (intro w hSw; obtain ⟨s0, s1⟩ := hSw; go_simp <;> with_reducible rfl)
        try simp only [Act.put, List.setIfInBounds_toArray, List.set_cons_zero, List.set_cons_succ]
        refine wpAnyH_take (i := 1) (oi := { dst := some 47, op := Op.nilCheck (Operand.tmp 46), type := 0, pos := "tree.go:25", after := #[{ on := 0, ground := Ground.data }], guard := none }) (v := ?_) rfl (by kernel_rfl) (by kernel_rfl) (by kernel_rfl) (fun _ _ _ h => h) (Or.inl ⟨by rfl, ?_⟩) (by assumption) ?_
        rotate_left
        · (intro w hSw; obtain ⟨s0, s1⟩ := hSw; go_simp <;> with_reducible rfl)
        try simp only [Act.put, List.setIfInBounds_toArray, List.set_cons_zero, List.set_cons_succ]
        refine wpAnyH_take (i := 2) (oi := { dst := some 48, op := Op.fieldAddr 81 (Operand.tmp 47) 1, type := 0, pos := "tree.go:25", after := #[{ on := 1, ground := Ground.data }], guard := none }) (v := ?_) rfl (by kernel_rfl) (by kernel_rfl) (by kernel_rfl) (fun _ _ _ h => h) (Or.inl ⟨by rfl, ?_⟩) (by assumption) ?_
        rotate_left
        · (intro w hSw; obtain ⟨s0, s1⟩ := hSw; go_simp <;> with_reducible rfl)
        try simp only [Act.put, List.setIfInBounds_toArray, List.set_cons_zero, List.set_cons_succ]
        refine wpAnyH_take (i := 3) (oi := { dst := some 49, op := Op.load 69 (Operand.tmp 4), type := 69, pos := "tree.go:25", after := #[], guard := none }) (v := ?_) rfl (by kernel_rfl) (by kernel_rfl) (by kernel_rfl) (fun _ _ _ h => h) (Or.inl ⟨by rfl, ?_⟩) (by assumption) ?_
        rotate_left
        · (intro w hSw; obtain ⟨s0, s1⟩ := hSw; go_simp <;> with_reducible rfl)
        try simp only [Act.put, List.setIfInBounds_toArray, List.set_cons_zero, List.set_cons_succ]
        refine wpAnyH_take (i := 4) (oi := { dst := some 50, op := Op.move (Operand.tmp 6), type := 3, pos := "tree.go:25", after := #[], guard := none }) (v := ?_) rfl (by kernel_rfl) (by kernel_rfl) (by kernel_rfl) (fun _ _ _ h => h) (Or.inl ⟨by rfl, ?_⟩) (by assumption) ?_
        rotate_left
        · (intro w hSw; obtain ⟨s0, s1⟩ := hSw; go_simp <;> with_reducible rfl)
        try simp only [Act.put, List.setIfInBounds_toArray, List.set_cons_zero, List.set_cons_succ]
        refine wpAnyH_ready (rs := [5]) (by kernel_rfl) (by simp) ?_
        refine AllReadyH.cons (o := { dst := some 51, op := Op.call { callee := Callee.value (Operand.func 93), args := #[Operand.tmp 48, Operand.tmp 49, Operand.tmp 50], argTypes := #[79, 69, 3] }, type := 0, pos := "tree.go:25", after := #[{ on := 2, ground := Ground.data }, { on := 3, ground := Ground.data }, { on := 4, ground := Ground.data }], guard := none }) rfl (fun K hK => ?_) AllReadyH.nil
        obtain ⟨q1, q2⟩ := HM4.out a b (by omega) hb
        have HCA := Lib.hid (set_any g 64 a b (by omega) hb V _ u4 q1 q2)
        clear q1 q2
        go_simp
        go_at_call 93
        refine HCA.out.mono ?_
        rintro _ _ ⟨rfl, u, Fu, rfl⟩
        have HM5 := Lib.hid ((HM4.out.fut Fu).set a b (by omega) hb V)
        have HT5 := Lib.hid ((HT4.out.fut Fu).far hB (.int .i64 V) (g2 := g) (p := 64 + a * 8 + b) (.inr (.inr (by omega))))
        have HB5 := Lib.hid (heap_kept (heap_fut HB4.out Fu) (set_grown u g (64 + a * 8 + b) (.int .i64 V)) (fun e => by have := Option.some.inj e; have := HG.out; omega))
        have HF5 : Hid (But (fun k => k = g) w (u.setCell ⟨g, 64 + a * 8 + b, none⟩ (.int .i64 V))) := Lib.hid ((HF4.out.trans (But.of_below (Z := fun k => k = g) Fu)).setCell (p := ⟨g, 64 + a * 8 + b, none⟩) (Or.inl rfl) _)
        clear HCA Fu HT4 HM4 HB4 HF4
        generalize u.setCell ⟨g, 64 + a * 8 + b, none⟩ (.int .i64 V) = u5 at *
        try go_wp2_with fail
        refine hK.out _ _ ?_ (fun hHeld => ?_)
        · exact ⟨(two_cell HB5.out).1, (two_cell HB5.out).2.1⟩
        clear hK K
        try simp only [Act.put, List.setIfInBounds_toArray, List.set_cons_zero, List.set_cons_succ]
        refine wpAnyH_done (by kernel_rfl) ?_ _
        go_wp2_with fail
        refine bodyPost_end (results_none rfl _ _ _) rfl ?_
        exact ⟨rfl, HT5.out, by rw [← HVV.out]; exact HM5.out, HF5.out⟩
  · have HIS2 : Hid (∀ W, Calls Try.prog 97 #[spV (a : Nat) (b : Nat)] W fun e w' => e = .returned (.bool false) ∧ Fut W w') := Lib.hid (fun W => by have h := HIS.out W; rw [decide_eq_false hone] at h; exact h)
    have HMV : Hid (manyE mn a b L = 0 + ps L.length) := Lib.hid (by have h := HME.out; rw [if_neg hone] at h; exact h)
    obtain ⟨pt, hpt⟩ : ∃ pt : Nat → Int, pt = fun i => 0 + ps i := ⟨_, rfl⟩
    have HPQ := Lib.hid (fun i => congrFun hpt i)
    have HMW : Hid (pt L.length = manyE mn a b L) := Lib.hid (by rw [HMV.out, hpt])
    have HP1 : Hid (pt 0 = 0) := Lib.hid (by rw [hpt]; show 0 + ps 0 = 0; rw [HP0.out]; rfl)
    clear HIS HME hone hpt HP0 HMV
    go_enter Try.func94, Try.ntmps94
    go_upto_region 1 with fail
    rw [← HW.out]
    clear HW
    have hc0 := two_cell HBX.out
    obtain ⟨c0, c1, _⟩ := hc0
    go_wp2_with fail
    refine (HIS2.out _).mono ?_
    rintro _ w1 ⟨rfl, F1⟩
    have HFw := Lib.hid (HF0.out.trans F1)
    have HBX1 := Lib.hid (heap_fut HBX.out F1)
    clear HIS2 HBX HF0 F1 c0 c1
    go_wp2_with fail
    go_loopw [6, 16] (fun mv iv wr => ∃ (i : Nat), i ≤ L.length ∧ iv = .int .i64 (i : Nat) ∧ mv = .int .i64 (pt i) ∧ Hid (Fut w1 wr)) (fun _ iv _ => L.length - (intOf iv).toNat)
    case atStart => exact ⟨0, by omega, rfl, by rw [HP1.out], Lib.hid Fut.rfl⟩
    case round =>
      obtain ⟨i, hi, rfl, rfl, HF⟩ := hrel
      by_cases hin : i < L.length
      · have hix : (i : Int) < L.length := by omega
        have hkb := HLB.out i hin
        obtain ⟨K, hK⟩ : ∃ K : Nat, (K : Int) = nth L i := ⟨(nth L i).toNat, by omega⟩
        obtain ⟨K1, hK1⟩ : ∃ K1, K1 = K + 1 := ⟨_, rfl⟩
        have hI := HI.out wr (HFw.out.trans HF.out) i hin
        have hps := HPS.out i hin
        have hb1 := HPB.out (i + 1) (by omega)
        have hb0 := HPB.out i (by omega)
        have hkn : (nth L i).toNat = K := by rw [← hK]; rfl
        have hmu : mulE mn a b (nth L i) = mn a K * mn K1 b := by unfold mulE; rw [hkn, hK1]
        rw [← hK] at hI hkb
        rw [hmu] at hps
        obtain ⟨b2, o2, rfl, hb2, cs⟩ := hI
        have HPT : Hid (∀ W, Calls Try.prog 95 #[spV (a : Nat) (b : Nat), .int .i64 (K : Nat)] W fun e w' => e = .returned (.tuple #[spV (a : Nat) (K : Nat), spV (K1 : Nat) (b : Nat)]) ∧ Fut W w') := Lib.hid (fun W => by
          have := parts_any (a : Nat) (b : Nat) (K : Nat) ⟨by omega, by omega⟩ W
          rw [hK1]
          exact this)
        have HO1 : Hid (∀ W, Fut w W → Calls Try.prog 67 #[.pointer (some ⟨g, 64, none⟩), spV (a : Nat) (K : Nat)] W fun e w' => e = .returned (.int .i64 (mn a K)) ∧ Fut W w') := Lib.hid (fun W k => of_any g 64 a K (by omega) (by omega) _ W (HM.out W k a K (by omega) (by omega)).1)
        have HO2 : Hid (∀ W, Fut w W → Calls Try.prog 67 #[.pointer (some ⟨g, 64, none⟩), spV (K1 : Nat) (b : Nat)] W fun e w' => e = .returned (.int .i64 (mn K1 b)) ∧ Fut W w') := Lib.hid (fun W k => of_any g 64 K1 b (by omega) (by omega) _ W (HM.out W k K1 b (by omega) (by omega)).1)
        have hx1 := HMB.out K
        have hx2 := HMC.out K1
        generalize mn a K = x1 at *
        generalize mn K1 b = x2 at *
        have hxx := mul_bnd hx1 hx2
        obtain ⟨xm, hxm⟩ : ∃ xm, xm = x1 * x2 := ⟨_, rfl⟩
        have hwa : IntKind.i64.wrap (x1 * x2) = xm := by rw [hxm]; exact IntWalk.i64_in _ ⟨by omega, by omega⟩
        rw [← hxm] at hps hxx
        have hq0 := HPQ.out i
        have hq1 := HPQ.out (i + 1)
        have hwb : IntKind.i64.wrap (pt i + xm) = pt (i + 1) := by rw [IntWalk.i64_in _ ⟨by omega, by omega⟩]; omega
        have HBX2 := Lib.hid (heap_fut HBX1.out HF.out)
        have hc0 := two_cell HBX2.out
        obtain ⟨c0, c1, _⟩ := hc0
        have hwi : IntKind.i64.wrap ((i : Int) + 1) = ((i + 1 : Nat) : Int) := by rw [IntWalk.i64_in _ ⟨by omega, by omega⟩]; omega
        clear hq0 hq1 hK hK1 hxm hps hmu hkn hb1 hb0 hkb
        go_wp2_with fail
        refine (HPT.out _).mono ?_
        rintro _ w2 ⟨rfl, F2⟩
        go_upto_region 8 with fail
        have FA : Fut w2 ((w2.alloc (Obj.cells #[.int .i64 (a : Nat), .int .i64 (K : Nat)] 69)).alloc (Obj.cells #[.int .i64 (K1 : Nat), .int .i64 (b : Nat)] 69)) := (Fut.alloc _ _).trans (Fut.alloc _ _)
        have g2 : ((w2.alloc (Obj.cells #[.int .i64 (a : Nat), .int .i64 (K : Nat)] 69)).alloc (Obj.cells #[.int .i64 (K1 : Nat), .int .i64 (b : Nat)] 69)).heap[w2.heap.size]? = some (.cells #[.int .i64 (a : Nat), .int .i64 (K : Nat)] 69) := heap_fut (World.alloc_heap_new w2 _) (Fut.alloc _ _)
        have g3 : ((w2.alloc (Obj.cells #[.int .i64 (a : Nat), .int .i64 (K : Nat)] 69)).alloc (Obj.cells #[.int .i64 (K1 : Nat), .int .i64 (b : Nat)] 69)).heap[w2.heap.size + 1]? = some (.cells #[.int .i64 (K1 : Nat), .int .i64 (b : Nat)] 69) := by
          have := World.alloc_heap_new (w2.alloc (Obj.cells #[.int .i64 (a : Nat), .int .i64 (K : Nat)] 69)) (Obj.cells #[.int .i64 (K1 : Nat), .int .i64 (b : Nat)] 69)
          rw [World.size_alloc] at this
          exact this
        have HF3 := Lib.hid ((HF.out.trans F2).trans FA)
        generalize (w2.alloc (Obj.cells #[.int .i64 (a : Nat), .int .i64 (K : Nat)] 69)).alloc (Obj.cells #[.int .i64 (K1 : Nat), .int .i64 (b : Nat)] 69) = w3 at *
        obtain ⟨p2, p3, _⟩ := two_cell g2
        obtain ⟨p4, p5, _⟩ := two_cell g3
        clear HF HBX2 FA F2 g2 g3 c0 c1 cs
        have y2 := cell_after p2
        have y3 := cell_after p3
        have y4 := cell_after p4
        have y5 := cell_after p5
        have HA2 := Lib.hid (fun p : After w3 => HO1.out p.w' ((HFw.out.trans HF3.out).trans p.F))
        have HB2 := Lib.hid (fun p : After w3 => HO2.out p.w' ((HFw.out.trans HF3.out).trans p.F))
        refine region_fut (by kernel_rfl) (by kernel_rfl) ?_
        repeat (go_big_quiet_step (first | with_reducible rfl | (with_reducible (go_at_call 67; rename_i p; exact after_of (HA2.out p))) | (with_reducible (go_at_call 67; rename_i p; exact after_of (HB2.out p)))))
        refine wpQuiet_nil ?_
        intro w4 hw'
        have F4 := after_fut hw'
        have HF4 := Lib.hid (HF3.out.trans F4)
        clear hw' F4 HF3 y2 y3 y4 y5 p2 p3 p4 p5 HA2 HB2 HO1 HO2 HPT
        go_wp2_with fail
        go_roundw
        case rel => first
          | exact ⟨i + 1, by omega, rfl, rfl, HF4⟩
          | ((repeat apply Exists.intro); exact ⟨⟨i + 1, by omega, rfl, rfl, HF4⟩, rfl⟩)
        case measure => simp [intOf]; omega
      · obtain rfl : i = L.length := by omega
        have HVV := HMW
        generalize pt L.length = V at *
        have HFA := Lib.hid (HFw.out.trans HF.out)
        have HBX2 := Lib.hid (heap_fut HBX1.out HF.out)
        have HTA := Lib.hid (HT.out _ HFA.out)
        have HMA := Lib.hid (HM.out _ HFA.out)
        have HOA := Lib.hid (HO.out _ HFA.out)
        clear HF HBX1 HPS HPB HP1 HMB HMC HLB HMW HPQ HI HT HM HO HFw
        go_upto_region 10 with fail
        have HT2 : Hid (TabL wr.drew g 0 B F) := Lib.hid (HTA.out.fut (below_drewN Fut.rfl 1))
        have HM2 : Hid (Tab wr.drew g 64 mn) := Lib.hid (HMA.out.fut (below_drewN Fut.rfl 1))
        have HO2 : Hid (Owns wr.drew B (.slice ta L.length tc) L) := Lib.hid (HOA.out.fut (below_drewN Fut.rfl 1))
        have HB2 : Hid (wr.drew.heap[w.heap.size]? = _) := Lib.hid (heap_fut HBX2.out (below_drewN Fut.rfl 1))
        have HF2 : Hid (Fut w wr.drew) := Lib.hid (HFA.out.trans (below_drewN Fut.rfl 1))
        clear HTA HMA HOA HBX2 HFA
        refine wp_region_held_drew (S := (fun w' => w'.cell? ⟨w.heap.size, 0, none⟩ = some (.int .i64 (a : Nat)) ∧ w'.cell? ⟨w.heap.size, 1, none⟩ = some (.int .i64 (b : Nat)))) (by kernel_rfl) ?_ (fun hHeld => ?_)
        · exact ⟨(two_cell HB2.out).1, (two_cell HB2.out).2.1⟩
        generalize wr.drew = u0 at *
        refine wpAnyH_take (i := 0) (oi := { dst := some 40, op := Op.move (Operand.tmp 0), type := 64, pos := "tree.go:24", after := #[], guard := none }) (v := ?_) rfl (by kernel_rfl) (by kernel_rfl) (by kernel_rfl) (fun _ _ _ h => h) (Or.inl ⟨by rfl, ?_⟩) (by assumption) ?_
        rotate_left
        · (intro w hSw; obtain ⟨s0, s1⟩ := hSw; go_simp <;> with_reducible rfl)
        try simp only [Act.put, List.setIfInBounds_toArray, List.set_cons_zero, List.set_cons_succ]
        refine wpAnyH_take (i := 1) (oi := { dst := some 41, op := Op.nilCheck (Operand.tmp 40), type := 0, pos := "tree.go:24", after := #[{ on := 0, ground := Ground.data }], guard := none }) (v := ?_) rfl (by kernel_rfl) (by kernel_rfl) (by kernel_rfl) (fun _ _ _ h => h) (Or.inl ⟨by rfl, ?_⟩) (by assumption) ?_
        rotate_left
        · (intro w hSw; obtain ⟨s0, s1⟩ := hSw; go_simp <;> with_reducible rfl)
        try simp only [Act.put, List.setIfInBounds_toArray, List.set_cons_zero, List.set_cons_succ]
        refine wpAnyH_take (i := 2) (oi := { dst := some 42, op := Op.fieldAddr 81 (Operand.tmp 41) 0, type := 0, pos := "tree.go:24", after := #[{ on := 1, ground := Ground.data }], guard := none }) (v := ?_) rfl (by kernel_rfl) (by kernel_rfl) (by kernel_rfl) (fun _ _ _ h => h) (Or.inl ⟨by rfl, ?_⟩) (by assumption) ?_
        rotate_left
        · (intro w hSw; obtain ⟨s0, s1⟩ := hSw; go_simp <;> with_reducible rfl)
        try simp only [Act.put, List.setIfInBounds_toArray, List.set_cons_zero, List.set_cons_succ]
        refine wpAnyH_take (i := 3) (oi := { dst := some 43, op := Op.load 69 (Operand.tmp 4), type := 69, pos := "tree.go:24", after := #[], guard := none }) (v := ?_) rfl (by kernel_rfl) (by kernel_rfl) (by kernel_rfl) (fun _ _ _ h => h) (Or.inl ⟨by rfl, ?_⟩) (by assumption) ?_
        rotate_left
        · (intro w hSw; obtain ⟨s0, s1⟩ := hSw; go_simp <;> with_reducible rfl)
        try simp only [Act.put, List.setIfInBounds_toArray, List.set_cons_zero, List.set_cons_succ]
        refine wpAnyH_take (i := 4) (oi := { dst := some 44, op := Op.move (Operand.tmp 2), type := 22, pos := "tree.go:24", after := #[], guard := none }) (v := ?_) rfl (by kernel_rfl) (by kernel_rfl) (by kernel_rfl) (fun _ _ _ h => h) (Or.inl ⟨by rfl, ?_⟩) (by assumption) ?_
        rotate_left
        · (intro w hSw; obtain ⟨s0, s1⟩ := hSw; go_simp <;> with_reducible rfl)
        try simp only [Act.put, List.setIfInBounds_toArray, List.set_cons_zero, List.set_cons_succ]
        refine wpAnyH_ready (rs := [5]) (by kernel_rfl) (by simp) ?_
        refine AllReadyH.cons (o := { dst := some 45, op := Op.call { callee := Callee.value (Operand.func 117), args := #[Operand.tmp 42, Operand.tmp 43, Operand.tmp 44], argTypes := #[76, 69, 22] }, type := 0, pos := "tree.go:24", after := #[{ on := 2, ground := Ground.data }, { on := 3, ground := Ground.data }, { on := 4, ground := Ground.data }], guard := none }) rfl (fun K hK => ?_) AllReadyH.nil
        obtain ⟨l0, m0, q1, q2, _⟩ := HT2.out a b (by omega) hb
        have HCA := Lib.hid (setL_any g 0 a b (by omega) hb ta l0 L.length tc _ m0 u0 q1 q2)
        clear q1 q2
        go_simp
        go_at_call 117
        refine HCA.out.mono ?_
        rintro _ _ ⟨rfl, u, Fu, rfl⟩
        have HT3 := Lib.hid ((HT2.out.fut Fu).set hB a b (by omega) hb (HO2.out.fut Fu))
        have HM3 := Lib.hid ((HM2.out.fut Fu).far (.slice ta L.length tc) (g2 := g) (p := 0 + a * 8 + b) (.inr (.inl (by omega))))
        have HB3 := Lib.hid (heap_kept (heap_fut HB2.out Fu) (set_grown u g (0 + a * 8 + b) (.slice ta L.length tc)) (fun e => by have := Option.some.inj e; have := HG.out; omega))
        have HF3 : Hid (But (fun k => k = g) w (u.setCell ⟨g, 0 + a * 8 + b, none⟩ (.slice ta L.length tc))) := Lib.hid ((But.of_below (Z := fun k => k = g) (HF2.out.trans Fu)).setCell (p := ⟨g, 0 + a * 8 + b, none⟩) (Or.inl rfl) _)
        clear HCA Fu HT2 HM2 HB2 HF2 HO2
        generalize u.setCell ⟨g, 0 + a * 8 + b, none⟩ (.slice ta L.length tc) = u3 at *
        try go_wp2_with fail
        refine hK.out _ _ ?_ (fun hHeld => ?_)
        · exact ⟨(two_cell HB3.out).1, (two_cell HB3.out).2.1⟩
        clear hK K
        try simp only [Act.put, List.setIfInBounds_toArray, List.set_cons_zero, List.set_cons_succ]
        refine wpAnyH_done (by kernel_rfl) ?_ _
        go_upto_region 11 with fail
        have HT4 : Hid (TabL u3.drew g 0 B (upd F a b L)) := Lib.hid (HT3.out.fut (below_drewN Fut.rfl 1))
        have HM4 : Hid (Tab u3.drew g 64 mn) := Lib.hid (HM3.out.fut (below_drewN Fut.rfl 1))
        have HB4 : Hid (u3.drew.heap[w.heap.size]? = _) := Lib.hid (heap_fut HB3.out (below_drewN Fut.rfl 1))
        have HF4 : Hid (But (fun k => k = g) w u3.drew) := Lib.hid (HF3.out.trans (But.of_below (below_drewN Fut.rfl 1)))
        clear HT3 HM3 HB3 HF3
        refine wp_region_held_drew (S := (fun w' => w'.cell? ⟨w.heap.size, 0, none⟩ = some (.int .i64 (a : Nat)) ∧ w'.cell? ⟨w.heap.size, 1, none⟩ = some (.int .i64 (b : Nat)))) (by kernel_rfl) ?_ (fun hHeld => ?_)
        · exact ⟨(two_cell HB4.out).1, (two_cell HB4.out).2.1⟩
        generalize u3.drew = u4 at *
        refine wpAnyH_take (i := 0) (oi := { dst := some 46, op := Op.move (Operand.tmp 0), type := 64, pos := "tree.go:25", after := #[], guard := none }) (v := ?_) rfl (by kernel_rfl) (by kernel_rfl) (by kernel_rfl) (fun _ _ _ h => h) (Or.inl ⟨by rfl, ?_⟩) (by assumption) ?_
        rotate_left
        · (intro w hSw; obtain ⟨s0, s1⟩ := hSw; go_simp <;> with_reducible rfl)
        try simp only [Act.put, List.setIfInBounds_toArray, List.set_cons_zero, List.set_cons_succ]
        refine wpAnyH_take (i := 1) (oi := { dst := some 47, op := Op.nilCheck (Operand.tmp 46), type := 0, pos := "tree.go:25", after := #[{ on := 0, ground := Ground.data }], guard := none }) (v := ?_) rfl (by kernel_rfl) (by kernel_rfl) (by kernel_rfl) (fun _ _ _ h => h) (Or.inl ⟨by rfl, ?_⟩) (by assumption) ?_
        rotate_left
        · (intro w hSw; obtain ⟨s0, s1⟩ := hSw; go_simp <;> with_reducible rfl)
        try simp only [Act.put, List.setIfInBounds_toArray, List.set_cons_zero, List.set_cons_succ]
        refine wpAnyH_take (i := 2) (oi := { dst := some 48, op := Op.fieldAddr 81 (Operand.tmp 47) 1, type := 0, pos := "tree.go:25", after := #[{ on := 1, ground := Ground.data }], guard := none }) (v := ?_) rfl (by kernel_rfl) (by kernel_rfl) (by kernel_rfl) (fun _ _ _ h => h) (Or.inl ⟨by rfl, ?_⟩) (by assumption) ?_
        rotate_left
        · (intro w hSw; obtain ⟨s0, s1⟩ := hSw; go_simp <;> with_reducible rfl)
        try simp only [Act.put, List.setIfInBounds_toArray, List.set_cons_zero, List.set_cons_succ]
        refine wpAnyH_take (i := 3) (oi := { dst := some 49, op := Op.load 69 (Operand.tmp 4), type := 69, pos := "tree.go:25", after := #[], guard := none }) (v := ?_) rfl (by kernel_rfl) (by kernel_rfl) (by kernel_rfl) (fun _ _ _ h => h) (Or.inl ⟨by rfl, ?_⟩) (by assumption) ?_
        rotate_left
        · (intro w hSw; obtain ⟨s0, s1⟩ := hSw; go_simp <;> with_reducible rfl)
        try simp only [Act.put, List.setIfInBounds_toArray, List.set_cons_zero, List.set_cons_succ]
        refine wpAnyH_take (i := 4) (oi := { dst := some 50, op := Op.move (Operand.tmp 6), type := 3, pos := "tree.go:25", after := #[], guard := none }) (v := ?_) rfl (by kernel_rfl) (by kernel_rfl) (by kernel_rfl) (fun _ _ _ h => h) (Or.inl ⟨by rfl, ?_⟩) (by assumption) ?_
        rotate_left
        · (intro w hSw; obtain ⟨s0, s1⟩ := hSw; go_simp <;> with_reducible rfl)
        try simp only [Act.put, List.setIfInBounds_toArray, List.set_cons_zero, List.set_cons_succ]
        refine wpAnyH_ready (rs := [5]) (by kernel_rfl) (by simp) ?_
        refine AllReadyH.cons (o := { dst := some 51, op := Op.call { callee := Callee.value (Operand.func 93), args := #[Operand.tmp 48, Operand.tmp 49, Operand.tmp 50], argTypes := #[79, 69, 3] }, type := 0, pos := "tree.go:25", after := #[{ on := 2, ground := Ground.data }, { on := 3, ground := Ground.data }, { on := 4, ground := Ground.data }], guard := none }) rfl (fun K hK => ?_) AllReadyH.nil
        obtain ⟨q1, q2⟩ := HM4.out a b (by omega) hb
        have HCA := Lib.hid (set_any g 64 a b (by omega) hb V _ u4 q1 q2)
        clear q1 q2
        go_simp
        go_at_call 93
        refine HCA.out.mono ?_
        rintro _ _ ⟨rfl, u, Fu, rfl⟩
        have HM5 := Lib.hid ((HM4.out.fut Fu).set a b (by omega) hb V)
        have HT5 := Lib.hid ((HT4.out.fut Fu).far hB (.int .i64 V) (g2 := g) (p := 64 + a * 8 + b) (.inr (.inr (by omega))))
        have HB5 := Lib.hid (heap_kept (heap_fut HB4.out Fu) (set_grown u g (64 + a * 8 + b) (.int .i64 V)) (fun e => by have := Option.some.inj e; have := HG.out; omega))
        have HF5 : Hid (But (fun k => k = g) w (u.setCell ⟨g, 64 + a * 8 + b, none⟩ (.int .i64 V))) := Lib.hid ((HF4.out.trans (But.of_below (Z := fun k => k = g) Fu)).setCell (p := ⟨g, 64 + a * 8 + b, none⟩) (Or.inl rfl) _)
        clear HCA Fu HT4 HM4 HB4 HF4
        generalize u.setCell ⟨g, 64 + a * 8 + b, none⟩ (.int .i64 V) = u5 at *
        try go_wp2_with fail
        refine hK.out _ _ ?_ (fun hHeld => ?_)
        · exact ⟨(two_cell HB5.out).1, (two_cell HB5.out).2.1⟩
        clear hK K
        try simp only [Act.put, List.setIfInBounds_toArray, List.set_cons_zero, List.set_cons_succ]
        refine wpAnyH_done (by kernel_rfl) ?_ _
        go_wp2_with fail
        refine bodyPost_end (results_none rfl _ _ _) rfl ?_
        exact ⟨rfl, HT5.out, by rw [← HVV.out]; exact HM5.out, HF5.out⟩
end
section
theorem zero81 : Try.zeroCells81.toList = List.replicate 64 (Value.slice none 0 0) ++ List.replicate 64 (Value.int .i64 0) := by kernel_rfl
theorem cells_at (w : World) (cs : Array Value) (t : TypeId) (i : Nat) (v : Value) (h : cs[i]? = some v) : (w.alloc (.cells cs t)).cell? ⟨w.heap.size, i, none⟩ = some v ∧ (w.alloc (.cells cs t)).frozen? ⟨w.heap.size, i, none⟩ = false := by
  have hh := World.alloc_heap_new w (.cells cs t)
  constructor
  · unfold World.cell?; rw [hh]; exact h
  · unfold World.frozen?; rw [hh]; rfl
theorem tab_new (w : World) : Tab (w.alloc (.cells Try.zeroCells81 81)) w.heap.size 64 (fun _ _ => 0) := fun a b ha hb => cells_at _ _ _ _ _ (by
  rw [← Array.getElem?_toList, zero81, List.getElem?_append_right (by simp; omega), List.getElem?_replicate_of_lt (by simp; omega)])
theorem tabL_new (w : World) (B : Nat) : TabL (w.alloc (.cells Try.zeroCells81 81)) w.heap.size 0 B (fun _ _ => []) := fun a b ha hb => by
  have h := cells_at w Try.zeroCells81 81 (0 + a * 8 + b) (.slice none 0 0) (by
    rw [← Array.getElem?_toList, zero81, List.getElem?_append_left (by simp; omega), List.getElem?_replicate_of_lt (by omega)])
  exact ⟨none, 0, h.1, h.2, World.ownsRow_nil _ _ _ _⟩
def wid (p : Nat × Nat) : Nat := p.2 - p.1
def nthS (l : List (Nat × Nat)) (i : Nat) : Nat × Nat := l[i]?.getD (0, 0)
def spOk (n : Nat) : Bool := (List.range (spansL n).length).all fun i =>
  let p := nthS (spansL n) i
  decide (p.1 ≤ p.2) && decide (p.2 < n) && (((spansL n).take i).all fun q => decide (wid q ≤ wid p) && decide (q ≠ p)) &&
  ((List.range (wid p)).all fun j => ((spansL n).take i).contains (p.1, p.1 + j) && ((spansL n).take i).contains (p.1 + j + 1, p.2))
theorem sp_ok : ∀ n, n ≤ 8 → spOk n = true := by decide +kernel
theorem sp_facts {n i : Nat} (hn : n ≤ 8) (hi : i < (spansL n).length) : (nthS (spansL n) i).1 ≤ (nthS (spansL n) i).2 ∧ (nthS (spansL n) i).2 < n ∧ (∀ q ∈ (spansL n).take i, wid q ≤ wid (nthS (spansL n) i) ∧ q ≠ nthS (spansL n) i) ∧
    (∀ k, (nthS (spansL n) i).1 ≤ k → k < (nthS (spansL n) i).2 → ((nthS (spansL n) i).1, k) ∈ (spansL n).take i ∧ (k + 1, (nthS (spansL n) i).2) ∈ (spansL n).take i) := by
  have h := List.all_eq_true.1 (sp_ok n hn) i (List.mem_range.2 hi)
  simp only [Bool.and_eq_true, decide_eq_true_eq, List.all_eq_true, List.contains_iff_mem] at h
  obtain ⟨⟨⟨h1, h2⟩, h3⟩, h4⟩ := h
  refine ⟨h1, h2, h3, fun k hk1 hk2 => ?_⟩
  have := h4 (k - (nthS (spansL n) i).1) (List.mem_range.2 (by unfold wid; omega))
  rwa [show (nthS (spansL n) i).1 + (k - (nthS (spansL n) i).1) = k by omega] at this
def memOk (n : Nat) : Bool := (List.range n).all fun b => (List.range (b + 1)).all fun a => (spansL n).contains (a, b)
theorem mem_ok : ∀ n, n ≤ 8 → memOk n = true := by decide +kernel
theorem mem_spans {n a b : Nat} (hn : n ≤ 8) (hab : a ≤ b) (hb : b < n) : (a, b) ∈ spansL n := by
  have h := List.all_eq_true.1 (List.all_eq_true.1 (mem_ok n hn) b (List.mem_range.2 hb)) a (List.mem_range.2 (by omega))
  exact List.contains_iff_mem.1 h
theorem take_nthS (l : List (Nat × Nat)) (i : Nat) (h : i < l.length) : l.take (i + 1) = l.take i ++ [nthS l i] := by
  rw [List.take_succ_eq_append_getElem h]
  unfold nthS
  rw [List.getElem?_eq_getElem h]
  rfl
/-- the trees' numbers are small. -/
def Bd (mn : Nat → Nat → Int) : Prop := ∀ i j, 0 ≤ mn i j ∧ mn i j ≤ (7 : Int) ^ (min (j - i) 7)
theorem pow_le7 : ∀ d, d ≤ 7 → (7 : Int) ^ d ≤ 1000000 := by decide
theorem Bd.le {mn : Nat → Nat → Int} (h : Bd mn) (i j : Nat) : 0 ≤ mn i j ∧ mn i j ≤ 1000000 := by
  have h1 := h i j
  have h2 := pow_le7 (min (j - i) 7) (Nat.min_le_right _ _)
  omega
theorem Bd.zero : Bd (fun _ _ => 0) := fun i j => ⟨Int.le_refl _, Int.pow_nonneg (by decide)⟩
theorem mulE_le {mn : Nat → Nat → Int} (h : Bd mn) {a b : Nat} (hb : b < 8) {k : Int} (h1 : (a : Int) ≤ k) (h2 : k < b) : 0 ≤ mulE mn a b k ∧ mulE mn a b k ≤ (7 : Int) ^ (b - a - 1) := by
  obtain ⟨K, rfl⟩ : ∃ K : Nat, k = K := ⟨k.toNat, by omega⟩
  unfold mulE
  have x1 := h a K
  have x2 := h (K + 1) b
  rw [Int.toNat_natCast]
  rw [Nat.min_eq_left (by omega)] at x1 x2
  refine ⟨Int.mul_nonneg x1.1 x2.1, ?_⟩
  have h3 := Int.mul_le_mul x1.2 x2.2 x2.1 (Int.pow_nonneg (by decide))
  rwa [← Int.pow_add, show K - a + (b - (K + 1)) = b - a - 1 by omega] at h3
theorem sum_le_len {L : List Int} {M : Int} (h : ∀ x ∈ L, 0 ≤ x ∧ x ≤ M) : 0 ≤ L.sum ∧ L.sum ≤ L.length * M := by
  induction L with
  | nil => simp
  | cons x L ih =>
    have h1 := ih fun y hy => h y (by simp [hy])
    have h2 := h x (by simp)
    rw [List.sum_cons, List.length_cons]
    have : ((L.length + 1 : Nat) : Int) * M = L.length * M + M := by rw [Int.natCast_add, Int.add_mul]; simp
    omega
theorem manyE_bd {mn : Nat → Nat → Int} (h : Bd mn) {a b : Nat} (hab : a ≤ b) (hb : b < 8) {L : List Int} (hL : ∀ l ∈ L, (a : Int) ≤ l ∧ l < b) (hl : L.length ≤ b - a) : 0 ≤ manyE mn a b L ∧ manyE mn a b L ≤ (7 : Int) ^ (min (b - a) 7) := by
  rw [Nat.min_eq_left (by omega)]
  unfold manyE
  by_cases e : a = b
  · subst e
    obtain rfl : L = [] := List.length_eq_zero_iff.1 (by omega)
    simp
  · rw [if_neg e]
    have h1 : ∀ x ∈ L.map (mulE mn a b), 0 ≤ x ∧ x ≤ (7 : Int) ^ (b - a - 1) := fun x hx => by
      obtain ⟨k, hk, rfl⟩ := List.mem_map.1 hx
      exact mulE_le h hb (hL k hk).1 (hL k hk).2
    have h2 := sum_le_len h1
    rw [List.length_map] at h2
    have h3 : (7 : Int) ^ (b - a) = 7 * (7 : Int) ^ (b - a - 1) := by
      rw [show b - a = (b - a - 1) + 1 by omega, Int.pow_succ, Int.mul_comm]; rfl
    have h4 : (0 : Int) ≤ (7 : Int) ^ (b - a - 1) := Int.pow_nonneg (by decide)
    have h5 : (L.length : Int) * (7 : Int) ^ (b - a - 1) ≤ 7 * (7 : Int) ^ (b - a - 1) := Int.mul_le_mul_of_nonneg_right (by omega) h4
    omega
theorem Bd.upd {mn : Nat → Nat → Int} (h : Bd mn) {a b : Nat} {x : Int} (hx : 0 ≤ x ∧ x ≤ (7 : Int) ^ (min (b - a) 7)) : Bd (upd mn a b x) := fun i j => by
  by_cases e : i = a ∧ j = b
  · obtain ⟨rfl, rfl⟩ := e; rw [upd_same]; exact hx
  · rw [upd_ne _ _ _ _ _ _ e]; exact h i j
theorem manyE_upd {mn : Nat → Nat → Int} {a b p q : Nat} {L : List Int} (hab : a ≤ b) (hL : ∀ l ∈ L, (a : Int) ≤ l ∧ l < b) (hw : b - a ≤ q - p) (x : Int) : manyE (upd mn p q x) a b L = manyE mn a b L := by
  unfold manyE
  congr 2
  refine List.map_congr_left fun k hk => ?_
  obtain ⟨h1, h2⟩ := hL k hk
  obtain ⟨K, rfl⟩ : ∃ K : Nat, k = K := ⟨k.toNat, by omega⟩
  unfold mulE
  rw [Int.toNat_natCast, upd_ne _ _ _ _ _ _ (by omega), upd_ne _ _ _ _ _ _ (by omega)]
/-- the spans P are done. -/
def DoneP (F : Nat → Nat → List Int) (mn : Nat → Nat → Int) (T : Nat × Nat → List Int) (P : List (Nat × Nat)) : Prop := ∀ q ∈ P, F q.1 q.2 = T q ∧ mn q.1 q.2 = manyE mn q.1 q.2 (T q)
theorem DoneP.step {F : Nat → Nat → List Int} {mn : Nat → Nat → Int} {T : Nat × Nat → List Int} {P : List (Nat × Nat)} (h : DoneP F mn T P) {p : Nat × Nat} (hp : p.1 ≤ p.2) (hT : ∀ q : Nat × Nat, q.1 ≤ q.2 → ∀ l ∈ T q, (q.1 : Int) ≤ l ∧ l < q.2) (hP : ∀ q ∈ P, q.1 ≤ q.2 ∧ wid q ≤ wid p ∧ q ≠ p) : DoneP (upd F p.1 p.2 (T p)) (upd mn p.1 p.2 (manyE mn p.1 p.2 (T p))) T (P ++ [p]) := fun q hq => by
  rcases List.mem_append.1 hq with hq | hq
  · obtain ⟨h1, h2⟩ := h q hq
    obtain ⟨h3, h4, h5⟩ := hP q hq
    have hne : ¬ (q.1 = p.1 ∧ q.2 = p.2) := fun e => h5 (Prod.ext e.1 e.2)
    rw [upd_ne _ _ _ _ _ _ hne, upd_ne _ _ _ _ _ _ hne, manyE_upd h3 (hT q h3) h4]
    exact ⟨h1, h2⟩
  · obtain rfl := List.mem_singleton.1 hq
    rw [upd_same, upd_same, manyE_upd hp (hT q hp) (Nat.le_refl _)]
    exact ⟨rfl, rfl⟩
theorem svP_mem {a n : Nat} {l : Int} (h : l ∈ svP a n) : (a : Int) ≤ l ∧ l < (a + n : Nat) := by
  unfold svP at h
  obtain ⟨j, hj, rfl⟩ := List.mem_map.1 h
  have := List.mem_range.1 hj
  omega
end
section
def svT (q : Nat × Nat) : List Int := svP q.1 (q.2 - q.1)
theorem svT_in (q : Nat × Nat) (h : q.1 ≤ q.2) : ∀ l ∈ svT q, (q.1 : Int) ≤ l ∧ l < q.2 := fun l hl => by
  have := svP_mem hl
  omega
theorem spans_cell {w : World} {B : Nat} {v : Value} {ss : List (Nat × Nat)} (h : OwnS w B v ss) {i : Nat} (hi : i < ss.length) : ∃ g cap, v = .slice (some ⟨g, 0, none⟩) ss.length cap ∧ B ≤ g ∧ w.cell? ⟨g, 0 + i * 2, none⟩ = some (.int .i64 ((nthS ss i).1 : Nat)) ∧ w.cell? ⟨g, 0 + i * 2 + 1, none⟩ = some (.int .i64 ((nthS ss i).2 : Nat)) := by
  rcases h.2 with ⟨_, h0⟩ | ⟨g, cap, cur, rfl, hb, hg, _⟩
  · omega
  · refine ⟨g, cap, rfl, hb, ?_, ?_⟩
    · rw [Nat.zero_add, World.ownsRow.cellAt h _ (by omega)]; exact (flatS_get ss i hi).1
    · rw [Nat.zero_add, World.ownsRow.cellAt h _ (by omega)]; exact (flatS_get ss i hi).2
set_option maxRecDepth 100000 in
set_option maxHeartbeats 4000000 in
theorem every_any (n : Nat) (hn1 : 1 ≤ n) (hn : n ≤ 8) (w : World) : Calls Try.prog 72 #[.int .i64 (n : Nat)] w fun e w' => e = .returned (.pointer (some ⟨w.heap.size, 0, none⟩)) ∧ Fut w w' ∧ ∃ F mn, TabL w' w.heap.size 0 (w.heap.size + 1) F ∧ Tab w' w.heap.size 64 mn ∧ Bd mn ∧ DoneP F mn svT (spansL n) := by
  obtain ⟨g, hg⟩ : ∃ g, g = w.heap.size := ⟨_, rfl⟩
  obtain ⟨W0, hW0⟩ : ∃ W0, W0 = w.alloc (.cells Try.zeroCells81 81) := ⟨_, rfl⟩
  have HF0 : Hid (Fut w W0) := Lib.hid (by rw [hW0]; exact Fut.alloc _ _)
  have HT0 : Hid (TabL W0 g 0 (g + 1) (fun _ _ => [])) := Lib.hid (by rw [hW0, hg]; exact tabL_new w _)
  have HM0 : Hid (Tab W0 g 64 (fun _ _ => 0)) := Lib.hid (by rw [hW0, hg]; exact tab_new w)
  have HZ0 : Hid (W0.heap.size = g + 1) := Lib.hid (by rw [hW0, World.size_alloc, hg])
  have HSP := Lib.hid (spansOf_any n hn W0)
  have HFC := Lib.hid (fun i hi => sp_facts (n := n) (i := i) hn hi)
  have HG := Lib.hid hg
  have HW := Lib.hid hW0
  clear hW0 hg
  go_enter Try.func72, Try.ntmps72
  go_upto_region 2 with fail
  rw [← HW.out, ← HG.out]
  clear HW
  go_wp2_with fail
  refine HSP.out.mono ?_
  rintro _ w1 ⟨v1, rfl, HO1, HF1⟩
  have HOS := Lib.hid HO1
  have HT1 := Lib.hid (HT0.out.fut HF1)
  have HM1 := Lib.hid (HM0.out.fut HF1)
  have HFw := Lib.hid (HF0.out.trans HF1)
  have HZ1 : Hid (g + 1 ≤ w1.heap.size) := Lib.hid (by have := RowKit.Below.size HF1; have := HZ0.out; omega)
  have hlen : (spansL n).length ≤ 100 := by have := spK_len n hn n 0; unfold spansL; omega
  obtain ⟨sa, sc, rfl⟩ := row_form HO1
  obtain ⟨ln, hln⟩ : ∃ ln, (spansL n).length = ln := ⟨_, rfl⟩
  have HLN := Lib.hid hln
  rw [hln] at hlen ⊢
  have hlx : (ln : Int) ≤ 100 := by omega
  clear HT0 HM0 HF0 HSP HO1 HF1 hln
  go_wp2_with fail
  go_loopw [11] (fun iv wr => ∃ (i : Nat), i ≤ ln ∧ iv = .int .i64 (i : Nat) ∧ Hid (But (fun k => k = g) w1 wr) ∧ Hid (∃ F mn, TabL wr g 0 (g + 1) F ∧ Tab wr g 64 mn ∧ Bd mn ∧ DoneP F mn svT ((spansL n).take i))) (fun iv _ => ln - (intOf iv).toNat)
  case atStart => exact ⟨0, by omega, rfl, Lib.hid (But.refl _ _), Lib.hid ⟨_, _, HT1.out, HM1.out, Bd.zero, fun q hq => absurd hq (by simp)⟩⟩
  case round =>
    obtain ⟨i, hi, rfl, HB, HJ⟩ := hrel
    by_cases hin : i < ln
    · have hix : (i : Int) < ln := by omega
      have hcc := spans_cell (row_but HOS.out HB.out (B := W0.heap.size) (fun k hk => by have := HZ0.out; omega)) (i := i) (by rw [HLN.out]; exact hin)
      obtain ⟨f1, f2, f3, _⟩ := HFC.out i (by rw [HLN.out]; exact hin)
      have HPP : Hid (∀ q ∈ (spansL n).take i, q.1 ≤ q.2 ∧ wid q ≤ wid (nthS (spansL n) i) ∧ q ≠ nthS (spansL n) i) := Lib.hid (fun q hq => by
        obtain ⟨j, hj, rfl⟩ := List.getElem_of_mem hq
        have hj2 : j < (spansL n).length := by rw [List.length_take] at hj; omega
        have hh := HFC.out j hj2
        have e : ((spansL n).take i)[j] = nthS (spansL n) j := by unfold nthS; rw [List.getElem_take, List.getElem?_eq_getElem hj2]; rfl
        rw [e] at hq ⊢
        exact ⟨hh.1, f3 _ hq⟩)
      have HTK : Hid ((spansL n).take (i + 1) = (spansL n).take i ++ [nthS (spansL n) i]) := Lib.hid (take_nthS _ _ (by rw [HLN.out]; exact hin))
      have HPE := Lib.hid (show nthS (spansL n) i = ((nthS (spansL n) i).1, (nthS (spansL n) i).2) from rfl)
      generalize hpp : nthS (spansL n) i = p at *
      obtain ⟨a, b⟩ := p
      simp only at f1 f2 hcc
      obtain ⟨rb, rc, erv, hrb, q0, q1⟩ := hcc
      obtain ⟨rfl, rfl⟩ : sa = some ⟨rb, 0, none⟩ ∧ sc = rc := by
        simp only [Value.slice.injEq] at erv
        exact ⟨erv.1, erv.2.2⟩
      have hb8 : b < 8 := by omega
      have hwi : IntKind.i64.wrap ((i : Int) + 1) = ((i + 1 : Nat) : Int) := by rw [IntWalk.i64_in _ ⟨by omega, by omega⟩]; omega
      clear erv f3 hpp HPE
      rw [Nat.zero_add] at q0 q1
      go_upto_region 5 with fail
      obtain ⟨F, mn, hT, hM, hBd, hD⟩ := HJ.out
      obtain ⟨H, hH⟩ : ∃ H, H = wr.heap.size := ⟨_, rfl⟩
      rw [← hH]
      have FA : Fut wr (wr.alloc (Obj.cells #[Value.int IntKind.i64 (a : Nat), Value.int IntKind.i64 (b : Nat)] 69)).drew := (Fut.alloc _ _).trans (below_drewN Fut.rfl 1)
      have HBX3 : Hid ((wr.alloc (Obj.cells #[Value.int IntKind.i64 (a : Nat), Value.int IntKind.i64 (b : Nat)] 69)).drew.heap[H]? = some (.cells #[.int .i64 (a : Nat), .int .i64 (b : Nat)] 69)) := Lib.hid (by rw [hH]; exact heap_fut (World.alloc_heap_new wr _) (below_drewN Fut.rfl 1))
      have HT3 := Lib.hid (hT.fut FA)
      have HM3 := Lib.hid (hM.fut FA)
      have HB3 : Hid (But (fun k => k = g) w1 (wr.alloc (Obj.cells #[Value.int IntKind.i64 (a : Nat), Value.int IntKind.i64 (b : Nat)] 69)).drew) := Lib.hid (HB.out.trans (But.of_below FA))
      have HZ3 : Hid (g + 1 ≤ (wr.alloc (Obj.cells #[Value.int IntKind.i64 (a : Nat), Value.int IntKind.i64 (b : Nat)] 69)).drew.heap.size ∧ g + 1 ≤ H) := Lib.hid (by have h1 := HB.out.size; have h2 := RowKit.Below.size FA; have h3 := HZ1.out; exact ⟨by omega, by omega⟩)
      have HBD := Lib.hid hBd
      have HD := Lib.hid hD
      have HSV := Lib.hid (fun W => sieves_any a b f1 (by omega) W)
      clear hT hM hBd hD HJ hH FA q0 q1 HB
      refine wp_region_held_drew (S := (fun w' => w'.cell? ⟨H, 0, none⟩ = some (.int .i64 (a : Nat)) ∧ w'.cell? ⟨H, 1, none⟩ = some (.int .i64 (b : Nat)))) (by kernel_rfl) ?_ (fun hHeld => ?_)
      · exact ⟨(two_cell HBX3.out).1, (two_cell HBX3.out).2.1⟩
      generalize (wr.alloc (Obj.cells #[Value.int IntKind.i64 (a : Nat), Value.int IntKind.i64 (b : Nat)] 69)).drew = u0 at *
      refine wpAnyH_take (i := 0) (oi := { dst := some 15, op := Op.move (Operand.tmp 3), type := 64, pos := "tree.go:48", after := #[], guard := none }) (v := ?_) rfl (by kernel_rfl) (by kernel_rfl) (by kernel_rfl) (fun _ _ _ h => h) (Or.inl ⟨by rfl, ?_⟩) (by assumption) ?_
      rotate_left
      · (intro w hSw; obtain ⟨s0, s1⟩ := hSw; go_simp <;> with_reducible rfl)
      try simp only [Act.put, List.setIfInBounds_toArray, List.set_cons_zero, List.set_cons_succ]
      refine wpAnyH_take (i := 1) (oi := { dst := some 16, op := Op.load 69 (Operand.tmp 5), type := 69, pos := "tree.go:48", after := #[], guard := none }) (v := ?_) rfl (by kernel_rfl) (by kernel_rfl) (by kernel_rfl) (fun _ _ _ h => h) (Or.inl ⟨by rfl, ?_⟩) (by assumption) ?_
      rotate_left
      · (intro w hSw; obtain ⟨s0, s1⟩ := hSw; go_simp <;> with_reducible rfl)
      try simp only [Act.put, List.setIfInBounds_toArray, List.set_cons_zero, List.set_cons_succ]
      refine wpAnyH_take (i := 2) (oi := { dst := some 17, op := Op.load 69 (Operand.tmp 5), type := 69, pos := "tree.go:48", after := #[], guard := none }) (v := ?_) rfl (by kernel_rfl) (by kernel_rfl) (by kernel_rfl) (fun _ _ _ h => h) (Or.inl ⟨by rfl, ?_⟩) (by assumption) ?_
      rotate_left
      · (intro w hSw; obtain ⟨s0, s1⟩ := hSw; go_simp <;> with_reducible rfl)
      try simp only [Act.put, List.setIfInBounds_toArray, List.set_cons_zero, List.set_cons_succ]
      refine wpAnyH_ready (rs := [3]) (by kernel_rfl) (by simp) ?_
      refine AllReadyH.cons (o := { dst := some 18, op := Op.call { callee := Callee.value (Operand.func 96), args := #[Operand.tmp 17], argTypes := #[69] }, type := 22, pos := "tree.go:48", after := #[{ on := 2, ground := Ground.data }], guard := none }) rfl (fun K hK => ?_) AllReadyH.nil
      go_simp
      go_at_call 96
      refine (HSV.out _).mono ?_
      rintro _ u1 ⟨v, rfl, hOv, Fu⟩
      obtain ⟨ta, tc, rfl, _⟩ := hOv.ints
      have HBX4 := Lib.hid (heap_fut HBX3.out Fu)
      have HB4 : Hid (But (fun k => k = g) w1 u1) := Lib.hid (HB3.out.trans (But.of_below Fu))
      have HCA := Lib.hid (add_any a b f1 hb8 ta tc (svP a (b - a)) (svT_in (a, b) f1) (by rw [svP_len]; omega) g (g + 1) (by omega) F mn (HBD.out.le) u1 (hOv.base HZ3.out.1) (HT3.out.fut Fu) (HM3.out.fut Fu))
      clear hOv Fu HBX3 HB3 HT3 HM3
      generalize hLL : svP a (b - a) = L at *
      try go_wp2_with fail
      refine hK.out _ _ ?_ (fun hHeld => ?_)
      · exact ⟨(two_cell HBX4.out).1, (two_cell HBX4.out).2.1⟩
      clear hK K
      try simp only [Act.put, List.setIfInBounds_toArray, List.set_cons_zero, List.set_cons_succ]
      refine wpAnyH_ready (rs := [4]) (by kernel_rfl) (by simp) ?_
      refine AllReadyH.cons (o := { dst := some 19, op := Op.call { callee := Callee.value (Operand.func 94), args := #[Operand.tmp 15, Operand.tmp 16, Operand.tmp 18], argTypes := #[64, 69, 22] }, type := 0, pos := "tree.go:48", after := #[{ on := 0, ground := Ground.data }, { on := 1, ground := Ground.data }, { on := 3, ground := Ground.data }, { on := 3, ground := Ground.chain }], guard := none }) rfl (fun K hK => ?_) AllReadyH.nil
      go_simp
      go_at_call 94
      refine HCA.out.mono ?_
      rintro _ u2 ⟨rfl, hT5, hM5, hB5⟩
      have HBX5 := Lib.hid (but_heap HBX4.out hB5 (by have := HZ3.out.2; omega))
      have HB5 : Hid (But (fun k => k = g) w1 u2) := Lib.hid (HB4.out.trans hB5)
      have HJ5 : Hid (∃ F mn, TabL u2 g 0 (g + 1) F ∧ Tab u2 g 64 mn ∧ Bd mn ∧ DoneP F mn svT ((spansL n).take (i + 1))) := Lib.hid (by
        subst hLL
        rw [HTK.out]
        exact ⟨_, _, hT5, hM5, HBD.out.upd (manyE_bd HBD.out f1 hb8 (svT_in (a, b) f1) (by rw [svP_len]; omega)), HD.out.step (p := (a, b)) f1 svT_in HPP.out⟩)
      clear hT5 hM5 hB5 HCA HBX4 HB4
      try go_wp2_with fail
      refine hK.out _ _ ?_ (fun hHeld => ?_)
      · exact ⟨(two_cell HBX5.out).1, (two_cell HBX5.out).2.1⟩
      clear hK K
      try simp only [Act.put, List.setIfInBounds_toArray, List.set_cons_zero, List.set_cons_succ]
      refine wpAnyH_done (by kernel_rfl) ?_ _
      go_wp2_with fail
      go_roundw
      case rel => first
        | exact ⟨i + 1, by omega, rfl, HB5, HJ5⟩
        | ((repeat apply Exists.intro); exact ⟨⟨i + 1, by omega, rfl, HB5, HJ5⟩, rfl⟩)
      case measure => simp [intOf]; omega
    · obtain rfl : i = ln := by omega
      have HE : Hid ((spansL n).take i = spansL n) := Lib.hid (by rw [← HLN.out, List.take_length])
      go_wp2_with fail
      go_ret
      obtain ⟨F, mn, h1, h2, h3, h4⟩ := HJ.out
      rw [HE.out] at h4
      have hge := HG.out
      have HFF : Fut w wr := ((But.of_below (Z := fun k => k = g) HFw.out).trans HB.out).below w.heap.size (Nat.le_refl _) (fun k hk => by omega)
      rw [← hge]
      exact ⟨rfl, HFF, F, mn, h1, h2, h3, h4⟩
end
section
def zero79A : Array Value := (List.replicate 64 (Value.int .i64 0)).toArray
theorem lit79 : (#[Value.int .i64 0, Value.int .i64 0, Value.int .i64 0, Value.int .i64 0, Value.int .i64 0, Value.int .i64 0, Value.int .i64 0, Value.int .i64 0, Value.int .i64 0, Value.int .i64 0, Value.int .i64 0, Value.int .i64 0, Value.int .i64 0, Value.int .i64 0, Value.int .i64 0, Value.int .i64 0, Value.int .i64 0, Value.int .i64 0, Value.int .i64 0, Value.int .i64 0, Value.int .i64 0, Value.int .i64 0, Value.int .i64 0, Value.int .i64 0, Value.int .i64 0, Value.int .i64 0, Value.int .i64 0, Value.int .i64 0, Value.int .i64 0, Value.int .i64 0, Value.int .i64 0, Value.int .i64 0, Value.int .i64 0, Value.int .i64 0, Value.int .i64 0, Value.int .i64 0, Value.int .i64 0, Value.int .i64 0, Value.int .i64 0, Value.int .i64 0, Value.int .i64 0, Value.int .i64 0, Value.int .i64 0, Value.int .i64 0, Value.int .i64 0, Value.int .i64 0, Value.int .i64 0, Value.int .i64 0, Value.int .i64 0, Value.int .i64 0, Value.int .i64 0, Value.int .i64 0, Value.int .i64 0, Value.int .i64 0, Value.int .i64 0, Value.int .i64 0, Value.int .i64 0, Value.int .i64 0, Value.int .i64 0, Value.int .i64 0, Value.int .i64 0, Value.int .i64 0, Value.int .i64 0, Value.int .i64 0] : Array Value) = zero79A := by rfl
theorem tab_new79 (w : World) : Tab (w.alloc (.cells zero79A 79)) w.heap.size 0 (fun _ _ => 0) := fun a b ha hb => cells_at _ _ _ _ _ (by
  rw [← Array.getElem?_toList]; unfold zero79A; rw [List.getElem?_replicate_of_lt (by omega)])
theorem bst_congr {G G' : Nat → Int} {a : Nat} : ∀ i, (∀ j, j < i → G (a + j) = G' (a + j)) → bst G a i = bst G' a i
  | 0, _ => rfl
  | i + 1, h => by
    rw [bst, bst, bst_congr i (fun j hj => h j (by omega)), h i (by omega)]
theorem bst_mem {G : Nat → Int} {a : Nat} : ∀ i, ∀ l ∈ (bst G a i).2, (a : Int) ≤ l ∧ l < (a + i : Nat)
  | 0, l, h => by simp [bst] at h
  | i + 1, l, h => by
    rw [bst] at h
    split at h
    · have : l = ((a + i : Nat) : Int) := by simpa using h
      omega
    · split at h
      · rcases List.mem_append.1 h with q | q
        · have := bst_mem i l q; omega
        · have : l = ((a + i : Nat) : Int) := by simpa using q
          omega
      · have := bst_mem i l h; omega
theorem bst_val {G : Nat → Int} {a : Nat} : ∀ i, 0 < i → ∃ j, j < i ∧ (bst G a i).1 = G (a + j)
  | i + 1, _ => by
    rw [bst]
    split
    · exact ⟨i, by omega, rfl⟩
    · rename_i hne
      have hi : 0 < i := by
        rcases Nat.eq_zero_or_pos i with q | q
        · subst q; exact absurd (.inl rfl) hne
        · exact q
      obtain ⟨j, hj, e⟩ := bst_val i hi
      split
      · exact ⟨j, by omega, e⟩
      · exact ⟨j, by omega, e⟩
/-- the loads of a span. -/
def spS (zs : List Int) (q : Nat × Nat) : Int := ((zs.take (q.2 + 1)).drop q.1).sum
def bT (zs : List Int) (f : Nat → Nat → Int) (q : Nat × Nat) : Int × List Int := bst (qG (spS zs q) f q.1 q.2) q.1 (q.2 - q.1)
theorem bT_in (zs : List Int) (f : Nat → Nat → Int) (q : Nat × Nat) (h : q.1 ≤ q.2) : ∀ l ∈ (bT zs f q).2, (q.1 : Int) ≤ l ∧ l < q.2 := fun l hl => by
  have := bst_mem _ l hl
  omega
theorem bT_len (zs : List Int) (f : Nat → Nat → Int) (q : Nat × Nat) : (bT zs f q).2.length ≤ q.2 - q.1 := bst_len _ _ _
theorem bT_upd (zs : List Int) (f : Nat → Nat → Int) (p q : Nat × Nat) (x : Int) (_hq : q.1 ≤ q.2) (hw : wid q ≤ wid p) : bT zs (upd f p.1 p.2 x) q = bT zs f q := by
  unfold bT
  unfold wid at hw
  refine bst_congr _ fun j hj => ?_
  unfold qG
  rw [upd_ne _ _ _ _ _ _ (by omega), upd_ne _ _ _ _ _ _ (by omega)]
/-- the questions are small. -/
def Bf (f : Nat → Nat → Int) : Prop := ∀ i j, 0 ≤ f i j ∧ f i j ≤ 1000000000 * ((min (j - i) 7 : Nat) : Int)
theorem Bf.le {f : Nat → Nat → Int} (h : Bf f) (i j : Nat) : 0 ≤ f i j ∧ f i j ≤ 1000000000000000 := by
  have h1 := h i j
  have h2 : min (j - i) 7 ≤ 7 := Nat.min_le_right _ _
  omega
theorem Bf.upd {f : Nat → Nat → Int} (h : Bf f) {a b : Nat} {x : Int} (hx : 0 ≤ x ∧ x ≤ 1000000000 * ((min (b - a) 7 : Nat) : Int)) : Bf (upd f a b x) := fun i j => by
  by_cases e : i = a ∧ j = b
  · obtain ⟨rfl, rfl⟩ := e; rw [upd_same]; exact hx
  · rw [upd_ne _ _ _ _ _ _ e]; exact h i j
theorem spS_bd {zs : List Int} (hz : ∀ z ∈ zs, 0 ≤ z ∧ z ≤ 1000000) (hl : zs.length ≤ 1000) (q : Nat × Nat) : 0 ≤ spS zs q ∧ spS zs q ≤ 1000000000 :=
  sum_le (fun z hm => hz z (List.mem_of_mem_take (List.mem_of_mem_drop hm))) (by rw [List.length_drop, List.length_take]; omega)
theorem bT_bd {zs : List Int} (hz : ∀ z ∈ zs, 0 ≤ z ∧ z ≤ 1000000) (hl : zs.length ≤ 1000) {f : Nat → Nat → Int} (h : Bf f) {q : Nat × Nat} (hq : q.1 ≤ q.2) (hb : q.2 < 8) : 0 ≤ (bT zs f q).1 ∧ (bT zs f q).1 ≤ 1000000000 * ((min (q.2 - q.1) 7 : Nat) : Int) := by
  unfold bT
  rcases Nat.eq_zero_or_pos (q.2 - q.1) with e | e
  · rw [e]; simp [bst]
  · obtain ⟨j, hj, e2⟩ := bst_val (G := qG (spS zs q) f q.1 q.2) (a := q.1) _ e
    rw [e2]
    unfold qG
    have h1 := h q.1 (q.1 + j)
    have h2 := h (q.1 + j + 1) q.2
    have h3 := spS_bd hz hl q
    rw [Nat.min_eq_left (by omega)] at h1 h2 ⊢
    omega
/-- the spans P are done, with their questions. -/
def DoneB (zs : List Int) (F : Nat → Nat → List Int) (mn f : Nat → Nat → Int) (P : List (Nat × Nat)) : Prop := ∀ q ∈ P, f q.1 q.2 = (bT zs f q).1 ∧ F q.1 q.2 = (bT zs f q).2 ∧ mn q.1 q.2 = manyE mn q.1 q.2 (bT zs f q).2
theorem DoneB.step {zs : List Int} {F : Nat → Nat → List Int} {mn f : Nat → Nat → Int} {P : List (Nat × Nat)} (h : DoneB zs F mn f P) {p : Nat × Nat} (hp : p.1 ≤ p.2) (hP : ∀ q ∈ P, q.1 ≤ q.2 ∧ wid q ≤ wid p ∧ q ≠ p) : DoneB zs (upd F p.1 p.2 (bT zs f p).2) (upd mn p.1 p.2 (manyE mn p.1 p.2 (bT zs f p).2)) (upd f p.1 p.2 (bT zs f p).1) (P ++ [p]) := fun q hq => by
  rcases List.mem_append.1 hq with hq | hq
  · obtain ⟨h0, h1, h2⟩ := h q hq
    obtain ⟨h3, h4, h5⟩ := hP q hq
    have hne : ¬ (q.1 = p.1 ∧ q.2 = p.2) := fun e => h5 (Prod.ext e.1 e.2)
    rw [upd_ne _ _ _ _ _ _ hne, upd_ne _ _ _ _ _ _ hne, upd_ne _ _ _ _ _ _ hne, bT_upd _ _ _ _ _ h3 h4, manyE_upd h3 (bT_in zs f q h3) h4]
    exact ⟨h0, h1, h2⟩
  · obtain rfl := List.mem_singleton.1 hq
    rw [bT_upd _ _ _ _ _ hp (Nat.le_refl _), upd_same, upd_same, upd_same, manyE_upd hp (bT_in zs f q hp) (Nat.le_refl _)]
    exact ⟨rfl, rfl, rfl⟩
end
section
set_option maxRecDepth 100000 in
set_option maxHeartbeats 4000000 in
theorem best_any (lb lo cap : Nat) (zs : List Int) (hn1 : 1 ≤ zs.length) (hn : zs.length ≤ 8) (hlc : zs.length ≤ cap) (hz : ∀ z ∈ zs, 0 ≤ z ∧ z ≤ 1000000) (w : World) (hA : IntsAt w (some ⟨lb, lo, none⟩) zs) :
    Calls Try.prog 63 #[.slice (some ⟨lb, lo, none⟩) zs.length cap] w fun e w' => ∃ F mn f, e = .returned (.tuple #[.int .i64 (f 0 (zs.length - 1)), .pointer (some ⟨w.heap.size + 1, 0, none⟩)]) ∧ Fut w w' ∧ TabL w' (w.heap.size + 1) 0 (w.heap.size + 2) F ∧ Tab w' (w.heap.size + 1) 64 mn ∧ Bd mn ∧ Bf f ∧ DoneB zs F mn f (spansL zs.length) := by
  obtain ⟨g, hg⟩ : ∃ g, g = w.heap.size := ⟨_, rfl⟩
  obtain ⟨Wa, hWa⟩ : ∃ Wa, Wa = w.alloc (.cells zero79A 79) := ⟨_, rfl⟩
  have hza : Wa.heap.size = g + 1 := by rw [hWa, World.size_alloc, hg]
  obtain ⟨W0, hW0⟩ : ∃ W0, W0 = Wa.alloc (.cells Try.zeroCells81 81) := ⟨_, rfl⟩
  have FA1 : Fut w Wa := by rw [hWa]; exact Fut.alloc _ _
  have FA2 : Fut Wa W0 := by rw [hW0]; exact Fut.alloc _ _
  have HF0 : Hid (Fut w W0) := Lib.hid (FA1.trans FA2)
  have HT0 : Hid (TabL W0 (g + 1) 0 (g + 2) (fun _ _ => [])) := Lib.hid (by rw [hW0, ← hza]; exact tabL_new Wa _)
  have HM0 : Hid (Tab W0 (g + 1) 64 (fun _ _ => 0)) := Lib.hid (by rw [hW0, ← hza]; exact tab_new Wa)
  have HL0 : Hid (Tab W0 g 0 (fun _ _ => 0)) := Lib.hid (Tab.fut (by rw [hWa, hg]; exact tab_new79 w) FA2)
  have HZ0 : Hid (W0.heap.size = g + 2) := Lib.hid (by rw [hW0, World.size_alloc, hza])
  obtain ⟨n, hnn⟩ : ∃ n, zs.length = n := ⟨_, rfl⟩
  have HSP := Lib.hid (spansOf_any n (by omega) W0)
  have HFC := Lib.hid (fun i hi => sp_facts (n := n) (i := i) (by omega) hi)
  have HIN := Lib.hid (fun W (k : Fut w W) => hA.fut k)
  have HZZ := Lib.hid hz
  have HNN := Lib.hid hnn
  have HG := Lib.hid hg
  have HW : Hid (W0 = (w.alloc (.cells zero79A 79)).alloc (.cells Try.zeroCells81 81)) := Lib.hid (by rw [hW0, hWa])
  have HGL : Hid (lb < g) := Lib.hid (by
    obtain ⟨b, o, e, h, _⟩ := hA 0 (by omega)
    simp at e
    omega)
  have hn8 : n ≤ 8 := by omega
  have hn81 : 1 ≤ n := by omega
  have hnc : n ≤ cap := by omega
  clear hW0 hg hA hz hWa hza FA1 FA2
  go_enter Try.func63, Try.ntmps63
  go_upto_region 3 with fail
  rw [lit79, ← HW.out, ← HG.out]
  clear HW
  rw [hnn]
  clear hn1 hn hlc hnn
  go_wp2_with fail
  refine HSP.out.mono ?_
  rintro _ w1 ⟨v1, rfl, HO1, HF1⟩
  have HOS := Lib.hid HO1
  have HT1 := Lib.hid (HT0.out.fut HF1)
  have HM1 := Lib.hid (HM0.out.fut HF1)
  have HL1 := Lib.hid (HL0.out.fut HF1)
  have HFw := Lib.hid (HF0.out.trans HF1)
  have HZ1 : Hid (g + 2 ≤ w1.heap.size) := Lib.hid (by have := RowKit.Below.size HF1; have := HZ0.out; omega)
  have hlen : (spansL n).length ≤ 100 := by have := spK_len n hn8 n 0; unfold spansL; omega
  obtain ⟨sa, sc, rfl⟩ := row_form HO1
  obtain ⟨ln, hln⟩ : ∃ ln, (spansL n).length = ln := ⟨_, rfl⟩
  have HLN := Lib.hid hln
  rw [hln] at hlen ⊢
  have hlx : (ln : Int) ≤ 100 := by omega
  clear HT0 HM0 HL0 HF0 HSP HO1 HF1 hln
  go_wp2_with fail
  go_loopw [16] (fun iv wr => ∃ (i : Nat), i ≤ ln ∧ iv = .int .i64 (i : Nat) ∧ Hid (But (fun k => k = g ∨ k = g + 1) w1 wr) ∧ Hid (∃ F mn f, TabL wr (g + 1) 0 (g + 2) F ∧ Tab wr (g + 1) 64 mn ∧ Tab wr g 0 f ∧ Bd mn ∧ Bf f ∧ DoneB zs F mn f ((spansL n).take i))) (fun iv _ => ln - (intOf iv).toNat)
  case atStart => exact ⟨0, by omega, rfl, Lib.hid (But.refl _ _), Lib.hid ⟨_, _, _, HT1.out, HM1.out, HL1.out, Bd.zero, fun i j => ⟨Int.le_refl _, by show (0 : Int) ≤ _; omega⟩, fun q hq => absurd hq (by simp)⟩⟩
  case round =>
    obtain ⟨i, hi, rfl, HB, HJ⟩ := hrel
    by_cases hin : i < ln
    · have hix : (i : Int) < ln := by omega
      have hcc := spans_cell (row_but HOS.out HB.out (B := W0.heap.size) (fun k hk => by have := HZ0.out; omega)) (i := i) (by rw [HLN.out]; exact hin)
      obtain ⟨f1, f2, f3, _⟩ := HFC.out i (by rw [HLN.out]; exact hin)
      have HPP : Hid (∀ q ∈ (spansL n).take i, q.1 ≤ q.2 ∧ wid q ≤ wid (nthS (spansL n) i) ∧ q ≠ nthS (spansL n) i) := Lib.hid (fun q hq => by
        obtain ⟨j, hj, rfl⟩ := List.getElem_of_mem hq
        have hj2 : j < (spansL n).length := by rw [List.length_take] at hj; omega
        have hh := HFC.out j hj2
        have e : ((spansL n).take i)[j] = nthS (spansL n) j := by unfold nthS; rw [List.getElem_take, List.getElem?_eq_getElem hj2]; rfl
        rw [e] at hq ⊢
        exact ⟨hh.1, f3 _ hq⟩)
      have HTK : Hid ((spansL n).take (i + 1) = (spansL n).take i ++ [nthS (spansL n) i]) := Lib.hid (take_nthS _ _ (by rw [HLN.out]; exact hin))
      generalize hpp : nthS (spansL n) i = p at *
      obtain ⟨a, b⟩ := p
      simp only at f1 f2 hcc
      obtain ⟨rb, rc, erv, hrb, q0, q1⟩ := hcc
      obtain ⟨rfl, rfl⟩ : sa = some ⟨rb, 0, none⟩ ∧ sc = rc := by
        simp only [Value.slice.injEq] at erv
        exact ⟨erv.1, erv.2.2⟩
      have hb8 : b < 8 := by omega
      have hwi : IntKind.i64.wrap ((i : Int) + 1) = ((i + 1 : Nat) : Int) := by rw [IntWalk.i64_in _ ⟨by omega, by omega⟩]; omega
      clear erv f3 hpp
      rw [Nat.zero_add] at q0 q1
      go_upto_region 6 with fail
      obtain ⟨F, mn, f, hT, hM, hLt, hBd, hBf, hD⟩ := HJ.out
      obtain ⟨H, hH⟩ : ∃ H, H = wr.heap.size := ⟨_, rfl⟩
      rw [← hH]
      obtain ⟨u0, hu0⟩ : ∃ u0, u0 = wr.alloc (Obj.cells #[Value.int IntKind.i64 (a : Nat), Value.int IntKind.i64 (b : Nat)] 69) := ⟨_, rfl⟩
      rw [← hu0]
      have FA : Fut wr u0 := by rw [hu0]; exact Fut.alloc _ _
      have HBX3 : Hid (u0.heap[H]? = some (.cells #[.int .i64 (a : Nat), .int .i64 (b : Nat)] 69)) := Lib.hid (by rw [hH, hu0]; exact World.alloc_heap_new wr _)
      have HT3 := Lib.hid (hT.fut FA)
      have HM3 := Lib.hid (hM.fut FA)
      have HL3 := Lib.hid (hLt.fut FA)
      have HB3 : Hid (But (fun k => k = g ∨ k = g + 1) w1 u0) := Lib.hid (HB.out.trans (But.of_below FA))
      have HZ3 : Hid (g + 2 ≤ u0.heap.size ∧ g + 2 ≤ H) := Lib.hid (by have h1 := HB.out.size; have h2 := RowKit.Below.size FA; have h3 := HZ1.out; exact ⟨by omega, by omega⟩)
      have HBD := Lib.hid hBd
      have HBF := Lib.hid hBf
      have HD := Lib.hid hD
      have hIu : IntsAt u0 (some ⟨lb, lo, none⟩) zs := fun j hj => by
        obtain ⟨b', o', e, h1, h2⟩ := HIN.out w1 HFw.out j hj
        simp only [Option.some.injEq, Addr.mk.injEq, and_true] at e
        obtain ⟨rfl, rfl⟩ := e
        have hlt := HGL.out
        refine ⟨lb, lo, rfl, Nat.lt_of_lt_of_le h1 HB3.out.size, ?_⟩
        exact (HB3.out.cell (p := ⟨lb, lo + j, none⟩) h1 (by simp; omega)).trans h2
      have HCB := Lib.hid (bestTops_any a b f1 hb8 lb lo cap zs (by rw [HNN.out]; omega) (by rw [HNN.out]; exact hnc) (by rw [HNN.out]; omega) HZZ.out g f (HBF.out.le) u0 hIu HL3.out)
      obtain ⟨c0, c1, _⟩ := two_cell HBX3.out
      rw [HNN.out] at HCB
      clear hT hM hLt hBd hBf hD HJ hH FA q0 q1 HB hu0 hIu
      go_wp2_with fail
      refine HCB.out.mono ?_
      rintro _ u1 ⟨v, rfl, hOv, Fu⟩
      obtain ⟨bt, hbt⟩ : ∃ bt, bt = bT zs f (a, b) := ⟨_, rfl⟩
      have ebt : bst (qG ((zs.take (b + 1)).drop a).sum f a b) a (b - a) = bt := by rw [hbt]; rfl
      rw [ebt] at hOv ⊢
      obtain ⟨q, tops⟩ := bt
      simp only at hOv ⊢
      have HBT := Lib.hid hbt.symm
      have HBX4 := Lib.hid (heap_fut HBX3.out Fu)
      have HB4 : Hid (But (fun k => k = g ∨ k = g + 1) w1 u1) := Lib.hid (HB3.out.trans (But.of_below Fu))
      have HT4 := Lib.hid (HT3.out.fut Fu)
      have HM4 := Lib.hid (HM3.out.fut Fu)
      have HL4 := Lib.hid (HL3.out.fut Fu)
      obtain ⟨ta, tc, rfl, _⟩ := hOv.ints
      have HOv := Lib.hid (hOv.base HZ3.out.1)
      clear hbt ebt hOv Fu HBX3 HB3 HT3 HM3 HL3 c0 c1 HCB
      obtain ⟨c0, c1, _⟩ := two_cell HBX4.out
      obtain ⟨q0, q1⟩ := HL4.out a b (by omega) hb8
      have HCA := Lib.hid (set_any g 0 a b (by omega) hb8 q _ u1 q0 q1)
      clear q0 q1
      go_wp2_with fail
      refine HCA.out.mono ?_
      rintro _ _ ⟨rfl, u, Fu, rfl⟩
      have HL5 := Lib.hid ((HL4.out.fut Fu).set a b (by omega) hb8 q)
      have HT5 := Lib.hid ((HT4.out.fut Fu).far (by omega) (.int .i64 q) (g2 := g) (p := 0 + a * 8 + b) (.inl (by omega)))
      have HM5 := Lib.hid ((HM4.out.fut Fu).far (.int .i64 q) (g2 := g) (p := 0 + a * 8 + b) (.inl (by omega)))
      have HBX5 := Lib.hid (heap_kept (heap_fut HBX4.out Fu) (set_grown u g (0 + a * 8 + b) (.int .i64 q)) (fun e => by have := Option.some.inj e; have := HZ3.out.2; omega))
      have HB5 : Hid (But (fun k => k = g ∨ k = g + 1) w1 (u.setCell ⟨g, 0 + a * 8 + b, none⟩ (.int .i64 q))) := Lib.hid ((HB4.out.trans (But.of_below Fu)).setCell (p := ⟨g, 0 + a * 8 + b, none⟩) (Or.inl (Or.inl rfl)) _)
      have HOv5 := Lib.hid ((HOv.out.fut Fu).kept (set_grown u g (0 + a * 8 + b) (.int .i64 q)) (own_ge (HOv.out.fut Fu) (by omega)))
      clear HCA Fu HT4 HM4 HL4 HBX4 HB4 HOv c0 c1
      generalize u.setCell ⟨g, 0 + a * 8 + b, none⟩ (.int .i64 q) = u2 at *
      obtain ⟨c0, c1, _⟩ := two_cell HBX5.out
      have hin2 : ∀ l ∈ tops, (a : Int) ≤ l ∧ l < b := fun l hl => bT_in zs f (a, b) f1 l (by rw [HBT.out]; exact hl)
      have hln2 : tops.length ≤ b - a := by have h := bT_len zs f (a, b); rw [HBT.out] at h; exact h
      have HCD := Lib.hid (add_any a b f1 hb8 ta tc tops hin2 (by omega) (g + 1) (g + 2) (by omega) F mn (HBD.out.le) u2 HOv5.out HT5.out HM5.out)
      have HIN2 := Lib.hid (And.intro hin2 hln2)
      clear hin2 hln2
      go_wp2_with fail
      refine HCD.out.mono ?_
      rintro _ u3 ⟨rfl, hT, hM, hB⟩
      have HB6 : Hid (But (fun k => k = g ∨ k = g + 1) w1 u3) := Lib.hid (HB5.out.trans (hB.mono (fun k _ hk => .inr hk)))
      have HL6 : Hid (Tab u3 g 0 (upd f a b q)) := Lib.hid (fun i j hi hj => by
        obtain ⟨h1, h2⟩ := HL5.out i j hi hj
        have hl : g < u2.heap.size := World.block_lt_of_cell? _ _ h1
        have e := hB.block g hl (by omega)
        exact ⟨(World.cell?_of_block (a := ⟨g, 0 + i * 8 + j, none⟩) e).trans h1, (World.frozen?_of_block (a := ⟨g, 0 + i * 8 + j, none⟩) e).trans h2⟩)
      have HJ6 : Hid (∃ F mn f, TabL u3 (g + 1) 0 (g + 2) F ∧ Tab u3 (g + 1) 64 mn ∧ Tab u3 g 0 f ∧ Bd mn ∧ Bf f ∧ DoneB zs F mn f ((spansL n).take (i + 1))) := Lib.hid (by
        rw [HTK.out]
        have hst := HD.out.step (p := (a, b)) f1 HPP.out
        rw [HBT.out] at hst
        have hbb := bT_bd HZZ.out (by rw [HNN.out]; omega) HBF.out (q := (a, b)) f1 hb8
        rw [HBT.out] at hbb
        exact ⟨_, _, _, hT, hM, HL6.out, HBD.out.upd (manyE_bd HBD.out f1 hb8 HIN2.out.1 HIN2.out.2), HBF.out.upd hbb, hst⟩)
      clear hT hM hB c0 c1 HCD HL5 HT5 HM5 HBX5 HB5 HOv5 HBD HBF HD
      go_wp2_with fail
      go_roundw
      case rel => first
        | exact ⟨i + 1, by omega, rfl, HB6, HJ6⟩
        | ((repeat apply Exists.intro); exact ⟨⟨i + 1, by omega, rfl, HB6, HJ6⟩, rfl⟩)
      case measure => simp [intOf]; omega
    · obtain rfl : i = ln := by omega
      have HE : Hid ((spansL n).take i = spansL n) := Lib.hid (by rw [← HLN.out, List.take_length])
      obtain ⟨F, mn, f, h1, h2, h3, h4, h5, h6⟩ := HJ.out
      rw [HE.out] at h6
      obtain ⟨n1, hn1⟩ : ∃ n1, n1 = n - 1 := ⟨_, rfl⟩
      have HAL : Hid (∀ W, Calls Try.prog 65 #[.int .i64 (n : Nat)] W fun e w' => e = .returned (spV 0 (n1 : Nat)) ∧ Fut W w') := Lib.hid (fun W => by
        have h := allOf_any n (by omega) W
        rw [show ((n : Nat) : Int) - 1 = ((n1 : Nat) : Int) by omega] at h
        exact h)
      have HOF : Hid (∀ W, Fut wr W → Calls Try.prog 67 #[.pointer (some ⟨g, 0, none⟩), spV 0 (n1 : Nat)] W fun e w' => e = .returned (.int .i64 (f 0 n1)) ∧ Fut W w') := Lib.hid (fun W k => of_any g 0 0 n1 (by omega) (by omega) (f 0 n1) W (h3.fut k 0 n1 (by omega) (by omega)).1)
      have HN1 := Lib.hid hn1
      have HRES := Lib.hid (And.intro h1 (And.intro h2 (And.intro h4 (And.intro h5 h6))))
      clear h1 h2 h3 h4 h5 h6 hn1 HJ
      go_wp2_with fail
      refine (HAL.out _).mono ?_
      rintro _ w5 ⟨rfl, F5⟩
      go_wp2_with fail
      refine (HOF.out _ F5).mono ?_
      rintro _ w6 ⟨rfl, F6⟩
      go_wp2_with fail
      go_ret2
      have hge := HG.out
      have F56 : Fut wr w6 := F5.trans F6
      have HFF : Fut w wr := ((But.of_below (Z := fun k => k = g ∨ k = g + 1) HFw.out).trans HB.out).below w.heap.size (Nat.le_refl _) (fun k hk => by omega)
      obtain ⟨h1, h2, h4, h5, h6⟩ := HRES.out
      refine ⟨F, mn, f, ?_, HFF.trans F56, ?_, ?_, h4, h5, ?_⟩
      · rw [HNN.out, ← HN1.out, ← hge]; rfl
      · rw [← hge]; exact h1.fut F56
      · rw [← hge]; exact h2.fut F56
      · rw [HNN.out]; exact h6
end
section
/-- the list of the tree with a number, by the tables. -/
def goI (mn : Nat → Nat → Int) (k : Nat → Nat → Int → List Int) (a b : Nat) : List Int → Int → List Int
  | [], _ => []
  | t :: ts, q => if q < mn a t.toNat * mn (t.toNat + 1) b then t :: (k a t.toNat (q / mn (t.toNat + 1) b) ++ k (t.toNat + 1) b (q % mn (t.toNat + 1) b)) else goI mn k a b ts (q - mn a t.toNat * mn (t.toNat + 1) b)
def lsI (F : Nat → Nat → List Int) (mn : Nat → Nat → Int) : Nat → Nat → Nat → Int → List Int
  | 0, _, _, _ => []
  | d + 1, a, b, q => goI mn (lsI F mn d) a b (F a b) q
theorem goI_len (mn : Nat → Nat → Int) (k : Nat → Nat → Int → List Int) (a b : Nat) (hk : ∀ K : Nat, a ≤ K → K < b → ∀ q, (k a K q).length ≤ K - a ∧ (k (K + 1) b q).length ≤ b - (K + 1)) : ∀ (ts : List Int), (∀ t ∈ ts, (a : Int) ≤ t ∧ t < b) → ∀ q, (goI mn k a b ts q).length ≤ b - a
  | [], _, q => by rw [goI]; simp
  | t :: ts, h, q => by
    rw [goI]
    split
    · obtain ⟨h1, h2⟩ := h t (by simp)
      obtain ⟨K, rfl⟩ : ∃ K : Nat, t = K := ⟨t.toNat, by omega⟩
      rw [Int.toNat_natCast]
      have h3 := hk K (by omega) (by omega)
      have h4 := (h3 (q / mn (K + 1) b)).1
      have h5 := (h3 (q % mn (K + 1) b)).2
      rw [List.length_cons, List.length_append]
      omega
    · exact goI_len mn k a b hk ts (fun t ht => h t (by simp [ht])) _
theorem lsI_len {F : Nat → Nat → List Int} (mn : Nat → Nat → Int) {n : Nat} (hF : ∀ a b, a ≤ b → b < n → ∀ l ∈ F a b, (a : Int) ≤ l ∧ l < b) : ∀ d a b, a ≤ b → b < n → ∀ q, (lsI F mn d a b q).length ≤ b - a
  | 0, a, b, _, _, q => by rw [lsI]; simp
  | d + 1, a, b, hab, hb, q => by
    rw [lsI]
    exact goI_len mn _ a b (fun K h1 h2 q => ⟨lsI_len mn hF d a K h1 (by omega) q, lsI_len mn hF d (K + 1) b (by omega) hb q⟩) _ (hF a b hab hb) q
theorem goI_drop {mn : Nat → Nat → Int} {k : Nat → Nat → Int → List Int} {a b : Nat} {L : List Int} {i : Nat} (hi : i < L.length) {K K1 : Nat} (hK : (K : Int) = nth L i) (hK1 : K1 = K + 1) (q : Int) :
    goI mn k a b (L.drop i) q = if q < mn a K * mn K1 b then (K : Int) :: (k a K (q / mn K1 b) ++ k K1 b (q % mn K1 b)) else goI mn k a b (L.drop (i + 1)) (q - mn a K * mn K1 b) := by
  rw [nth_drop L i hi, goI, ← hK, hK1, Int.toNat_natCast]
theorem three_lists {w : World} {s t : Nat} {x : Int} {l7 l13 : Option Addr} {c7 c13 : Nat} {X Y : List Int} (h0 : w.cell? ⟨t, 0, none⟩ = some (.slice (some ⟨s, 0, none⟩) 1 1)) (h1 : w.cell? ⟨t, 1, none⟩ = some (.slice l7 X.length c7)) (h2 : w.cell? ⟨t, 2, none⟩ = some (.slice l13 Y.length c13)) (hs : w.cell? ⟨s, 0, none⟩ = some (.int .i64 x)) (hX : IntsAt w l7 X) (hY : IntsAt w l13 Y) : LstAt w (some ⟨t, 0, none⟩) [[x], X, Y] := fun j hj => by
  have ht : t < w.heap.size := World.block_lt_of_cell? _ _ h0
  match j, hj with
  | 0, _ => exact ⟨t, 0, _, _, rfl, ht, h0, fun i hi => by
      have : i = 0 := by simp [lth_eq] at hi; omega
      subst this
      exact ⟨s, 0, rfl, World.block_lt_of_cell? _ _ hs, hs⟩⟩
  | 1, _ => exact ⟨t, 0, _, _, rfl, ht, h1, hX⟩
  | 2, _ => exact ⟨t, 0, _, _, rfl, ht, h2, hY⟩
end
end Go.Proofs.Ytjapconhehdcjaa
