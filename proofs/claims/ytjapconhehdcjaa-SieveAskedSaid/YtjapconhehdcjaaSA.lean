/- spans: allOf isOne isDividedBy of set parts -/
import Derived.Test.YtjapconhehdcjaaLC
namespace Go.Proofs.Ytjapconhehdcjaa
open Go.RowKit Go.Sort
abbrev spV (a b : Int) : Value := .agg #[.int .i64 a, .int .i64 b]
theorem results_one_cell {fn : Func} {p : Tmp} {ty : TypeId} (h : fn.results = #[.cell p ty]) (tmps : Array Value) (P : Program) (w : World) :
    (results fn tmps).run P w = ((asAddr (tmps.getD p undef)).run P w).andThen fun a w₁ => (loadVar ty a).run P w₁ := by
  simp only [results, h]
  simp [Sem.run_bind, Result.andThen]
theorem results_two_cells {fn : Func} {p q : Tmp} {ty tz : TypeId} (h : fn.results = #[.cell p ty, .cell q tz]) (tmps : Array Value) (P : Program) (w : World) :
    (results fn tmps).run P w = ((asAddr (tmps.getD p undef)).run P w).andThen fun a w₁ => ((loadVar ty a).run P w₁).andThen fun v w₂ => ((asAddr (tmps.getD q undef)).run P w₂).andThen fun b w₃ => ((loadVar tz b).run P w₃).andThen fun y w₄ => .ok (.tuple #[v, y]) w₄ := by
  simp only [results, h]
  simp [Sem.run_bind, Result.andThen]
theorem load69 {w : World} {B : Nat} {cs : Array Value} (hc : cs.size = 2) (hw : w.heap[B]? = some (.cells cs 69)) : (loadVar 69 ⟨B, 0, none⟩).run Try.prog w = .ok (.agg cs) w :=
  run_loadVar_row (P := Try.prog) w B 69 69 cs (0, 0) _ hw Try.underlying69 rfl (by rw [hc]; kernel_rfl)
theorem res_one69 {fn : Func} {p : Tmp} (hf : fn.results = #[.cell p 69]) {tmps : Array Value} {w : World} {B : Nat} {a b : Int} (h0 : tmps.getD p undef = .pointer (some ⟨B, 0, none⟩)) (hw : w.heap[B]? = some (.cells #[.int .i64 a, .int .i64 b] 69)) :
    (results fn tmps).run Try.prog w = .ok (spV a b) w := by
  rw [results_one_cell hf, h0]
  have hr := load69 rfl hw
  simp [asAddr, hr, Result.andThen]
theorem res_two69 {fn : Func} {p q : Tmp} (hf : fn.results = #[.cell p 69, .cell q 69]) {tmps : Array Value} {w : World} {B C : Nat} {a b c d : Int} (h0 : tmps.getD p undef = .pointer (some ⟨B, 0, none⟩)) (h1 : tmps.getD q undef = .pointer (some ⟨C, 0, none⟩)) (hw : w.heap[B]? = some (.cells #[.int .i64 a, .int .i64 b] 69)) (hv : w.heap[C]? = some (.cells #[.int .i64 c, .int .i64 d] 69)) :
    (results fn tmps).run Try.prog w = .ok (.tuple #[spV a b, spV c d]) w := by
  rw [results_two_cells hf, h0, h1]
  have hr := load69 rfl hw
  have hr2 := load69 rfl hv
  simp [asAddr, hr, hr2, Result.andThen]
theorem allOf_any (n : Nat) (h : n ≤ 100) (w : World) : Calls Try.prog 65 #[.int .i64 (n : Nat)] w fun e w' => e = .returned (spV 0 ((n : Int) - 1)) ∧ Fut w w' := by
  have h1 : IntKind.i64.wrap ((n : Int) - 1) = (n : Int) - 1 := IntWalk.i64_in _ ⟨by omega, by omega⟩
  go_enter Try.func65, Try.ntmps65
  go_wp2_with fail
  refine bodyPost_ret (res_one69 rfl rfl (World.alloc_heap_new _ _)) rfl ?_
  exact ⟨rfl, Fut.alloc _ _⟩
theorem kinds_any (n : Int) (w : World) : Calls Try.prog 71 #[.int .i64 n] w fun e w' => e = .returned (.bool (decide (1 ≤ n ∧ n ≤ 8))) ∧ w = w' := by
  by_cases h1 : 1 ≤ n
  · go_enter Try.func71, Try.ntmps71
    go_wp2_with fail
    go_ret
    exact ⟨ret_bool (by simp [h1]), rfl⟩
  · go_enter Try.func71, Try.ntmps71
    go_wp2_with fail
    go_ret
    exact ⟨ret_bool (by simp; omega), rfl⟩
theorem isOne_any (a b : Int) (w : World) : Calls Try.prog 97 #[spV a b] w fun e w' => e = .returned (.bool (a == b)) ∧ Fut w w' := by
  have c0 : (w.alloc (.cells #[.int .i64 a, .int .i64 b] 69)).cell? ⟨w.heap.size, 0, none⟩ = some (.int .i64 a) := (two_cell (World.alloc_heap_new w _)).1
  have c1 : (w.alloc (.cells #[.int .i64 a, .int .i64 b] 69)).cell? ⟨w.heap.size, 1, none⟩ = some (.int .i64 b) := (two_cell (World.alloc_heap_new w _)).2.1
  have HF := Lib.hid (Fut.alloc w (.cells #[.int .i64 a, .int .i64 b] 69))
  go_enter Try.func97, Try.ntmps97
  go_wp2_with fail
  go_ret
  exact ⟨rfl, HF.out⟩
theorem isDiv_any (a b k : Int) (w : World) : Calls Try.prog 98 #[spV a b, .int .i64 k] w fun e w' => e = .returned (.bool (decide (a ≤ k ∧ k < b))) ∧ Fut w w' := by
  have c0 : (w.alloc (.cells #[.int .i64 a, .int .i64 b] 69)).cell? ⟨w.heap.size, 0, none⟩ = some (.int .i64 a) := (two_cell (World.alloc_heap_new w _)).1
  have c1 : (w.alloc (.cells #[.int .i64 a, .int .i64 b] 69)).cell? ⟨w.heap.size, 1, none⟩ = some (.int .i64 b) := (two_cell (World.alloc_heap_new w _)).2.1
  have HF := Lib.hid (Fut.alloc w (.cells #[.int .i64 a, .int .i64 b] 69))
  by_cases h1 : a ≤ k
  · go_enter Try.func98, Try.ntmps98
    go_wp2_with fail
    go_ret
    exact ⟨ret_bool (by simp [h1]), HF.out⟩
  · go_enter Try.func98, Try.ntmps98
    go_wp2_with fail
    go_ret
    exact ⟨ret_bool (by simp; omega), HF.out⟩
theorem of_any (g o : Nat) (a b : Nat) (ha : a < 8) (hb : b < 8) (x : Int) (w : World) (hx : w.cell? ⟨g, o + a * 8 + b, none⟩ = some (.int .i64 x)) : Calls Try.prog 67 #[.pointer (some ⟨g, o, none⟩), spV (a : Nat) (b : Nat)] w fun e w' => e = .returned (.int .i64 x) ∧ Fut w w' := by
  have c0 : (w.alloc (.cells #[.int .i64 (a : Nat), .int .i64 (b : Nat)] 69)).cell? ⟨w.heap.size, 0, none⟩ = some (.int .i64 (a : Nat)) := (two_cell (World.alloc_heap_new w _)).1
  have c1 : (w.alloc (.cells #[.int .i64 (a : Nat), .int .i64 (b : Nat)] 69)).cell? ⟨w.heap.size, 1, none⟩ = some (.int .i64 (b : Nat)) := (two_cell (World.alloc_heap_new w _)).2.1
  have HF := Lib.hid (Fut.alloc w (.cells #[.int .i64 (a : Nat), .int .i64 (b : Nat)] 69))
  have hax : (a : Int) < 8 := by omega
  have hbx : (b : Int) < 8 := by omega
  have hx2 := (RowKit.Below.cell HF.out (p := ⟨g, o + a * 8 + b, none⟩) (World.block_lt_of_cell? _ _ hx)).trans hx
  go_enter Try.func67, Try.ntmps67
  go_upto_region 1 with fail
  go_quiet (fail)
  have HF2 := Lib.hid (HF.out.trans (Fut.drewN _ nq))
  clear c0 c1 hx2
  generalize (w.alloc (.cells #[.int .i64 (a : Nat), .int .i64 (b : Nat)] 69)).drewN nq = w2 at *
  go_wp2_with fail
  go_ret
  exact ⟨rfl, HF2.out⟩
theorem ofL_any (g o : Nat) (a b : Nat) (ha : a < 8) (hb : b < 8) (la : Option Addr) (n lc : Nat) (w : World) (hx : w.cell? ⟨g, o + a * 8 + b, none⟩ = some (.slice la n lc)) : Calls Try.prog 69 #[.pointer (some ⟨g, o, none⟩), spV (a : Nat) (b : Nat)] w fun e w' => e = .returned (.slice la n lc) ∧ Fut w w' := by
  have c0 : (w.alloc (.cells #[.int .i64 (a : Nat), .int .i64 (b : Nat)] 69)).cell? ⟨w.heap.size, 0, none⟩ = some (.int .i64 (a : Nat)) := (two_cell (World.alloc_heap_new w _)).1
  have c1 : (w.alloc (.cells #[.int .i64 (a : Nat), .int .i64 (b : Nat)] 69)).cell? ⟨w.heap.size, 1, none⟩ = some (.int .i64 (b : Nat)) := (two_cell (World.alloc_heap_new w _)).2.1
  have HF := Lib.hid (Fut.alloc w (.cells #[.int .i64 (a : Nat), .int .i64 (b : Nat)] 69))
  have hax : (a : Int) < 8 := by omega
  have hbx : (b : Int) < 8 := by omega
  have hx2 := (RowKit.Below.cell HF.out (p := ⟨g, o + a * 8 + b, none⟩) (World.block_lt_of_cell? _ _ hx)).trans hx
  go_enter Try.func69, Try.ntmps69
  go_upto_region 1 with fail
  go_quiet (fail)
  have HF2 := Lib.hid (HF.out.trans (Fut.drewN _ nq))
  clear c0 c1 hx2
  generalize (w.alloc (.cells #[.int .i64 (a : Nat), .int .i64 (b : Nat)] 69)).drewN nq = w2 at *
  go_wp2_with fail
  go_ret
  exact ⟨rfl, HF2.out⟩
set_option maxRecDepth 100000 in
theorem set_any (g o : Nat) (a b : Nat) (ha : a < 8) (hb : b < 8) (x y : Int) (w : World) (hx : w.cell? ⟨g, o + a * 8 + b, none⟩ = some (.int .i64 y)) (hf : w.frozen? ⟨g, o + a * 8 + b, none⟩ = false) : Calls Try.prog 93 #[.pointer (some ⟨g, o, none⟩), spV (a : Nat) (b : Nat), (.int .i64 x)] w fun e w' => e = .returned (.tuple #[]) ∧ ∃ u, Fut w u ∧ w' = u.setCell ⟨g, o + a * 8 + b, none⟩ (.int .i64 x) := by
  have c0 : (w.alloc (.cells #[.int .i64 (a : Nat), .int .i64 (b : Nat)] 69)).cell? ⟨w.heap.size, 0, none⟩ = some (.int .i64 (a : Nat)) := (two_cell (World.alloc_heap_new w _)).1
  have c1 : (w.alloc (.cells #[.int .i64 (a : Nat), .int .i64 (b : Nat)] 69)).cell? ⟨w.heap.size, 1, none⟩ = some (.int .i64 (b : Nat)) := (two_cell (World.alloc_heap_new w _)).2.1
  have HF := Lib.hid (Fut.alloc w (.cells #[.int .i64 (a : Nat), .int .i64 (b : Nat)] 69))
  have hax : (a : Int) < 8 := by omega
  have hbx : (b : Int) < 8 := by omega
  have hx2 := (RowKit.Below.cell HF.out (p := ⟨g, o + a * 8 + b, none⟩) (World.block_lt_of_cell? _ _ hx)).trans hx
  have hf2 := (RowKit.Below.frozen HF.out (p := ⟨g, o + a * 8 + b, none⟩) (World.block_lt_of_cell? _ _ hx)).trans hf
  go_enter Try.func93, Try.ntmps93
  have HX3 : Hid ((w.alloc (.cells #[.int .i64 (a : Nat), .int .i64 (b : Nat)] 69)).drew.cell? ⟨g, o + a * 8 + b, none⟩ = some (.int .i64 y) ∧ (w.alloc (.cells #[.int .i64 (a : Nat), .int .i64 (b : Nat)] 69)).drew.frozen? ⟨g, o + a * 8 + b, none⟩ = false) := Lib.hid ⟨hx2, hf2⟩
  have HFd : Hid (Fut w (w.alloc (.cells #[.int .i64 (a : Nat), .int .i64 (b : Nat)] 69)).drew) := Lib.hid (HF.out.trans (below_drewN Fut.rfl 1))
  have HC : Hid ((w.alloc (.cells #[.int .i64 (a : Nat), .int .i64 (b : Nat)] 69)).drew.cell? ⟨w.heap.size, 0, none⟩ = some (.int .i64 (a : Nat)) ∧ (w.alloc (.cells #[.int .i64 (a : Nat), .int .i64 (b : Nat)] 69)).drew.cell? ⟨w.heap.size, 1, none⟩ = some (.int .i64 (b : Nat))) := Lib.hid ⟨c0, c1⟩
  have HGL : Hid (g ≠ w.heap.size) := Lib.hid (Nat.ne_of_lt (show g < w.heap.size from World.block_lt_of_cell? _ _ hx))
  clear c0 c1 hx2 hf2 hx hf
  go_upto_region 1 with fail
  refine wp_region_held_drew (S := (fun w' => w'.cell? ⟨w.heap.size, 0, none⟩ = some (.int .i64 (a : Nat)) ∧ w'.cell? ⟨w.heap.size, 1, none⟩ = some (.int .i64 (b : Nat)))) (by kernel_rfl) ?_ (fun hHeld => ?_)
  · exact HC.out
  generalize (w.alloc (.cells #[.int .i64 (a : Nat), .int .i64 (b : Nat)] 69)).drew = u0 at *
  refine wpAnyH_take (i := 0) (oi := { dst := some 6, op := Op.move (Operand.tmp 0), type := 107, pos := "span.go:11", after := #[], guard := none }) (v := ?_) rfl (by kernel_rfl) (by kernel_rfl) (by kernel_rfl) (fun _ _ _ h => h) (Or.inl ⟨by rfl, ?_⟩) (by assumption) ?_
  rotate_left
  · (intro w hSw; obtain ⟨s0, s1⟩ := hSw; go_simp <;> with_reducible rfl)
  try simp only [Act.put, List.setIfInBounds_toArray, List.set_cons_zero, List.set_cons_succ]
  refine wpAnyH_take (i := 1) (oi := { dst := some 7, op := Op.fieldAddr 69 (Operand.tmp 4) 0, type := 0, pos := "span.go:11", after := #[], guard := none }) (v := ?_) rfl (by kernel_rfl) (by kernel_rfl) (by kernel_rfl) (fun _ _ _ h => h) (Or.inl ⟨by rfl, ?_⟩) (by assumption) ?_
  rotate_left
  · (intro w hSw; obtain ⟨s0, s1⟩ := hSw; go_simp <;> with_reducible rfl)
  try simp only [Act.put, List.setIfInBounds_toArray, List.set_cons_zero, List.set_cons_succ]
  refine wpAnyH_take (i := 2) (oi := { dst := some 8, op := Op.load 3 (Operand.tmp 7), type := 3, pos := "span.go:11", after := #[{ on := 1, ground := Ground.data }], guard := none }) (v := ?_) rfl (by kernel_rfl) (by kernel_rfl) (by kernel_rfl) (fun _ _ _ h => h) (Or.inl ⟨by rfl, ?_⟩) (by assumption) ?_
  rotate_left
  · (intro w hSw; obtain ⟨s0, s1⟩ := hSw; go_simp <;> with_reducible rfl)
  try simp only [Act.put, List.setIfInBounds_toArray, List.set_cons_zero, List.set_cons_succ]
  refine wpAnyH_take (i := 3) (oi := { dst := some 9, op := Op.fieldAddr 69 (Operand.tmp 4) 1, type := 0, pos := "span.go:11", after := #[], guard := none }) (v := ?_) rfl (by kernel_rfl) (by kernel_rfl) (by kernel_rfl) (fun _ _ _ h => h) (Or.inl ⟨by rfl, ?_⟩) (by assumption) ?_
  rotate_left
  · (intro w hSw; obtain ⟨s0, s1⟩ := hSw; go_simp <;> with_reducible rfl)
  try simp only [Act.put, List.setIfInBounds_toArray, List.set_cons_zero, List.set_cons_succ]
  refine wpAnyH_take (i := 4) (oi := { dst := some 10, op := Op.load 3 (Operand.tmp 9), type := 3, pos := "span.go:11", after := #[{ on := 3, ground := Ground.data }], guard := none }) (v := ?_) rfl (by kernel_rfl) (by kernel_rfl) (by kernel_rfl) (fun _ _ _ h => h) (Or.inl ⟨by rfl, ?_⟩) (by assumption) ?_
  rotate_left
  · (intro w hSw; obtain ⟨s0, s1⟩ := hSw; go_simp <;> with_reducible rfl)
  try simp only [Act.put, List.setIfInBounds_toArray, List.set_cons_zero, List.set_cons_succ]
  refine wpAnyH_take (i := 5) (oi := { dst := some 11, op := Op.move (Operand.tmp 2), type := 3, pos := "span.go:11", after := #[], guard := none }) (v := ?_) rfl (by kernel_rfl) (by kernel_rfl) (by kernel_rfl) (fun _ _ _ h => h) (Or.inl ⟨by rfl, ?_⟩) (by assumption) ?_
  rotate_left
  · (intro w hSw; obtain ⟨s0, s1⟩ := hSw; go_simp <;> with_reducible rfl)
  try simp only [Act.put, List.setIfInBounds_toArray, List.set_cons_zero, List.set_cons_succ]
  refine wpAnyH_take (i := 6) (oi := { dst := some 12, op := Op.nilCheck (Operand.tmp 6), type := 0, pos := "span.go:11", after := #[{ on := 0, ground := Ground.data }], guard := none }) (v := ?_) rfl (by kernel_rfl) (by kernel_rfl) (by kernel_rfl) (fun _ _ _ h => h) (Or.inl ⟨by rfl, ?_⟩) (by assumption) ?_
  rotate_left
  · (intro w hSw; obtain ⟨s0, s1⟩ := hSw; go_simp <;> with_reducible rfl)
  try simp only [Act.put, List.setIfInBounds_toArray, List.set_cons_zero, List.set_cons_succ]
  refine wpAnyH_take (i := 7) (oi := { dst := some 13, op := Op.indexAddr 79 (Operand.tmp 12) (Operand.tmp 8), type := 0, pos := "span.go:11", after := #[{ on := 6, ground := Ground.data }, { on := 2, ground := Ground.data }], guard := none }) (v := ?_) rfl (by kernel_rfl) (by kernel_rfl) (by kernel_rfl) (fun _ _ _ h => h) (Or.inl ⟨by rfl, ?_⟩) (by assumption) ?_
  rotate_left
  · (intro w hSw; obtain ⟨s0, s1⟩ := hSw; go_simp <;> with_reducible rfl)
  try simp only [Act.put, List.setIfInBounds_toArray, List.set_cons_zero, List.set_cons_succ]
  refine wpAnyH_take (i := 8) (oi := { dst := some 14, op := Op.indexAddr 77 (Operand.tmp 13) (Operand.tmp 10), type := 0, pos := "span.go:11", after := #[{ on := 7, ground := Ground.data }, { on := 4, ground := Ground.data }, { on := 0, ground := Ground.phase }, { on := 1, ground := Ground.phase }, { on := 2, ground := Ground.phase }, { on := 3, ground := Ground.phase }, { on := 4, ground := Ground.phase }, { on := 5, ground := Ground.phase }], guard := none }) (v := ?_) rfl (by kernel_rfl) (by kernel_rfl) (by kernel_rfl) (fun _ _ _ h => h) (Or.inl ⟨by rfl, ?_⟩) (by assumption) ?_
  rotate_left
  · (intro w hSw; obtain ⟨s0, s1⟩ := hSw; go_simp <;> with_reducible rfl)
  try simp only [Act.put, List.setIfInBounds_toArray, List.set_cons_zero, List.set_cons_succ]
  refine wpAnyH_ready (rs := [9]) (by kernel_rfl) (by simp) ?_
  refine AllReadyH.cons (o := { dst := none, op := Op.store 3 (Operand.tmp 14) (Operand.tmp 11), type := 0, pos := "span.go:11", after := #[{ on := 8, ground := Ground.data }, { on := 5, ground := Ground.data }, { on := 0, ground := Ground.phase }, { on := 1, ground := Ground.phase }, { on := 2, ground := Ground.phase }, { on := 3, ground := Ground.phase }, { on := 4, ground := Ground.phase }, { on := 5, ground := Ground.phase }], guard := none }) rfl (fun K hK => ?_) AllReadyH.nil
  obtain ⟨c1, f1⟩ := HX3.out
  go_simp
  clear c1 f1
  refine hK.out _ _ ?_ (fun hHeld => ?_)
  · exact ⟨(World.cell?_setCell_far _ _ _ _ HGL.out).trans HC.out.1, (World.cell?_setCell_far _ _ _ _ HGL.out).trans HC.out.2⟩
  clear hK K
  try simp only [Act.put, List.setIfInBounds_toArray, List.set_cons_zero, List.set_cons_succ]
  refine wpAnyH_done (by kernel_rfl) ?_ _
  go_wp2_with fail
  refine bodyPost_end (results_none rfl _ _ _) rfl ?_
  exact ⟨rfl, u0, HFd.out, rfl⟩
set_option maxRecDepth 100000 in
theorem setL_any (g o : Nat) (a b : Nat) (ha : a < 8) (hb : b < 8) (la lb : Option Addr) (n lc m mc : Nat) (w : World) (hx : w.cell? ⟨g, o + a * 8 + b, none⟩ = some (.slice lb m mc)) (hf : w.frozen? ⟨g, o + a * 8 + b, none⟩ = false) : Calls Try.prog 117 #[.pointer (some ⟨g, o, none⟩), spV (a : Nat) (b : Nat), (.slice la n lc)] w fun e w' => e = .returned (.tuple #[]) ∧ ∃ u, Fut w u ∧ w' = u.setCell ⟨g, o + a * 8 + b, none⟩ (.slice la n lc) := by
  have c0 : (w.alloc (.cells #[.int .i64 (a : Nat), .int .i64 (b : Nat)] 69)).cell? ⟨w.heap.size, 0, none⟩ = some (.int .i64 (a : Nat)) := (two_cell (World.alloc_heap_new w _)).1
  have c1 : (w.alloc (.cells #[.int .i64 (a : Nat), .int .i64 (b : Nat)] 69)).cell? ⟨w.heap.size, 1, none⟩ = some (.int .i64 (b : Nat)) := (two_cell (World.alloc_heap_new w _)).2.1
  have HF := Lib.hid (Fut.alloc w (.cells #[.int .i64 (a : Nat), .int .i64 (b : Nat)] 69))
  have hax : (a : Int) < 8 := by omega
  have hbx : (b : Int) < 8 := by omega
  have hx2 := (RowKit.Below.cell HF.out (p := ⟨g, o + a * 8 + b, none⟩) (World.block_lt_of_cell? _ _ hx)).trans hx
  have hf2 := (RowKit.Below.frozen HF.out (p := ⟨g, o + a * 8 + b, none⟩) (World.block_lt_of_cell? _ _ hx)).trans hf
  go_enter Try.func117, Try.ntmps117
  have HX3 : Hid ((w.alloc (.cells #[.int .i64 (a : Nat), .int .i64 (b : Nat)] 69)).drew.cell? ⟨g, o + a * 8 + b, none⟩ = some (.slice lb m mc) ∧ (w.alloc (.cells #[.int .i64 (a : Nat), .int .i64 (b : Nat)] 69)).drew.frozen? ⟨g, o + a * 8 + b, none⟩ = false) := Lib.hid ⟨hx2, hf2⟩
  have HFd : Hid (Fut w (w.alloc (.cells #[.int .i64 (a : Nat), .int .i64 (b : Nat)] 69)).drew) := Lib.hid (HF.out.trans (below_drewN Fut.rfl 1))
  have HC : Hid ((w.alloc (.cells #[.int .i64 (a : Nat), .int .i64 (b : Nat)] 69)).drew.cell? ⟨w.heap.size, 0, none⟩ = some (.int .i64 (a : Nat)) ∧ (w.alloc (.cells #[.int .i64 (a : Nat), .int .i64 (b : Nat)] 69)).drew.cell? ⟨w.heap.size, 1, none⟩ = some (.int .i64 (b : Nat))) := Lib.hid ⟨c0, c1⟩
  have HGL : Hid (g ≠ w.heap.size) := Lib.hid (Nat.ne_of_lt (show g < w.heap.size from World.block_lt_of_cell? _ _ hx))
  clear c0 c1 hx2 hf2 hx hf
  go_upto_region 1 with fail
  refine wp_region_held_drew (S := (fun w' => w'.cell? ⟨w.heap.size, 0, none⟩ = some (.int .i64 (a : Nat)) ∧ w'.cell? ⟨w.heap.size, 1, none⟩ = some (.int .i64 (b : Nat)))) (by kernel_rfl) ?_ (fun hHeld => ?_)
  · exact HC.out
  generalize (w.alloc (.cells #[.int .i64 (a : Nat), .int .i64 (b : Nat)] 69)).drew = u0 at *
  refine wpAnyH_take (i := 0) (oi := { dst := some 6, op := Op.move (Operand.tmp 0), type := 112, pos := "span.go:11", after := #[], guard := none }) (v := ?_) rfl (by kernel_rfl) (by kernel_rfl) (by kernel_rfl) (fun _ _ _ h => h) (Or.inl ⟨by rfl, ?_⟩) (by assumption) ?_
  rotate_left
  · (intro w hSw; obtain ⟨s0, s1⟩ := hSw; go_simp <;> with_reducible rfl)
  try simp only [Act.put, List.setIfInBounds_toArray, List.set_cons_zero, List.set_cons_succ]
  refine wpAnyH_take (i := 1) (oi := { dst := some 7, op := Op.fieldAddr 69 (Operand.tmp 4) 0, type := 0, pos := "span.go:11", after := #[], guard := none }) (v := ?_) rfl (by kernel_rfl) (by kernel_rfl) (by kernel_rfl) (fun _ _ _ h => h) (Or.inl ⟨by rfl, ?_⟩) (by assumption) ?_
  rotate_left
  · (intro w hSw; obtain ⟨s0, s1⟩ := hSw; go_simp <;> with_reducible rfl)
  try simp only [Act.put, List.setIfInBounds_toArray, List.set_cons_zero, List.set_cons_succ]
  refine wpAnyH_take (i := 2) (oi := { dst := some 8, op := Op.load 3 (Operand.tmp 7), type := 3, pos := "span.go:11", after := #[{ on := 1, ground := Ground.data }], guard := none }) (v := ?_) rfl (by kernel_rfl) (by kernel_rfl) (by kernel_rfl) (fun _ _ _ h => h) (Or.inl ⟨by rfl, ?_⟩) (by assumption) ?_
  rotate_left
  · (intro w hSw; obtain ⟨s0, s1⟩ := hSw; go_simp <;> with_reducible rfl)
  try simp only [Act.put, List.setIfInBounds_toArray, List.set_cons_zero, List.set_cons_succ]
  refine wpAnyH_take (i := 3) (oi := { dst := some 9, op := Op.fieldAddr 69 (Operand.tmp 4) 1, type := 0, pos := "span.go:11", after := #[], guard := none }) (v := ?_) rfl (by kernel_rfl) (by kernel_rfl) (by kernel_rfl) (fun _ _ _ h => h) (Or.inl ⟨by rfl, ?_⟩) (by assumption) ?_
  rotate_left
  · (intro w hSw; obtain ⟨s0, s1⟩ := hSw; go_simp <;> with_reducible rfl)
  try simp only [Act.put, List.setIfInBounds_toArray, List.set_cons_zero, List.set_cons_succ]
  refine wpAnyH_take (i := 4) (oi := { dst := some 10, op := Op.load 3 (Operand.tmp 9), type := 3, pos := "span.go:11", after := #[{ on := 3, ground := Ground.data }], guard := none }) (v := ?_) rfl (by kernel_rfl) (by kernel_rfl) (by kernel_rfl) (fun _ _ _ h => h) (Or.inl ⟨by rfl, ?_⟩) (by assumption) ?_
  rotate_left
  · (intro w hSw; obtain ⟨s0, s1⟩ := hSw; go_simp <;> with_reducible rfl)
  try simp only [Act.put, List.setIfInBounds_toArray, List.set_cons_zero, List.set_cons_succ]
  refine wpAnyH_take (i := 5) (oi := { dst := some 11, op := Op.move (Operand.tmp 2), type := 22, pos := "span.go:11", after := #[], guard := none }) (v := ?_) rfl (by kernel_rfl) (by kernel_rfl) (by kernel_rfl) (fun _ _ _ h => h) (Or.inl ⟨by rfl, ?_⟩) (by assumption) ?_
  rotate_left
  · (intro w hSw; obtain ⟨s0, s1⟩ := hSw; go_simp <;> with_reducible rfl)
  try simp only [Act.put, List.setIfInBounds_toArray, List.set_cons_zero, List.set_cons_succ]
  refine wpAnyH_take (i := 6) (oi := { dst := some 12, op := Op.nilCheck (Operand.tmp 6), type := 0, pos := "span.go:11", after := #[{ on := 0, ground := Ground.data }], guard := none }) (v := ?_) rfl (by kernel_rfl) (by kernel_rfl) (by kernel_rfl) (fun _ _ _ h => h) (Or.inl ⟨by rfl, ?_⟩) (by assumption) ?_
  rotate_left
  · (intro w hSw; obtain ⟨s0, s1⟩ := hSw; go_simp <;> with_reducible rfl)
  try simp only [Act.put, List.setIfInBounds_toArray, List.set_cons_zero, List.set_cons_succ]
  refine wpAnyH_take (i := 7) (oi := { dst := some 13, op := Op.indexAddr 76 (Operand.tmp 12) (Operand.tmp 8), type := 0, pos := "span.go:11", after := #[{ on := 6, ground := Ground.data }, { on := 2, ground := Ground.data }], guard := none }) (v := ?_) rfl (by kernel_rfl) (by kernel_rfl) (by kernel_rfl) (fun _ _ _ h => h) (Or.inl ⟨by rfl, ?_⟩) (by assumption) ?_
  rotate_left
  · (intro w hSw; obtain ⟨s0, s1⟩ := hSw; go_simp <;> with_reducible rfl)
  try simp only [Act.put, List.setIfInBounds_toArray, List.set_cons_zero, List.set_cons_succ]
  refine wpAnyH_take (i := 8) (oi := { dst := some 14, op := Op.indexAddr 74 (Operand.tmp 13) (Operand.tmp 10), type := 0, pos := "span.go:11", after := #[{ on := 7, ground := Ground.data }, { on := 4, ground := Ground.data }, { on := 0, ground := Ground.phase }, { on := 1, ground := Ground.phase }, { on := 2, ground := Ground.phase }, { on := 3, ground := Ground.phase }, { on := 4, ground := Ground.phase }, { on := 5, ground := Ground.phase }], guard := none }) (v := ?_) rfl (by kernel_rfl) (by kernel_rfl) (by kernel_rfl) (fun _ _ _ h => h) (Or.inl ⟨by rfl, ?_⟩) (by assumption) ?_
  rotate_left
  · (intro w hSw; obtain ⟨s0, s1⟩ := hSw; go_simp <;> with_reducible rfl)
  try simp only [Act.put, List.setIfInBounds_toArray, List.set_cons_zero, List.set_cons_succ]
  refine wpAnyH_ready (rs := [9]) (by kernel_rfl) (by simp) ?_
  refine AllReadyH.cons (o := { dst := none, op := Op.store 22 (Operand.tmp 14) (Operand.tmp 11), type := 0, pos := "span.go:11", after := #[{ on := 8, ground := Ground.data }, { on := 5, ground := Ground.data }, { on := 0, ground := Ground.phase }, { on := 1, ground := Ground.phase }, { on := 2, ground := Ground.phase }, { on := 3, ground := Ground.phase }, { on := 4, ground := Ground.phase }, { on := 5, ground := Ground.phase }], guard := none }) rfl (fun K hK => ?_) AllReadyH.nil
  obtain ⟨c1, f1⟩ := HX3.out
  go_simp
  clear c1 f1
  refine hK.out _ _ ?_ (fun hHeld => ?_)
  · exact ⟨(World.cell?_setCell_far _ _ _ _ HGL.out).trans HC.out.1, (World.cell?_setCell_far _ _ _ _ HGL.out).trans HC.out.2⟩
  clear hK K
  try simp only [Act.put, List.setIfInBounds_toArray, List.set_cons_zero, List.set_cons_succ]
  refine wpAnyH_done (by kernel_rfl) ?_ _
  go_wp2_with fail
  refine bodyPost_end (results_none rfl _ _ _) rfl ?_
  exact ⟨rfl, u0, HFd.out, rfl⟩
theorem set2_both {w : World} {B : Nat} {t : TypeId} {x y : Value} (u v : Value) (h : w.heap[B]? = some (.cells #[x, y] t)) :
    (w.cell? ⟨B, 0, none⟩ = some x ∧ w.frozen? ⟨B, 0, none⟩ = false) ∧ ((w.setCell ⟨B, 0, none⟩ u).cell? ⟨B, 1, none⟩ = some y ∧ (w.setCell ⟨B, 0, none⟩ u).frozen? ⟨B, 1, none⟩ = false) ∧
    ((w.setCell ⟨B, 0, none⟩ u).setCell ⟨B, 1, none⟩ v).heap[B]? = some (.cells #[u, v] t) := by
  have h1 := two_set0 u h
  have h2 := two_set1 v h1
  obtain ⟨a1, _, a3, _⟩ := two_cell h
  obtain ⟨_, b2, _, b4⟩ := two_cell h1
  exact ⟨⟨a1, a3⟩, ⟨b2, b4⟩, h2⟩
set_option maxRecDepth 100000 in
set_option maxHeartbeats 2000000 in
theorem parts_any (a b k : Int) (hk : -1000 ≤ k ∧ k ≤ 1000) (w : World) : Calls Try.prog 95 #[spV a b, .int .i64 k] w fun e w' => e = .returned (.tuple #[spV a k, spV (k + 1) b]) ∧ Fut w w' := by
  have hwk : IntKind.i64.wrap (k + 1) = k + 1 := IntWalk.i64_in _ ⟨by omega, by omega⟩
  obtain ⟨W0, hW0⟩ : ∃ W0, W0 = ((w.alloc (.cells #[.int .i64 a, .int .i64 b] 69)).alloc (.cells #[.int .i64 0, .int .i64 0] 69)).alloc (.cells #[.int .i64 0, .int .i64 0] 69) := ⟨_, rfl⟩
  have g0 : W0.heap[w.heap.size]? = some (.cells #[.int .i64 a, .int .i64 b] 69) := by
    rw [hW0]
    exact heap_fut (heap_fut (World.alloc_heap_new w _) (Fut.alloc _ _)) (Fut.alloc _ _)
  have g1 : W0.heap[w.heap.size + 1]? = some (.cells #[.int .i64 0, .int .i64 0] 69) := by
    rw [hW0]
    have := World.alloc_heap_new (w.alloc (.cells #[.int .i64 a, .int .i64 b] 69)) (.cells #[.int .i64 0, .int .i64 0] 69)
    rw [World.size_alloc] at this
    exact heap_fut this (Fut.alloc _ _)
  have g2 : W0.heap[w.heap.size + 2]? = some (.cells #[.int .i64 0, .int .i64 0] 69) := by
    rw [hW0]
    have := World.alloc_heap_new ((w.alloc (.cells #[.int .i64 a, .int .i64 b] 69)).alloc (.cells #[.int .i64 0, .int .i64 0] 69)) (.cells #[.int .i64 0, .int .i64 0] 69)
    rw [World.size_alloc, World.size_alloc] at this
    exact this
  have HB0 : Hid (W0.drew.heap[w.heap.size]? = some (.cells #[.int .i64 a, .int .i64 b] 69)) := Lib.hid g0
  have HB1 : Hid (W0.drew.heap[w.heap.size + 1]? = some (.cells #[.int .i64 0, .int .i64 0] 69)) := Lib.hid g1
  have HB2 : Hid (W0.drew.heap[w.heap.size + 2]? = some (.cells #[.int .i64 0, .int .i64 0] 69)) := Lib.hid g2
  have HFU : Hid (Fut w W0.drew) := Lib.hid (Fut.trans (by rw [hW0]; exact ((Fut.alloc _ _).trans (Fut.alloc _ _)).trans (Fut.alloc _ _)) (below_drewN Fut.rfl 1))
  have HW := Lib.hid hW0
  clear g0 g1 g2 hW0
  go_enter Try.func95, Try.ntmps95
  go_upto_region 1 with fail
  rw [← HW.out]
  clear HW
  refine wp_region_held_drew (S := (fun w' => w'.cell? ⟨w.heap.size, 0, none⟩ = some (.int .i64 a) ∧ w'.cell? ⟨w.heap.size, 1, none⟩ = some (.int .i64 b))) (by kernel_rfl) ?_ (fun hHeld => ?_)
  · exact ⟨(two_cell HB0.out).1, (two_cell HB0.out).2.1⟩
  generalize W0.drew = u0 at *
  refine wpAnyH_take (i := 0) (oi := { dst := some 6, op := Op.fieldAddr 69 (Operand.tmp 2) 0, type := 0, pos := "span.go:42", after := #[], guard := none }) (v := ?_) rfl (by kernel_rfl) (by kernel_rfl) (by kernel_rfl) (fun _ _ _ h => h) (Or.inl ⟨by rfl, ?_⟩) (by assumption) ?_
  rotate_left
  · (intro w hSw; obtain ⟨s0, s1⟩ := hSw; go_simp <;> with_reducible rfl)
  try simp only [Act.put, List.setIfInBounds_toArray, List.set_cons_zero, List.set_cons_succ]
  refine wpAnyH_take (i := 1) (oi := { dst := some 7, op := Op.load 3 (Operand.tmp 6), type := 3, pos := "span.go:42", after := #[{ on := 0, ground := Ground.data }], guard := none }) (v := ?_) rfl (by kernel_rfl) (by kernel_rfl) (by kernel_rfl) (fun _ _ _ h => h) (Or.inl ⟨by rfl, ?_⟩) (by assumption) ?_
  rotate_left
  · (intro w hSw; obtain ⟨s0, s1⟩ := hSw; go_simp <;> with_reducible rfl)
  try simp only [Act.put, List.setIfInBounds_toArray, List.set_cons_zero, List.set_cons_succ]
  refine wpAnyH_take (i := 2) (oi := { dst := some 8, op := Op.move (Operand.tmp 1), type := 3, pos := "span.go:42", after := #[], guard := none }) (v := ?_) rfl (by kernel_rfl) (by kernel_rfl) (by kernel_rfl) (fun _ _ _ h => h) (Or.inl ⟨by rfl, ?_⟩) (by assumption) ?_
  rotate_left
  · (intro w hSw; obtain ⟨s0, s1⟩ := hSw; go_simp <;> with_reducible rfl)
  try simp only [Act.put, List.setIfInBounds_toArray, List.set_cons_zero, List.set_cons_succ]
  refine wpAnyH_take (i := 3) (oi := { dst := some 9, op := Op.build 69 #[(0, Operand.tmp 7), (1, Operand.tmp 8)], type := 69, pos := "span.go:42", after := #[{ on := 1, ground := Ground.data }, { on := 2, ground := Ground.data }], guard := none }) (v := ?_) rfl (by kernel_rfl) (by kernel_rfl) (by kernel_rfl) (fun _ _ _ h => h) (Or.inl ⟨by rfl, ?_⟩) (by assumption) ?_
  rotate_left
  · (intro w hSw; obtain ⟨s0, s1⟩ := hSw; go_simp <;> with_reducible rfl)
  try simp only [Act.put, List.setIfInBounds_toArray, List.set_cons_zero, List.set_cons_succ]
  refine wpAnyH_take (i := 4) (oi := { dst := some 10, op := Op.move (Operand.tmp 1), type := 3, pos := "span.go:42", after := #[{ on := 9, ground := Ground.gcOnly Departure.lateStores }], guard := none }) (v := ?_) rfl (by kernel_rfl) (by kernel_rfl) (by kernel_rfl) (fun _ _ _ h => h) (Or.inl ⟨by rfl, ?_⟩) (by assumption) ?_
  rotate_left
  · (intro w hSw; obtain ⟨s0, s1⟩ := hSw; go_simp <;> with_reducible rfl)
  try simp only [Act.put, List.setIfInBounds_toArray, List.set_cons_zero, List.set_cons_succ]
  refine wpAnyH_take (i := 5) (oi := { dst := some 11, op := Op.binOp BinOp.add 3 (Operand.tmp 10) (Operand.const (Value.int IntKind.i64 1)) 3, type := 3, pos := "span.go:42", after := #[{ on := 4, ground := Ground.data }, { on := 9, ground := Ground.gcOnly Departure.lateStores }], guard := none }) (v := ?_) rfl (by kernel_rfl) (by kernel_rfl) (by kernel_rfl) (fun _ _ _ h => h) (Or.inl ⟨by rfl, ?_⟩) (by assumption) ?_
  rotate_left
  · (intro w hSw; obtain ⟨s0, s1⟩ := hSw; go_simp <;> with_reducible rfl)
  try simp only [Act.put, List.setIfInBounds_toArray, List.set_cons_zero, List.set_cons_succ]
  refine wpAnyH_take (i := 6) (oi := { dst := some 12, op := Op.fieldAddr 69 (Operand.tmp 2) 1, type := 0, pos := "span.go:42", after := #[{ on := 9, ground := Ground.gcOnly Departure.lateStores }], guard := none }) (v := ?_) rfl (by kernel_rfl) (by kernel_rfl) (by kernel_rfl) (fun _ _ _ h => h) (Or.inl ⟨by rfl, ?_⟩) (by assumption) ?_
  rotate_left
  · (intro w hSw; obtain ⟨s0, s1⟩ := hSw; go_simp <;> with_reducible rfl)
  try simp only [Act.put, List.setIfInBounds_toArray, List.set_cons_zero, List.set_cons_succ]
  refine wpAnyH_take (i := 7) (oi := { dst := some 13, op := Op.load 3 (Operand.tmp 12), type := 3, pos := "span.go:42", after := #[{ on := 6, ground := Ground.data }, { on := 9, ground := Ground.gcOnly Departure.lateStores }], guard := none }) (v := ?_) rfl (by kernel_rfl) (by kernel_rfl) (by kernel_rfl) (fun _ _ _ h => h) (Or.inl ⟨by rfl, ?_⟩) (by assumption) ?_
  rotate_left
  · (intro w hSw; obtain ⟨s0, s1⟩ := hSw; go_simp <;> with_reducible rfl)
  try simp only [Act.put, List.setIfInBounds_toArray, List.set_cons_zero, List.set_cons_succ]
  refine wpAnyH_take (i := 8) (oi := { dst := some 14, op := Op.build 69 #[(0, Operand.tmp 11), (1, Operand.tmp 13)], type := 69, pos := "span.go:42", after := #[{ on := 5, ground := Ground.data }, { on := 7, ground := Ground.data }, { on := 9, ground := Ground.gcOnly Departure.lateStores }], guard := none }) (v := ?_) rfl (by kernel_rfl) (by kernel_rfl) (by kernel_rfl) (fun _ _ _ h => h) (Or.inl ⟨by rfl, ?_⟩) (by assumption) ?_
  rotate_left
  · (intro w hSw; obtain ⟨s0, s1⟩ := hSw; go_simp <;> with_reducible rfl)
  try simp only [Act.put, List.setIfInBounds_toArray, List.set_cons_zero, List.set_cons_succ]
  refine wpAnyH_ready (rs := [9]) (by kernel_rfl) (by simp) ?_
  refine AllReadyH.cons (o := { dst := none, op := Op.store 69 (Operand.tmp 4) (Operand.tmp 9), type := 0, pos := "span.go:42", after := #[{ on := 3, ground := Ground.data }, { on := 0, ground := Ground.phase }, { on := 1, ground := Ground.phase }, { on := 2, ground := Ground.phase }, { on := 3, ground := Ground.phase }, { on := 4, ground := Ground.textOnly Departure.lateStores }, { on := 5, ground := Ground.textOnly Departure.lateStores }, { on := 6, ground := Ground.textOnly Departure.lateStores }, { on := 7, ground := Ground.textOnly Departure.lateStores }, { on := 8, ground := Ground.textOnly Departure.lateStores }], guard := none }) rfl (fun K hK => ?_) AllReadyH.nil
  have q1 := two_cell HB1.out
  have e1 := set2_both (.int .i64 a) (.int .i64 k) HB1.out
  obtain ⟨⟨y1, y2⟩, ⟨y3, y4⟩, y5⟩ := e1
  have HY5 := Lib.hid y5
  have HB2b : Hid (((u0.setCell ⟨w.heap.size + 1, 0, none⟩ (.int .i64 a)).setCell ⟨w.heap.size + 1, 1, none⟩ (.int .i64 k)).heap[w.heap.size + 2]? = some (.cells #[.int .i64 0, .int .i64 0] 69)) := Lib.hid (heap_kept (heap_kept HB2.out (set_grown _ _ _ _) (fun e => by have := Option.some.inj e; omega)) (set_grown _ _ _ _) (fun e => by have := Option.some.inj e; omega))
  have HB0b : Hid (((u0.setCell ⟨w.heap.size + 1, 0, none⟩ (.int .i64 a)).setCell ⟨w.heap.size + 1, 1, none⟩ (.int .i64 k)).heap[w.heap.size]? = some (.cells #[.int .i64 a, .int .i64 b] 69)) := Lib.hid (heap_kept (heap_kept HB0.out (set_grown _ _ _ _) (fun e => by have := Option.some.inj e; omega)) (set_grown _ _ _ _) (fun e => by have := Option.some.inj e; omega))
  have HFb : Hid (Fut w ((u0.setCell ⟨w.heap.size + 1, 0, none⟩ (.int .i64 a)).setCell ⟨w.heap.size + 1, 1, none⟩ (.int .i64 k))) := Lib.hid (RowKit.Below.setCell (p := ⟨w.heap.size + 1, 1, none⟩) (RowKit.Below.setCell (p := ⟨w.heap.size + 1, 0, none⟩) HFU.out (Nat.le_succ _) _) (Nat.le_succ _) _)
  go_simp
  clear y1 y2 y3 y4 y5 q1
  generalize (u0.setCell ⟨w.heap.size + 1, 0, none⟩ (.int .i64 a)).setCell ⟨w.heap.size + 1, 1, none⟩ (.int .i64 k) = u1 at *
  refine hK.out _ _ ?_ (fun hHeld => ?_)
  · exact ⟨(two_cell HB0b.out).1, (two_cell HB0b.out).2.1⟩
  clear hK K
  try simp only [Act.put, List.setIfInBounds_toArray, List.set_cons_zero, List.set_cons_succ]
  refine wpAnyH_ready (rs := [10]) (by kernel_rfl) (by simp) ?_
  refine AllReadyH.cons (o := { dst := none, op := Op.store 69 (Operand.tmp 5) (Operand.tmp 14), type := 0, pos := "span.go:42", after := #[{ on := 8, ground := Ground.data }, { on := 9, ground := Ground.chain }, { on := 0, ground := Ground.phase }, { on := 1, ground := Ground.phase }, { on := 2, ground := Ground.phase }, { on := 3, ground := Ground.phase }, { on := 4, ground := Ground.phase }, { on := 5, ground := Ground.phase }, { on := 6, ground := Ground.phase }, { on := 7, ground := Ground.phase }, { on := 8, ground := Ground.phase }, { on := 9, ground := Ground.phase }], guard := none }) rfl (fun K hK => ?_) AllReadyH.nil
  have e1 := set2_both (.int .i64 (k + 1)) (.int .i64 b) HB2b.out
  obtain ⟨⟨y1, y2⟩, ⟨y3, y4⟩, y5⟩ := e1
  have HZ5 := Lib.hid y5
  have HY6 : Hid (((u1.setCell ⟨w.heap.size + 2, 0, none⟩ (.int .i64 (k + 1))).setCell ⟨w.heap.size + 2, 1, none⟩ (.int .i64 b)).heap[w.heap.size + 1]? = some (.cells #[.int .i64 a, .int .i64 k] 69)) := Lib.hid (heap_kept (heap_kept HY5.out (set_grown _ _ _ _) (fun e => by have := Option.some.inj e; omega)) (set_grown _ _ _ _) (fun e => by have := Option.some.inj e; omega))
  have HB0c : Hid (((u1.setCell ⟨w.heap.size + 2, 0, none⟩ (.int .i64 (k + 1))).setCell ⟨w.heap.size + 2, 1, none⟩ (.int .i64 b)).heap[w.heap.size]? = some (.cells #[.int .i64 a, .int .i64 b] 69)) := Lib.hid (heap_kept (heap_kept HB0b.out (set_grown _ _ _ _) (fun e => by have := Option.some.inj e; omega)) (set_grown _ _ _ _) (fun e => by have := Option.some.inj e; omega))
  have HFc : Hid (Fut w ((u1.setCell ⟨w.heap.size + 2, 0, none⟩ (.int .i64 (k + 1))).setCell ⟨w.heap.size + 2, 1, none⟩ (.int .i64 b))) := Lib.hid (RowKit.Below.setCell (p := ⟨w.heap.size + 2, 1, none⟩) (RowKit.Below.setCell (p := ⟨w.heap.size + 2, 0, none⟩) HFb.out (show w.heap.size ≤ w.heap.size + 2 by omega) _) (show w.heap.size ≤ w.heap.size + 2 by omega) _)
  go_simp
  clear y1 y2 y3 y4 y5
  refine hK.out _ _ ?_ (fun hHeld => ?_)
  · exact ⟨(two_cell HB0c.out).1, (two_cell HB0c.out).2.1⟩
  clear hK K
  try simp only [Act.put, List.setIfInBounds_toArray, List.set_cons_zero, List.set_cons_succ]
  refine wpAnyH_done (by kernel_rfl) ?_ _
  go_wp2_with fail
  refine bodyPost_ret (res_two69 rfl rfl rfl HY6.out HZ5.out) rfl ?_
  exact ⟨rfl, HFc.out⟩
end Go.Proofs.Ytjapconhehdcjaa
