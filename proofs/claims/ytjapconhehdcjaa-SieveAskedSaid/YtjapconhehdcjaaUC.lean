/- joined 100 -/
import Derived.Test.YtjapconhehdcjaaUB
import Derived.Deep.DeepCutAuto
import Derived.Deep.AppendLies
import Derived.Test.YtjapconhehdcjaaSN
namespace Go.Proofs.Ytjapconhehdcjaa
open Go.RowKit Go.Sort
abbrev prV (x d : Int) (v : Value) : Value := .agg #[.int .i64 x, .int .i64 d, v]
theorem load116 {w : World} {B : Nat} {cs : Array Value} (hc : cs.size = 3) (hw : w.heap[B]? = some (.cells cs 116)) : (loadVar 116 ⟨B, 0, none⟩).run Try.prog w = .ok (.agg cs) w :=
  run_loadVar_row (P := Try.prog) w B 116 116 cs (0, 0) _ hw Try.underlying116 rfl (by rw [hc]; kernel_rfl)
theorem res_one116 {fn : Func} {p : Tmp} (hf : fn.results = #[.cell p 116]) {tmps : Array Value} {w : World} {B : Nat} {a b c : Value} (h0 : tmps.getD p undef = .pointer (some ⟨B, 0, none⟩)) (hw : w.heap[B]? = some (.cells #[a, b, c] 116)) :
    (results fn tmps).run Try.prog w = .ok (.agg #[a, b, c]) w := by
  rw [results_one_cell hf, h0]
  have hr := load116 rfl hw
  simp [asAddr, hr, Result.andThen]
theorem set3_all {w : World} {B : Nat} {t : TypeId} {x y z : Value} (a b c : Value) (h : w.heap[B]? = some (.cells #[x, y, z] t)) :
    (w.cell? ⟨B, 0, none⟩ = some x ∧ w.frozen? ⟨B, 0, none⟩ = false) ∧ ((w.setCell ⟨B, 0, none⟩ a).cell? ⟨B, 1, none⟩ = some y ∧ (w.setCell ⟨B, 0, none⟩ a).frozen? ⟨B, 1, none⟩ = false) ∧
    (((w.setCell ⟨B, 0, none⟩ a).setCell ⟨B, 1, none⟩ b).cell? ⟨B, 2, none⟩ = some z ∧ ((w.setCell ⟨B, 0, none⟩ a).setCell ⟨B, 1, none⟩ b).frozen? ⟨B, 2, none⟩ = false) ∧
    (((w.setCell ⟨B, 0, none⟩ a).setCell ⟨B, 1, none⟩ b).setCell ⟨B, 2, none⟩ c).heap[B]? = some (.cells #[a, b, c] t) := by
  have h1 : (w.setCell ⟨B, 0, none⟩ a).heap[B]? = some (.cells #[a, y, z] t) := by rw [setCell_eq_setRow w B 0 _ t (0, 0) a h, setRow_heap _ _ _ _ _ _ h]; rfl
  have h2 : ((w.setCell ⟨B, 0, none⟩ a).setCell ⟨B, 1, none⟩ b).heap[B]? = some (.cells #[a, b, z] t) := by rw [setCell_eq_setRow _ B 1 _ t (0, 0) b h1, setRow_heap _ _ _ _ _ _ h1]; rfl
  refine ⟨⟨(three_cell h).1, ?_⟩, ⟨(three_cell h1).2.1, ?_⟩, ⟨(three_cell h2).2.2.1, (three_cell h2).2.2.2⟩, three_set c h2⟩
  · unfold World.frozen?; rw [h]; rfl
  · unfold World.frozen?; rw [h1]; rfl
theorem heap_set1 {w : World} {B C : Nat} {o : Obj} (h : w.heap[C]? = some o) (hne : B ≠ C) (k : Nat) (a : Value) : (w.setCell ⟨B, k, none⟩ a).heap[C]? = some o := heap_kept h (set_grown w B k a) (fun e => hne (Option.some.inj e))
theorem heap_set3 {w : World} {B C : Nat} {o : Obj} (h : w.heap[C]? = some o) (hne : B ≠ C) (a b c : Value) : (((w.setCell ⟨B, 0, none⟩ a).setCell ⟨B, 1, none⟩ b).setCell ⟨B, 2, none⟩ c).heap[C]? = some o := heap_set1 (heap_set1 (heap_set1 h hne 0 a) hne 1 b) hne 2 c
theorem own_set1 {w : World} {B : Nat} {v : Value} {L : List Int} (h : Owns w (B + 1) v L) (k : Nat) (a : Value) : Owns (w.setCell ⟨B, k, none⟩ a) (B + 1) v L := h.kept (set_grown w B k a) (own_ge h (Nat.lt_succ_self B))
theorem own_set3 {w : World} {B : Nat} {v : Value} {L : List Int} (h : Owns w (B + 1) v L) (a b c : Value) : Owns (((w.setCell ⟨B, 0, none⟩ a).setCell ⟨B, 1, none⟩ b).setCell ⟨B, 2, none⟩ c) (B + 1) v L := own_set1 (own_set1 (own_set1 h 0 a) 1 b) 2 c
set_option maxRecDepth 100000 in
set_option maxHeartbeats 4000000 in
theorem join_any (x d y e : Int) (l1 l2 : Option Addr) (c1 c2 : Nat) (T1 T2 : List Int) (w : World) (hd : -1000 ≤ d ∧ d ≤ 1000) (h1 : IntsAt w l1 T1) (h2 : IntsAt w l2 T2) (hl : T1.length ≤ 100 ∧ T2.length ≤ 100) :
    Calls Try.prog 100 #[prV x d (.slice l1 T1.length c1), prV y e (.slice l2 T2.length c2)] w fun en w' => ∃ l c, en = .returned (prV y (d - 1) (.slice l (x :: (T1 ++ T2)).length c)) ∧ Owns w' w.heap.size (.slice l (x :: (T1 ++ T2)).length c) (x :: (T1 ++ T2)) ∧ Fut w w' := by
  have hwd : IntKind.i64.wrap (d - 1) = d - 1 := IntWalk.i64_in _ ⟨by omega, by omega⟩
  have HLN : Hid (∀ k, k < [[x], T1, T2].length → (lth [[x], T1, T2] k).length ≤ 1000) := Lib.hid (fun k hk => by
    match k, hk with
    | 0, _ => simp [lth_eq]
    | 1, _ => simp [lth_eq]; omega
    | 2, _ => simp [lth_eq]; omega)
  obtain ⟨W0, hW0⟩ : ∃ W0, W0 = ((w.alloc (.cells #[.int .i64 x, .int .i64 d, .slice l1 T1.length c1] 116)).alloc (.cells #[.int .i64 y, .int .i64 e, .slice l2 T2.length c2] 116)).alloc (.cells #[.int .i64 0, .int .i64 0, .slice none 0 0] 116) := ⟨_, rfl⟩
  have g0 : W0.heap[w.heap.size]? = some (.cells #[.int .i64 x, .int .i64 d, .slice l1 T1.length c1] 116) := by
    rw [hW0]
    exact heap_fut (heap_fut (World.alloc_heap_new w _) (Fut.alloc _ _)) (Fut.alloc _ _)
  have g1 : W0.heap[w.heap.size + 1]? = some (.cells #[.int .i64 y, .int .i64 e, .slice l2 T2.length c2] 116) := by
    rw [hW0]
    have := World.alloc_heap_new (w.alloc (.cells #[.int .i64 x, .int .i64 d, .slice l1 T1.length c1] 116)) (.cells #[.int .i64 y, .int .i64 e, .slice l2 T2.length c2] 116)
    rw [World.size_alloc] at this
    exact heap_fut this (Fut.alloc _ _)
  have g2 : W0.heap[w.heap.size + 2]? = some (.cells #[.int .i64 0, .int .i64 0, .slice none 0 0] 116) := by
    rw [hW0]
    have := World.alloc_heap_new ((w.alloc (.cells #[.int .i64 x, .int .i64 d, .slice l1 T1.length c1] 116)).alloc (.cells #[.int .i64 y, .int .i64 e, .slice l2 T2.length c2] 116)) (.cells #[.int .i64 0, .int .i64 0, .slice none 0 0] 116)
    rw [World.size_alloc, World.size_alloc] at this
    exact this
  have HFU : Hid (Fut w W0.drew) := Lib.hid (Fut.trans (by rw [hW0]; exact ((Fut.alloc _ _).trans (Fut.alloc _ _)).trans (Fut.alloc _ _)) (below_drewN Fut.rfl 1))
  have hz : W0.drew.heap.size = w.heap.size + 3 := by show W0.heap.size = _; rw [hW0, World.size_alloc, World.size_alloc, World.size_alloc]
  have HW := Lib.hid hW0
  go_enter Try.func100, Try.ntmps100
  go_upto_region 1 with fail
  rw [← HW.out]
  clear HW hW0
  obtain ⟨H0, hH0⟩ : ∃ H0, H0 = w.heap.size := ⟨_, rfl⟩
  obtain ⟨H1, hH1⟩ : ∃ H1, H1 = w.heap.size + 1 := ⟨_, rfl⟩
  obtain ⟨H2, hH2⟩ : ∃ H2, H2 = w.heap.size + 2 := ⟨_, rfl⟩
  have HB0 : Hid (W0.drew.heap[H0]? = some (.cells #[.int .i64 x, .int .i64 d, .slice l1 T1.length c1] 116)) := Lib.hid (by rw [hH0]; exact g0)
  have HB1 : Hid (W0.drew.heap[H1]? = some (.cells #[.int .i64 y, .int .i64 e, .slice l2 T2.length c2] 116)) := Lib.hid (by rw [hH1]; exact g1)
  have HB2 : Hid (W0.drew.heap[H2]? = some (.cells #[.int .i64 0, .int .i64 0, .slice none 0 0] 116)) := Lib.hid (by rw [hH2]; exact g2)
  have HZU : Hid (H2 + 1 ≤ W0.drew.heap.size) := Lib.hid (by rw [hz, hH2]; omega)
  have HH2 : Hid (w.heap.size ≤ H2) := Lib.hid (by omega)
  have HNE : Hid (H0 ≠ H2 ∧ H1 ≠ H2) := Lib.hid (by omega)
  have HI1 : Hid (IntsAt W0.drew l1 T1) := Lib.hid (h1.fut HFU.out)
  have HI2 : Hid (IntsAt W0.drew l2 T2) := Lib.hid (h2.fut HFU.out)
  rw [← hH2, ← hH1, ← hH0]
  have keep : ∀ W, Fut W0.drew W → (fun w' => w'.cell? ⟨H0, 0, none⟩ = some (.int .i64 x) ∧ w'.cell? ⟨H0, 1, none⟩ = some (.int .i64 d) ∧ w'.cell? ⟨H0, 2, none⟩ = some (.slice l1 T1.length c1) ∧ w'.cell? ⟨H1, 0, none⟩ = some (.int .i64 y) ∧ w'.cell? ⟨H1, 2, none⟩ = some (.slice l2 T2.length c2)) W := fun W k => by
    obtain ⟨a1, a2, a3, _⟩ := three_cell (heap_fut HB0.out k)
    obtain ⟨b1, _, b3, _⟩ := three_cell (heap_fut HB1.out k)
    exact ⟨a1, a2, a3, b1, b3⟩
  clear g0 g1 g2 hz hH0 hH1 hH2 h1 h2
  refine wp_region_held_drew (S := (fun w' => w'.cell? ⟨H0, 0, none⟩ = some (.int .i64 x) ∧ w'.cell? ⟨H0, 1, none⟩ = some (.int .i64 d) ∧ w'.cell? ⟨H0, 2, none⟩ = some (.slice l1 T1.length c1) ∧ w'.cell? ⟨H1, 0, none⟩ = some (.int .i64 y) ∧ w'.cell? ⟨H1, 2, none⟩ = some (.slice l2 T2.length c2))) (by kernel_rfl) ?_ (fun hHeld => ?_)
  · exact keep _ Fut.rfl
  generalize W0.drew = u0 at *
  refine wpAnyH_take (i := 0) (oi := { dst := some 5, op := Op.fieldAddr 116 (Operand.tmp 3) 0, type := 0, pos := "tree.go:152", after := #[], guard := none }) (v := ?_) rfl (by kernel_rfl) (by kernel_rfl) (by kernel_rfl) (fun _ _ _ h => h) (Or.inl ⟨by rfl, ?_⟩) (by assumption) ?_
  rotate_left
  · (intro w hSw; obtain ⟨s0, s1, s2, s3, s4⟩ := hSw; go_simp <;> with_reducible rfl)
  try simp only [Act.put, List.setIfInBounds_toArray, List.set_cons_zero, List.set_cons_succ]
  refine wpAnyH_take (i := 1) (oi := { dst := some 6, op := Op.load 3 (Operand.tmp 5), type := 3, pos := "tree.go:152", after := #[{ on := 0, ground := Ground.data }], guard := none }) (v := ?_) rfl (by kernel_rfl) (by kernel_rfl) (by kernel_rfl) (fun _ _ _ h => h) (Or.inl ⟨by rfl, ?_⟩) (by assumption) ?_
  rotate_left
  · (intro w hSw; obtain ⟨s0, s1, s2, s3, s4⟩ := hSw; go_simp <;> with_reducible rfl)
  try simp only [Act.put, List.setIfInBounds_toArray, List.set_cons_zero, List.set_cons_succ]
  refine wpAnyH_take (i := 2) (oi := { dst := some 7, op := Op.fieldAddr 116 (Operand.tmp 2) 1, type := 0, pos := "tree.go:152", after := #[], guard := none }) (v := ?_) rfl (by kernel_rfl) (by kernel_rfl) (by kernel_rfl) (fun _ _ _ h => h) (Or.inl ⟨by rfl, ?_⟩) (by assumption) ?_
  rotate_left
  · (intro w hSw; obtain ⟨s0, s1, s2, s3, s4⟩ := hSw; go_simp <;> with_reducible rfl)
  try simp only [Act.put, List.setIfInBounds_toArray, List.set_cons_zero, List.set_cons_succ]
  refine wpAnyH_take (i := 3) (oi := { dst := some 8, op := Op.load 3 (Operand.tmp 7), type := 3, pos := "tree.go:152", after := #[{ on := 2, ground := Ground.data }], guard := none }) (v := ?_) rfl (by kernel_rfl) (by kernel_rfl) (by kernel_rfl) (fun _ _ _ h => h) (Or.inl ⟨by rfl, ?_⟩) (by assumption) ?_
  rotate_left
  · (intro w hSw; obtain ⟨s0, s1, s2, s3, s4⟩ := hSw; go_simp <;> with_reducible rfl)
  try simp only [Act.put, List.setIfInBounds_toArray, List.set_cons_zero, List.set_cons_succ]
  refine wpAnyH_take (i := 4) (oi := { dst := some 9, op := Op.binOp BinOp.sub 3 (Operand.tmp 8) (Operand.const (Value.int IntKind.i64 1)) 3, type := 3, pos := "tree.go:152", after := #[{ on := 3, ground := Ground.data }], guard := none }) (v := ?_) rfl (by kernel_rfl) (by kernel_rfl) (by kernel_rfl) (fun _ _ _ h => h) (Or.inl ⟨by rfl, ?_⟩) (by assumption) ?_
  rotate_left
  · (intro w hSw; obtain ⟨s0, s1, s2, s3, s4⟩ := hSw; go_simp <;> with_reducible rfl)
  try simp only [Act.put, List.setIfInBounds_toArray, List.set_cons_zero, List.set_cons_succ]
  refine wpAnyH_take (i := 5) (oi := { dst := some 10, op := Op.fieldAddr 116 (Operand.tmp 2) 0, type := 0, pos := "tree.go:152", after := #[], guard := none }) (v := ?_) rfl (by kernel_rfl) (by kernel_rfl) (by kernel_rfl) (fun _ _ _ h => h) (Or.inl ⟨by rfl, ?_⟩) (by assumption) ?_
  rotate_left
  · (intro w hSw; obtain ⟨s0, s1, s2, s3, s4⟩ := hSw; go_simp <;> with_reducible rfl)
  try simp only [Act.put, List.setIfInBounds_toArray, List.set_cons_zero, List.set_cons_succ]
  refine wpAnyH_take (i := 6) (oi := { dst := some 11, op := Op.load 3 (Operand.tmp 10), type := 3, pos := "tree.go:152", after := #[{ on := 5, ground := Ground.data }], guard := none }) (v := ?_) rfl (by kernel_rfl) (by kernel_rfl) (by kernel_rfl) (fun _ _ _ h => h) (Or.inl ⟨by rfl, ?_⟩) (by assumption) ?_
  rotate_left
  · (intro w hSw; obtain ⟨s0, s1, s2, s3, s4⟩ := hSw; go_simp <;> with_reducible rfl)
  try simp only [Act.put, List.setIfInBounds_toArray, List.set_cons_zero, List.set_cons_succ]
  refine wpAnyH_take (i := 8) (oi := { dst := some 13, op := Op.fieldAddr 116 (Operand.tmp 2) 2, type := 0, pos := "tree.go:152", after := #[], guard := none }) (v := ?_) rfl (by kernel_rfl) (by kernel_rfl) (by kernel_rfl) (fun _ _ _ h => h) (Or.inl ⟨by rfl, ?_⟩) (by assumption) ?_
  rotate_left
  · (intro w hSw; obtain ⟨s0, s1, s2, s3, s4⟩ := hSw; go_simp <;> with_reducible rfl)
  try simp only [Act.put, List.setIfInBounds_toArray, List.set_cons_zero, List.set_cons_succ]
  refine wpAnyH_take (i := 9) (oi := { dst := some 14, op := Op.load 22 (Operand.tmp 13), type := 22, pos := "tree.go:152", after := #[{ on := 8, ground := Ground.data }], guard := none }) (v := ?_) rfl (by kernel_rfl) (by kernel_rfl) (by kernel_rfl) (fun _ _ _ h => h) (Or.inl ⟨by rfl, ?_⟩) (by assumption) ?_
  rotate_left
  · (intro w hSw; obtain ⟨s0, s1, s2, s3, s4⟩ := hSw; go_simp <;> with_reducible rfl)
  try simp only [Act.put, List.setIfInBounds_toArray, List.set_cons_zero, List.set_cons_succ]
  refine wpAnyH_take (i := 10) (oi := { dst := some 15, op := Op.fieldAddr 116 (Operand.tmp 3) 2, type := 0, pos := "tree.go:152", after := #[], guard := none }) (v := ?_) rfl (by kernel_rfl) (by kernel_rfl) (by kernel_rfl) (fun _ _ _ h => h) (Or.inl ⟨by rfl, ?_⟩) (by assumption) ?_
  rotate_left
  · (intro w hSw; obtain ⟨s0, s1, s2, s3, s4⟩ := hSw; go_simp <;> with_reducible rfl)
  try simp only [Act.put, List.setIfInBounds_toArray, List.set_cons_zero, List.set_cons_succ]
  refine wpAnyH_take (i := 11) (oi := { dst := some 16, op := Op.load 22 (Operand.tmp 15), type := 22, pos := "tree.go:152", after := #[{ on := 10, ground := Ground.data }], guard := none }) (v := ?_) rfl (by kernel_rfl) (by kernel_rfl) (by kernel_rfl) (fun _ _ _ h => h) (Or.inl ⟨by rfl, ?_⟩) (by assumption) ?_
  rotate_left
  · (intro w hSw; obtain ⟨s0, s1, s2, s3, s4⟩ := hSw; go_simp <;> with_reducible rfl)
  try simp only [Act.put, List.setIfInBounds_toArray, List.set_cons_zero, List.set_cons_succ]
  refine wpAnyH_ready (rs := [7]) (by kernel_rfl) (by simp) ?_
  refine AllReadyH.cons (o := { dst := some 12, op := Op.buildSlice 22 1 #[(0, Operand.tmp 11)], type := 22, pos := "tree.go:152", after := #[{ on := 6, ground := Ground.data }], guard := none }) rfl (fun K hK => ?_) AllReadyH.nil
  go_simp
  obtain ⟨v7, hv7⟩ : ∃ W, W = u0.alloc (.cells #[.int .i64 x] 3) := ⟨_, rfl⟩
  have G7 : Hid (Fut u0 v7) := Lib.hid (by rw [hv7]; exact Fut.alloc _ _)
  have N7 : Hid (v7.cell? ⟨u0.heap.size, 0, none⟩ = some (.int .i64 x)) := Lib.hid (by rw [hv7]; exact (cells_at _ _ _ _ _ rfl).1)
  obtain ⟨s7, hs7⟩ : ∃ s, s = u0.heap.size := ⟨_, rfl⟩
  rw [← hv7]
  rw [← hs7] at N7 ⊢
  clear hv7 hs7
  refine hK.out _ _ ?_ (fun hHeld => ?_)
  · exact keep _ G7.out
  clear hK K
  try simp only [Act.put, List.setIfInBounds_toArray, List.set_cons_zero, List.set_cons_succ]
  refine wpAnyH_ready (rs := [12]) (by kernel_rfl) (by simp) ?_
  refine AllReadyH.cons (o := { dst := some 17, op := Op.buildSlice 71 3 #[(0, Operand.tmp 12), (1, Operand.tmp 14), (2, Operand.tmp 16)], type := 71, pos := "tree.go:152", after := #[{ on := 7, ground := Ground.data }, { on := 9, ground := Ground.data }, { on := 11, ground := Ground.data }], guard := none }) rfl (fun K hK => ?_) AllReadyH.nil
  go_simp
  obtain ⟨v12, hv12⟩ : ∃ W, W = v7.alloc (.cells #[.slice (some ⟨s7, 0, none⟩) 1 1, .slice l1 T1.length c1, .slice l2 T2.length c2] 22) := ⟨_, rfl⟩
  have T12 : Hid (Fut v7 v12) := Lib.hid (by rw [hv12]; exact Fut.alloc _ _)
  have G12 : Hid (Fut u0 v12) := Lib.hid (G7.out.trans T12.out)
  have L12 : Hid (LstAt v12 (some ⟨v7.heap.size, 0, none⟩) [[x], T1, T2]) := Lib.hid (three_lists (s := s7) (by rw [hv12]; exact (cells_at _ _ _ _ _ rfl).1) (by rw [hv12]; exact (cells_at _ _ _ _ _ rfl).1) (by rw [hv12]; exact (cells_at _ _ _ _ _ rfl).1) (cell_at N7.out T12.out) (HI1.out.fut G12.out) (HI2.out.fut G12.out))
  obtain ⟨s12, hs12⟩ : ∃ s, s = v7.heap.size := ⟨_, rfl⟩
  rw [← hv12]
  rw [← hs12] at L12 ⊢
  clear hv12 hs12
  refine hK.out _ _ ?_ (fun hHeld => ?_)
  · exact keep _ G12.out
  clear hK K
  try simp only [Act.put, List.setIfInBounds_toArray, List.set_cons_zero, List.set_cons_succ]
  refine wpAnyH_ready (rs := [13]) (by kernel_rfl) (by simp) ?_
  refine AllReadyH.cons (o := { dst := some 18, op := Op.call { callee := Callee.value (Operand.func 89), args := #[Operand.tmp 17], argTypes := #[71] }, type := 22, pos := "tree.go:152", after := #[{ on := 12, ground := Ground.data }], guard := none }) rfl (fun K hK => ?_) AllReadyH.nil
  have HCC := Lib.hid (concat_any (some ⟨s12, 0, none⟩) 3 [[x], T1, T2] v12 L12.out (by simp) HLN.out)
  go_simp
  go_at_call 89
  refine HCC.out.mono ?_
  rintro _ v13 ⟨x13, rfl, hO13, T13⟩
  rw [show [[x], T1, T2].flatten = x :: (T1 ++ T2) by simp] at hO13
  have G13 : Hid (Fut u0 v13) := Lib.hid (G12.out.trans T13)
  have O13 := Lib.hid (hO13.base (Nat.le_trans HZU.out (RowKit.Below.size G12.out)))
  obtain ⟨l13, c13, rfl, _⟩ := hO13.ints
  obtain ⟨N, hN⟩ : ∃ N, (x :: (T1 ++ T2)).length = N := ⟨_, rfl⟩
  rw [hN] at O13 ⊢
  have HNN := Lib.hid hN
  clear hO13 T13 HCC hN
  try go_wp2_with fail
  refine hK.out _ _ ?_ (fun hHeld => ?_)
  · exact keep _ G13.out
  clear hK K
  try simp only [Act.put, List.setIfInBounds_toArray, List.set_cons_zero, List.set_cons_succ]
  refine wpAnyH_take (i := 14) (oi := { dst := some 19, op := Op.build 116 #[(0, Operand.tmp 6), (1, Operand.tmp 9), (2, Operand.tmp 18)], type := 116, pos := "tree.go:152", after := #[{ on := 1, ground := Ground.data }, { on := 4, ground := Ground.data }, { on := 13, ground := Ground.data }], guard := none }) (v := ?_) rfl (by kernel_rfl) (by kernel_rfl) (by kernel_rfl) (fun _ _ _ h => h) (Or.inl ⟨by rfl, ?_⟩) (by assumption) ?_
  rotate_left
  · (intro w hSw; obtain ⟨s0, s1, s2, s3, s4⟩ := hSw; go_simp <;> with_reducible rfl)
  try simp only [Act.put, List.setIfInBounds_toArray, List.set_cons_zero, List.set_cons_succ]
  refine wpAnyH_ready (rs := [15]) (by kernel_rfl) (by simp) ?_
  refine AllReadyH.cons (o := { dst := none, op := Op.store 116 (Operand.tmp 4) (Operand.tmp 19), type := 0, pos := "tree.go:152", after := #[{ on := 14, ground := Ground.data }, { on := 13, ground := Ground.chain }, { on := 0, ground := Ground.phase }, { on := 1, ground := Ground.phase }, { on := 2, ground := Ground.phase }, { on := 3, ground := Ground.phase }, { on := 4, ground := Ground.phase }, { on := 5, ground := Ground.phase }, { on := 6, ground := Ground.phase }, { on := 7, ground := Ground.phase }, { on := 8, ground := Ground.phase }, { on := 9, ground := Ground.phase }, { on := 10, ground := Ground.phase }, { on := 11, ground := Ground.phase }, { on := 12, ground := Ground.phase }, { on := 13, ground := Ground.phase }, { on := 14, ground := Ground.phase }], guard := none }) rfl (fun K hK => ?_) AllReadyH.nil
  have e1 := set3_all (.int .i64 y) (.int .i64 (d - 1)) (.slice l13 N c13) (heap_fut HB2.out G13.out)
  obtain ⟨⟨y1, y2⟩, ⟨y3, y4⟩, ⟨y5, y6⟩, y7⟩ := e1
  have HY7 := Lib.hid y7
  have HF15 : Hid (Fut w (((v13.setCell ⟨H2, 0, none⟩ (.int .i64 y)).setCell ⟨H2, 1, none⟩ (.int .i64 (d - 1))).setCell ⟨H2, 2, none⟩ (.slice l13 N c13))) := Lib.hid (RowKit.Below.setCell (p := ⟨H2, 2, none⟩) (RowKit.Below.setCell (p := ⟨H2, 1, none⟩) (RowKit.Below.setCell (p := ⟨H2, 0, none⟩) (HFU.out.trans G13.out) HH2.out _) HH2.out _) HH2.out _)
  have HO15 : Hid (Owns (((v13.setCell ⟨H2, 0, none⟩ (.int .i64 y)).setCell ⟨H2, 1, none⟩ (.int .i64 (d - 1))).setCell ⟨H2, 2, none⟩ (.slice l13 N c13)) (H2 + 1) (.slice l13 N c13) (x :: (T1 ++ T2))) := Lib.hid (own_set3 O13.out _ _ _)
  go_simp
  clear y1 y2 y3 y4 y5 y6 y7
  refine hK.out _ _ ?_ (fun hHeld => ?_)
  · exact ⟨(three_cell (heap_set3 (heap_fut HB0.out G13.out) HNE.out.1.symm _ _ _)).1, (three_cell (heap_set3 (heap_fut HB0.out G13.out) HNE.out.1.symm _ _ _)).2.1, (three_cell (heap_set3 (heap_fut HB0.out G13.out) HNE.out.1.symm _ _ _)).2.2.1, (three_cell (heap_set3 (heap_fut HB1.out G13.out) HNE.out.2.symm _ _ _)).1, (three_cell (heap_set3 (heap_fut HB1.out G13.out) HNE.out.2.symm _ _ _)).2.2.1⟩
  clear hK K
  try simp only [Act.put, List.setIfInBounds_toArray, List.set_cons_zero, List.set_cons_succ]
  refine wpAnyH_done (by kernel_rfl) ?_ _
  go_wp2_with fail
  refine bodyPost_ret (res_one116 rfl rfl HY7.out) rfl ?_
  have hN := HNN.out
  subst hN
  exact ⟨l13, c13, rfl, HO15.out.base (Nat.le_succ_of_le HH2.out), HF15.out⟩
end Go.Proofs.Ytjapconhehdcjaa
