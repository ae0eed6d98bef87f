/- Layer 2, of layer 1: claims in parts, for 1 to 5 houses, and numbers of houses. -/
import Derived.Test.YtimddkofcejijaaVA
namespace Go.Proofs.Ytimddkofcejijaa.Cl
open Go.RowKit Go.Sort
set_option maxRecDepth 100000

theorem known1 (x : Int) (b off cap : Nat) (c0 : Int) (w : World) (hx : 0 ≤ x) (hx' : x ≤ 5000) (p0 : 1 ≤ c0) (q0 : c0 ≤ 1000) (hb : b < w.heap.size) (h0 : w.cell? ⟨b, off, none⟩ = some (.int .i64 c0))
    (hk : ∀ o, Calls Try.prog 107 #[.int .i64 x, .slice (some ⟨b, off, none⟩) 1 cap] (w.alloc o) fun e w' => e = .returned (.int .i64 0) ∧ w.alloc o = w') :
    Calls Try.prog 87 #[.int .i64 x, .slice (some ⟨b, off, none⟩) 1 cap] w fun e w' => e = .returned (.tuple #[hv 1 (x * 120) (c0 * 120) 0 0 0 0, .int .i64 0]) ∧ Below w.heap.size w w' := by
  have HK := Lib.hid hk; clear hk
  go_enter Try.func87, Try.ntmps87
  go_wp2_with (go_at_call 107; refine (HK.out _).mono ?_; rintro e w' ⟨rfl, rfl⟩)
  refine wp_loop_rounds 2 ?_
  iterate 2 (rw [rounds_succ]; go_wp2)
  refine bodyPost_ret (v := .tuple #[hv 1 (x * 120) (c0 * 120) 0 0 0 0, .int .i64 0]) (by simp [results, Try.results87, go_sem]) rfl ⟨rfl, ?_⟩
  exact ((Below.refl _ _).alloc (Nat.le_refl _) _).alloc (by simp) _

theorem known2 (x : Int) (b off cap : Nat) (c0 c1 : Int) (w : World) (hx : 0 ≤ x) (hx' : x ≤ 5000) (p0 : 1 ≤ c0) (q0 : c0 ≤ 1000) (p1 : 1 ≤ c1) (q1 : c1 ≤ 1000) (hb : b < w.heap.size) (h0 : w.cell? ⟨b, off, none⟩ = some (.int .i64 c0)) (h1 : w.cell? ⟨b, off + 1, none⟩ = some (.int .i64 c1))
    (hk : ∀ o, Calls Try.prog 107 #[.int .i64 x, .slice (some ⟨b, off, none⟩) 2 cap] (w.alloc o) fun e w' => e = .returned (.int .i64 0) ∧ w.alloc o = w') :
    Calls Try.prog 87 #[.int .i64 x, .slice (some ⟨b, off, none⟩) 2 cap] w fun e w' => e = .returned (.tuple #[hv 2 (x * 120) (c0 * 120) (c1 * 120) 0 0 0, .int .i64 0]) ∧ Below w.heap.size w w' := by
  have HK := Lib.hid hk; clear hk
  go_enter Try.func87, Try.ntmps87
  go_wp2_with (go_at_call 107; refine (HK.out _).mono ?_; rintro e w' ⟨rfl, rfl⟩)
  refine wp_loop_rounds 3 ?_
  iterate 3 (rw [rounds_succ]; go_wp2)
  refine bodyPost_ret (v := .tuple #[hv 2 (x * 120) (c0 * 120) (c1 * 120) 0 0 0, .int .i64 0]) (by simp [results, Try.results87, go_sem]) rfl ⟨rfl, ?_⟩
  exact ((Below.refl _ _).alloc (Nat.le_refl _) _).alloc (by simp) _

theorem known3 (x : Int) (b off cap : Nat) (c0 c1 c2 : Int) (w : World) (hx : 0 ≤ x) (hx' : x ≤ 5000) (p0 : 1 ≤ c0) (q0 : c0 ≤ 1000) (p1 : 1 ≤ c1) (q1 : c1 ≤ 1000) (p2 : 1 ≤ c2) (q2 : c2 ≤ 1000) (hb : b < w.heap.size) (h0 : w.cell? ⟨b, off, none⟩ = some (.int .i64 c0)) (h1 : w.cell? ⟨b, off + 1, none⟩ = some (.int .i64 c1)) (h2 : w.cell? ⟨b, off + 2, none⟩ = some (.int .i64 c2))
    (hk : ∀ o, Calls Try.prog 107 #[.int .i64 x, .slice (some ⟨b, off, none⟩) 3 cap] (w.alloc o) fun e w' => e = .returned (.int .i64 0) ∧ w.alloc o = w') :
    Calls Try.prog 87 #[.int .i64 x, .slice (some ⟨b, off, none⟩) 3 cap] w fun e w' => e = .returned (.tuple #[hv 3 (x * 120) (c0 * 120) (c1 * 120) (c2 * 120) 0 0, .int .i64 0]) ∧ Below w.heap.size w w' := by
  have HK := Lib.hid hk; clear hk
  go_enter Try.func87, Try.ntmps87
  go_wp2_with (go_at_call 107; refine (HK.out _).mono ?_; rintro e w' ⟨rfl, rfl⟩)
  refine wp_loop_rounds 4 ?_
  iterate 4 (rw [rounds_succ]; go_wp2)
  refine bodyPost_ret (v := .tuple #[hv 3 (x * 120) (c0 * 120) (c1 * 120) (c2 * 120) 0 0, .int .i64 0]) (by simp [results, Try.results87, go_sem]) rfl ⟨rfl, ?_⟩
  exact ((Below.refl _ _).alloc (Nat.le_refl _) _).alloc (by simp) _

theorem known4 (x : Int) (b off cap : Nat) (c0 c1 c2 c3 : Int) (w : World) (hx : 0 ≤ x) (hx' : x ≤ 5000) (p0 : 1 ≤ c0) (q0 : c0 ≤ 1000) (p1 : 1 ≤ c1) (q1 : c1 ≤ 1000) (p2 : 1 ≤ c2) (q2 : c2 ≤ 1000) (p3 : 1 ≤ c3) (q3 : c3 ≤ 1000) (hb : b < w.heap.size) (h0 : w.cell? ⟨b, off, none⟩ = some (.int .i64 c0)) (h1 : w.cell? ⟨b, off + 1, none⟩ = some (.int .i64 c1)) (h2 : w.cell? ⟨b, off + 2, none⟩ = some (.int .i64 c2)) (h3 : w.cell? ⟨b, off + 3, none⟩ = some (.int .i64 c3))
    (hk : ∀ o, Calls Try.prog 107 #[.int .i64 x, .slice (some ⟨b, off, none⟩) 4 cap] (w.alloc o) fun e w' => e = .returned (.int .i64 0) ∧ w.alloc o = w') :
    Calls Try.prog 87 #[.int .i64 x, .slice (some ⟨b, off, none⟩) 4 cap] w fun e w' => e = .returned (.tuple #[hv 4 (x * 120) (c0 * 120) (c1 * 120) (c2 * 120) (c3 * 120) 0, .int .i64 0]) ∧ Below w.heap.size w w' := by
  have HK := Lib.hid hk; clear hk
  go_enter Try.func87, Try.ntmps87
  go_wp2_with (go_at_call 107; refine (HK.out _).mono ?_; rintro e w' ⟨rfl, rfl⟩)
  refine wp_loop_rounds 5 ?_
  iterate 5 (rw [rounds_succ]; go_wp2)
  refine bodyPost_ret (v := .tuple #[hv 4 (x * 120) (c0 * 120) (c1 * 120) (c2 * 120) (c3 * 120) 0, .int .i64 0]) (by simp [results, Try.results87, go_sem]) rfl ⟨rfl, ?_⟩
  exact ((Below.refl _ _).alloc (Nat.le_refl _) _).alloc (by simp) _

theorem known5 (x : Int) (b off cap : Nat) (c0 c1 c2 c3 c4 : Int) (w : World) (hx : 0 ≤ x) (hx' : x ≤ 5000) (p0 : 1 ≤ c0) (q0 : c0 ≤ 1000) (p1 : 1 ≤ c1) (q1 : c1 ≤ 1000) (p2 : 1 ≤ c2) (q2 : c2 ≤ 1000) (p3 : 1 ≤ c3) (q3 : c3 ≤ 1000) (p4 : 1 ≤ c4) (q4 : c4 ≤ 1000) (hb : b < w.heap.size) (h0 : w.cell? ⟨b, off, none⟩ = some (.int .i64 c0)) (h1 : w.cell? ⟨b, off + 1, none⟩ = some (.int .i64 c1)) (h2 : w.cell? ⟨b, off + 2, none⟩ = some (.int .i64 c2)) (h3 : w.cell? ⟨b, off + 3, none⟩ = some (.int .i64 c3)) (h4 : w.cell? ⟨b, off + 4, none⟩ = some (.int .i64 c4))
    (hk : ∀ o, Calls Try.prog 107 #[.int .i64 x, .slice (some ⟨b, off, none⟩) 5 cap] (w.alloc o) fun e w' => e = .returned (.int .i64 0) ∧ w.alloc o = w') :
    Calls Try.prog 87 #[.int .i64 x, .slice (some ⟨b, off, none⟩) 5 cap] w fun e w' => e = .returned (.tuple #[hv 5 (x * 120) (c0 * 120) (c1 * 120) (c2 * 120) (c3 * 120) (c4 * 120), .int .i64 0]) ∧ Below w.heap.size w w' := by
  have HK := Lib.hid hk; clear hk
  go_enter Try.func87, Try.ntmps87
  go_wp2_with (go_at_call 107; refine (HK.out _).mono ?_; rintro e w' ⟨rfl, rfl⟩)
  refine wp_loop_rounds 6 ?_
  iterate 6 (rw [rounds_succ]; go_wp2)
  refine bodyPost_ret (v := .tuple #[hv 5 (x * 120) (c0 * 120) (c1 * 120) (c2 * 120) (c3 * 120) (c4 * 120), .int .i64 0]) (by simp [results, Try.results87, go_sem]) rfl ⟨rfl, ?_⟩
  exact ((Below.refl _ _).alloc (Nat.le_refl _) _).alloc (by simp) _


theorem numbers1 (x a b c d e : Int) (w : World) : Calls Try.prog 109 #[hv 1 x a b c d e] w fun r w' =>
    r = .returned (.slice (some ⟨w.heap.size + 1, 0, none⟩) 1 1) ∧ w' = (w.alloc (.cells #[.int .i64 1, .int .i64 x, .int .i64 a, .int .i64 b, .int .i64 c, .int .i64 d, .int .i64 e] 111)).alloc (.cells #[.int .i64 0] 3) := by
  have hmk : ∀ w, (Instr.makeSlice 25 (.int .i64 1) (.int .i64 1)).run Try.prog w = .ok (.slice (some ⟨w.heap.size, 0, none⟩) 1 1) (w.alloc (.cells #[.int .i64 0] 3)) := fun _ => by kernel_rfl
  go_enter Try.func109, Try.ntmps109
  go_wp2
  refine wp_loop_rounds 2 ?_
  iterate 2 (rw [rounds_succ]; go_wp2)
  go_ret
  exact ⟨rfl, rfl⟩

theorem numbers2 (x a b c d e : Int) (w : World) : Calls Try.prog 109 #[hv 2 x a b c d e] w fun r w' =>
    r = .returned (.slice (some ⟨w.heap.size + 1, 0, none⟩) 2 2) ∧ w' = (w.alloc (.cells #[.int .i64 2, .int .i64 x, .int .i64 a, .int .i64 b, .int .i64 c, .int .i64 d, .int .i64 e] 111)).alloc (.cells #[.int .i64 0, .int .i64 1] 3) := by
  have hmk : ∀ w, (Instr.makeSlice 25 (.int .i64 2) (.int .i64 2)).run Try.prog w = .ok (.slice (some ⟨w.heap.size, 0, none⟩) 2 2) (w.alloc (.cells #[.int .i64 0, .int .i64 0] 3)) := fun _ => by kernel_rfl
  go_enter Try.func109, Try.ntmps109
  go_wp2
  refine wp_loop_rounds 3 ?_
  iterate 3 (rw [rounds_succ]; go_wp2)
  go_ret
  exact ⟨rfl, rfl⟩

theorem numbers3 (x a b c d e : Int) (w : World) : Calls Try.prog 109 #[hv 3 x a b c d e] w fun r w' =>
    r = .returned (.slice (some ⟨w.heap.size + 1, 0, none⟩) 3 3) ∧ w' = (w.alloc (.cells #[.int .i64 3, .int .i64 x, .int .i64 a, .int .i64 b, .int .i64 c, .int .i64 d, .int .i64 e] 111)).alloc (.cells #[.int .i64 0, .int .i64 1, .int .i64 2] 3) := by
  have hmk : ∀ w, (Instr.makeSlice 25 (.int .i64 3) (.int .i64 3)).run Try.prog w = .ok (.slice (some ⟨w.heap.size, 0, none⟩) 3 3) (w.alloc (.cells #[.int .i64 0, .int .i64 0, .int .i64 0] 3)) := fun _ => by kernel_rfl
  go_enter Try.func109, Try.ntmps109
  go_wp2
  refine wp_loop_rounds 4 ?_
  iterate 4 (rw [rounds_succ]; go_wp2)
  go_ret
  exact ⟨rfl, rfl⟩

theorem numbers4 (x a b c d e : Int) (w : World) : Calls Try.prog 109 #[hv 4 x a b c d e] w fun r w' =>
    r = .returned (.slice (some ⟨w.heap.size + 1, 0, none⟩) 4 4) ∧ w' = (w.alloc (.cells #[.int .i64 4, .int .i64 x, .int .i64 a, .int .i64 b, .int .i64 c, .int .i64 d, .int .i64 e] 111)).alloc (.cells #[.int .i64 0, .int .i64 1, .int .i64 2, .int .i64 3] 3) := by
  have hmk : ∀ w, (Instr.makeSlice 25 (.int .i64 4) (.int .i64 4)).run Try.prog w = .ok (.slice (some ⟨w.heap.size, 0, none⟩) 4 4) (w.alloc (.cells #[.int .i64 0, .int .i64 0, .int .i64 0, .int .i64 0] 3)) := fun _ => by kernel_rfl
  go_enter Try.func109, Try.ntmps109
  go_wp2
  refine wp_loop_rounds 5 ?_
  iterate 5 (rw [rounds_succ]; go_wp2)
  go_ret
  exact ⟨rfl, rfl⟩

theorem numbers5 (x a b c d e : Int) (w : World) : Calls Try.prog 109 #[hv 5 x a b c d e] w fun r w' =>
    r = .returned (.slice (some ⟨w.heap.size + 1, 0, none⟩) 5 5) ∧ w' = (w.alloc (.cells #[.int .i64 5, .int .i64 x, .int .i64 a, .int .i64 b, .int .i64 c, .int .i64 d, .int .i64 e] 111)).alloc (.cells #[.int .i64 0, .int .i64 1, .int .i64 2, .int .i64 3, .int .i64 4] 3) := by
  have hmk : ∀ w, (Instr.makeSlice 25 (.int .i64 5) (.int .i64 5)).run Try.prog w = .ok (.slice (some ⟨w.heap.size, 0, none⟩) 5 5) (w.alloc (.cells #[.int .i64 0, .int .i64 0, .int .i64 0, .int .i64 0, .int .i64 0] 3)) := fun _ => by kernel_rfl
  go_enter Try.func109, Try.ntmps109
  go_wp2
  refine wp_loop_rounds 6 ?_
  iterate 6 (rw [rounds_succ]; go_wp2)
  go_ret
  exact ⟨rfl, rfl⟩

/-- the first n numbers of houses. -/
def idx5 (n : Nat) : Array (Fin 5) := ([0, 1, 2, 3, 4].take n).toArray
theorem numbers_any (n : Nat) (h1 : 1 ≤ n) (h5 : n ≤ 5) (x a b c d e : Int) (w : World) : Calls Try.prog 109 #[hv n x a b c d e] w fun r w' =>
    r = .returned (.slice (some ⟨w.heap.size + 1, 0, none⟩) n n) ∧ Holds enc5 w' (w.heap.size + 1) 0 (idx5 n) ∧ RowKit.Below w.heap.size w w' ∧ w'.heap.size = w.heap.size + 2 := by
  have hB : ∀ o o', RowKit.Below w.heap.size w ((w.alloc o).alloc o') := fun o o' => ((Below.refl _ _).alloc (Nat.le_refl _) o).alloc (by simp) o'
  have hH : ∀ (o : Obj) (cur : Array Value) (ds : Array (Fin 5)), (∀ j, j < ds.size → cur[j]? = some (enc5 ds[j]!)) → Holds enc5 ((w.alloc o).alloc (.cells cur 3)) (w.heap.size + 1) 0 ds := fun o cur ds h j hj => by
    refine ⟨?_, World.frozen?_alloc_at _ _ _ _ (by simp)⟩
    rw [World.cell?_alloc_at _ _ _ _ (by simp)]
    simpa using h j hj
  match n, h1, h5 with
  | 1, _, _ => exact (numbers1 x a b c d e w).mono fun r w' ⟨h, h'⟩ => by subst h'; exact ⟨h, hH _ _ _ (fun j hj => by have hj' : j < 1 := hj; (obtain rfl : j = 0 := by omega); rfl), hB _ _, by simp⟩
  | 2, _, _ => exact (numbers2 x a b c d e w).mono fun r w' ⟨h, h'⟩ => by subst h'; exact ⟨h, hH _ _ _ (fun j hj => by have hj' : j < 2 := hj; (obtain rfl | rfl : j = 0 ∨ j = 1 := by omega) <;> rfl), hB _ _, by simp⟩
  | 3, _, _ => exact (numbers3 x a b c d e w).mono fun r w' ⟨h, h'⟩ => by subst h'; exact ⟨h, hH _ _ _ (fun j hj => by have hj' : j < 3 := hj; (obtain rfl | rfl | rfl : j = 0 ∨ j = 1 ∨ j = 2 := by omega) <;> rfl), hB _ _, by simp⟩
  | 4, _, _ => exact (numbers4 x a b c d e w).mono fun r w' ⟨h, h'⟩ => by subst h'; exact ⟨h, hH _ _ _ (fun j hj => by have hj' : j < 4 := hj; (obtain rfl | rfl | rfl | rfl : j = 0 ∨ j = 1 ∨ j = 2 ∨ j = 3 := by omega) <;> rfl), hB _ _, by simp⟩
  | 5, _, _ => exact (numbers5 x a b c d e w).mono fun r w' ⟨h, h'⟩ => by subst h'; exact ⟨h, hH _ _ _ (fun j hj => by have hj' : j < 5 := hj; (obtain rfl | rfl | rfl | rfl | rfl : j = 0 ∨ j = 1 ∨ j = 2 ∨ j = 3 ∨ j = 4 := by omega) <;> rfl), hB _ _, by simp⟩
abbrev upd (g : Fin 5 → Int) (i : Fin 5) (v : Int) : Fin 5 → Int := fun j => if j = i then v else g j
/-- what level gives out, house by house in an order: m what each takes at most, k how many were served. -/
def levRun (m : Fin 5 → Int) (n : Nat) : Nat → List (Fin 5) → Int → (Fin 5 → Int) → (Fin 5 → Int)
  | _, [], _, g => g
  | k, i :: o, p, g => levRun m n (k + 1) o (p - min (m i) (p / ((n : Int) - k))) (upd g i (min (m i) (p / ((n : Int) - k))))
theorem cells5_upd (g : Fin 5 → Int) (i : Fin 5) (v : Int) : (cells5 g).setIfInBounds i.val (.int .i64 v) = cells5 (upd g i v) := by
  match i with
  | 0 => rfl
  | 1 => rfl
  | 2 => rfl
  | 3 => rfl
  | 4 => rfl
theorem cells5_get (g : Fin 5 → Int) (i : Fin 5) : (cells5 g)[i.val]? = some (.int .i64 (g i)) := by
  match i with
  | 0 => rfl
  | 1 => rfl
  | 2 => rfl
  | 3 => rfl
  | 4 => rfl
/-- block b holds the row g. -/
def RowAt (w : World) (b : Nat) (g : Fin 5 → Int) : Prop := w.heap[b]? = some (.cells (cells5 g) 109 (0, 0))
theorem RowAt.cell {w : World} {b : Nat} {g : Fin 5 → Int} (h : RowAt w b g) (i : Fin 5) : w.cell? ⟨b, i.val, none⟩ = some (.int .i64 (g i)) := by
  rw [cell_of_row w b i.val _ _ _ h]; exact cells5_get g i
theorem RowAt.free {w : World} {b : Nat} {g : Fin 5 → Int} (h : RowAt w b g) (i : Nat) : w.frozen? ⟨b, i, none⟩ = false := frozen_of_row w b i _ _ h
theorem RowAt.lt {w : World} {b : Nat} {g : Fin 5 → Int} (h : RowAt w b g) : b < w.heap.size := (Array.getElem?_eq_some_iff.1 h).1
theorem RowAt.set {w : World} {b : Nat} {g : Fin 5 → Int} (h : RowAt w b g) (i : Fin 5) (v : Int) : RowAt (w.setCell ⟨b, i.val, none⟩ (.int .i64 v)) b (upd g i v) := by
  have hlt := h.lt
  have h' : w.heap[b] = .cells (cells5 g) 109 (0, 0) := by
    have := h; unfold RowAt at this
    simpa [Array.getElem?_eq_getElem hlt] using this
  show (w.heap.modify b _)[b]? = _
  rw [Array.getElem?_eq_getElem (by simpa using hlt), Array.getElem_modify_self, h', ← cells5_upd]; rfl
theorem RowAt.other {w w' : World} {b B : Nat} {g : Fin 5 → Int} (h : RowAt w b g) (hb : Below B w w') (hlt : b < B) : RowAt w' b g := (hb.block b hlt).trans h
end Go.Proofs.Ytimddkofcejijaa.Cl
