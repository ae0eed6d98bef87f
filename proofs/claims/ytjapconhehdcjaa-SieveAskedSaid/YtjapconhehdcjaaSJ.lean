/- spans, small numbers, what is done -/
import Derived.Test.YtjapconhehdcjaaSI
import Derived.Deep.DeepCutAuto
import Derived.Deep.AppendLies
namespace Go.Proofs.Ytjapconhehdcjaa
open Go.RowKit Go.Sort
theorem zero81 : Try.zeroCells81.toList = List.replicate 64 (Value.slice none 0 0) ++ List.replicate 64 (Value.int .i64 0) := by kernel_rfl
theorem cells_at (w : World) (cs : Array Value) (t : TypeId) (i : Nat) (v : Value) (h : cs[i]? = some v) : (w.alloc (.cells cs t)).cell? ⟨w.heap.size, i, none⟩ = some v ∧ (w.alloc (.cells cs t)).frozen? ⟨w.heap.size, i, none⟩ = false := by
  have hh := World.alloc_heap_new w (.cells cs t)
  constructor
  · unfold World.cell?; rw [hh]; exact h
  · unfold World.frozen?; rw [hh]; rfl
theorem tab_new (w : World) : Tab (w.alloc (.cells Try.zeroCells81 81)) w.heap.size 64 (fun _ _ => 0) := fun a b ha hb => cells_at _ _ _ _ _ (by
  rw [← Array.getElem?_toList, zero81, List.getElem?_append_right (by simp; omega), List.getElem?_replicate_of_lt (by simp; omega)])
theorem tabL_new (w : World) (B : Nat) : TabL (w.alloc (.cells Try.zeroCells81 81)) w.heap.size 0 B (fun _ _ => []) := fun a b ha hb => by
  have h := cells_at w Try.zeroCells81 81 (0 + a * 8 + b) (.slice none 0 0) (by
    rw [← Array.getElem?_toList, zero81, List.getElem?_append_left (by simp; omega), List.getElem?_replicate_of_lt (by omega)])
  exact ⟨none, 0, h.1, h.2, World.ownsRow_nil _ _ _ _⟩
def wid (p : Nat × Nat) : Nat := p.2 - p.1
def nthS (l : List (Nat × Nat)) (i : Nat) : Nat × Nat := l[i]?.getD (0, 0)
def spOk (n : Nat) : Bool := (List.range (spansL n).length).all fun i =>
  let p := nthS (spansL n) i
  decide (p.1 ≤ p.2) && decide (p.2 < n) && (((spansL n).take i).all fun q => decide (wid q ≤ wid p) && decide (q ≠ p)) &&
  ((List.range (wid p)).all fun j => ((spansL n).take i).contains (p.1, p.1 + j) && ((spansL n).take i).contains (p.1 + j + 1, p.2))
theorem sp_ok : ∀ n, n ≤ 8 → spOk n = true := by decide +kernel
theorem sp_facts {n i : Nat} (hn : n ≤ 8) (hi : i < (spansL n).length) : (nthS (spansL n) i).1 ≤ (nthS (spansL n) i).2 ∧ (nthS (spansL n) i).2 < n ∧ (∀ q ∈ (spansL n).take i, wid q ≤ wid (nthS (spansL n) i) ∧ q ≠ nthS (spansL n) i) ∧
    (∀ k, (nthS (spansL n) i).1 ≤ k → k < (nthS (spansL n) i).2 → ((nthS (spansL n) i).1, k) ∈ (spansL n).take i ∧ (k + 1, (nthS (spansL n) i).2) ∈ (spansL n).take i) := by
  have h := List.all_eq_true.1 (sp_ok n hn) i (List.mem_range.2 hi)
  simp only [Bool.and_eq_true, decide_eq_true_eq, List.all_eq_true, List.contains_iff_mem] at h
  obtain ⟨⟨⟨h1, h2⟩, h3⟩, h4⟩ := h
  refine ⟨h1, h2, h3, fun k hk1 hk2 => ?_⟩
  have := h4 (k - (nthS (spansL n) i).1) (List.mem_range.2 (by unfold wid; omega))
  rwa [show (nthS (spansL n) i).1 + (k - (nthS (spansL n) i).1) = k by omega] at this
def memOk (n : Nat) : Bool := (List.range n).all fun b => (List.range (b + 1)).all fun a => (spansL n).contains (a, b)
theorem mem_ok : ∀ n, n ≤ 8 → memOk n = true := by decide +kernel
theorem mem_spans {n a b : Nat} (hn : n ≤ 8) (hab : a ≤ b) (hb : b < n) : (a, b) ∈ spansL n := by
  have h := List.all_eq_true.1 (List.all_eq_true.1 (mem_ok n hn) b (List.mem_range.2 hb)) a (List.mem_range.2 (by omega))
  exact List.contains_iff_mem.1 h
theorem take_nthS (l : List (Nat × Nat)) (i : Nat) (h : i < l.length) : l.take (i + 1) = l.take i ++ [nthS l i] := by
  rw [List.take_succ_eq_append_getElem h]
  unfold nthS
  rw [List.getElem?_eq_getElem h]
  rfl
/-- the trees' numbers are small. -/
def Bd (mn : Nat → Nat → Int) : Prop := ∀ i j, 0 ≤ mn i j ∧ mn i j ≤ (7 : Int) ^ (min (j - i) 7)
theorem pow_le7 : ∀ d, d ≤ 7 → (7 : Int) ^ d ≤ 1000000 := by decide
theorem Bd.le {mn : Nat → Nat → Int} (h : Bd mn) (i j : Nat) : 0 ≤ mn i j ∧ mn i j ≤ 1000000 := by
  have h1 := h i j
  have h2 := pow_le7 (min (j - i) 7) (Nat.min_le_right _ _)
  omega
theorem Bd.zero : Bd (fun _ _ => 0) := fun i j => ⟨Int.le_refl _, Int.pow_nonneg (by decide)⟩
theorem mulE_le {mn : Nat → Nat → Int} (h : Bd mn) {a b : Nat} (hb : b < 8) {k : Int} (h1 : (a : Int) ≤ k) (h2 : k < b) : 0 ≤ mulE mn a b k ∧ mulE mn a b k ≤ (7 : Int) ^ (b - a - 1) := by
  obtain ⟨K, rfl⟩ : ∃ K : Nat, k = K := ⟨k.toNat, by omega⟩
  unfold mulE
  have x1 := h a K
  have x2 := h (K + 1) b
  rw [Int.toNat_natCast]
  rw [Nat.min_eq_left (by omega)] at x1 x2
  refine ⟨Int.mul_nonneg x1.1 x2.1, ?_⟩
  have h3 := Int.mul_le_mul x1.2 x2.2 x2.1 (Int.pow_nonneg (by decide))
  rwa [← Int.pow_add, show K - a + (b - (K + 1)) = b - a - 1 by omega] at h3
theorem sum_le_len {L : List Int} {M : Int} (h : ∀ x ∈ L, 0 ≤ x ∧ x ≤ M) : 0 ≤ L.sum ∧ L.sum ≤ L.length * M := by
  induction L with
  | nil => simp
  | cons x L ih =>
    have h1 := ih fun y hy => h y (by simp [hy])
    have h2 := h x (by simp)
    rw [List.sum_cons, List.length_cons]
    have : ((L.length + 1 : Nat) : Int) * M = L.length * M + M := by rw [Int.natCast_add, Int.add_mul]; simp
    omega
theorem manyE_bd {mn : Nat → Nat → Int} (h : Bd mn) {a b : Nat} (hab : a ≤ b) (hb : b < 8) {L : List Int} (hL : ∀ l ∈ L, (a : Int) ≤ l ∧ l < b) (hl : L.length ≤ b - a) : 0 ≤ manyE mn a b L ∧ manyE mn a b L ≤ (7 : Int) ^ (min (b - a) 7) := by
  rw [Nat.min_eq_left (by omega)]
  unfold manyE
  by_cases e : a = b
  · subst e
    obtain rfl : L = [] := List.length_eq_zero_iff.1 (by omega)
    simp
  · rw [if_neg e]
    have h1 : ∀ x ∈ L.map (mulE mn a b), 0 ≤ x ∧ x ≤ (7 : Int) ^ (b - a - 1) := fun x hx => by
      obtain ⟨k, hk, rfl⟩ := List.mem_map.1 hx
      exact mulE_le h hb (hL k hk).1 (hL k hk).2
    have h2 := sum_le_len h1
    rw [List.length_map] at h2
    have h3 : (7 : Int) ^ (b - a) = 7 * (7 : Int) ^ (b - a - 1) := by
      rw [show b - a = (b - a - 1) + 1 by omega, Int.pow_succ, Int.mul_comm]; rfl
    have h4 : (0 : Int) ≤ (7 : Int) ^ (b - a - 1) := Int.pow_nonneg (by decide)
    have h5 : (L.length : Int) * (7 : Int) ^ (b - a - 1) ≤ 7 * (7 : Int) ^ (b - a - 1) := Int.mul_le_mul_of_nonneg_right (by omega) h4
    omega
theorem Bd.upd {mn : Nat → Nat → Int} (h : Bd mn) {a b : Nat} {x : Int} (hx : 0 ≤ x ∧ x ≤ (7 : Int) ^ (min (b - a) 7)) : Bd (upd mn a b x) := fun i j => by
  by_cases e : i = a ∧ j = b
  · obtain ⟨rfl, rfl⟩ := e; rw [upd_same]; exact hx
  · rw [upd_ne _ _ _ _ _ _ e]; exact h i j
theorem manyE_upd {mn : Nat → Nat → Int} {a b p q : Nat} {L : List Int} (hab : a ≤ b) (hL : ∀ l ∈ L, (a : Int) ≤ l ∧ l < b) (hw : b - a ≤ q - p) (x : Int) : manyE (upd mn p q x) a b L = manyE mn a b L := by
  unfold manyE
  congr 2
  refine List.map_congr_left fun k hk => ?_
  obtain ⟨h1, h2⟩ := hL k hk
  obtain ⟨K, rfl⟩ : ∃ K : Nat, k = K := ⟨k.toNat, by omega⟩
  unfold mulE
  rw [Int.toNat_natCast, upd_ne _ _ _ _ _ _ (by omega), upd_ne _ _ _ _ _ _ (by omega)]
/-- the spans P are done. -/
def DoneP (F : Nat → Nat → List Int) (mn : Nat → Nat → Int) (T : Nat × Nat → List Int) (P : List (Nat × Nat)) : Prop := ∀ q ∈ P, F q.1 q.2 = T q ∧ mn q.1 q.2 = manyE mn q.1 q.2 (T q)
theorem DoneP.step {F : Nat → Nat → List Int} {mn : Nat → Nat → Int} {T : Nat × Nat → List Int} {P : List (Nat × Nat)} (h : DoneP F mn T P) {p : Nat × Nat} (hp : p.1 ≤ p.2) (hT : ∀ q : Nat × Nat, q.1 ≤ q.2 → ∀ l ∈ T q, (q.1 : Int) ≤ l ∧ l < q.2) (hP : ∀ q ∈ P, q.1 ≤ q.2 ∧ wid q ≤ wid p ∧ q ≠ p) : DoneP (upd F p.1 p.2 (T p)) (upd mn p.1 p.2 (manyE mn p.1 p.2 (T p))) T (P ++ [p]) := fun q hq => by
  rcases List.mem_append.1 hq with hq | hq
  · obtain ⟨h1, h2⟩ := h q hq
    obtain ⟨h3, h4, h5⟩ := hP q hq
    have hne : ¬ (q.1 = p.1 ∧ q.2 = p.2) := fun e => h5 (Prod.ext e.1 e.2)
    rw [upd_ne _ _ _ _ _ _ hne, upd_ne _ _ _ _ _ _ hne, manyE_upd h3 (hT q h3) h4]
    exact ⟨h1, h2⟩
  · obtain rfl := List.mem_singleton.1 hq
    rw [upd_same, upd_same, manyE_upd hp (hT q hp) (Nat.le_refl _)]
    exact ⟨rfl, rfl⟩
theorem svP_mem {a n : Nat} {l : Int} (h : l ∈ svP a n) : (a : Int) ≤ l ∧ l < (a + n : Nat) := by
  unfold svP at h
  obtain ⟨j, hj, rfl⟩ := List.mem_map.1 h
  have := List.mem_range.1 hj
  omega
end Go.Proofs.Ytjapconhehdcjaa
