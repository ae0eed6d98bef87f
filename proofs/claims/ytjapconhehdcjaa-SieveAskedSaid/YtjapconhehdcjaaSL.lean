/- best tops: what is done -/
import Derived.Test.YtjapconhehdcjaaSK
import Derived.Deep.DeepCutAuto
import Derived.Deep.AppendLies
namespace Go.Proofs.Ytjapconhehdcjaa
open Go.RowKit Go.Sort
def zero79A : Array Value := (List.replicate 64 (Value.int .i64 0)).toArray
theorem lit79 : (#[Value.int .i64 0, Value.int .i64 0, Value.int .i64 0, Value.int .i64 0, Value.int .i64 0, Value.int .i64 0, Value.int .i64 0, Value.int .i64 0, Value.int .i64 0, Value.int .i64 0, Value.int .i64 0, Value.int .i64 0, Value.int .i64 0, Value.int .i64 0, Value.int .i64 0, Value.int .i64 0, Value.int .i64 0, Value.int .i64 0, Value.int .i64 0, Value.int .i64 0, Value.int .i64 0, Value.int .i64 0, Value.int .i64 0, Value.int .i64 0, Value.int .i64 0, Value.int .i64 0, Value.int .i64 0, Value.int .i64 0, Value.int .i64 0, Value.int .i64 0, Value.int .i64 0, Value.int .i64 0, Value.int .i64 0, Value.int .i64 0, Value.int .i64 0, Value.int .i64 0, Value.int .i64 0, Value.int .i64 0, Value.int .i64 0, Value.int .i64 0, Value.int .i64 0, Value.int .i64 0, Value.int .i64 0, Value.int .i64 0, Value.int .i64 0, Value.int .i64 0, Value.int .i64 0, Value.int .i64 0, Value.int .i64 0, Value.int .i64 0, Value.int .i64 0, Value.int .i64 0, Value.int .i64 0, Value.int .i64 0, Value.int .i64 0, Value.int .i64 0, Value.int .i64 0, Value.int .i64 0, Value.int .i64 0, Value.int .i64 0, Value.int .i64 0, Value.int .i64 0, Value.int .i64 0, Value.int .i64 0] : Array Value) = zero79A := by rfl
theorem tab_new79 (w : World) : Tab (w.alloc (.cells zero79A 79)) w.heap.size 0 (fun _ _ => 0) := fun a b ha hb => cells_at _ _ _ _ _ (by
  rw [← Array.getElem?_toList]; unfold zero79A; rw [List.getElem?_replicate_of_lt (by omega)])
theorem bst_congr {G G' : Nat → Int} {a : Nat} : ∀ i, (∀ j, j < i → G (a + j) = G' (a + j)) → bst G a i = bst G' a i
  | 0, _ => rfl
  | i + 1, h => by
    rw [bst, bst, bst_congr i (fun j hj => h j (by omega)), h i (by omega)]
theorem bst_mem {G : Nat → Int} {a : Nat} : ∀ i, ∀ l ∈ (bst G a i).2, (a : Int) ≤ l ∧ l < (a + i : Nat)
  | 0, l, h => by simp [bst] at h
  | i + 1, l, h => by
    rw [bst] at h
    split at h
    · have : l = ((a + i : Nat) : Int) := by simpa using h
      omega
    · split at h
      · rcases List.mem_append.1 h with q | q
        · have := bst_mem i l q; omega
        · have : l = ((a + i : Nat) : Int) := by simpa using q
          omega
      · have := bst_mem i l h; omega
theorem bst_val {G : Nat → Int} {a : Nat} : ∀ i, 0 < i → ∃ j, j < i ∧ (bst G a i).1 = G (a + j)
  | i + 1, _ => by
    rw [bst]
    split
    · exact ⟨i, by omega, rfl⟩
    · rename_i hne
      have hi : 0 < i := by
        rcases Nat.eq_zero_or_pos i with q | q
        · subst q; exact absurd (.inl rfl) hne
        · exact q
      obtain ⟨j, hj, e⟩ := bst_val i hi
      split
      · exact ⟨j, by omega, e⟩
      · exact ⟨j, by omega, e⟩
/-- the loads of a span. -/
def spS (zs : List Int) (q : Nat × Nat) : Int := ((zs.take (q.2 + 1)).drop q.1).sum
def bT (zs : List Int) (f : Nat → Nat → Int) (q : Nat × Nat) : Int × List Int := bst (qG (spS zs q) f q.1 q.2) q.1 (q.2 - q.1)
theorem bT_in (zs : List Int) (f : Nat → Nat → Int) (q : Nat × Nat) (h : q.1 ≤ q.2) : ∀ l ∈ (bT zs f q).2, (q.1 : Int) ≤ l ∧ l < q.2 := fun l hl => by
  have := bst_mem _ l hl
  omega
theorem bT_len (zs : List Int) (f : Nat → Nat → Int) (q : Nat × Nat) : (bT zs f q).2.length ≤ q.2 - q.1 := bst_len _ _ _
theorem bT_upd (zs : List Int) (f : Nat → Nat → Int) (p q : Nat × Nat) (x : Int) (_hq : q.1 ≤ q.2) (hw : wid q ≤ wid p) : bT zs (upd f p.1 p.2 x) q = bT zs f q := by
  unfold bT
  unfold wid at hw
  refine bst_congr _ fun j hj => ?_
  unfold qG
  rw [upd_ne _ _ _ _ _ _ (by omega), upd_ne _ _ _ _ _ _ (by omega)]
/-- the questions are small. -/
def Bf (f : Nat → Nat → Int) : Prop := ∀ i j, 0 ≤ f i j ∧ f i j ≤ 1000000000 * ((min (j - i) 7 : Nat) : Int)
theorem Bf.le {f : Nat → Nat → Int} (h : Bf f) (i j : Nat) : 0 ≤ f i j ∧ f i j ≤ 1000000000000000 := by
  have h1 := h i j
  have h2 : min (j - i) 7 ≤ 7 := Nat.min_le_right _ _
  omega
theorem Bf.upd {f : Nat → Nat → Int} (h : Bf f) {a b : Nat} {x : Int} (hx : 0 ≤ x ∧ x ≤ 1000000000 * ((min (b - a) 7 : Nat) : Int)) : Bf (upd f a b x) := fun i j => by
  by_cases e : i = a ∧ j = b
  · obtain ⟨rfl, rfl⟩ := e; rw [upd_same]; exact hx
  · rw [upd_ne _ _ _ _ _ _ e]; exact h i j
theorem spS_bd {zs : List Int} (hz : ∀ z ∈ zs, 0 ≤ z ∧ z ≤ 1000000) (hl : zs.length ≤ 1000) (q : Nat × Nat) : 0 ≤ spS zs q ∧ spS zs q ≤ 1000000000 :=
  sum_le (fun z hm => hz z (List.mem_of_mem_take (List.mem_of_mem_drop hm))) (by rw [List.length_drop, List.length_take]; omega)
theorem bT_bd {zs : List Int} (hz : ∀ z ∈ zs, 0 ≤ z ∧ z ≤ 1000000) (hl : zs.length ≤ 1000) {f : Nat → Nat → Int} (h : Bf f) {q : Nat × Nat} (hq : q.1 ≤ q.2) (hb : q.2 < 8) : 0 ≤ (bT zs f q).1 ∧ (bT zs f q).1 ≤ 1000000000 * ((min (q.2 - q.1) 7 : Nat) : Int) := by
  unfold bT
  rcases Nat.eq_zero_or_pos (q.2 - q.1) with e | e
  · rw [e]; simp [bst]
  · obtain ⟨j, hj, e2⟩ := bst_val (G := qG (spS zs q) f q.1 q.2) (a := q.1) _ e
    rw [e2]
    unfold qG
    have h1 := h q.1 (q.1 + j)
    have h2 := h (q.1 + j + 1) q.2
    have h3 := spS_bd hz hl q
    rw [Nat.min_eq_left (by omega)] at h1 h2 ⊢
    omega
/-- the spans P are done, with their questions. -/
def DoneB (zs : List Int) (F : Nat → Nat → List Int) (mn f : Nat → Nat → Int) (P : List (Nat × Nat)) : Prop := ∀ q ∈ P, f q.1 q.2 = (bT zs f q).1 ∧ F q.1 q.2 = (bT zs f q).2 ∧ mn q.1 q.2 = manyE mn q.1 q.2 (bT zs f q).2
theorem DoneB.step {zs : List Int} {F : Nat → Nat → List Int} {mn f : Nat → Nat → Int} {P : List (Nat × Nat)} (h : DoneB zs F mn f P) {p : Nat × Nat} (hp : p.1 ≤ p.2) (hP : ∀ q ∈ P, q.1 ≤ q.2 ∧ wid q ≤ wid p ∧ q ≠ p) : DoneB zs (upd F p.1 p.2 (bT zs f p).2) (upd mn p.1 p.2 (manyE mn p.1 p.2 (bT zs f p).2)) (upd f p.1 p.2 (bT zs f p).1) (P ++ [p]) := fun q hq => by
  rcases List.mem_append.1 hq with hq | hq
  · obtain ⟨h0, h1, h2⟩ := h q hq
    obtain ⟨h3, h4, h5⟩ := hP q hq
    have hne : ¬ (q.1 = p.1 ∧ q.2 = p.2) := fun e => h5 (Prod.ext e.1 e.2)
    rw [upd_ne _ _ _ _ _ _ hne, upd_ne _ _ _ _ _ _ hne, upd_ne _ _ _ _ _ _ hne, bT_upd _ _ _ _ _ h3 h4, manyE_upd h3 (bT_in zs f q h3) h4]
    exact ⟨h0, h1, h2⟩
  · obtain rfl := List.mem_singleton.1 hq
    rw [bT_upd _ _ _ _ _ hp (Nat.le_refl _), upd_same, upd_same, upd_same, manyE_upd hp (bT_in zs f q hp) (Nat.le_refl _)]
    exact ⟨rfl, rfl, rfl⟩
end Go.Proofs.Ytjapconhehdcjaa
