/- which lists are orders. -/
import Derived.Test.YtpgifeaejjjjnaaCH
namespace Go.Proofs.Ytpgifeaejjjjnaa
open Go.RowKit Go.Sort
/-- which lists are orders. -/
theorem mem_ordT (n : Nat) : ∀ (m : Nat) (h r : List Int), r ∈ ordT n m h ↔ ∃ t, r = h ++ t ∧ t.length = m ∧ (∀ x ∈ t, 0 ≤ x ∧ x < n) ∧ t.Nodup ∧ ∀ x ∈ t, x ∉ h
  | 0, h, r => by
    constructor
    · intro hr
      rw [ordT, List.mem_singleton] at hr
      exact ⟨[], by simp [hr], rfl, by simp, List.nodup_nil, by simp⟩
    · rintro ⟨t, rfl, ht, _⟩
      rw [List.eq_nil_of_length_eq_zero ht]
      simp [ordT]
  | m + 1, h, r => by
    rw [ordT, List.mem_flatMap]
    constructor
    · rintro ⟨i, hi, hr⟩
      have hin := List.mem_range.1 hi
      by_cases hc : h.contains (i : Int) = true
      · rw [if_pos hc] at hr; simp at hr
      · rw [if_neg hc] at hr
        obtain ⟨t, rfl, ht, hb, hn, hd⟩ := (mem_ordT n m _ _).1 hr
        have hih : (i : Int) ∉ h := by simpa using hc
        refine ⟨(i : Int) :: t, by simp, by simp [ht], ?_, ?_, ?_⟩
        · intro x hx
          rcases List.mem_cons.1 hx with rfl | hx
          · omega
          · exact hb x hx
        · exact List.nodup_cons.2 ⟨fun hx => hd _ hx (by simp), hn⟩
        · intro x hx
          rcases List.mem_cons.1 hx with rfl | hx
          · exact hih
          · exact fun hxh => hd x hx (by simp [hxh])
    · rintro ⟨t, rfl, ht, hb, hn, hd⟩
      cases t with
      | nil => simp at ht
      | cons x t =>
        obtain ⟨i, rfl⟩ := Int.eq_ofNat_of_zero_le (hb x (by simp)).1
        obtain ⟨hn1, hn2⟩ := List.nodup_cons.1 hn
        refine ⟨i, List.mem_range.2 (by have := (hb (i : Int) (by simp)).2; omega), ?_⟩
        have hih : ¬ h.contains (i : Int) = true := by simpa using hd _ (by simp)
        rw [if_neg hih]
        refine (mem_ordT n m _ _).2 ⟨t, by simp, by simpa using ht, fun y hy => hb y (by simp [hy]), hn2, fun y hy hyh => ?_⟩
        rcases List.mem_append.1 hyh with hyh | hyh
        · exact hd y (by simp [hy]) hyh
        · simp at hyh; subst hyh; exact hn1 hy
theorem mem_ord {n : Nat} {r : List Int} : r ∈ ordT n n [] ↔ r.length = n ∧ (∀ x ∈ r, 0 ≤ x ∧ x < n) ∧ r.Nodup := by
  rw [mem_ordT]
  constructor
  · rintro ⟨t, rfl, h1, h2, h3, _⟩
    exact ⟨by simpa using h1, by simpa using h2, by simpa using h3⟩
  · rintro ⟨h1, h2, h3⟩
    exact ⟨r, by simp, h1, h2, h3, by simp⟩
theorem nth_mem {l : List Int} {k : Nat} (h : k < l.length) : nth l k ∈ l := by
  rw [nth_eq, List.getElem?_eq_getElem h]; exact List.getElem_mem h
theorem ord_len {n : Nat} {r : List Int} (h : r ∈ ordT n n []) : r.length = n := (mem_ord.1 h).1
theorem ord_in {n : Nat} {r : List Int} (h : r ∈ ordT n n []) {k : Nat} (hk : k < n) : 0 ≤ nth r k ∧ nth r k < n := (mem_ord.1 h).2.1 _ (nth_mem (by rw [ord_len h]; exact hk))
/-- the rows that fit a plan. -/
def fitL (n : Nat) (zss : List (List Int)) : List (List Int) := (ordT n n []).filter fun r => amE n zss r == 0
/-- the crossings of a plan. -/
def crsL (n : Nat) (zss : List (List Int)) : List (List Int) := (ordT n n []).filter fun r => crsB zss r
theorem sub_len {α : Type} {p : α → Bool} (l : List α) : (l.filter p).length ≤ l.length := List.length_filter_le _ _
theorem segT_le (n m : Nat) (h : List Int) (b : Nat) (hb : ∀ h', (ordT n m h').length ≤ b) (k : Nat) : (segT n m h k).length ≤ k * b := by
  induction k with
  | zero => simp [segT_zero]
  | succ k ih =>
    rw [segT_succ, List.length_append, Nat.succ_mul]
    have h1 : (if h.contains (k : Int) then ([] : List (List Int)) else ordT n m (h ++ [(k : Int)])).length ≤ b := by
      split
      · simp
      · exact hb _
    omega
theorem ordT_le (n : Nat) : ∀ (m : Nat) (h : List Int), (ordT n m h).length ≤ n ^ m
  | 0, h => by simp [ordT]
  | m + 1, h => by
    rw [← segT_all, Nat.pow_succ, Nat.mul_comm]
    exact segT_le n m h _ (fun h' => ordT_le n m h') n
theorem ord_le {n : Nat} (h : n ≤ 5) : (ordT n n []).length ≤ 5000 := by
  refine Nat.le_trans (ordT_le n n []) ?_
  rcases (by omega : n = 0 ∨ n = 1 ∨ n = 2 ∨ n = 3 ∨ n = 4 ∨ n = 5) with rfl | rfl | rfl | rfl | rfl | rfl <;> decide
end Go.Proofs.Ytpgifeaejjjjnaa
