/- Layer 2: streets counted at a corner, twice those of a list. -/
import Derived.Test.YtimddkofcejijaaDoorSL
import Derived.Test.YtimddkofcejijaaDoorRQ
namespace Go.Proofs.YtimddkofcejijaaDoor
open Go.RowKit Go.Sort
theorem setL_bit : ∀ (l : List Int) (o i : Nat), (∀ z ∈ l, 0 ≤ z) → (setL l o).testBit i = (o.testBit i || l.contains (i : Int))
  | [], o, i, _ => by simp [setL]
  | z :: l, o, i, h => by
    unfold setL
    rw [setL_bit l _ i (fun y hy => h y (List.mem_cons_of_mem _ hy)), Nat.testBit_or, Nat.testBit_two_pow, List.contains_cons]
    have hz := h z (List.mem_cons_self ..)
    have e : decide (z.toNat = i) = ((i : Int) == z) := by
      rw [Bool.eq_iff_iff, decide_eq_true_eq, beq_iff_eq]; omega
    rw [e, Bool.or_assoc]
theorem asc_nonneg {n : Int} : ∀ {l : List Int} {p : Int}, ascE n l p = 0 → ∀ z ∈ l, 0 ≤ z ∧ z < n
  | [], _, _, z, hz => by cases hz
  | y :: l, p, h, z, hz => by
    unfold ascE at h
    split at h
    · rename_i h1
      split at h
      · cases h
      · rcases List.mem_cons.1 hz with rfl | hz
        · simpa [inB] using h1
        · exact asc_nonneg h z hz
    · cases h
theorem setM_bit {n : Int} {l : List Int} (h : ascE n l (-1) = 0) (i : Nat) : (setM l).testBit i = l.contains (i : Int) := by
  unfold setM
  rw [setL_bit l 0 i (fun z hz => (asc_nonneg h z hz).1), Nat.zero_testBit, Bool.false_or]
/-- how many streets a corner has, those of a list once more. -/
def cntR (zs : List Int) (c : Nat) : Nat → List (Int × Int) → Nat → Nat
  | _, [], n => n
  | i, p :: l, n => cntR zs c (i + 1) l (if p.1 = (c : Int) ∨ p.2 = (c : Int) then (if zs.contains (i : Int) then n + 2 else n + 1) else n)
theorem parR_one {n : Nat} {x y : Bool} (h : n % 2 = 1 ↔ (x ^^ y) = true) : (n + 1) % 2 = 1 ↔ ((x ^^ true) ^^ y) = true := by
  cases x <;> cases y <;> simp at h ⊢ <;> omega
theorem parR_two {n : Nat} {x y : Bool} (h : n % 2 = 1 ↔ (x ^^ y) = true) : (n + 2) % 2 = 1 ↔ ((x ^^ true) ^^ (y ^^ true)) = true := by
  cases x <;> cases y <;> simp at h ⊢ <;> omega
theorem cntR_par {zs : List Int} {c S L : Nat} (hS : ∀ i, i < L → S.testBit i = zs.contains (i : Int)) : ∀ (l : List (Int × Int)) (i n o1 o2 : Nat), i + l.length ≤ L → (∀ p ∈ l, 0 ≤ p.1 ∧ p.1 < p.2) → (n % 2 = 1 ↔ (o1 ^^^ o2).testBit c = true) → (cntR zs c i l n % 2 = 1 ↔ (oddL (2 ^ L - 1) i l o1 ^^^ oddL S i l o2).testBit c = true)
  | [], _, _, _, _, _, _, h => h
  | p :: l, i, n, o1, o2, hl, hp, h => by
    rw [List.length_cons] at hl
    unfold cntR oddL
    refine cntR_par hS l (i + 1) _ _ _ (by omega) (fun q hq => hp q (List.mem_cons_of_mem _ hq)) ?_
    have h0 := hp p (List.mem_cons_self ..)
    rw [Nat.testBit_two_pow_sub_one, decide_eq_true (by omega), if_pos rfl, hS i (by omega)]
    have hb : (endsM p).testBit c = decide (p.1 = (c : Int) ∨ p.2 = (c : Int)) := by
      rw [ends_bitR, Bool.eq_iff_iff, Bool.or_eq_true, decide_eq_true_eq, decide_eq_true_eq, decide_eq_true_eq]
      omega
    by_cases ht : p.1 = (c : Int) ∨ p.2 = (c : Int)
    · rw [if_pos ht]
      rw [decide_eq_true ht] at hb
      cases zs.contains (i : Int)
      · simp only [Bool.false_eq_true, if_false]
        rw [Nat.testBit_xor, Nat.testBit_xor, hb]
        rw [Nat.testBit_xor] at h
        exact parR_one h
      · simp only [if_true]
        rw [Nat.testBit_xor, Nat.testBit_xor, Nat.testBit_xor, hb]
        rw [Nat.testBit_xor] at h
        exact parR_two h
    · rw [if_neg ht]
      rw [decide_eq_false ht] at hb
      split
      · rw [Nat.testBit_xor, Nat.testBit_xor, Nat.testBit_xor, hb]
        rw [Nat.testBit_xor] at h
        simpa using h
      · rw [Nat.testBit_xor, Nat.testBit_xor, hb]
        rw [Nat.testBit_xor] at h
        simpa using h
theorem cntR_odd {zs : List Int} {c S : Nat} {ss : List (Int × Int)} (hS : ∀ i, i < ss.length → S.testBit i = zs.contains (i : Int)) (hp : ∀ p ∈ ss, 0 ≤ p.1 ∧ p.1 < p.2) : (cntR zs c 0 ss 0 % 2 = 1 ↔ (oddM ss (2 ^ ss.length - 1) ^^^ oddM ss S).testBit c = true) := by
  unfold oddM
  exact cntR_par (L := ss.length) hS ss 0 0 0 0 (by omega) hp (by simp)
theorem take_str (ss : List (Int × Int)) (k : Nat) (h : k < ss.length) : ss.take (k + 1) = ss.take k ++ [str ss k] := by
  rw [List.take_add_one, str_eq, List.getElem?_eq_getElem h]; rfl
theorem str_mem (ss : List (Int × Int)) (k : Nat) (h : k < ss.length) : str ss k ∈ ss := by
  rw [str_eq, List.getElem?_eq_getElem h]; exact List.getElem_mem h
theorem listM_mem {s : Nat} {x : Int} : x ∈ listM s ↔ ∃ i : Nat, i < 16 ∧ s.testBit i = true ∧ x = (i : Int) := by
  unfold listM preM
  rw [List.mem_map]
  constructor
  · rintro ⟨i, h, rfl⟩
    rw [List.mem_filter, List.mem_range] at h
    exact ⟨i, h.1, h.2, rfl⟩
  · rintro ⟨i, h1, h2, rfl⟩
    exact ⟨i, List.mem_filter.2 ⟨List.mem_range.2 h1, h2⟩, rfl⟩
end Go.Proofs.YtimddkofcejijaaDoor
