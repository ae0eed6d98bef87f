/- Layer 2: a map with more streets. -/
import Derived.Test.YtimddkofcejijaaSI
namespace Go.Proofs.Ytimddkofcejijaa
open Go.RowKit Go.Sort
theorem made_more {n : Nat} {ss r : List (Int × Int)} (h : MadeP n ss) (hr : ∀ p ∈ r, 0 ≤ p.1 ∧ p.1 < p.2 ∧ p.2 < (n : Int)) : MadeP n (ss ++ r) := by
  obtain ⟨tr, rest, rfl, h1, h2⟩ := h
  exact ⟨tr, rest ++ r, by simp, h1, fun p hp => (List.mem_append.1 hp).elim (h2 p) (hr p)⟩
def foldE (r : List (Int × Int)) (o : Nat) : Nat := r.foldl (fun o p => o ^^^ endsM p) o
theorem oddL_app (s : Nat) : ∀ (l r : List (Int × Int)) (i o : Nat), oddL s i (l ++ r) o = oddL s (i + l.length) r (oddL s i l o)
  | [], _, _, _ => rfl
  | p :: l, r, i, o => by
    show oddL s (i + 1) (l ++ r) _ = _
    rw [oddL_app s l r (i + 1)]
    rw [List.length_cons, show i + 1 + l.length = i + (l.length + 1) by omega]
    rfl
theorem oddL_full (s : Nat) : ∀ (r : List (Int × Int)) (i o : Nat), (∀ j, i ≤ j → j < i + r.length → s.testBit j = true) → oddL s i r o = foldE r o
  | [], _, _, _ => rfl
  | p :: r, i, o, h => by
    unfold oddL
    rw [h i (Nat.le_refl _) (by simp), if_pos rfl]
    exact oddL_full s r (i + 1) _ fun j h1 h2 => h j (by omega) (by rw [List.length_cons]; omega)
theorem oddL_cong (s t : Nat) : ∀ (r : List (Int × Int)) (i o : Nat), (∀ j, i ≤ j → j < i + r.length → s.testBit j = t.testBit j) → oddL s i r o = oddL t i r o
  | [], _, _, _ => rfl
  | p :: r, i, o, h => by
    unfold oddL
    rw [h i (Nat.le_refl _) (by simp)]
    exact oddL_cong s t r (i + 1) _ fun j h1 h2 => h j (by omega) (by rw [List.length_cons]; omega)
theorem odd_more (ss r : List (Int × Int)) : oddM (ss ++ r) (2 ^ (ss ++ r).length - 1) = foldE r (oddM ss (2 ^ ss.length - 1)) := by
  unfold oddM
  have hl : (ss ++ r).length = ss.length + r.length := List.length_append
  rw [oddL_app, oddL_full _ r _ _ (fun j h1 h2 => by rw [Nat.testBit_two_pow_sub_one, decide_eq_true_eq]; omega)]
  rw [oddL_cong (2 ^ (ss ++ r).length - 1) (2 ^ ss.length - 1) ss 0 0 (fun j h1 h2 => by rw [Nat.testBit_two_pow_sub_one, Nat.testBit_two_pow_sub_one, decide_eq_true (by omega), decide_eq_true (by omega)])]
theorem odd_low {ss : List (Int × Int)} {S : Nat} (h : S < 2 ^ ss.length) (r : List (Int × Int)) : oddM (ss ++ r) S = oddM ss S := by
  unfold oddM
  rw [oddL_app, oddL_none _ r _ _ (fun j hj => Nat.testBit_lt_two_pow (Nat.lt_of_lt_of_le h (Nat.pow_le_pow_right (by decide) (by omega))))]
def addS (ss : List (Int × Int)) (zs : List Int) : List (Int × Int) := zs.map fun z => str ss z.toNat
theorem foldE_app (r q : List (Int × Int)) (o : Nat) : foldE (r ++ q) o = foldE q (foldE r o) := List.foldl_append ..
theorem mod_step (S k : Nat) : S % 2 ^ (k + 1) = (S % 2 ^ k) ^^^ (if S.testBit k then 2 ^ k else 0) := Nat.eq_of_testBit_eq fun i => by
  rw [Nat.testBit_xor, Nat.testBit_mod_two_pow, Nat.testBit_mod_two_pow]
  rcases Nat.lt_trichotomy i k with h | h | h
  · rw [decide_eq_true (by omega), decide_eq_true h]
    split
    · rw [Nat.testBit_two_pow, decide_eq_false (by omega)]; simp
    · simp
  · subst h
    rw [decide_eq_true (by omega), decide_eq_false (by omega)]
    cases hb : S.testBit i <;> simp
  · rw [decide_eq_false (by omega), decide_eq_false (by omega)]
    split
    · rw [Nat.testBit_two_pow, decide_eq_false (by omega)]; simp
    · simp
theorem odd_list {ss : List (Int × Int)} (hl : ss.length ≤ 16) {S : Nat} (h : S < 2 ^ ss.length) (o : Nat) : foldE (addS ss (listM S)) o = o ^^^ oddM ss S := by
  have key : ∀ k, foldE (addS ss (preM S k)) o = o ^^^ oddM ss (S % 2 ^ k) := by
    intro k
    induction k with
    | zero =>
      have e : S % 2 ^ 0 = 0 := by rw [Nat.pow_zero, Nat.mod_one]
      rw [e]
      have e0 : oddM ss 0 = 0 := oddL_none 0 ss 0 0 fun j _ => Nat.zero_testBit j
      rw [e0, Nat.xor_zero]; rfl
    | succ k ih =>
      rw [preM_succ, mod_step]
      unfold addS at ih ⊢
      rw [List.map_append, foldE_app, ih]
      cases hb : S.testBit k
      · simp [foldE]
      · have hk : k < ss.length := by
          rcases Nat.lt_or_ge k ss.length with h1 | h1
          · exact h1
          · rw [Nat.testBit_lt_two_pow (Nat.lt_of_lt_of_le h (Nat.pow_le_pow_right (by decide) h1))] at hb; cases hb
        rw [if_pos rfl, if_pos rfl, oddM_add, oddM_one hk, ← Nat.xor_assoc]
        simp [foldE]
  have := key 16
  rw [Nat.mod_eq_of_lt (Nat.lt_of_lt_of_le h (Nat.pow_le_pow_right (by decide) hl))] at this
  exact this
theorem list_short {S L : Nat} (hL : L ≤ 16) (h : S < 2 ^ L) : (listM S).length ≤ L := by
  have e : listM S = preM S L := by
    have := preM_out S L (fun i hi => Nat.testBit_lt_two_pow (Nat.lt_of_lt_of_le h (Nat.pow_le_pow_right (by decide) hi))) (16 - L)
    rw [Nat.add_sub_cancel' hL] at this
    exact this
  rw [e]; exact preM_len S L
theorem list_one {S T L : Nat} (h : ∀ j, j ≠ L → T.testBit j = S.testBit j) : (listM T).length ≤ (listM S).length + 1 := by
  rw [list_len, list_len]
  unfold listN
  rw [← List.countP_eq_length_filter, ← List.countP_eq_length_filter]
  have key : ∀ k, (List.range k).countP (fun i => T.testBit i) ≤ (List.range k).countP (fun i => S.testBit i) + (if L < k then 1 else 0) := by
    intro k
    induction k with
    | zero => simp
    | succ k ih =>
      rw [List.range_succ, List.countP_append, List.countP_append, List.countP_singleton, List.countP_singleton]
      by_cases hk : k = L
      · subst hk
        rw [if_neg (by omega)] at ih
        rw [if_pos (by omega : k < k + 1)]
        split <;> split <;> omega
      · rw [h k hk]
        have : (if L < k then 1 else 0) ≤ (if L < k + 1 then 1 else 0) := by split <;> split <;> omega
        omega
  have := key 16
  have h1 : (if L < 16 then 1 else 0) ≤ 1 := by split <;> omega
  omega
theorem str_last (ss : List (Int × Int)) (p : Int × Int) : str (ss ++ [p]) ss.length = p := by
  rw [str_eq, List.getElem?_append_right (Nat.le_refl _), Nat.sub_self]; rfl
/-- with one more street, at most one more is needed. -/
theorem few_more {ss : List (Int × Int)} {S : Nat} (hS : S < 2 ^ ss.length) (hE : enoughB ss S = true) (p : Int × Int) : (fewM (ss ++ [p])).length ≤ (listM S).length + 1 := by
  obtain ⟨S', _, h2, _, h4⟩ := few_set (ss ++ [p])
  rw [h2]
  have hl : (ss ++ [p]).length = ss.length + 1 := by simp
  have hp : 2 ^ (ss ++ [p]).length = 2 * 2 ^ ss.length := by rw [hl, Nat.pow_succ, Nat.mul_comm]
  have hT : S ^^^ 2 ^ ss.length < 2 ^ (ss ++ [p]).length := Nat.xor_lt_two_pow (Nat.lt_of_lt_of_le hS (Nat.pow_le_pow_right (by decide) (by omega))) (Nat.pow_lt_pow_right (by decide) (by omega))
  refine Nat.le_trans (h4 _ hT ?_) (list_one (L := ss.length) fun j hj => ?_)
  · unfold enoughB at hE ⊢
    rw [beq_iff_eq] at hE ⊢
    rw [odd_more, oddM_add, odd_low hS, oddM_one (by omega), str_last, hE]
    rfl
  · rw [Nat.testBit_xor, Nat.testBit_two_pow, decide_eq_false (by omega), Bool.xor_false]
theorem odd_wide {ss : List (Int × Int)} (hl : ss.length ≤ 16) {S : Nat} (h : S < 2 ^ ss.length) (hE : enoughB ss S = true) : oddM (ss ++ addS ss (listM S)) (2 ^ (ss ++ addS ss (listM S)).length - 1) = 0 := by
  unfold enoughB at hE
  rw [beq_iff_eq] at hE
  rw [odd_more, odd_list hl h, hE, Nat.xor_self]
theorem odd_twice (ss : List (Int × Int)) (p : Int × Int) : oddM (ss ++ [p, p]) (2 ^ (ss ++ [p, p]).length - 1) = oddM ss (2 ^ ss.length - 1) := by
  rw [odd_more]
  show _ ^^^ endsM p ^^^ endsM p = _
  rw [Nat.xor_assoc, Nat.xor_self, Nat.xor_zero]
theorem listM_zero : listM 0 = [] := by decide
theorem addS_mem {ss : List (Int × Int)} {zs : List Int} (h : ∀ z ∈ zs, 0 ≤ z ∧ z < ss.length) : ∀ p ∈ addS ss zs, p ∈ ss := fun p hp => by
  unfold addS at hp
  obtain ⟨z, hz, rfl⟩ := List.mem_map.1 hp
  have := h z hz
  have hlt : z.toNat < ss.length := by omega
  rw [str_eq, List.getElem?_eq_getElem hlt]
  exact List.getElem_mem hlt
theorem enough_nil {c : Int} {ss : List (Int × Int)} (hc : chkM c ss = 0) (h : oddM ss (2 ^ ss.length - 1) = 0) : twE c ss [] = 0 := by
  unfold twE
  have hA : ascE ss.length [] (-1) = 0 := rfl
  have e0 : oddM ss 0 = 0 := oddL_none 0 ss 0 0 fun j _ => Nat.zero_testBit j
  have hs : setM [] = 0 := rfl
  have hE : enoughB ss (setM []) = true := by unfold enoughB; rw [hs, e0, h]; rfl
  rw [if_neg (by rw [hc]; simp), if_neg (by rw [hA]; simp), if_pos hE]
end Go.Proofs.Ytimddkofcejijaa
