/- Layer 2: all lists of streets in ascending order, and the fewest. -/
import Derived.Test.YtimddkofcejijaaSN
import Derived.Test.YtimddkofcejijaaRU
namespace Go.Proofs.Ytimddkofcejijaa
open Go.RowKit Go.Sort
/-- all ascending lists of numbers from f on, of d numbers, in ascending order. -/
def allF : Nat → Nat → List (List Int)
  | 0, _ => [[]]
  | d + 1, f => [] :: ((allF d (f + 1)).map ((f : Int) :: ·) ++ (allF d (f + 1)).tail)
theorem allF_head (d f : Nat) : allF d f = [] :: (allF d f).tail := by cases d <;> rfl
theorem allF_len : ∀ d f, (allF d f).length = 2 ^ d
  | 0, _ => rfl
  | d + 1, f => by
    unfold allF
    have h := allF_len d (f + 1)
    have hp := Nat.two_pow_pos d
    rw [List.length_cons, List.length_append, List.length_map, List.length_tail, h, Nat.pow_succ]
    omega
theorem sorted_ext : ∀ {a b : List Int}, a.Pairwise (· < ·) → b.Pairwise (· < ·) → (∀ x, x ∈ a ↔ x ∈ b) → a = b
  | [], [], _, _, _ => rfl
  | [], y :: b, _, _, h => by have := (h y).2 (List.mem_cons_self ..); cases this
  | x :: a, [], _, _, h => by have := (h x).1 (List.mem_cons_self ..); cases this
  | x :: a, y :: b, ha, hb, h => by
    rw [List.pairwise_cons] at ha hb
    have hxy : x = y := by
      rcases List.mem_cons.1 ((h x).1 (List.mem_cons_self ..)) with e | h1
      · exact e
      · rcases List.mem_cons.1 ((h y).2 (List.mem_cons_self ..)) with e | h2
        · exact e.symm
        · have := hb.1 x h1
          have := ha.1 y h2
          omega
    subst hxy
    refine congrArg _ (sorted_ext ha.2 hb.2 fun z => ⟨fun hz => ?_, fun hz => ?_⟩)
    · rcases List.mem_cons.1 ((h z).1 (List.mem_cons_of_mem _ hz)) with e | h1
      · have := ha.1 z hz; omega
      · exact h1
    · rcases List.mem_cons.1 ((h z).2 (List.mem_cons_of_mem _ hz)) with e | h1
      · have := hb.1 z hz; omega
      · exact h1
theorem listM_mem {s : Nat} {x : Int} : x ∈ listM s ↔ ∃ i : Nat, i < 16 ∧ s.testBit i = true ∧ x = (i : Int) := by
  unfold listM preM
  rw [List.mem_map]
  constructor
  · rintro ⟨i, h, rfl⟩
    rw [List.mem_filter, List.mem_range] at h
    exact ⟨i, h.1, h.2, rfl⟩
  · rintro ⟨i, h1, h2, rfl⟩
    exact ⟨i, List.mem_filter.2 ⟨List.mem_range.2 h1, h2⟩, rfl⟩
theorem listM_sorted (s : Nat) : (listM s).Pairwise (· < ·) := by
  unfold listM preM
  refine List.Pairwise.map _ (fun (a b : Nat) (h : a < b) => ?_) (List.Pairwise.filter _ List.pairwise_lt_range)
  show (a : Int) < b
  omega
theorem shl_bit (s f i : Nat) : (s <<< f).testBit i = (decide (f ≤ i) && s.testBit (i - f)) := by
  rw [Nat.testBit_shiftLeft]
theorem odd_bit (s i : Nat) : (2 * s + 1).testBit i = (decide (i = 0) || s.testBit (i - 1)) := by
  cases i with
  | zero => simp
  | succ i =>
    rw [Nat.testBit_succ]
    have : (2 * s + 1) / 2 = s := by omega
    rw [this]; simp
theorem even_bit (s i : Nat) : (2 * s).testBit i = (decide (0 < i) && s.testBit (i - 1)) := by
  cases i with
  | zero => simp
  | succ i =>
    rw [Nat.testBit_succ]
    have : (2 * s) / 2 = s := by omega
    rw [this]; simp
theorem shl_even (s f : Nat) : (2 * s) <<< f = s <<< (f + 1) := by
  rw [Nat.shiftLeft_eq, Nat.shiftLeft_eq, Nat.pow_succ]; rw [Nat.mul_comm 2 s, Nat.mul_assoc, Nat.mul_comm 2]
theorem listM_odd {s f : Nat} (hf : f < 16) : listM ((2 * s + 1) <<< f) = (f : Int) :: listM (s <<< (f + 1)) := by
  refine sorted_ext (listM_sorted _) ?_ fun x => ?_
  · rw [List.pairwise_cons]
    refine ⟨fun x hx => ?_, listM_sorted _⟩
    obtain ⟨i, _, hb, rfl⟩ := listM_mem.1 hx
    rw [shl_bit, Bool.and_eq_true, decide_eq_true_eq] at hb
    omega
  · rw [List.mem_cons, listM_mem, listM_mem]
    constructor
    · rintro ⟨i, h1, hb, rfl⟩
      rw [shl_bit, Bool.and_eq_true, decide_eq_true_eq, odd_bit, Bool.or_eq_true, decide_eq_true_eq] at hb
      obtain ⟨h2, h3 | h3⟩ := hb
      · left; omega
      · rcases Nat.eq_or_lt_of_le h2 with e | h4
        · left; omega
        · right
          refine ⟨i, h1, ?_, rfl⟩
          rw [shl_bit, Bool.and_eq_true, decide_eq_true_eq]
          exact ⟨h4, by rw [show i - (f + 1) = i - f - 1 by omega]; exact h3⟩
    · rintro (rfl | ⟨i, h1, hb, rfl⟩)
      · refine ⟨f, hf, ?_, rfl⟩
        rw [shl_bit, Nat.sub_self, odd_bit]; simp
      · rw [shl_bit, Bool.and_eq_true, decide_eq_true_eq] at hb
        refine ⟨i, h1, ?_, rfl⟩
        rw [shl_bit, odd_bit]
        rw [show i - f - 1 = i - (f + 1) by omega, hb.2]
        simp; omega
theorem range_twice (m : Nat) : (List.range (2 * m)).Perm ((List.range m).map (fun s => 2 * s + 1) ++ (List.range m).map (fun s => 2 * s)) := by
  induction m with
  | zero => exact List.Perm.refl _
  | succ m ih =>
    rw [show 2 * (m + 1) = 2 * m + 1 + 1 by omega, List.range_succ, List.range_succ, List.range_succ, List.map_append, List.map_append, List.append_assoc]
    have h1 : (List.range (2 * m) ++ ([2 * m] ++ [2 * m + 1])).Perm (((List.range m).map (fun s => 2 * s + 1) ++ (List.range m).map (fun s => 2 * s)) ++ ([2 * m] ++ [2 * m + 1])) := ih.append_right _
    refine h1.trans ?_
    show (((List.range m).map (fun s => 2 * s + 1) ++ (List.range m).map (fun s => 2 * s)) ++ ([2 * m] ++ [2 * m + 1])).Perm (((List.range m).map (fun s => 2 * s + 1) ++ [2 * m + 1]) ++ ((List.range m).map (fun s => 2 * s) ++ [2 * m]))
    rw [List.append_assoc, List.append_assoc]
    refine List.Perm.append_left _ ?_
    have : ((List.range m).map (fun s => 2 * s) ++ ([2 * m] ++ [2 * m + 1])) = (((List.range m).map (fun s => 2 * s) ++ [2 * m]) ++ [2 * m + 1]) := by rw [List.append_assoc]
    rw [this]
    exact List.perm_append_comm
theorem allF_perm : ∀ d f, f + d ≤ 16 → (allF d f).Perm ((List.range (2 ^ d)).map fun s => listM (s <<< f))
  | 0, f, _ => by
    have h0 : listM 0 = [] := by decide
    simp [allF, h0]
  | d + 1, f, h => by
    have ih := allF_perm d (f + 1) (by omega)
    have e : allF (d + 1) f = [] :: ((allF d (f + 1)).map ((f : Int) :: ·) ++ (allF d (f + 1)).tail) := rfl
    rw [e]
    have h1 : ([] :: ((allF d (f + 1)).map ((f : Int) :: ·) ++ (allF d (f + 1)).tail)).Perm ((allF d (f + 1)).map ((f : Int) :: ·) ++ allF d (f + 1)) := by
      conv => rhs; rhs; rw [allF_head]
      exact List.perm_middle.symm
    refine h1.trans ?_
    have h2 := ((range_twice (2 ^ d)).map fun s => listM (s <<< f)).symm
    rw [show 2 * 2 ^ d = 2 ^ (d + 1) by rw [Nat.pow_succ, Nat.mul_comm]] at h2
    refine List.Perm.trans ?_ h2
    rw [List.map_append, List.map_map, List.map_map]
    refine List.Perm.append ?_ ?_
    · have := ih.map ((f : Int) :: ·)
      rw [List.map_map] at this
      refine this.trans (List.Perm.of_eq (List.map_congr_left fun s _ => ?_))
      exact (listM_odd (by omega)).symm
    · refine ih.trans (List.Perm.of_eq (List.map_congr_left fun s _ => ?_))
      show listM (s <<< (f + 1)) = listM ((2 * s) <<< f)
      rw [shl_even]
theorem allF_zero (n : Nat) (h : n ≤ 16) : (allF n 0).Perm ((List.range (2 ^ n)).map listM) := by
  have := allF_perm n 0 (by omega)
  simpa using this
theorem setM_list {s : Nat} (h : s < 2 ^ 16) : setM (listM s) = s := Nat.eq_of_testBit_eq fun i => by
  unfold setM
  rw [setL_bit _ 0 i (fun z hz => by obtain ⟨j, _, _, rfl⟩ := listM_mem.1 hz; omega), Nat.zero_testBit, Bool.false_or, Bool.eq_iff_iff, List.contains_iff_mem, listM_mem]
  constructor
  · rintro ⟨j, _, h2, e⟩
    have : j = i := by omega
    rw [← this]; exact h2
  · intro hb
    refine ⟨i, ?_, hb, rfl⟩
    rcases Nat.lt_or_ge i 16 with h1 | h1
    · exact h1
    · rw [Nat.testBit_lt_two_pow (Nat.lt_of_lt_of_le h (Nat.pow_le_pow_right (by decide) h1))] at hb; cases hb
/-- the lists of streets that are enough, in ascending order. -/
def enL (ss : List (Int × Int)) : List (List Int) := (allF ss.length 0).filter fun l => enoughB ss (setM l)
theorem enL_mem {ss : List (Int × Int)} (hl : ss.length ≤ 15) {l : List Int} : l ∈ enL ss ↔ ∃ s, s < 2 ^ ss.length ∧ l = listM s ∧ enoughB ss s = true := by
  have h16 : 2 ^ ss.length ≤ 2 ^ 16 := Nat.pow_le_pow_right (by decide) (by omega)
  unfold enL
  rw [List.mem_filter, (allF_zero ss.length (by omega)).mem_iff, List.mem_map]
  constructor
  · rintro ⟨⟨s, hs, rfl⟩, he⟩
    have hs := List.mem_range.1 hs
    rw [setM_list (by omega)] at he
    exact ⟨s, hs, rfl, he⟩
  · rintro ⟨s, hs, rfl, he⟩
    refine ⟨⟨s, List.mem_range.2 hs, rfl⟩, ?_⟩
    rw [setM_list (by omega)]; exact he
theorem enL_len {ss : List (Int × Int)} (hl : ss.length ≤ 15) : (enL ss).length = cntM ss (2 ^ ss.length) := by
  have h16 : 2 ^ ss.length ≤ 2 ^ 16 := Nat.pow_le_pow_right (by decide) (by omega)
  unfold enL cntM
  rw [← List.countP_eq_length_filter, (allF_zero ss.length (by omega)).countP_eq, List.countP_map]
  refine List.countP_congr fun s hs => ?_
  have hs := List.mem_range.1 hs
  show enoughB ss (setM (listM s)) = true ↔ _
  rw [setM_list (by omega)]
theorem cmp_head (x : Int) (a b : List Int) : cmpL (x :: a) (x :: b) = cmpL a b := by
  show (if cmpI x x = 0 then cmpL a b else cmpI x x) = _
  rw [cmpI_self, if_pos rfl]
theorem allF_tail : ∀ d f, ∀ b ∈ (allF d f).tail, ∃ y t, b = y :: t ∧ (f : Int) ≤ y
  | 0, _, b, hb => by cases hb
  | d + 1, f, b, hb => by
    have hb' : b ∈ (allF d (f + 1)).map ((f : Int) :: ·) ++ (allF d (f + 1)).tail := hb
    rcases List.mem_append.1 hb' with h | h
    · obtain ⟨t, _, rfl⟩ := List.mem_map.1 h
      exact ⟨f, t, rfl, Int.le_refl _⟩
    · obtain ⟨y, t, e, h1⟩ := allF_tail d (f + 1) b h
      exact ⟨y, t, e, by omega⟩
theorem allF_sorted : ∀ d f, (allF d f).Pairwise fun a b => cmpL a b < 0
  | 0, _ => List.pairwise_singleton _ _
  | d + 1, f => by
    have ih := allF_sorted d (f + 1)
    show ([] :: ((allF d (f + 1)).map ((f : Int) :: ·) ++ (allF d (f + 1)).tail)).Pairwise _
    rw [List.pairwise_cons, List.pairwise_append]
    refine ⟨fun b hb => ?_, List.Pairwise.map _ (fun a b h => ?_) ih, ?_, fun a ha b hb => ?_⟩
    · obtain ⟨y, t, rfl, _⟩ := allF_tail (d + 1) f b hb
      show (-1 : Int) < 0
      decide
    · show cmpL ((f : Int) :: a) ((f : Int) :: b) < 0
      rw [cmp_head]; exact h
    · rw [allF_head, List.pairwise_cons] at ih
      exact ih.2
    · obtain ⟨t, _, rfl⟩ := List.mem_map.1 ha
      obtain ⟨y, t', rfl, h1⟩ := allF_tail d (f + 1) b hb
      have hc : cmpI (f : Int) y = -1 := by unfold cmpI; rw [if_pos (by omega)]
      show (if cmpI (f : Int) y = 0 then cmpL t t' else cmpI (f : Int) y) < 0
      rw [hc, if_neg (by decide)]; decide
/-- the first of the shortest lists. -/
def bestF (t : List (List Int)) (b : List Int) : List Int := t.foldl (fun b l => if l.length < b.length then l else b) b
theorem fewer_iff {a b : List Int} : fewerB a b = true ↔ a.length < b.length ∨ (a.length = b.length ∧ cmpL a b < 0) := by
  unfold fewerB
  split
  · rename_i h
    rw [decide_eq_true_eq]
    exact ⟨fun h1 => Or.inr ⟨h, h1⟩, fun h1 => h1.elim (fun h2 => absurd h (by omega)) (fun h2 => h2.2)⟩
  · rename_i h
    rw [decide_eq_true_eq]
    exact ⟨fun h1 => Or.inl h1, fun h1 => h1.elim id (fun h2 => absurd h2.1 h)⟩
theorem best_min : ∀ (t : List (List Int)) (b : List Int) (P : List (List Int)), b ∈ P → (P ++ t).Pairwise (fun a b => cmpL a b < 0) → (∀ l ∈ P, ¬ fewerB l b = true) → bestF t b ∈ P ++ t ∧ ∀ l ∈ P ++ t, ¬ fewerB l (bestF t b) = true
  | [], b, P, hb, _, h => by
    rw [List.append_nil]
    exact ⟨hb, h⟩
  | l :: t, b, P, hb, hs, h => by
    have hs' : ((P ++ [l]) ++ t).Pairwise (fun a b => cmpL a b < 0) := by rw [List.append_assoc]; exact hs
    have e : P ++ l :: t = (P ++ [l]) ++ t := by rw [List.append_assoc]; rfl
    rw [e]
    unfold bestF
    rw [List.foldl_cons]
    have hbl : cmpL b l < 0 := by
      rw [List.pairwise_append] at hs
      exact hs.2.2 b hb l (List.mem_cons_self ..)
    refine best_min t _ (P ++ [l]) ?_ hs' ?_
    · split
      · exact List.mem_append_right _ (List.mem_cons_self ..)
      · exact List.mem_append_left _ hb
    · intro x hx
      split
      · rename_i hlt
        rcases List.mem_append.1 hx with hx | hx
        · intro hf
          have h0 := h x hx
          rw [fewer_iff] at hf h0
          omega
        · simp at hx; subst hx
          rw [fewer_iff]
          have : cmpL x x = 0 := cmpL_self x
          omega
      · rename_i hlt
        rcases List.mem_append.1 hx with hx | hx
        · exact h x hx
        · simp at hx; subst hx
          rw [fewer_iff]
          have := cmpL_swap b x
          omega
theorem fewer_trans {a b c : List Int} (h1 : fewerB a b = true) (h2 : fewerB b c = true) : fewerB a c = true := by
  rw [fewer_iff] at h1 h2 ⊢
  have h3 := cmpL_swap a b
  have h4 := cmpL_swap b c
  rcases h1 with h1 | ⟨e1, h1⟩ <;> rcases h2 with h2 | ⟨e2, h2⟩
  · left; omega
  · left; omega
  · left; omega
  · right
    refine ⟨by omega, ?_⟩
    have h5 := cmpL_trans a b c (by omega) (by omega)
    rcases Int.lt_or_eq_of_le h5 with h6 | h6
    · exact h6
    · have := cmpL_zero h6
      subst this
      omega
theorem fewer_total {a b : List Int} (h1 : ¬ fewerB a b = true) (h2 : ¬ fewerB b a = true) : a = b := by
  rw [fewer_iff] at h1 h2
  have := cmpL_swap a b
  exact cmpL_zero (by omega)
theorem few_first (ss : List (Int × Int)) : ∀ k, k ≤ 2 ^ ss.length - 1 → (∃ S, S < 2 ^ ss.length ∧ enoughB ss S = true ∧ fewK ss k = listM S) ∧ (∀ T, (T < k ∨ T = 2 ^ ss.length - 1) → enoughB ss T = true → ¬ fewerB (listM T) (fewK ss k) = true)
  | 0, _ => by
    have hp := Nat.two_pow_pos ss.length
    refine ⟨⟨2 ^ ss.length - 1, by omega, by unfold enoughB; simp, rfl⟩, fun T hT _ => ?_⟩
    have : T = 2 ^ ss.length - 1 := by omega
    subst this
    show ¬ fewerB (listM (2 ^ ss.length - 1)) (listM (2 ^ ss.length - 1)) = true
    rw [fewer_iff, cmpL_self]; omega
  | k + 1, hk => by
    obtain ⟨⟨S, h1, h2, h3⟩, h4⟩ := few_first ss k (by omega)
    have e : fewK ss (k + 1) = if enoughB ss k && fewerB (listM k) (fewK ss k) then listM k else fewK ss k := by
      unfold fewK
      rw [List.range_succ, List.foldl_append]
      rfl
    rw [e]
    by_cases hc : (enoughB ss k && fewerB (listM k) (fewK ss k)) = true
    · rw [if_pos hc]
      rw [Bool.and_eq_true] at hc
      refine ⟨⟨k, by omega, hc.1, rfl⟩, fun T hT hE hf => ?_⟩
      by_cases hTk : T = k
      · subst hTk
        rw [fewer_iff, cmpL_self] at hf
        omega
      · exact h4 T (by omega) hE (fewer_trans hf hc.2)
    · rw [if_neg hc]
      refine ⟨⟨S, h1, h2, h3⟩, fun T hT hE hf => ?_⟩
      by_cases hTk : T = k
      · subst hTk
        exact hc (by rw [hE, hf]; rfl)
      · exact h4 T (by omega) hE hf
/-- the reference's fewest streets are ours. -/
theorem best_few {ss : List (Int × Int)} (hl : ss.length ≤ 15) {h : List Int} {t : List (List Int)} (he : enL ss = h :: t) : bestF t h = fewM ss := by
  have hs : ([h] ++ t).Pairwise (fun a b => cmpL a b < 0) := by
    show (h :: t).Pairwise _
    rw [← he]
    exact (allF_sorted _ _).filter _
  obtain ⟨h1, h2⟩ := best_min t h [h] (List.mem_cons_self ..) hs (fun l hl => by simp at hl; subst hl; rw [fewer_iff, cmpL_self]; omega)
  have e : [h] ++ t = enL ss := he.symm
  rw [e] at h1 h2
  obtain ⟨⟨S, k1, k2, k3⟩, k4⟩ := few_first ss (2 ^ ss.length - 1) (Nat.le_refl _)
  obtain ⟨T, g1, g2, g3⟩ := (enL_mem hl).1 h1
  have k3' : fewM ss = listM S := k3
  refine fewer_total ?_ ?_
  · rw [g2]
    exact k4 T (by omega) g3
  · rw [k3']
    exact h2 _ ((enL_mem hl).2 ⟨S, k1, rfl, k2⟩)
theorem enL_cons {ss : List (Int × Int)} (hl : ss.length ≤ 15) : ∃ h t, enL ss = h :: t := by
  have : listM (2 ^ ss.length - 1) ∈ enL ss := (enL_mem hl).2 ⟨_, by have := Nat.two_pow_pos ss.length; omega, rfl, by unfold enoughB; simp⟩
  cases he : enL ss with
  | nil => rw [he] at this; cases this
  | cons h t => exact ⟨h, t, rfl⟩
end Go.Proofs.Ytimddkofcejijaa
