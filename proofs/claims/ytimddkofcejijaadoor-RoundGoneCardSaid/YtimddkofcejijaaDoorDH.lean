/- Layer 2: the first round, read both ways. -/
import Derived.Test.YtimddkofcejijaaDoorDF
import Derived.Test.YtimddkofcejijaaDoorDG
namespace Go.Proofs.YtimddkofcejijaaDoor
open Go.RowKit Go.Sort
namespace Gn
theorem sm_count (p : Nat → Bool) : ∀ m, sm m (fun i => if p i then 1 else 0) = (List.range m).countP p
  | 0 => rfl
  | m + 1 => by
    rw [sm_succ, sm_count p m, List.range_succ, List.countP_append, List.countP_singleton]
theorem count_beyond {p : Nat → Bool} {m : Nat} (h : ∀ i, m ≤ i → p i = false) : ∀ d, (List.range (m + d)).countP p = (List.range m).countP p
  | 0 => rfl
  | d + 1 => by
    rw [show m + (d + 1) = m + d + 1 by omega, List.range_succ, List.countP_append, count_beyond h d, List.countP_singleton, h (m + d) (by omega)]
    rfl
/-- how many streets a round has. -/
theorem sm_left {m S : Nat} (hm : m ≤ 16) (hS : S < 2 ^ m) : sm m (leftK (2 ^ m - 1) S) = m + (listM S).length := by
  have h1 : sm m (leftK (2 ^ m - 1) S) = sm m (fun i => (if decide (i < m) then 1 else 0) + (if S.testBit i then 1 else 0)) := sm_congr m fun i _ => by
    unfold leftK
    rw [Nat.testBit_two_pow_sub_one]
  have h3 : S.testBit = fun i => S.testBit i := rfl
  rw [h1, sm_add, sm_count (fun i => decide (i < m)), sm_count (fun i => S.testBit i)]
  have h2 : (List.range m).countP (fun i => decide (i < m)) = m := by
    rw [List.countP_eq_length.2 fun i hi => by simpa using hi, List.length_range]
  rw [h2, Nm.pop_list]
  unfold Nm.pop
  rw [← count_beyond (p := fun i => S.testBit i) (fun i hi => Nat.testBit_lt_two_pow (Nat.lt_of_lt_of_le hS (Nat.pow_le_pow_right (by decide) hi))) (16 - m), show m + (16 - m) = 16 by omega]
theorem fs_first {α : Type} {f : Nat → Option α} {m : Nat} {v : α} (h : (List.range m).findSome? f = some v) : ∃ i, i < m ∧ f i = some v ∧ ∀ j, j < i → f j = none := by
  induction m with
  | zero => simp at h
  | succ m ih =>
    rw [List.range_succ, List.findSome?_append] at h
    cases hm : (List.range m).findSome? f with
    | some u =>
      rw [hm] at h
      obtain ⟨i, h1, h2, h3⟩ := ih (by rw [hm]; simpa using h)
      exact ⟨i, by omega, h2, h3⟩
    | none =>
      rw [hm] at h
      rw [List.findSome?_eq_none_iff] at hm
      exact ⟨m, by omega, by simpa using h, fun j hj => hm j (List.mem_range.2 hj)⟩
/-- one street of the first round. -/
theorem go_step {ss : List (Int × Int)} {n x i : Nat} {K : Nat → Nat} {r : List Nat} (h : goG ss (n + 1) x K = some (i :: r)) :
    i < ss.length ∧ 0 < K i ∧ touches (en1 ss) (en2 ss) i x ∧ goG ss n (oth (en1 ss) (en2 ss) i x) (less1 K i) = some r ∧ ∀ j, j < i → goQ ss n x K j = none := by
  have hd : goG ss (n + 1) x K = match (List.range ss.length).findSome? (goQ ss n x K) with | some r => some r | none => if sm ss.length K = 0 ∧ x = 0 then some [] else none := rfl
  rw [hd] at h
  cases hf : (List.range ss.length).findSome? (goQ ss n x K) with
  | none =>
    rw [hf] at h
    dsimp only at h
    split at h
    · simp at h
    · cases h
  | some u =>
    rw [hf] at h
    simp at h
    subst h
    obtain ⟨k, h1, h2, h3⟩ := fs_first hf
    have h2' := h2
    unfold goQ at h2
    split at h2
    · rename_i hc
      obtain ⟨r', h4, h5⟩ := Option.map_eq_some_iff.1 h2
      simp at h5
      obtain ⟨rfl, rfl⟩ := h5
      exact ⟨h1, hc.1, hc.2, h4, h3⟩
    · cases h2
theorem go_done {ss : List (Int × Int)} {n x : Nat} {K : Nat → Nat} (h : goG ss n x K = some []) : x = 0 := by
  have hF := goF_full n x K [] h
  have := hF.1
  simpa [wk] using this
/-- what can be gone is found. -/
theorem full_go {ss : List (Int × Int)} : ∀ (n x : Nat) (K : Nat → Nat) (t : List Nat), Full (en1 ss) (en2 ss) ss.length K x 0 t → sm ss.length K < n → (goG ss n x K).isSome = true
  | 0, _, _, _, _, h => by omega
  | n + 1, x, K, t, hF, h => by
    have hd : goG ss (n + 1) x K = match (List.range ss.length).findSome? (goQ ss n x K) with | some r => some r | none => if sm ss.length K = 0 ∧ x = 0 then some [] else none := rfl
    rw [hd]
    cases hf : (List.range ss.length).findSome? (goQ ss n x K) with
    | some u => rfl
    | none =>
      rw [List.findSome?_eq_none_iff] at hf
      cases t with
      | nil =>
        have h0 : sm ss.length K = 0 := sm_zero _ fun i hi => by rw [← hF.2.2 i hi]; rfl
        have hx : x = 0 := by have := hF.1; simpa [wk] using this
        show (if sm ss.length K = 0 ∧ x = 0 then some ([] : List Nat) else none).isSome = true
        rw [if_pos ⟨h0, hx⟩]; rfl
      | cons i r =>
        obtain ⟨h1, h2, h3, h4⟩ := full_tail hF
        have ht := tot_less h1 h2
        have ih := full_go n _ _ r h4 (by omega)
        have hq := hf i (List.mem_range.2 h1)
        unfold goQ at hq
        rw [if_pos ⟨h2, h3⟩, Option.map_eq_none_iff] at hq
        rw [hq] at ih
        cases ih
theorem oth_oth {e1 e2 : Nat → Nat} {i x : Nat} (h : touches e1 e2 i x) : touches e1 e2 i (oth e1 e2 i x) ∧ oth e1 e2 i (oth e1 e2 i x) = x := by
  unfold oth touches at *
  rcases h with h | h
  · rw [if_pos h]
    refine ⟨Or.inr rfl, ?_⟩
    split <;> omega
  · by_cases e : e1 i = x
    · rw [if_pos e]
      refine ⟨Or.inr rfl, ?_⟩
      split <;> omega
    · rw [if_neg e, if_pos rfl]
      exact ⟨Or.inl rfl, h⟩
/-- a way read from its end. -/
theorem wk_rev {e1 e2 : Nat → Nat} : ∀ (t : List Nat) (x y : Nat), wk e1 e2 x t = some y → wk e1 e2 y t.reverse = some x
  | [], x, y, h => by simp [wk] at h; subst h; rfl
  | i :: t, x, y, h => by
    unfold wk at h
    split at h
    · rename_i ht
      rw [List.reverse_cons, wk_app, wk_rev t _ y h]
      obtain ⟨h1, h2⟩ := oth_oth ht
      show (if touches e1 e2 i (oth e1 e2 i x) then wk e1 e2 (oth e1 e2 i (oth e1 e2 i x)) [] else none) = some x
      rw [if_pos h1, h2]; rfl
    · cases h
theorem oth_sum {ss : List (Int × Int)} {i x : Nat} (h : touches (en1 ss) (en2 ss) i x) : ((oth (en1 ss) (en2 ss) i x : Nat) : Int) = (en1 ss i : Int) + en2 ss i - x := by
  unfold oth
  rcases h with h | h
  · rw [if_pos h]; omega
  · by_cases e : en1 ss i = x
    · rw [if_pos e]; omega
    · rw [if_neg e]; omega
theorem oth_lt {ss : List (Int × Int)} {c i x : Nat} (hg : GoodS ss c) (hi : i < ss.length) (h : touches (en1 ss) (en2 ss) i x) : oth (en1 ss) (en2 ss) i x < c ∧ x < c := by
  have := good_str hg hi
  unfold oth
  rcases h with h | h
  · rw [if_pos h]; omega
  · by_cases e : en1 ss i = x
    · rw [if_pos e]; omega
    · rw [if_neg e]; omega
abbrev ints' (r : List Nat) : List Int := r.map fun (i : Nat) => (i : Int)
theorem goE_wk {ss : List (Int × Int)} {c : Nat} (hg : GoodS ss c) : ∀ (r : List Nat) (x y : Nat), wk (en1 ss) (en2 ss) x r = some y → (∀ i ∈ r, i < ss.length) → goE ss (ints' r) x = (0, (y : Int))
  | [], x, y, h, _ => by simp [wk] at h; subst h; rfl
  | i :: r, x, y, h, hm => by
    have hi := hm i (List.mem_cons_self ..)
    unfold wk at h
    split at h
    · rename_i ht
      have ih := goE_wk hg r _ y h fun j hj => hm j (List.mem_cons_of_mem _ hj)
      obtain ⟨g1, g2, g3, g4⟩ := good_str hg hi
      show (if inB ss.length (i : Int) then _ else _) = _
      have hb : inB ss.length (i : Int) = true := by unfold inB; simp; exact hi
      rw [if_pos hb]
      show (if (endsM (str ss (i : Int).toNat)).testBit (x : Int).toNat then goE ss (ints' r) ((str ss (i : Int).toNat).1 + (str ss (i : Int).toNat).2 - x) else (12, 0)) = _
      rw [Int.toNat_natCast, Int.toNat_natCast, if_pos (touch_bit.2 ht), g3, g4, ← oth_sum ht]
      exact ih
    · cases h
theorem cnt_cast (r : List Nat) (i : Nat) : (ints' r).count (i : Int) = r.count i := by
  induction r with
  | nil => rfl
  | cons k r ih =>
    show ((k : Int) :: ints' r).count (i : Int) = _
    rw [List.count_cons, List.count_cons, ih]
    by_cases e : k = i
    · subst e; simp
    · have : ((k : Int) == (i : Int)) = false := by rw [beq_eq_false_iff_ne]; omega
      rw [this, show (k == i) = false by simpa using e]
theorem oft_kL {m : Nat} {K : Nat → Nat} {r : List Nat} (h : ∀ i, i < m → r.count i = K i) : oftL m (ints' r) = kL K m := by
  unfold oftL kL
  refine List.map_congr_left fun i hi => ?_
  rw [cnt_cast, h i (List.mem_range.1 hi)]
/-- a whole way is a round. -/
theorem goes_full {ss : List (Int × Int)} {n : Nat} {K : Nat → Nat} {r : List Nat} (hc : chkM n ss = 0) (h : wk (en1 ss) (en2 ss) 0 r = some 0) (hm : ∀ i ∈ r, i < ss.length) (hK : ∀ i, i < ss.length → r.count i = K i ∧ 0 < K i) :
    goesE n ss (ints' r) = 0 ∧ goesR n ss (ints' r) = kL K ss.length := by
  obtain ⟨_, _, _, _, hp, _⟩ := chk_good hc
  have hE : goesE n ss (ints' r) = 0 := by
    unfold goesE
    have h1 := goE_wk (c := n) hp r 0 0 h hm
    have h1' : goE ss (ints' r) 0 = (0, 0) := h1
    rw [hc, if_pos rfl, h1', if_pos rfl, if_pos rfl, oft_kL (fun i hi => (hK i hi).1), if_neg]
    intro hh
    rw [List.contains_iff_mem] at hh
    unfold kL at hh
    obtain ⟨i, hi, e⟩ := List.mem_map.1 hh
    have := (hK i (List.mem_range.1 hi)).2
    omega
  refine ⟨hE, ?_⟩
  unfold goesR
  rw [hE, if_pos rfl, oft_kL (fun i hi => (hK i hi).1)]
end Gn
end Go.Proofs.YtimddkofcejijaaDoor
