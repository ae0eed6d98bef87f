/- Layer 2: the first round is the first way through all streets. -/
import Derived.Test.YtimddkofcejijaaST
import Derived.Test.YtimddkofcejijaaEA
import Derived.Test.YtimddkofcejijaaRP
namespace Go.Proofs.Ytimddkofcejijaa
open Go.RowKit Go.Sort
/-- the streets of a set. -/
def subS (s : Nat) : Nat → List (Int × Int) → List (Int × Int)
  | _, [] => []
  | i, p :: l => if s.testBit i then p :: subS s (i + 1) l else subS s (i + 1) l
theorem sweep_sub (s : Nat) : ∀ (l : List (Int × Int)) (i f : Nat), sweepL s i l f = sweepA (subS s i l) f
  | [], _, _ => rfl
  | p :: l, i, f => by
    unfold sweepL subS
    cases s.testBit i
    · simp only [Bool.false_and, Bool.false_eq_true, if_false]
      exact sweep_sub s l (i + 1) f
    · simp only [Bool.true_and, if_true]
      rw [sweep_sub s l (i + 1)]
      rfl
theorem reach_sub (s : Nat) (ss : List (Int × Int)) : ∀ n f, reachM ss s n f = iterA (subS s 0 ss) n f
  | 0, _ => rfl
  | n + 1, f => by
    unfold reachM iterA
    rw [sweep_sub]
    exact reach_sub s ss n _
theorem sub_mem (s : Nat) : ∀ (l : List (Int × Int)) (i : Nat) (p : Int × Int), p ∈ subS s i l ↔ ∃ j, j < l.length ∧ s.testBit (i + j) = true ∧ p = str l j
  | [], _, p => by simp [subS]
  | q :: l, i, p => by
    have ih := sub_mem s l (i + 1) p
    have h0 : str (q :: l) 0 = q := rfl
    have hs : ∀ j, str (q :: l) (j + 1) = str l j := fun j => rfl
    unfold subS
    constructor
    · intro h
      have key : (s.testBit i = true ∧ p = q) ∨ p ∈ subS s (i + 1) l := by
        by_cases hb : s.testBit i = true
        · rw [if_pos hb] at h
          rcases List.mem_cons.1 h with h | h
          · exact Or.inl ⟨hb, h⟩
          · exact Or.inr h
        · rw [if_neg hb] at h
          exact Or.inr h
      rcases key with ⟨hb, rfl⟩ | h
      · exact ⟨0, by simp, hb, rfl⟩
      · obtain ⟨j, h1, h2, h3⟩ := ih.1 h
        exact ⟨j + 1, by simp; omega, by rw [show i + (j + 1) = i + 1 + j by omega]; exact h2, by rw [hs]; exact h3⟩
    · rintro ⟨j, h1, h2, h3⟩
      cases j with
      | zero =>
        rw [h0] at h3
        rw [Nat.add_zero] at h2
        rw [if_pos h2, h3]
        exact List.mem_cons_self ..
      | succ j =>
        rw [hs] at h3
        have h4 := ih.2 ⟨j, by simp at h1; omega, by rw [show i + 1 + j = i + (j + 1) by omega]; exact h2, h3⟩
        split
        · exact List.mem_cons_of_mem _ h4
        · exact h4
def en1 (ss : List (Int × Int)) (i : Nat) : Nat := (str ss i).1.toNat
def en2 (ss : List (Int × Int)) (i : Nat) : Nat := (str ss i).2.toNat
/-- how often each street is left. -/
def leftK (l a : Nat) (i : Nat) : Nat := (if l.testBit i then 1 else 0) + (if a.testBit i then 1 else 0)
def GoodS (ss : List (Int × Int)) (c : Nat) : Prop := ∀ p ∈ ss, 0 ≤ p.1 ∧ p.1 < p.2 ∧ p.2 < (c : Int)
theorem good_str {ss : List (Int × Int)} {c : Nat} (h : GoodS ss c) {i : Nat} (hi : i < ss.length) : en1 ss i < en2 ss i ∧ en2 ss i < c ∧ (str ss i).1 = en1 ss i ∧ (str ss i).2 = en2 ss i := by
  have := h _ (str_mem ss i hi)
  unfold en1 en2
  omega
/-- the corners to which one comes hold each street that is left, just if all hang together. -/
theorem goes_conn {ss : List (Int × Int)} {c y l a : Nat} (hg : GoodS ss c) (hy : y < c) (hl : l < 2 ^ ss.length) (hlen : ss.length ≤ 15) (ha : ∀ i, a.testBit i = true → l.testBit i = true) :
    goesB ss c y l = true ↔ Conn (en1 ss) (en2 ss) ss.length (leftK l a) y := by
  have hK : ∀ i, 0 < leftK l a i ↔ l.testBit i = true := fun i => by
    unfold leftK
    have := ha i
    cases h1 : l.testBit i <;> cases h2 : a.testBit i <;> simp_all
  have hli : ∀ i, l.testBit i = true → i < ss.length := fun i hi => by
    rcases Nat.lt_or_ge i ss.length with h | h
    · exact h
    · rw [Nat.testBit_lt_two_pow (Nat.lt_of_lt_of_le hl (Nat.pow_le_pow_right (by decide) h))] at hi; cases hi
  have hsub : ∀ p ∈ subS l 0 ss, 0 ≤ p.1 ∧ p.1 < p.2 ∧ p.2 < (c : Int) := fun p hp => by
    obtain ⟨j, hj, _, rfl⟩ := (sub_mem l ss 0 p).1 hp
    exact hg _ (str_mem ss j hj)
  have he : ∀ p ∈ subS l 0 ss, endsM p < 2 ^ c := fun p h => ends_small (hsub p h)
  have hfix : sweepA (subS l 0 ss) (iterA (subS l 0 ss) c (2 ^ y)) = iterA (subS l 0 ss) c (2 ^ y) := by
    rcases iterA_grow he c (2 ^ y) (Nat.pow_lt_pow_right (by decide) hy) with h | h
    · exact h
    · have := cntB_le (sweepA (subS l 0 ss) (iterA (subS l 0 ss) c (2 ^ y))) c
      omega
  have hy0 : (iterA (subS l 0 ss) c (2 ^ y)).testBit y = true := iterA_sub _ _ _ _ (by rw [Nat.testBit_two_pow]; simp)
  have hin : ∀ T : Nat → Prop, T y → (∀ i, i < ss.length → 0 < leftK l a i → (T (en1 ss i) ↔ T (en2 ss i))) → ∀ j : Nat, (iterA (subS l 0 ss) c (2 ^ y)).testBit j = true → T j := fun T hT hc j hj => by
    have h := iterA_in (T := fun z => T z.toNat) (fun p h => ⟨(hsub p h).1, by have := hsub p h; omega⟩) (fun p hp => by
      obtain ⟨k, hk, hb, rfl⟩ := (sub_mem l ss 0 p).1 hp
      rw [Nat.zero_add] at hb
      exact hc k hk ((hK k).2 hb)) c (2 ^ y) (fun k hk => by
      rw [Nat.testBit_two_pow, decide_eq_true_eq] at hk
      show T (Int.toNat (k : Int))
      rw [Int.toNat_natCast, ← hk]; exact hT) j hj
    simpa using h
  unfold goesB
  rw [reach_sub]
  generalize iterA (subS l 0 ss) c (2 ^ y) = R at *
  have hends : ∀ i, i < ss.length → (decide (endsM (str ss i) &&& R = endsM (str ss i)) = true ↔ R.testBit (en1 ss i) = true ∧ R.testBit (en2 ss i) = true) := fun i hi => by
    rw [decide_eq_true_eq]
    constructor
    · intro h
      refine ⟨?_, ?_⟩
      · have h1 : (endsM (str ss i) &&& R).testBit (en1 ss i) = true := by rw [h, ends_bitR]; simp [en1]
        rw [Nat.testBit_and, Bool.and_eq_true] at h1
        exact h1.2
      · have h1 : (endsM (str ss i) &&& R).testBit (en2 ss i) = true := by rw [h, ends_bitR]; simp [en2]
        rw [Nat.testBit_and, Bool.and_eq_true] at h1
        exact h1.2
    · rintro ⟨h1, h2⟩
      refine Nat.eq_of_testBit_eq fun j => ?_
      rw [Nat.testBit_and, ends_bitR]
      by_cases hj1 : (str ss i).1.toNat = j
      · have : R.testBit j = true := by rw [← hj1]; exact h1
        simp [this]
      · by_cases hj2 : (str ss i).2.toNat = j
        · have : R.testBit j = true := by rw [← hj2]; exact h2
          simp [this]
        · simp [hj1, hj2]
  rw [List.all_eq_true]
  constructor
  · intro h T hT hc i hi hKi
    have hb := (hK i).1 hKi
    have := h i (List.mem_filter.2 ⟨List.mem_range.2 (by omega), hb⟩)
    exact hin T hT hc _ ((hends i hi).1 this).1
  · intro h i hi
    have hb := (List.mem_filter.1 hi).2
    have hil := hli i hb
    have hcl : ∀ k, k < ss.length → 0 < leftK l a k → (R.testBit (en1 ss k) = true ↔ R.testBit (en2 ss k) = true) := fun k hk hKk => by
      have hm : str ss k ∈ subS l 0 ss := (sub_mem l ss 0 _).2 ⟨k, hk, by rw [Nat.zero_add]; exact (hK k).1 hKk, rfl⟩
      exact sweepA_fix _ R hfix _ hm
    have h1 := h (fun v => R.testBit v = true) hy0 hcl i hil ((hK i).2 hb)
    exact (hends i hil).2 ⟨h1, (hcl i hil ((hK i).2 hb)).1 h1⟩
section
variable (e1 e2 : Nat → Nat) (m : Nat)
/-- the first way through all streets that are left, found by trying. -/
def goF : Nat → Nat → (Nat → Nat) → Option (List Nat)
  | 0, _, _ => none
  | n + 1, x, K => match (List.range m).findSome? (fun i => if 0 < K i ∧ touches e1 e2 i x then (goF n (oth e1 e2 i x) (less1 K i)).map (i :: ·) else none) with
    | some r => some r
    | none => if sm m K = 0 ∧ x = 0 then some [] else none
variable {e1 e2 m}
theorem sm_all {K : Nat → Nat} (h : sm m K = 0) : ∀ i, i < m → K i = 0 := fun i hi => by
  refine Nat.eq_zero_of_not_pos fun hp => ?_
  have := tot_less hi hp
  omega
theorem full_cons {K : Nat → Nat} {x y i : Nat} {r : List Nat} (hi : i < m) (hK : 0 < K i) (ht : touches e1 e2 i x) (h : Full e1 e2 m (less1 K i) (oth e1 e2 i x) y r) : Full e1 e2 m K x y (i :: r) := by
  obtain ⟨h1, h2, h3⟩ := h
  refine ⟨?_, fun j hj => ?_, fun j hj => ?_⟩
  · show (if touches e1 e2 i x then wk e1 e2 (oth e1 e2 i x) r else none) = some y
    rw [if_pos ht]; exact h1
  · rcases List.mem_cons.1 hj with rfl | hj
    · exact hi
    · exact h2 j hj
  · have := h3 j hj
    rw [List.count_cons, this]
    unfold less1
    by_cases e : j = i
    · subst e; simp; omega
    · rw [if_neg e, if_neg (by simpa using fun e' : i = j => e e'.symm)]; omega
theorem full_tail {K : Nat → Nat} {x y i : Nat} {r : List Nat} (h : Full e1 e2 m K x y (i :: r)) : i < m ∧ 0 < K i ∧ touches e1 e2 i x ∧ Full e1 e2 m (less1 K i) (oth e1 e2 i x) y r := by
  obtain ⟨h1, h2, h3⟩ := h
  have hi := h2 i (List.mem_cons_self ..)
  have hK : 0 < K i := by rw [← h3 i hi]; simp
  unfold wk at h1
  by_cases ht : touches e1 e2 i x
  · rw [if_pos ht] at h1
    refine ⟨hi, hK, ht, h1, fun j hj => h2 j (List.mem_cons_of_mem _ hj), fun j hj => ?_⟩
    have := h3 j hj
    rw [List.count_cons] at this
    unfold less1
    by_cases e : j = i
    · subst e; rw [if_pos rfl]; simp at this; omega
    · rw [if_neg e]; rw [if_neg (by simpa using fun e' : i = j => e e'.symm)] at this; omega
  · rw [if_neg ht] at h1; cases h1
theorem goF_full : ∀ (n x : Nat) (K : Nat → Nat) (r : List Nat), goF e1 e2 m n x K = some r → Full e1 e2 m K x 0 r
  | 0, _, _, _, h => by cases h
  | n + 1, x, K, r, h => by
    unfold goF at h
    split at h
    · rename_i r' hf
      simp at h
      subst h
      obtain ⟨i, hi, h1⟩ := List.exists_of_findSome?_eq_some hf
      have hi := List.mem_range.1 hi
      by_cases hc : 0 < K i ∧ touches e1 e2 i x
      · rw [if_pos hc] at h1
        obtain ⟨r0, h2, rfl⟩ := Option.map_eq_some_iff.1 h1
        exact full_cons hi hc.1 hc.2 (goF_full n _ _ _ h2)
      · rw [if_neg hc] at h1; cases h1
    · by_cases hc : sm m K = 0 ∧ x = 0
      · rw [if_pos hc] at h
        simp at h
        subst h
        exact ⟨by rw [hc.2]; rfl, (fun i hi => by cases hi), fun i hi => by rw [sm_all hc.1 i hi]; rfl⟩
      · rw [if_neg hc] at h; cases h
theorem fs_first {α : Type} (f : Nat → Option α) (q : Nat → Bool) : ∀ (L : List Nat), (∀ i ∈ L, q i = (f i).isSome) → L.findSome? f = (L.find? q).bind f
  | [], _ => rfl
  | i :: L, h => by
    have h1 := h i (List.mem_cons_self ..)
    rw [List.findSome?_cons, List.find?_cons]
    cases hf : f i with
    | none =>
      rw [hf] at h1
      rw [h1]
      exact fs_first f q L fun j hj => h j (List.mem_cons_of_mem _ hj)
    | some v =>
      rw [hf] at h1
      rw [h1]
      exact hf.symm
theorem find_beyond {q : Nat → Bool} {m : Nat} (h : ∀ i, m ≤ i → q i = false) : ∀ d, (List.range (m + d)).find? q = (List.range m).find? q
  | 0 => rfl
  | d + 1 => by
    rw [show m + (d + 1) = (m + d) + 1 by omega, List.range_succ, List.find?_append, find_beyond h d]
    have : [m + d].find? q = none := by simp [h (m + d) (by omega)]
    rw [this, Option.or_none]
end
theorem thr_left {ss : List (Int × Int)} {x l a i : Nat} (hl : l.testBit i = true) : leftK (thr ss x l a i).2.1 (thr ss x l a i).2.2 = less1 (leftK l a) i := by
  funext j
  unfold leftK less1 thr
  dsimp only
  cases h : a.testBit i
  · simp only [Bool.false_eq_true, if_false, dif_bit, Nat.testBit_two_pow]
    by_cases e : j = i
    · subst e; simp [h, hl]
    · have : decide (i = j) = false := decide_eq_false fun e' => e e'.symm
      simp [this, e]
  · simp only [if_true, dif_bit, Nat.testBit_two_pow]
    by_cases e : j = i
    · subst e; simp [h, hl]
    · have : decide (i = j) = false := decide_eq_false fun e' => e e'.symm
      simp [this, e]
theorem thr_good {ss : List (Int × Int)} {x l a i : Nat} (ha : ∀ j, a.testBit j = true → l.testBit j = true) : ∀ j, (thr ss x l a i).2.2.testBit j = true → (thr ss x l a i).2.1.testBit j = true := fun j hj => by
  unfold thr at hj ⊢
  cases h : a.testBit i
  · rw [h] at hj
    simp only [Bool.false_eq_true, if_false] at hj ⊢
    rw [dif_bit, ha j hj, Nat.testBit_two_pow]
    have : i ≠ j := fun e => by rw [e, hj] at h; cases h
    simp [this]
  · rw [h] at hj
    simp only [if_true, dif_bit, Bool.and_eq_true] at hj ⊢
    exact ha j hj.1
theorem thr_oth {ss : List (Int × Int)} {c x l a i : Nat} (hg : GoodS ss c) (hi : i < ss.length) (ht : touches (en1 ss) (en2 ss) i x) : (thr ss x l a i).1 = oth (en1 ss) (en2 ss) i x := by
  obtain ⟨_, _, h1, h2⟩ := good_str hg hi
  unfold thr oth
  show ((str ss i).1 + (str ss i).2 - x).toNat = _
  rw [h1, h2]
  rcases ht with h | h
  · rw [if_pos h]; omega
  · by_cases e : en1 ss i = x
    · rw [if_pos e]; omega
    · rw [if_neg e]; omega
theorem touch_bit {ss : List (Int × Int)} {i x : Nat} : (endsM (str ss i)).testBit x = true ↔ touches (en1 ss) (en2 ss) i x := by
  rw [ends_bitR, Bool.or_eq_true, decide_eq_true_eq, decide_eq_true_eq]
  rfl
/-- the round by which street can be taken is the first one that is found by trying. -/
theorem goF_round {ss : List (Int × Int)} {c : Nat} (hg : GoodS ss c) (hlen : ss.length ≤ 15) : ∀ (n x l a n2 : Nat), x < c → l < 2 ^ ss.length → (∀ j, a.testBit j = true → l.testBit j = true) → sm ss.length (leftK l a) < n → l + a < n2 → Par (en1 ss) (en2 ss) ss.length (leftK l a) x 0 → Conn (en1 ss) (en2 ss) ss.length (leftK l a) x →
    ∃ r, goF (en1 ss) (en2 ss) ss.length n x (leftK l a) = some r ∧ roundF ss c n2 x l a = r.map (fun (i : Nat) => (i : Int)) := by
  have hne : ∀ i, i < ss.length → en1 ss i ≠ en2 ss i := fun i hi => by have := good_str hg hi; omega
  intro n
  induction n with
  | zero => intro x l a n2 _ _ _ h; omega
  | succ n ih =>
    intro x l a n2 hx hl ha hn hn2 hP hC
    obtain ⟨n3, rfl⟩ : ∃ n3, n2 = n3 + 1 := ⟨n2 - 1, by omega⟩
    have hK : ∀ i, 0 < leftK l a i ↔ l.testBit i = true := fun i => by
      unfold leftK
      have := ha i
      cases h1 : l.testBit i <;> cases h2 : a.testBit i <;> simp_all
    have hli : ∀ i, l.testBit i = true → i < ss.length := fun i hi => by
      rcases Nat.lt_or_ge i ss.length with h | h
      · exact h
      · rw [Nat.testBit_lt_two_pow (Nat.lt_of_lt_of_le hl (Nat.pow_le_pow_right (by decide) h))] at hi; cases hi
    -- a street that can be taken
    have step : ∀ i, l.testBit i = true → touches (en1 ss) (en2 ss) i x → (thr ss x l a i).1 < c ∧ (thr ss x l a i).2.1 < 2 ^ ss.length := fun i hb ht => by
      have hi := hli i hb
      have hs := good_str hg hi
      refine ⟨?_, ?_⟩
      · rw [thr_oth hg hi ht]
        unfold oth
        split <;> omega
      · unfold thr
        dsimp only
        split
        · exact hl
        · exact Nat.lt_of_le_of_lt (dif_le _ _) hl
    have hok : ∀ i, l.testBit i = true → (okB ss c x l a i = true ↔ touches (en1 ss) (en2 ss) i x ∧ Conn (en1 ss) (en2 ss) ss.length (less1 (leftK l a) i) (oth (en1 ss) (en2 ss) i x)) := fun i hb => by
      unfold okB
      rw [Bool.and_eq_true, touch_bit]
      constructor
      · rintro ⟨ht, h⟩
        refine ⟨ht, ?_⟩
        have hs := step i hb ht
        rw [goes_conn hg hs.1 hs.2 hlen (thr_good ha), thr_left hb, thr_oth hg (hli i hb) ht] at h
        exact h
      · rintro ⟨ht, h⟩
        refine ⟨ht, ?_⟩
        have hs := step i hb ht
        rw [goes_conn hg hs.1 hs.2 hlen (thr_good ha), thr_left hb, thr_oth hg (hli i hb) ht]
        exact h
    have hrec : ∀ i, l.testBit i = true → okB ss c x l a i = true → ∃ r, goF (en1 ss) (en2 ss) ss.length n (oth (en1 ss) (en2 ss) i x) (less1 (leftK l a) i) = some r ∧ roundF ss c n3 (thr ss x l a i).1 (thr ss x l a i).2.1 (thr ss x l a i).2.2 = r.map (fun (i : Nat) => (i : Int)) := fun i hb ho => by
      obtain ⟨ht, hc⟩ := (hok i hb).1 ho
      have hi := hli i hb
      have hs := step i hb ht
      have hKi := (hK i).2 hb
      have h1 := tot_less hi hKi
      have h2 := par_less (hne i hi) hi hKi ht hP
      have h3 := thr_dec ss x l a i hb
      have := ih (thr ss x l a i).1 (thr ss x l a i).2.1 (thr ss x l a i).2.2 n3 hs.1 hs.2 (thr_good ha) (by rw [thr_left hb]; omega) (by omega) (by rw [thr_left hb, thr_oth hg hi ht]; exact h2) (by rw [thr_left hb, thr_oth hg hi ht]; exact hc)
      rw [thr_left hb, thr_oth hg hi ht] at this
      rw [thr_oth hg hi ht]
      exact this
    let f : Nat → Option (List Nat) := fun i => if 0 < leftK l a i ∧ touches (en1 ss) (en2 ss) i x then (goF (en1 ss) (en2 ss) ss.length n (oth (en1 ss) (en2 ss) i x) (less1 (leftK l a) i)).map (i :: ·) else none
    have hq : ∀ i ∈ List.range ss.length, (l.testBit i && okB ss c x l a i) = (f i).isSome := fun i _ => by
      by_cases hb : l.testBit i = true
      · rw [hb, Bool.true_and]
        by_cases ho : okB ss c x l a i = true
        · obtain ⟨r, h1, _⟩ := hrec i hb ho
          have ht := ((hok i hb).1 ho).1
          show _ = (if _ then _ else _ : Option (List Nat)).isSome
          rw [if_pos ⟨(hK i).2 hb, ht⟩, h1, ho]; rfl
        · have ho' : okB ss c x l a i = false := by simpa using ho
          rw [ho']
          show _ = (if _ then _ else _ : Option (List Nat)).isSome
          by_cases ht : touches (en1 ss) (en2 ss) i x
          · rw [if_pos ⟨(hK i).2 hb, ht⟩]
            cases hgo : goF (en1 ss) (en2 ss) ss.length n (oth (en1 ss) (en2 ss) i x) (less1 (leftK l a) i) with
            | none => rfl
            | some r => exact absurd ((hok i hb).2 ⟨ht, full_conn (goF_full n _ _ r hgo)⟩) ho
          · rw [if_neg (fun h => ht h.2)]; rfl
      · have hb' : l.testBit i = false := by simpa using hb
        rw [hb', Bool.false_and]
        show _ = (if _ then _ else _ : Option (List Nat)).isSome
        rw [if_neg (fun h => hb ((hK i).1 h.1))]; rfl
    have hnx : nextO ss c x l a = (List.range ss.length).find? (fun i => l.testBit i && okB ss c x l a i) := by
      unfold nextO listN
      rw [List.find?_filter]
      have hfun : (fun i => decide (l.testBit i = true ∧ okB ss c x l a i = true)) = fun i => l.testBit i && okB ss c x l a i := by
        funext i
        rw [Bool.eq_iff_iff]; simp
      rw [hfun]
      have := find_beyond (q := fun i => l.testBit i && okB ss c x l a i) (m := ss.length) (fun i hi => by
        have : l.testBit i = false := Nat.testBit_lt_two_pow (Nat.lt_of_lt_of_le hl (Nat.pow_le_pow_right (by decide) hi))
        rw [this]; rfl) (16 - ss.length)
      rw [show ss.length + (16 - ss.length) = 16 by omega] at this
      exact this
    have hfs : (List.range ss.length).findSome? f = (nextO ss c x l a).bind f := by rw [hnx]; exact fs_first f _ _ hq
    unfold goF roundF
    show ∃ r, (match (List.range ss.length).findSome? f with | some r => some r | none => if sm ss.length (leftK l a) = 0 ∧ x = 0 then some [] else none) = some r ∧ _
    rw [hfs]
    cases hn0 : nextO ss c x l a with
    | some i =>
      rw [hnx] at hn0
      have hqi := List.find?_some hn0
      rw [Bool.and_eq_true] at hqi
      obtain ⟨r, h1, h2⟩ := hrec i hqi.1 hqi.2
      have ht := ((hok i hqi.1).1 hqi.2).1
      have hfi : f i = some (i :: r) := by
        show (if _ then _ else _ : Option (List Nat)) = _
        rw [if_pos ⟨(hK i).2 hqi.1, ht⟩, h1]; rfl
      refine ⟨i :: r, ?_, ?_⟩
      · show (match f i with | some r => some r | none => _) = _
        rw [hfi]
      · show (i : Int) :: roundF ss c n3 _ _ _ = _
        rw [h2]; rfl
    | none =>
      obtain ⟨t, ht⟩ := euler hne hP hC
      have ht0 : t = [] := by
        cases t with
        | nil => rfl
        | cons i t =>
          exfalso
          obtain ⟨hi, hKi, htc, hf⟩ := full_tail ht
          have hb := (hK i).1 hKi
          have ho := (hok i hb).2 ⟨htc, full_conn hf⟩
          rw [hnx, List.find?_eq_none] at hn0
          have := hn0 i (List.mem_range.2 hi)
          rw [hb, ho] at this
          exact this rfl
      subst ht0
      have hx0 : x = 0 := by
        have := ht.1
        simpa [wk] using this
      have hz : sm ss.length (leftK l a) = 0 := sm_zero _ fun i hi => by
        have := ht.2.2 i hi
        simpa using this.symm
      refine ⟨[], ?_, rfl⟩
      show (if sm ss.length (leftK l a) = 0 ∧ x = 0 then some [] else none) = some []
      rw [if_pos ⟨hz, hx0⟩]
theorem cntR_app (zs : List Int) (c : Nat) (p : Int × Int) : ∀ (l : List (Int × Int)) (i n : Nat), cntR zs c i (l ++ [p]) n = if p.1 = (c : Int) ∨ p.2 = (c : Int) then (if zs.contains ((i + l.length : Nat) : Int) then cntR zs c i l n + 2 else cntR zs c i l n + 1) else cntR zs c i l n
  | [], _, _ => rfl
  | q :: l, i, n => by
    show cntR zs c (i + 1) (l ++ [p]) _ = _
    rw [cntR_app zs c p l (i + 1), List.length_cons, show i + 1 + l.length = i + (l.length + 1) by omega]
    rfl
theorem dg_cnt {ss : List (Int × Int)} {c S : Nat} {zs : List Int} (hg : GoodS ss c) (hS : ∀ i, i < ss.length → S.testBit i = zs.contains (i : Int)) (v : Nat) : ∀ k, k ≤ ss.length → sm k (fun i => leftK (2 ^ ss.length - 1) S i * (ind (en1 ss i) v + ind (en2 ss i) v)) = cntR zs v 0 (ss.take k) 0
  | 0, _ => rfl
  | k + 1, hk => by
    have hl : (ss.take k).length = k := by rw [List.length_take]; omega
    rw [sm_succ, dg_cnt hg hS v k (by omega), take_str ss k (by omega), cntR_app, hl, Nat.zero_add]
    obtain ⟨h1, h2, h3, h4⟩ := good_str hg (show k < ss.length by omega)
    have hb : (2 ^ ss.length - 1).testBit k = true := by rw [Nat.testBit_two_pow_sub_one, decide_eq_true (by omega)]
    have hK : leftK (2 ^ ss.length - 1) S k = 1 + (if zs.contains (k : Int) then 1 else 0) := by
      unfold leftK
      rw [hb, if_pos rfl, hS k (by omega)]
    rw [h3, h4]
    unfold ind
    by_cases ha : en1 ss k = v
    · have hbv : en2 ss k ≠ v := by omega
      rw [if_pos ha, if_neg hbv, if_pos (Or.inl (by omega)), hK]
      split <;> omega
    · by_cases hb : en2 ss k = v
      · rw [if_neg ha, if_pos hb, if_pos (Or.inr (by omega)), hK]
        split <;> omega
      · rw [if_neg ha, if_neg hb, if_neg (by omega)]
        omega
/-- the first round of enough streets is what trying finds first. -/
theorem round_first {ss : List (Int × Int)} {n S fuel : Nat} (hc : chkM n ss = 0) (hS : S < 2 ^ ss.length) (hE : enoughB ss S = true) (hf : sm ss.length (leftK (2 ^ ss.length - 1) S) < fuel) :
    ∃ r, goF (en1 ss) (en2 ss) ss.length fuel 0 (leftK (2 ^ ss.length - 1) S) = some r ∧ roundM ss n S = r.map (fun (i : Nat) => (i : Int)) := by
  obtain ⟨h1, h6, hl, _, hp, hr⟩ := chk_good hc
  have hr' : reachM ss (2 ^ ss.length - 1) n 1 = 2 ^ n - 1 := by simpa using hr
  have hg : GoodS ss n := hp
  have hbits : ∀ i, i < ss.length → S.testBit i = (listM S).contains (i : Int) := fun i hi => by
    rw [Bool.eq_iff_iff, List.contains_iff_mem, listM_mem]
    constructor
    · intro h; exact ⟨i, by omega, h, rfl⟩
    · rintro ⟨j, _, h, e⟩
      have : j = i := by omega
      rw [← this]; exact h
  refine goF_round hg (by omega) fuel 0 (2 ^ ss.length - 1) S _ (by omega) (by have := Nat.two_pow_pos ss.length; omega) (fun j hj => ?_) hf (by omega) (fun v => ?_) (fun T hT hcl i hi _ => ?_)
  · rw [Nat.testBit_two_pow_sub_one, decide_eq_true_eq]
    rcases Nat.lt_or_ge j ss.length with h | h
    · exact h
    · rw [Nat.testBit_lt_two_pow (Nat.lt_of_lt_of_le hS (Nat.pow_le_pow_right (by decide) h))] at hj; cases hj
  · have h2 := dg_cnt hg hbits v ss.length (Nat.le_refl _)
    rw [List.take_length] at h2
    have h3 := cntR_odd (c := v) hbits (fun p hq => ⟨(hp p hq).1, (hp p hq).2.1⟩)
    unfold enoughB at hE
    rw [beq_iff_eq] at hE
    rw [hE, Nat.xor_self, Nat.zero_testBit] at h3
    unfold dg
    rw [h2]
    have : cntR (listM S) v 0 ss 0 % 2 = 0 := by
      rcases Nat.mod_two_eq_zero_or_one (cntR (listM S) v 0 ss 0) with h | h
      · exact h
      · exact absurd (h3.1 h) (by simp)
    unfold ind
    split <;> omega
  · rw [reach_iter] at hr'
    have hgi := good_str hg hi
    have hin := iterA_in (ss := ss) (T := fun z => T z.toNat) (fun p hq => ⟨(hp p hq).1, by have := hp p hq; omega⟩) (fun p hq => by
      obtain ⟨k, hk, rfl⟩ := List.getElem_of_mem hq
      have e : ss[k] = str ss k := by rw [str_eq, List.getElem?_eq_getElem hk]; rfl
      rw [e]
      exact hcl k hk (by
        unfold leftK
        rw [Nat.testBit_two_pow_sub_one, decide_eq_true hk, if_pos rfl]; omega)) n 1 (fun k hk => by
      have : k = 0 := by
        rw [show (1 : Nat) = 2 ^ 0 from rfl, Nat.testBit_two_pow, decide_eq_true_eq] at hk
        omega
      subst this; exact hT) (en1 ss i) (by rw [hr', Nat.testBit_two_pow_sub_one, decide_eq_true (by omega)])
    simpa using hin
end Go.Proofs.Ytimddkofcejijaa
