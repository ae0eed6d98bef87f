/- Layer 2: a least set of enough streets holds no circle. -/
import Derived.Test.YtimddkofcejijaaSF
namespace Go.Proofs.Ytimddkofcejijaa
open Go.RowKit Go.Sort
theorem stE_zero {c : Int} {p : Int × Int} (h : 0 ≤ p.1 ∧ p.1 < p.2 ∧ p.2 < c) : stE c p = 0 := by
  unfold stE
  have h1 : (inB c p.1 && inB c p.2) = true := by simp [inB]; omega
  rw [if_pos h1, if_neg (by omega)]
theorem stL_zero {c : Int} : ∀ {l : List (Int × Int)}, (∀ p ∈ l, 0 ≤ p.1 ∧ p.1 < p.2 ∧ p.2 < c) → stL c l = 0
  | [], _ => rfl
  | q :: l, h => by
    unfold stL
    rw [if_pos (stE_zero (h q (List.mem_cons_self ..)))]
    exact stL_zero fun p hp => h p (List.mem_cons_of_mem _ hp)
theorem full_or {n e : Nat} (h : e < 2 ^ n) : (2 ^ n - 1) ||| e = 2 ^ n - 1 := Nat.eq_of_testBit_eq fun i => by
  rw [Nat.testBit_or, Nat.testBit_two_pow_sub_one]
  rcases Nat.lt_or_ge i n with h1 | h1
  · simp [h1]
  · rw [Nat.testBit_lt_two_pow (Nat.lt_of_lt_of_le h (Nat.pow_le_pow_right (by decide) h1))]; simp
theorem sweep_full {n : Nat} (s : Nat) : ∀ (l : List (Int × Int)) (i : Nat), (∀ p ∈ l, endsM p < 2 ^ n) → sweepL s i l (2 ^ n - 1) = 2 ^ n - 1
  | [], _, _ => rfl
  | p :: l, i, h => by
    unfold sweepL
    rw [full_or (h p (List.mem_cons_self ..)), ite_self]
    exact sweep_full s l (i + 1) fun q hq => h q (List.mem_cons_of_mem _ hq)
theorem reach_full {n : Nat} (s : Nat) (ss : List (Int × Int)) (h : ∀ p ∈ ss, endsM p < 2 ^ n) : ∀ m, reachM ss s m (2 ^ n - 1) = 2 ^ n - 1
  | 0 => rfl
  | m + 1 => by unfold reachM; rw [sweep_full s ss 0 h]; exact reach_full s ss h m
theorem sweep_app (s : Nat) : ∀ (l r : List (Int × Int)) (i f : Nat), sweepL s i (l ++ r) f = sweepL s (i + l.length) r (sweepL s i l f)
  | [], _, _, _ => rfl
  | p :: l, r, i, f => by
    show sweepL s (i + 1) (l ++ r) _ = _
    rw [sweep_app s l r (i + 1)]
    rw [List.length_cons, show i + 1 + l.length = i + (l.length + 1) by omega]
    rfl
theorem tree_sweep (s : Nat) : ∀ (k : Nat) (tr : List (Int × Int)), TreeL k tr → (∀ i, i < k → s.testBit i = true) → sweepL s 0 tr 1 = 2 ^ (k + 1) - 1
  | 0, tr, h, _ => by
    have : tr = [] := List.eq_nil_of_length_eq_zero h.1
    subst this; rfl
  | k + 1, tr, h, hs => by
    obtain ⟨tr', b, rfl, h', hb0, hbk⟩ := tree_head h
    rw [sweep_app, tree_sweep s k tr' h' fun i hi => hs i (by omega), h'.1, Nat.zero_add]
    unfold sweepL
    rw [hs k (by omega)]
    obtain ⟨b, rfl⟩ := Int.eq_ofNat_of_zero_le hb0
    have hE : endsM ((b : Int), ((k + 1 : Nat) : Int)) = 2 ^ b ||| 2 ^ (k + 1) := rfl
    have h1 : (endsM ((b : Int), ((k + 1 : Nat) : Int)) &&& (2 ^ (k + 1) - 1) != 0) = true := by
      rw [bne_iff_ne]
      intro e
      have : (endsM ((b : Int), ((k + 1 : Nat) : Int)) &&& (2 ^ (k + 1) - 1)).testBit b = false := by rw [e, Nat.zero_testBit]
      rw [hE, Nat.testBit_and, Nat.testBit_or, Nat.testBit_two_pow, Nat.testBit_two_pow_sub_one] at this
      simp at this
      omega
    rw [h1]
    show (2 ^ (k + 1) - 1) ||| endsM ((b : Int), ((k + 1 : Nat) : Int)) = _
    rw [hE]
    refine Nat.eq_of_testBit_eq fun i => ?_
    rw [Nat.testBit_or, Nat.testBit_or, Nat.testBit_two_pow_sub_one, Nat.testBit_two_pow_sub_one, Nat.testBit_two_pow, Nat.testBit_two_pow]
    rw [Bool.eq_iff_iff]
    simp
    omega
theorem made_chk {n : Nat} (hn : 1 ≤ n) (hn6 : n ≤ 6) {ss : List (Int × Int)} (h : MadeP n ss) (h9 : ss.length ≤ 9) : chkM n ss = 0 := by
  have hm := made_mem hn h
  have he : ∀ p ∈ ss, endsM p < 2 ^ n := fun p hp => by have := hm p hp; exact ends_lt' (by omega) (by omega) (by omega) (by omega)
  have hst := stL_zero (c := n) hm
  unfold chkM
  rw [if_neg (by omega), if_neg (by omega), if_pos hst]
  obtain ⟨tr, rest, rfl, h1, h2⟩ := h
  rw [if_pos]
  have e : ((n : Int)).toNat = (n - 1) + 1 := by omega
  rw [e]
  unfold reachM
  have hl := h1.1
  rw [sweep_app, tree_sweep _ (n - 1) tr h1 (fun i hi => by rw [Nat.testBit_two_pow_sub_one, List.length_append, decide_eq_true_eq]; omega)]
  rw [Nat.sub_add_cancel hn, sweep_full _ rest _ fun p hp => he p (by simp [hp])]
  exact reach_full _ _ he _
theorem oddL_add (s t : Nat) : ∀ (l : List (Int × Int)) (i a b : Nat), oddL (s ^^^ t) i l (a ^^^ b) = oddL s i l a ^^^ oddL t i l b
  | [], _, _, _ => rfl
  | p :: l, i, a, b => by
    unfold oddL
    rw [← oddL_add s t l (i + 1)]
    congr 1
    rw [Nat.testBit_xor]
    cases s.testBit i <;> cases t.testBit i
    · rfl
    · show a ^^^ b ^^^ endsM p = a ^^^ (b ^^^ endsM p)
      rw [Nat.xor_assoc]
    · show a ^^^ b ^^^ endsM p = a ^^^ endsM p ^^^ b
      rw [Nat.xor_assoc, Nat.xor_assoc, Nat.xor_comm b]
    · show a ^^^ b = a ^^^ endsM p ^^^ (b ^^^ endsM p)
      rw [Nat.xor_assoc, Nat.xor_comm b, ← Nat.xor_assoc (endsM p), Nat.xor_self, Nat.zero_xor]
theorem oddM_add (ss : List (Int × Int)) (s t : Nat) : oddM ss (s ^^^ t) = oddM ss s ^^^ oddM ss t := by
  have := oddL_add s t ss 0 0 0
  rwa [Nat.xor_zero] at this
theorem oddL_none (s : Nat) : ∀ (l : List (Int × Int)) (i o : Nat), (∀ j, i ≤ j → s.testBit j = false) → oddL s i l o = o
  | [], _, _, _ => rfl
  | p :: l, i, o, h => by
    unfold oddL
    rw [h i (Nat.le_refl _)]
    exact oddL_none s l (i + 1) o fun j hj => h j (by omega)
theorem oddL_one (e : Nat) : ∀ (l : List (Int × Int)) (i o : Nat), i ≤ e → e < i + l.length → oddL (2 ^ e) i l o = o ^^^ endsM (str l (e - i))
  | [], i, o, h1, h2 => by simp at h2; omega
  | p :: l, i, o, h1, h2 => by
    unfold oddL
    rw [Nat.testBit_two_pow]
    by_cases h : e = i
    · subst h
      rw [decide_eq_true rfl, if_pos rfl, oddL_none _ l _ _ (fun j hj => by rw [Nat.testBit_two_pow, decide_eq_false (by omega)]), Nat.sub_self]
      rfl
    · rw [decide_eq_false h]
      rw [if_neg (by decide), oddL_one e l (i + 1) o (by omega) (by rw [List.length_cons] at h2; omega)]
      congr 2
      rw [show e - i = (e - (i + 1)) + 1 by omega]
      rfl
theorem oddM_one {ss : List (Int × Int)} {e : Nat} (h : e < ss.length) : oddM ss (2 ^ e) = endsM (str ss e) := by
  have := oddL_one e ss 0 0 (Nat.zero_le _) (by omega)
  rwa [Nat.zero_xor, Nat.sub_zero] at this
theorem countP_lt {S T : Nat → Bool} (hST : ∀ j, T j = true → S j = true) {i : Nat} (hS : S i = true) (hT : T i = false) : ∀ l : List Nat, i ∈ l → l.countP T < l.countP S
  | [], h => by cases h
  | j :: l, h => by
    have hle : l.countP T ≤ l.countP S := List.countP_mono_left fun x _ => hST x
    rw [List.countP_cons, List.countP_cons]
    by_cases hj : j = i
    · subst hj; rw [hS, hT]; simp; omega
    · have hi : i ∈ l := by
        rcases List.mem_cons.1 h with h | h
        · exact absurd h.symm hj
        · exact h
      have := countP_lt hST hS hT l hi
      have : (if T j = true then 1 else 0) ≤ (if S j = true then 1 else 0) := by
        by_cases h1 : T j = true
        · rw [if_pos h1, if_pos (hST j h1)]; exact Nat.le_refl _
        · rw [if_neg h1]; exact Nat.zero_le _
      omega
theorem list_lt {S T i : Nat} (hST : ∀ j, T.testBit j = true → S.testBit j = true) (hS : S.testBit i = true) (hT : T.testBit i = false) (hi : i < 16) : (listM T).length < (listM S).length := by
  rw [list_len, list_len]
  unfold listN
  rw [← List.countP_eq_length_filter, ← List.countP_eq_length_filter]
  exact countP_lt hST hS hT _ (List.mem_range.2 hi)
/-- Fewest's set. -/
theorem few_set (ss : List (Int × Int)) : ∃ S, S < 2 ^ ss.length ∧ fewM ss = listM S ∧ enoughB ss S = true ∧ ∀ T, T < 2 ^ ss.length → enoughB ss T = true → (listM S).length ≤ (listM T).length := by
  have h1 : 1 ≤ 2 ^ ss.length := Nat.one_le_two_pow
  have key : ∀ k, ∃ S, (S < k ∨ S = 2 ^ ss.length - 1) ∧ fewK ss k = listM S ∧ enoughB ss S = true ∧ (∀ T, T < k → enoughB ss T = true → (listM S).length ≤ (listM T).length) ∧ (listM S).length ≤ (listM (2 ^ ss.length - 1)).length := by
    intro k
    induction k with
    | zero => exact ⟨_, .inr rfl, rfl, by unfold enoughB; simp, fun T hT => absurd hT (by omega), Nat.le_refl _⟩
    | succ k ih =>
      obtain ⟨S, i1, i2, i3, i4, i5⟩ := ih
      have e : fewK ss (k + 1) = if enoughB ss k && fewerB (listM k) (fewK ss k) then listM k else fewK ss k := by
        unfold fewK; rw [List.range_succ, List.foldl_append]; rfl
      rw [e, i2]
      by_cases hc : (enoughB ss k && fewerB (listM k) (listM S)) = true
      · rw [if_pos hc]
        rw [Bool.and_eq_true] at hc
        have hle : (listM k).length ≤ (listM S).length := by
          have := hc.2
          unfold fewerB at this
          split at this
          · omega
          · have := of_decide_eq_true this; omega
        refine ⟨k, .inl (by omega), rfl, hc.1, fun T hT hE => ?_, by omega⟩
        rcases Nat.lt_or_ge T k with h | h
        · have := i4 T h hE; omega
        · obtain rfl : T = k := by omega
          exact Nat.le_refl _
      · rw [if_neg hc]
        refine ⟨S, ?_, rfl, i3, fun T hT hE => ?_, i5⟩
        · rcases i1 with h | h
          · exact .inl (by omega)
          · exact .inr h
        rcases Nat.lt_or_ge T k with h | h
        · exact i4 T h hE
        · obtain rfl : T = k := by omega
          rw [hE, Bool.true_and] at hc
          unfold fewerB at hc
          split at hc
          · omega
          · rw [decide_eq_true_eq] at hc; omega
  obtain ⟨S, i1, i2, i3, i4, i5⟩ := key (2 ^ ss.length - 1)
  refine ⟨S, by omega, i2, i3, fun T hT hE => ?_⟩
  rcases Nat.lt_or_ge T (2 ^ ss.length - 1) with h | h
  · exact i4 T h hE
  · obtain rfl : T = 2 ^ ss.length - 1 := by omega
    exact i5
/-- the labels after the first d of the least set's streets: equal labels mean a path. -/
def LabP (ss : List (Int × Int)) (S d : Nat) (L : List Int) : Prop :=
  L.length = 6 ∧ ∀ x y, x < 6 → y < 6 → nth L x = nth L y → ∃ R, (∀ j, R.testBit j = true → ∃ e, e < d ∧ (listN S)[e]? = some j) ∧ oddM ss R = 2 ^ x ^^^ 2 ^ y
theorem lab_zero (ss : List (Int × Int)) (S : Nat) : LabP ss S 0 [0, 1, 2, 3, 4, 5] := by
  refine ⟨rfl, fun x y hx hy h => ⟨0, fun j hj => ?_, ?_⟩⟩
  · rw [Nat.zero_testBit] at hj; cases hj
  · have : x = y := by
      have e : ∀ z, z < 6 → nth [0, 1, 2, 3, 4, 5] z = (z : Int) := by
        intro z hz
        have h6 : z = 0 ∨ z = 1 ∨ z = 2 ∨ z = 3 ∨ z = 4 ∨ z = 5 := by omega
        rcases h6 with rfl | rfl | rfl | rfl | rfl | rfl <;> rfl
      rw [e x hx, e y hy] at h; omega
    subst this
    rw [Nat.xor_self]
    exact oddL_none 0 ss 0 0 fun j _ => Nat.zero_testBit j
def relab (a b : Int) (L : List Int) : List Int := L.map fun x => if x = a then b else x
theorem listN_lt (S : Nat) {e f i j : Nat} (he : (listN S)[e]? = some i) (hf : (listN S)[f]? = some j) (h : e < f) : i < j := by
  have hp : (listN S).Pairwise (· < ·) := by unfold listN; exact List.Pairwise.filter _ List.pairwise_lt_range
  obtain ⟨h1, rfl⟩ := List.getElem?_eq_some_iff.1 he
  obtain ⟨h2, rfl⟩ := List.getElem?_eq_some_iff.1 hf
  exact List.pairwise_iff_getElem.1 hp e f h1 h2 h
theorem lab_ne {ss : List (Int × Int)} {S d i : Nat} {L : List Int} (h : LabP ss S d L) (hm : ∀ T, T < 2 ^ ss.length → enoughB ss T = true → (listM S).length ≤ (listM T).length) (hS : S < 2 ^ ss.length) (hE : enoughB ss S = true) (hd : (listN S)[d]? = some i) (hi : i < ss.length) (_hl : ss.length ≤ 9)
    {u v : Nat} (hu : u < 6) (hv : v < 6) (huv : u ≠ v) (he : str ss i = ((u : Int), (v : Int))) : nth L u ≠ nth L v := fun heq => by
  obtain ⟨R, h1, h2⟩ := h.2 u v hu hv heq
  have hx : endsM (str ss i) = 2 ^ u ^^^ 2 ^ v := by rw [he, ← two_xor huv]; rfl
  have hmem : ∀ j e, (listN S)[e]? = some j → j < 16 ∧ S.testBit j = true := fun j e h => (listN_mem S j).1 (List.mem_of_getElem? h)
  have hRi : R.testBit i = false := by
    cases hb : R.testBit i
    · rfl
    · obtain ⟨e, h3, h4⟩ := h1 i hb
      have := listN_lt S h4 hd h3
      omega
  have hz : oddM ss (R ^^^ 2 ^ i) = 0 := by rw [oddM_add, oddM_one hi, h2, hx, Nat.xor_self]
  have hSi := (hmem i d hd).2
  have hsub : ∀ j, (R ^^^ 2 ^ i).testBit j = true → S.testBit j = true := fun j hj => by
    rw [Nat.testBit_xor, Nat.testBit_two_pow] at hj
    by_cases hji : i = j
    · subst hji; exact hSi
    · rw [decide_eq_false hji, Bool.xor_false] at hj
      obtain ⟨e, _, h4⟩ := h1 j hj
      exact (hmem j e h4).2
  have hT : ∀ j, (S ^^^ (R ^^^ 2 ^ i)).testBit j = true → S.testBit j = true := fun j hj => by
    rw [Nat.testBit_xor] at hj
    cases hb : S.testBit j
    · rw [hb, Bool.false_xor] at hj
      rw [hsub j hj] at hb; cases hb
    · rfl
  have hTi : (S ^^^ (R ^^^ 2 ^ i)).testBit i = false := by rw [Nat.testBit_xor, Nat.testBit_xor, hSi, hRi, Nat.testBit_two_pow, decide_eq_true rfl]; rfl
  have hlt := list_lt hT hSi hTi (hmem i d hd).1
  have hTl : S ^^^ (R ^^^ 2 ^ i) < 2 ^ ss.length := Nat.lt_of_le_of_lt (Nat.le_of_testBit fun j hj => hT j hj) hS
  have := hm _ hTl (by
    unfold enoughB at hE ⊢
    rw [beq_iff_eq] at hE ⊢
    rw [oddM_add, hz, Nat.xor_zero, hE])
  omega
theorem relab_nth (a b : Int) (L : List Int) (x : Nat) (h : x < L.length) : nth (relab a b L) x = if nth L x = a then b else nth L x := by
  unfold relab
  rw [nth_eq, nth_eq, List.getElem?_map, List.getElem?_eq_getElem h]
  rfl
theorem lab_step {ss : List (Int × Int)} {S d i : Nat} {L : List Int} (h : LabP ss S d L) (hd : (listN S)[d]? = some i) (hi : i < ss.length)
    {u v : Nat} (hu : u < 6) (hv : v < 6) (huv : u ≠ v) (he : str ss i = ((u : Int), (v : Int))) : LabP ss S (d + 1) (relab (nth L u) (nth L v) L) := by
  have hx : oddM ss (2 ^ i) = 2 ^ u ^^^ 2 ^ v := by rw [oddM_one hi, he, ← two_xor huv]; rfl
  obtain ⟨h6, hp⟩ := h
  have up : ∀ R : Nat, (∀ j, R.testBit j = true → ∃ e, e < d ∧ (listN S)[e]? = some j) → ∀ j, R.testBit j = true → ∃ e, e < d + 1 ∧ (listN S)[e]? = some j := fun R h j hj => by
    obtain ⟨e, h1, h2⟩ := h j hj
    exact ⟨e, by omega, h2⟩
  have two : ∀ R R' : Nat, (∀ j, R.testBit j = true → ∃ e, e < d ∧ (listN S)[e]? = some j) → (∀ j, R'.testBit j = true → ∃ e, e < d ∧ (listN S)[e]? = some j) → ∀ j, (R ^^^ R' ^^^ 2 ^ i).testBit j = true → ∃ e, e < d + 1 ∧ (listN S)[e]? = some j := fun R R' h h' j hj => by
    rw [Nat.testBit_xor, Nat.testBit_xor, Nat.testBit_two_pow] at hj
    by_cases hji : i = j
    · subst hji; exact ⟨d, by omega, hd⟩
    · rw [decide_eq_false hji, Bool.xor_false] at hj
      cases hb : R.testBit j
      · rw [hb, Bool.false_xor] at hj; exact up R' h' j hj
      · exact up R h j hb
  have xs : ∀ p q r s : Nat, p ^^^ r ^^^ (s ^^^ q) ^^^ (r ^^^ s) = p ^^^ q := fun p q r s => Nat.eq_of_testBit_eq fun j => by
    simp only [Nat.testBit_xor]
    cases p.testBit j <;> cases q.testBit j <;> cases r.testBit j <;> cases s.testBit j <;> rfl
  refine ⟨by unfold relab; rw [List.length_map, h6], fun x y hx' hy' heq => ?_⟩
  rw [relab_nth _ _ _ _ (by omega), relab_nth _ _ _ _ (by omega)] at heq
  by_cases hxa : nth L x = nth L u <;> by_cases hya : nth L y = nth L u
  · obtain ⟨R, h1, h2⟩ := hp x y hx' hy' (by rw [hxa, hya])
    exact ⟨R, up R h1, h2⟩
  · rw [if_pos hxa, if_neg hya] at heq
    obtain ⟨R, h1, h2⟩ := hp x u hx' hu hxa
    obtain ⟨R', h3, h4⟩ := hp v y hv hy' heq
    exact ⟨R ^^^ R' ^^^ 2 ^ i, two R R' h1 h3, by rw [oddM_add, oddM_add, h2, h4, hx, xs]⟩
  · rw [if_neg hxa, if_pos hya] at heq
    obtain ⟨R, h1, h2⟩ := hp x v hx' hv heq
    obtain ⟨R', h3, h4⟩ := hp u y hu hy' hya.symm
    exact ⟨R ^^^ R' ^^^ 2 ^ i, two R R' h1 h3, by rw [oddM_add, oddM_add, h2, h4, hx, Nat.xor_comm (2 ^ u) (2 ^ v), xs]⟩
  · rw [if_neg hxa, if_neg hya] at heq
    obtain ⟨R, h1, h2⟩ := hp x y hx' hy' heq
    exact ⟨R, up R h1, h2⟩
/-- part way through. -/
def relP (a b : Int) (L : List Int) (c : Nat) : List Int := relab a b (L.take c) ++ L.drop c
theorem relP_zero (a b : Int) (L : List Int) : relP a b L 0 = L := rfl
theorem relP_all (a b : Int) (L : List Int) (c : Nat) (h : L.length ≤ c) : relP a b L c = relab a b L := by
  unfold relP; rw [List.take_of_length_le h, List.drop_of_length_le h, List.append_nil]
theorem relP_len (a b : Int) (L : List Int) (c : Nat) : (relP a b L c).length = L.length := by
  unfold relP relab
  rw [List.length_append, List.length_map, List.length_take, List.length_drop]; omega
theorem relP_nth (a b : Int) (L : List Int) (c : Nat) (h : c < L.length) : nth (relP a b L c) c = nth L c := by
  unfold relP relab
  rw [nth_eq, List.getElem?_append_right (by rw [List.length_map, List.length_take]; omega), List.length_map, List.length_take, List.getElem?_drop, nth_eq]
  congr 2
  omega
theorem relP_step (a b : Int) (L : List Int) (c : Nat) (h : c < L.length) : relP a b L (c + 1) = (relP a b L c).set c (if nth L c = a then b else nth L c) := by
  have hd := nth_drop L c h
  unfold relP relab
  have ht : L.take (c + 1) = L.take c ++ [nth L c] := by rw [List.take_add_one, nth_eq, List.getElem?_eq_getElem h]; rfl
  rw [ht, hd, List.map_append]
  have hl : ((L.take c).map fun x => if x = a then b else x).length = c := by rw [List.length_map, List.length_take]; omega
  rw [List.set_append_right _ _ (by omega), hl, Nat.sub_self]
  simp
end Go.Proofs.Ytimddkofcejijaa
