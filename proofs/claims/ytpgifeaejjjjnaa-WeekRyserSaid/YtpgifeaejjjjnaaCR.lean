/- plans, the rows that fit, and M. Hall's count. -/
import Derived.Test.YtpgifeaejjjjnaaCQ
import Derived.Test.YtpgifeaejjjjnaaMH
namespace Go.Proofs.Ytpgifeaejjjjnaa
open Go.RowKit Go.Sort
theorem tkn_no {zss : List (List Int)} {d : Nat} {s : Int} : tkn zss d s = false ↔ ∀ i, i < zss.length → nth (lth zss i) d ≠ s := by
  induction zss with
  | nil => simp [tkn]
  | cons l t ih =>
    rw [tkn_cons, Bool.or_eq_false_iff, ih, decide_eq_false_iff_not]
    constructor
    · rintro ⟨h1, h2⟩ i hi
      cases i with
      | zero => exact h1
      | succ i => exact h2 i (by simp at hi; omega)
    · intro h
      exact ⟨h 0 (by simp), fun i hi => h (i + 1) (by simp; omega)⟩
theorem nth_succ (x : Int) (l : List Int) (k : Nat) : nth (x :: l) (k + 1) = nth l k := rfl
theorem nodup_take {r : List Int} : r.Nodup ↔ ∀ j k, j < k → k < r.length → nth r j ≠ nth r k := by
  unfold List.Nodup
  rw [List.pairwise_iff_getElem]
  constructor
  · intro h j k hjk hk
    have := h j k (by omega) hk hjk
    rwa [nth_eq, nth_eq, List.getElem?_eq_getElem (by omega), List.getElem?_eq_getElem hk]
  · intro h j k hj hk hjk
    have := h j k hjk hk
    rwa [nth_eq, nth_eq, List.getElem?_eq_getElem (by omega), List.getElem?_eq_getElem hk] at this
theorem take_has {r : List Int} {k : Nat} {s : Int} (hk : k ≤ r.length) : (r.take k).contains s = true ↔ ∃ j, j < k ∧ nth r j = s := by
  rw [List.contains_iff_mem, List.mem_iff_getElem]
  constructor
  · rintro ⟨j, hj, e⟩
    rw [List.length_take] at hj
    exact ⟨j, by omega, by rw [nth_eq, List.getElem?_eq_getElem (by omega)]; rw [List.getElem_take] at e; exact e⟩
  · rintro ⟨j, hj, e⟩
    refine ⟨j, by rw [List.length_take]; omega, ?_⟩
    rw [nth_eq, List.getElem?_eq_getElem (by omega)] at e
    rw [List.getElem_take]
    exact e
theorem inB_iff {c x : Int} : inB c x = true ↔ 0 ≤ x ∧ x < c := by
  unfold inB; rw [Bool.and_eq_true, decide_eq_true_eq, decide_eq_true_eq]
theorem am_zero {c : Int} {zss : List (List Int)} {l : List Int} (h : ∀ k, k < l.length → inB c (nth l k) = true ∧ (l.take k).contains (nth l k) = false ∧ tkn zss k (nth l k) = false) : amE c zss l = 0 := by
  have key : ∀ (t : List Int) (k : Nat), (∀ i, i < t.length → inB c (nth t i) = true ∧ (l.take (k + i)).contains (nth t i) = false ∧ tkn zss (k + i) (nth t i) = false) → amG c zss l t k = 0 := by
    intro t
    induction t with
    | nil => intro k _; rfl
    | cons s t ih =>
      intro k h
      obtain ⟨h1, h2, h3⟩ := h 0 (by simp)
      have e : nth (s :: t) 0 = s := rfl
      rw [e] at h1 h2 h3
      unfold amG
      rw [if_neg (by rw [h1]; decide), if_neg (by rw [Nat.add_zero] at h2; rw [h2]; decide), if_neg (by rw [Nat.add_zero] at h3; rw [h3]; decide)]
      refine ih (k + 1) fun i hi => ?_
      have := h (i + 1) (by simp; omega)
      rw [nth_succ, show k + (i + 1) = k + 1 + i by omega] at this
      exact this
  exact key l 0 (fun i hi => by rw [Nat.zero_add]; exact h i hi)
/-- what a row needs to fit. -/
theorem am_iff {n : Nat} {zss : List (List Int)} {r : List Int} (hl : r.length = n) : amE n zss r = 0 ↔ r ∈ ordT n n [] ∧ ∀ d, d < n → tkn zss d (nth r d) = false := by
  constructor
  · intro h
    have hin := am_in h
    refine ⟨mem_ord.2 ⟨hl, ?_, ?_⟩, fun d hd => (hin d (by omega)).2.2.2⟩
    · intro x hx
      obtain ⟨k, hk, rfl⟩ := List.getElem_of_mem hx
      have := hin k hk
      rw [nth_eq, List.getElem?_eq_getElem hk] at this
      exact ⟨this.1, this.2.1⟩
    · refine nodup_take.2 fun j k hjk hk e => ?_
      have h3 := (hin k hk).2.2.1
      have : (r.take k).contains (nth r k) = true := (take_has (by omega)).2 ⟨j, hjk, e⟩
      rw [h3] at this; cases this
  · rintro ⟨ho, hf⟩
    obtain ⟨_, h2, h3⟩ := mem_ord.1 ho
    refine am_zero fun k hk => ⟨inB_iff.2 (h2 _ (nth_mem hk)), ?_, hf k (by omega)⟩
    cases e : (r.take k).contains (nth r k)
    · rfl
    · obtain ⟨j, hj, e2⟩ := (take_has (by omega)).1 e
      exact absurd e2 (nodup_take.1 h3 j k hj hk)
/-- rows that are a plan. -/
structure Plan (n : Nat) (zss : List (List Int)) : Prop where
  len : zss.length ≤ n
  row : ∀ i, i < zss.length → lth zss i ∈ ordT n n []
  col : ∀ i j, i < j → j < zss.length → ∀ d, d < n → nth (lth zss i) d ≠ nth (lth zss j) d
theorem tkn_take {zss : List (List Int)} {i d : Nat} {s : Int} (hi : i ≤ zss.length) : tkn (zss.take i) d s = false ↔ ∀ j, j < i → nth (lth zss j) d ≠ s := by
  rw [tkn_no, List.length_take, Nat.min_eq_left hi]
  constructor
  · intro h j hj
    have := h j hj
    rwa [lth_take zss i j hj] at this
  · intro h j hj
    rw [lth_take zss i j hj]; exact h j hj
theorem plan_of {n : Nat} {zss : List (List Int)} (h : ∀ i, i < zss.length → ((lth zss i).length : Int) = n ∧ amE n (zss.take i) (lth zss i) = 0) (hn : zss.length ≤ n) : Plan n zss := by
  have key : ∀ i, i < zss.length → lth zss i ∈ ordT n n [] ∧ ∀ d, d < n → tkn (zss.take i) d (nth (lth zss i) d) = false := fun i hi => (am_iff (by have := (h i hi).1; omega)).1 (h i hi).2
  exact ⟨hn, fun i hi => (key i hi).1, fun i j hij hj d hd => (tkn_take (by omega)).1 ((key j hj).2 d hd) i hij⟩
theorem plan_chk {n : Nat} {zss : List (List Int)} (h : chkE n zss = 0) : Plan n zss := by
  obtain ⟨_, _, h3, h4⟩ := chk_rows h
  exact plan_of h4 (by omega)
theorem chk_plan {n : Nat} {zss : List (List Int)} (h1 : 1 ≤ n) (h5 : n ≤ 5) (h : Plan n zss) : chkE n zss = 0 := by
  have hs : sizeE n zss.length = 0 := by
    have := h.len
    unfold sizeE
    split
    · omega
    · split
      · omega
      · rfl
  unfold chkE
  rw [if_pos hs]
  have key : ∀ (t : List (List Int)) (k : Nat), k + t.length = zss.length → (∀ i, i < t.length → lth t i = lth zss (k + i)) → chG n zss t k = 0 := by
    intro t
    induction t with
    | nil => intro k _ _; rfl
    | cons l t ih =>
      intro k hk ht
      have hl : l = lth zss k := by have := ht 0 (by simp); exact this
      have hkl : k < zss.length := by simp at hk; omega
      have hr := h.row k hkl
      have ha : amE n (zss.take k) l = 0 := by
        rw [hl]
        exact (am_iff (ord_len hr)).2 ⟨hr, fun d hd => (tkn_take (by omega)).2 fun j hj => h.col j k hj hkl d hd⟩
      unfold chG
      rw [if_pos (by rw [hl, ord_len hr]), if_pos ha]
      refine ih (k + 1) (by simp at hk; omega) fun i hi => ?_
      have := ht (i + 1) (by simp; omega)
      rw [show k + 1 + i = k + (i + 1) by omega]
      exact this
  exact key zss 0 (by omega) (fun i _ => by rw [Nat.zero_add])
/-- the rows that fit, found in both ways. -/
theorem fit_ref {n : Nat} {zss : List (List Int)} (h : ∀ i, i < zss.length → n ≤ (lth zss i).length) : fitR n zss = fitL n zss := by
  unfold fitR fitL
  refine List.filter_congr fun r hr => ?_
  have hall : ∀ l ∈ zss, n ≤ l.length := fun l hl => by
    obtain ⟨i, hi, rfl⟩ := List.getElem_of_mem hl
    have := h i hi
    rwa [lth_eq, List.getElem?_eq_getElem hi] at this
  have e : fbR zss r n = true ↔ amE n zss r = 0 := by
    rw [am_iff (ord_len hr)]
    unfold fbR
    rw [List.all_eq_true]
    constructor
    · intro hh
      refine ⟨hr, fun d hd => ?_⟩
      have := hh d (List.mem_range.2 hd)
      rw [metB_tkn (fun l hl => by have := hall l hl; omega)] at this
      cases e : tkn zss d (nth r d)
      · rfl
      · rw [e] at this; cases this
    · rintro ⟨_, hh⟩ d hd
      rw [metB_tkn (fun l hl => by have := hall l hl; have := List.mem_range.1 hd; omega), hh d (List.mem_range.1 hd)]
      rfl
  cases hb : fbR zss r n
  · have : ¬ amE n zss r = 0 := fun h => by rw [e.2 h] at hb; cases hb
    simp [this]
  · simp [e.1 hb]
/-- a plan's numbers. -/
def cOf (zss : List (List Int)) (i j : Nat) : Nat := (nth (lth zss i) j).toNat
theorem plan_lat {n : Nat} {zss : List (List Int)} (h : Plan n zss) : Mh.Lat n zss.length n (cOf zss) := by
  have hin : ∀ i j, i < zss.length → j < n → 0 ≤ nth (lth zss i) j ∧ nth (lth zss i) j < n := fun i j hi hj => ord_in (h.row i hi) hj
  refine ⟨fun i j hi hj => ?_, fun i hi j j' hj hj' hne => ?_, fun j hj i i' hi hi' hne => ?_⟩
  · have := hin i j hi hj; unfold cOf; omega
  · have h1 := hin i j hi hj
    have h2 := hin i j' hi hj'
    have hnd := nodup_take.1 (mem_ord.1 (h.row i hi)).2.2
    have hl := ord_len (h.row i hi)
    have : nth (lth zss i) j ≠ nth (lth zss i) j' := by
      rcases Nat.lt_or_gt_of_ne hne with hlt | hgt
      · exact hnd j j' hlt (by omega)
      · exact fun e => hnd j' j hgt (by omega) e.symm
    unfold cOf; omega
  · have h1 := hin i j hi hj
    have h2 := hin i' j hi' hj
    have : nth (lth zss i) j ≠ nth (lth zss i') j := by
      rcases Nat.lt_or_gt_of_ne hne with hlt | hgt
      · exact h.col i i' hlt hi' j hj
      · exact fun e => h.col i' i hgt hi j hj e.symm
    unfold cOf; omega
/-- numbers, one for each place. -/
def rowOf (n : Nat) (f : Nat → Nat) : List Int := (List.range n).map fun d => (f d : Int)
theorem rowOf_len (n : Nat) (f : Nat → Nat) : (rowOf n f).length = n := by unfold rowOf; simp
theorem rowOf_nth {n : Nat} {f : Nat → Nat} {d : Nat} (h : d < n) : nth (rowOf n f) d = f d := by rw [nth_eq]; unfold rowOf; simp [h]
theorem rowOf_ord {n : Nat} {f : Nat → Nat} (h1 : ∀ d, d < n → f d < n) (h2 : ∀ d e, d < n → e < n → d ≠ e → f d ≠ f e) : rowOf n f ∈ ordT n n [] := by
  refine mem_ord.2 ⟨rowOf_len n f, fun x hx => ?_, nodup_take.2 fun j k hjk hk => ?_⟩
  · obtain ⟨d, hd, rfl⟩ := List.mem_map.1 hx
    have := h1 d (List.mem_range.1 hd)
    exact ⟨by omega, by omega⟩
  · rw [rowOf_len] at hk
    rw [rowOf_nth (by omega), rowOf_nth hk]
    have := h2 j k (by omega) hk (by omega)
    omega
theorem sdr_fit {n : Nat} {zss : List (List Int)} (h : Plan n zss) {f : Nat → Nat} (hf : Mh.Sdr n (List.range n) (Mh.fr (cOf zss) zss.length) f) : rowOf n f ∈ fitL n zss := by
  obtain ⟨f1, f2⟩ := hf
  have ho : rowOf n f ∈ ordT n n [] := rowOf_ord (fun d hd => (f1 d (List.mem_range.2 hd)).2) (fun d e hd he hne => f2 d (List.mem_range.2 hd) e (List.mem_range.2 he) hne)
  refine List.mem_filter.2 ⟨ho, ?_⟩
  have : amE n zss (rowOf n f) = 0 := (am_iff (rowOf_len n f)).2 ⟨ho, fun d hd => tkn_no.2 fun i hi => by
    rw [rowOf_nth hd]
    have h3 := Mh.fr_iff.1 (f1 d (List.mem_range.2 hd)).1 i hi
    have h4 := ord_in (h.row i hi) hd
    unfold cOf at h3
    omega⟩
  simp [this]
/-- as many rows fit as there are orders of what is missing, at least. -/
theorem fit_fac {n : Nat} {zss : List (List Int)} (h : Plan n zss) (hr : zss.length < n) : Mh.fac (n - zss.length) ≤ (fitL n zss).length := by
  obtain ⟨Q, q1, q2, q3⟩ := Mh.lat_rows (plan_lat h) hr
  refine Nat.le_trans q1 ?_
  have hnd : (Q.map (rowOf n)).Nodup := by
    refine List.Pairwise.map _ (fun f g hfg => ?_) q3
    obtain ⟨d, hd, hne⟩ := hfg
    intro e
    have := congrArg (fun l => nth l d) e
    rw [rowOf_nth (List.mem_range.1 hd), rowOf_nth (List.mem_range.1 hd)] at this
    omega
  have hs : (Q.map (rowOf n)) ⊆ fitL n zss := fun r hr => by
    obtain ⟨f, hf, rfl⟩ := List.mem_map.1 hr
    exact sdr_fit h (q2 f hf)
  have := Mh.nodup_le hnd hs
  simpa using this
theorem fit_pos {n : Nat} {zss : List (List Int)} (h : Plan n zss) (hr : zss.length < n) : 0 < (fitL n zss).length := Nat.lt_of_lt_of_le (Mh.fac_pos _) (fit_fac h hr)
end Go.Proofs.Ytpgifeaejjjjnaa
