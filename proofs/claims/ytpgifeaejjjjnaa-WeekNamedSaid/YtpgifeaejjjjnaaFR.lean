/- pure: how many crossings a plan has does not change with carts or days exchanged (count_row, count_col); the round plan's (rnd_count) -/
import Derived.Test.YtpgifeaejjjjnaaFB
namespace Go.Proofs.Ytpgifeaejjjjnaa
open Go.RowKit Go.Sort
theorem ord_nodup (n : Nat) : ∀ (m : Nat) (h : List Int), (ordT n m h).Nodup
  | 0, h => by simp [ordT]
  | m + 1, h => by
    unfold List.Nodup
    rw [ordT, List.pairwise_flatMap]
    constructor
    · intro i _
      split
      · exact List.Pairwise.nil
      · exact ord_nodup n m _
    · refine List.Pairwise.imp (fun {a b} hab => ?_) (List.nodup_range (n := n))
      intro x hx y hy e
      have key : ∀ (s : Nat) (r : List Int), r ∈ (if h.contains (s : Int) = true then [] else ordT n m (h ++ [(s : Int)])) → nth r h.length = s := fun s r hr => by
        split at hr
        · simp at hr
        · obtain ⟨t, rfl, _⟩ := (mem_ordT n m _ _).1 hr
          rw [nth_eq]; simp
      have h1 := key a x hx
      have h2 := key b y hy
      rw [e, h2] at h1
      exact hab (by omega)
/-- two numbers changed. -/
def sw (i k a : Nat) : Nat := if a = k then i else if a = i then k else a
theorem sw_lt {n i k a : Nat} (hi : i < n) (hk : k < n) (ha : a < n) : sw i k a < n := by unfold sw; split <;> (try split) <;> omega
theorem sw_sw (i k a : Nat) : sw i k (sw i k a) = a := by
  unfold sw
  by_cases h1 : a = k
  · rw [if_pos h1]
    by_cases h2 : i = k
    · rw [if_pos h2]; omega
    · rw [if_neg h2, if_pos rfl]; omega
  · rw [if_neg h1]
    by_cases h2 : a = i
    · rw [if_pos h2, if_pos rfl]; omega
    · rw [if_neg h2, if_neg h1, if_neg h2]
theorem sw_inj {i k a b : Nat} (h : sw i k a = sw i k b) : a = b := by rw [← sw_sw i k a, h, sw_sw]
/-- a square of numbers that is a plan. -/
def PF (n : Nat) (f : Nat → Nat → Int) : Prop := (∀ i j, i < n → j < n → 0 ≤ f i j ∧ f i j < n) ∧ (∀ i, i < n → ∀ j j', j < n → j' < n → j ≠ j' → f i j ≠ f i j') ∧ ∀ j, j < n → ∀ i i', i < n → i' < n → i ≠ i' → f i j ≠ f i' j
theorem PF.row {n : Nat} {f : Nat → Nat → Int} (h : PF n f) {i k : Nat} (hi : i < n) (hk : k < n) : PF n (fun a b => f (sw i k a) b) :=
  ⟨fun _ b ha hb => h.1 _ b (sw_lt hi hk ha) hb, fun _ ha b b' hb hb' hne => h.2.1 _ (sw_lt hi hk ha) b b' hb hb' hne, fun b hb _ _ ha ha' hne => h.2.2 b hb _ _ (sw_lt hi hk ha) (sw_lt hi hk ha') fun e => hne (sw_inj e)⟩
theorem PF.col {n : Nat} {f : Nat → Nat → Int} (h : PF n f) {i k : Nat} (hi : i < n) (hk : k < n) : PF n (fun a b => f a (sw i k b)) :=
  ⟨fun a _ ha hb => h.1 a _ ha (sw_lt hi hk hb), fun a ha _ _ hb hb' hne => h.2.1 a ha _ _ (sw_lt hi hk hb) (sw_lt hi hk hb') fun e => hne (sw_inj e), fun _ hb a a' ha ha' hne => h.2.2 _ (sw_lt hi hk hb) a a' ha ha' hne⟩
theorem grid_nth {n : Nat} {f : Nat → Nat → Int} {i j : Nat} (hi : i < n) (hj : j < n) : nth (lth (gridL n n f) i) j = f i j := by
  rw [gridL_lth _ _ _ _ hi, nth_eq, List.getElem?_map, List.getElem?_range hj]; rfl
theorem PF.plan {n : Nat} {f : Nat → Nat → Int} (h : PF n f) : Plan n (gridL n n f) := by
  refine ⟨by rw [gridL_len]; exact Nat.le_refl _, fun i hi => ?_, fun i j hij hj d hd => ?_⟩
  · rw [gridL_len] at hi
    have e : lth (gridL n n f) i = rowOf n (fun j => (f i j).toNat) := by
      rw [gridL_lth _ _ _ _ hi]
      unfold rowOf
      refine List.map_congr_left fun j hj => ?_
      have := (h.1 i j hi (List.mem_range.1 hj)).1
      show f i j = ((f i j).toNat : Int)
      omega
    rw [e]
    refine rowOf_ord (fun d hd => ?_) (fun d e hd he hne => ?_)
    · have := h.1 i d hi hd; omega
    · have h1 := h.1 i d hi hd
      have h2 := h.1 i e hi he
      have := h.2.1 i hi d e hd he hne
      omega
  · rw [gridL_len] at hj
    rw [grid_nth (by omega) hd, grid_nth hj hd]
    exact h.2.2 d hd i j (by omega) hj (by omega)
/-- the places of a list of days, no street twice. -/
def QF (n : Nat) (f : Nat → Nat → Int) (r : List Int) : Prop := ∀ j k, j < n → k < n → j ≠ k → f j (nth r j).toNat ≠ f k (nth r k).toNat
theorem crsB_QF {n : Nat} {f : Nat → Nat → Int} {r : List Int} (hr : r ∈ ordT n n []) : crsB (gridL n n f) r = true ↔ QF n f r := by
  have e : ∀ j, j < n → stF (gridL n n f) r j = f j (nth r j).toNat := fun j hj => by
    have := ord_in hr hj
    unfold stF
    exact grid_nth hj (by omega)
  unfold crsB QF
  rw [decide_eq_true_iff, ord_len hr]
  constructor
  · intro h j k hj hk hne
    rcases Nat.lt_or_gt_of_ne hne with hlt | hgt
    · have := h k hk j hlt
      rwa [e j hj, e k hk] at this
    · have := h j hj k hgt
      rw [e j hj, e k hk] at this
      exact fun q => this q.symm
  · intro h k hk j hj
    rw [e j (by omega), e k hk]
    exact h j k (by omega) hk (by omega)
theorem count_le {n : Nat} {f f' : Nat → Nat → Int} (p : List Int → List Int) (h1 : ∀ r, r ∈ ordT n n [] → p r ∈ ordT n n []) (h2 : ∀ r r', r ∈ ordT n n [] → r' ∈ ordT n n [] → p r = p r' → r = r') (h3 : ∀ r, r ∈ ordT n n [] → QF n f' r → QF n f (p r)) :
    (crsL n (gridL n n f')).length ≤ (crsL n (gridL n n f)).length := by
  have hnd : ((crsL n (gridL n n f')).map p).Nodup := by
    unfold List.Nodup
    rw [List.pairwise_map]
    refine List.Pairwise.imp_of_mem (fun {a b} ha hb hab => ?_) (List.Pairwise.filter _ (ord_nodup n n []))
    exact fun e => hab (h2 a b (List.mem_filter.1 ha).1 (List.mem_filter.1 hb).1 e)
  have hsub : (crsL n (gridL n n f')).map p ⊆ crsL n (gridL n n f) := fun x hx => by
    obtain ⟨r, hr, rfl⟩ := List.mem_map.1 hx
    obtain ⟨q1, q2⟩ := List.mem_filter.1 hr
    exact List.mem_filter.2 ⟨h1 r q1, (crsB_QF (h1 r q1)).2 (h3 r q1 ((crsB_QF q1).1 q2))⟩
  have := Mh.nodup_le hnd hsub
  rwa [List.length_map] at this
theorem rowOf_sw {n i k : Nat} (hi : i < n) (hk : k < n) {r : List Int} (hr : r ∈ ordT n n []) : rowOf n (fun d => (nth r (sw i k d)).toNat) ∈ ordT n n [] := by
  refine rowOf_ord (fun d hd => ?_) (fun d e hd he hne => ?_)
  · have := ord_in hr (sw_lt hi hk hd); omega
  · have h1 := ord_in hr (sw_lt hi hk hd)
    have h2 := ord_in hr (sw_lt hi hk he)
    have hnd := nodup_take.1 (mem_ord.1 hr).2.2
    have hl := ord_len hr
    have hs : sw i k d ≠ sw i k e := fun q => hne (sw_inj q)
    have : nth r (sw i k d) ≠ nth r (sw i k e) := by
      rcases Nat.lt_or_gt_of_ne hs with hlt | hgt
      · exact hnd _ _ hlt (by have := sw_lt hi hk he; omega)
      · exact fun q => hnd _ _ hgt (by have := sw_lt hi hk hd; omega) q.symm
    omega
theorem rowOf_ws {n i k : Nat} (hi : i < n) (hk : k < n) {r : List Int} (hr : r ∈ ordT n n []) : rowOf n (fun d => sw i k (nth r d).toNat) ∈ ordT n n [] := by
  refine rowOf_ord (fun d hd => ?_) (fun d e hd he hne => ?_)
  · have := ord_in hr hd; exact sw_lt hi hk (by omega)
  · have h1 := ord_in hr hd
    have h2 := ord_in hr he
    have hnd := nodup_take.1 (mem_ord.1 hr).2.2
    have hl := ord_len hr
    have : nth r d ≠ nth r e := by
      rcases Nat.lt_or_gt_of_ne hne with hlt | hgt
      · exact hnd _ _ hlt (by omega)
      · exact fun q => hnd _ _ hgt (by omega) q.symm
    intro q
    have := sw_inj q
    omega
theorem ord_ext {n : Nat} {r r' : List Int} (hr : r ∈ ordT n n []) (hr' : r' ∈ ordT n n []) (h : ∀ d, d < n → (nth r d).toNat = (nth r' d).toNat) : r = r' := by
  refine nth_same (by rw [ord_len hr, ord_len hr']) fun d hd => ?_
  rw [ord_len hr] at hd
  have h1 := ord_in hr hd
  have h2 := ord_in hr' hd
  have := h d hd
  omega
theorem count_row {n i k : Nat} (hi : i < n) (hk : k < n) (f : Nat → Nat → Int) : (crsL n (gridL n n (fun a b => f (sw i k a) b))).length = (crsL n (gridL n n f)).length := by
  have key : ∀ f f' : Nat → Nat → Int, (∀ a b, a < n → f' a b = f (sw i k a) b) → (crsL n (gridL n n f')).length ≤ (crsL n (gridL n n f)).length := fun f f' hf => by
    refine count_le (fun r => rowOf n (fun d => (nth r (sw i k d)).toNat)) (fun r hr => rowOf_sw hi hk hr) (fun r r' hr hr' e => ord_ext hr hr' fun d hd => ?_) (fun r hr hq a b ha hb hne => ?_)
    · have h1 := congrArg (fun l => nth l (sw i k d)) e
      simp only [rowOf_nth (sw_lt hi hk hd), sw_sw] at h1
      omega
    · rw [rowOf_nth ha, rowOf_nth hb, Int.toNat_natCast, Int.toNat_natCast]
      have := hq (sw i k a) (sw i k b) (sw_lt hi hk ha) (sw_lt hi hk hb) (fun q => hne (sw_inj q))
      rwa [hf _ _ (sw_lt hi hk ha), hf _ _ (sw_lt hi hk hb), sw_sw, sw_sw] at this
  exact Nat.le_antisymm (key f _ fun a b _ => rfl) (key (fun a b => f (sw i k a) b) f fun a b _ => by simp only [sw_sw])
theorem count_col {n i k : Nat} (hi : i < n) (hk : k < n) (f : Nat → Nat → Int) : (crsL n (gridL n n (fun a b => f a (sw i k b)))).length = (crsL n (gridL n n f)).length := by
  have key : ∀ f f' : Nat → Nat → Int, (∀ a b, f' a b = f a (sw i k b)) → (crsL n (gridL n n f')).length ≤ (crsL n (gridL n n f)).length := fun f f' hf => by
    refine count_le (fun r => rowOf n (fun d => sw i k (nth r d).toNat)) (fun r hr => rowOf_ws hi hk hr) (fun r r' hr hr' e => ord_ext hr hr' fun d hd => ?_) (fun r hr hq a b ha hb hne => ?_)
    · have h1 := congrArg (fun l => nth l d) e
      simp only [rowOf_nth hd] at h1
      exact sw_inj (i := i) (k := k) (by omega)
    · rw [rowOf_nth ha, rowOf_nth hb, Int.toNat_natCast, Int.toNat_natCast]
      have := hq a b ha hb hne
      rwa [hf, hf] at this
  exact Nat.le_antisymm (key f _ fun a b => rfl) (key (fun a b => f a (sw i k b)) f fun a b => by simp only [sw_sw])
theorem rnd_PF {n : Nat} (h1 : 1 ≤ n) (h5 : n ≤ 5) : PF n (rndF n) := by
  have key : ∀ i, i < n → ∀ j, j < n → ∀ k, k < n → j ≠ k → (i + j) % n ≠ (i + k) % n ∧ (j + i) % n ≠ (k + i) % n := by
    intro i hi j hj k hk hne
    rcases (by omega : n = 1 ∨ n = 2 ∨ n = 3 ∨ n = 4 ∨ n = 5) with rfl | rfl | rfl | rfl | rfl <;> omega
  unfold PF rndF
  refine ⟨fun i j hi hj => ?_, fun i hi j j' hj hj' hne e => ?_, fun j hj i i' hi hi' hne e => ?_⟩
  · have := Nat.mod_lt (i + j) (show 0 < n by omega); omega
  · exact (key i hi j hj j' hj' hne).1 (by omega)
  · exact (key j hj i hi i' hi' hne).2 (by omega)
theorem rnd_count {n : Nat} (h1 : 1 ≤ n) (h5 : n ≤ 5) : (crsL n (gridL n n (rndF n))).length = nth [0, 1, 0, 3, 0, 15] n := by
  rcases (by omega : n = 1 ∨ n = 2 ∨ n = 3 ∨ n = 4 ∨ n = 5) with rfl | rfl | rfl | rfl | rfl <;> decide +kernel
end Go.Proofs.Ytpgifeaejjjjnaa
