/- Layers 1 and 2: claims by streets. -/
import Derived.Test.YtimddkofcejijaaSG
import Derived.Test.YtimddkofcejijaaVG
namespace Go.Proofs.Ytimddkofcejijaa
open Go.RowKit Go.Sort
namespace Tl
/-- whether a street has a corner. -/
def hasC (c : Nat) (p : Int × Int) : Bool := p.1 == (c : Int) || p.2 == (c : Int)
def degI (ss : List (Int × Int)) (c : Nat) : Nat := ss.countP (hasC c)
def clmL (n : Nat) (ss : List (Int × Int)) : List Int := (List.range n).map fun c => ((degI ss c : Nat) : Int)
theorem clm_len (n : Nat) (ss : List (Int × Int)) : (clmL n ss).length = n := by unfold clmL; simp
theorem clm_nth {n : Nat} {ss : List (Int × Int)} {c : Nat} (h : c < n) : nth (clmL n ss) c = ((degI ss c : Nat) : Int) := by
  rw [nth_eq]; unfold clmL; simp [h]
theorem clm_nil (n : Nat) : oftL n [] = clmL n [] := by unfold oftL clmL degI; simp
theorem clm_step {n : Nat} {ss : List (Int × Int)} {x y : Nat} :
    clmL n (ss ++ [((x : Int), (y : Int))]) = ((clmL n ss).set x (((degI ss x : Nat) : Int) + 1)).set y (((degI ss y : Nat) : Int) + 1) := by
  refine List.ext_getElem (by rw [List.length_set, List.length_set, clm_len, clm_len]) fun j h1 h2 => ?_
  rw [clm_len] at h1
  have hgl : ∀ (zs : List (Int × Int)) (h : j < (clmL n zs).length), (clmL n zs)[j] = ((degI zs j : Nat) : Int) := fun zs h => by simp [clmL]
  rw [List.getElem_set, List.getElem_set, hgl, hgl]
  unfold degI
  rw [List.countP_append, List.countP_singleton]
  by_cases e1 : y = j
  · subst e1
    have : hasC y ((x : Int), (y : Int)) = true := by unfold hasC; simp
    rw [this, if_pos rfl, if_pos rfl]; omega
  · rw [if_neg e1]
    by_cases e2 : x = j
    · subst e2
      have : hasC x ((x : Int), (y : Int)) = true := by unfold hasC; simp
      rw [this, if_pos rfl, if_pos rfl]; omega
    · rw [if_neg e2]
      have : hasC j ((x : Int), (y : Int)) = false := by unfold hasC; simp; omega
      rw [this]; simp
theorem deg_le (ss : List (Int × Int)) (c : Nat) : degI ss c ≤ ss.length := List.countP_le_length
theorem sum_add (f g : Nat → Int) : ∀ l : List Nat, (l.map fun c => f c + g c).sum = (l.map f).sum + (l.map g).sum
  | [] => rfl
  | c :: l => by simp only [List.map_cons, List.sum_cons, sum_add f g l]; omega
theorem sum_one (n x : Nat) : ((List.range n).map fun c => if c = x then (1 : Int) else 0).sum = if x < n then 1 else 0 := by
  induction n with
  | zero => rfl
  | succ n ih =>
    rw [List.range_succ, List.map_append, List.sum_append, ih]
    simp only [List.map_cons, List.map_nil, List.sum_cons, List.sum_nil]
    by_cases h : n = x
    · subst h; simp
    · rw [if_neg h]
      by_cases h2 : x < n
      · rw [if_pos h2, if_pos (by omega)]; rfl
      · rw [if_neg h2, if_neg (by omega)]; rfl
theorem clm_sum {n : Nat} : ∀ (ss : List (Int × Int)), (∀ p ∈ ss, 0 ≤ p.1 ∧ p.1 < p.2 ∧ p.2 < (n : Int)) → (clmL n ss).sum = 2 * (ss.length : Int)
  | [], _ => by
    unfold clmL degI
    have : ∀ l : List Nat, (l.map fun _ => ((0 : Nat) : Int)).sum = 0 := fun l => by
      induction l with
      | nil => rfl
      | cons c l ih => rw [List.map_cons, List.sum_cons, ih]; rfl
    simpa using this (List.range n)
  | p :: ss, h => by
    have ih := clm_sum ss fun q hq => h q (List.mem_cons_of_mem _ hq)
    obtain ⟨h0, h1, h2⟩ := h p (List.mem_cons_self ..)
    obtain ⟨x, hx⟩ := Int.eq_ofNat_of_zero_le h0
    obtain ⟨y, hy⟩ := Int.eq_ofNat_of_zero_le (show 0 ≤ p.2 by omega)
    have e : clmL n (p :: ss) = (List.range n).map fun c => ((degI ss c : Nat) : Int) + ((if c = x then (1 : Int) else 0) + (if c = y then (1 : Int) else 0)) := by
      unfold clmL
      refine List.map_congr_left fun c _ => ?_
      unfold degI
      rw [List.countP_cons]
      unfold hasC
      rw [hx, hy]
      by_cases e1 : c = x
      · subst e1
        rw [if_pos rfl, if_neg (show ¬ c = y by omega)]; simp
      · rw [if_neg e1]
        by_cases e2 : c = y
        · subst e2; simp
        · rw [if_neg e2]
          have : (((x : Int) == (c : Int)) || ((y : Int) == (c : Int))) = false := by simp; omega
          rw [this]; simp
    rw [e, sum_add, sum_add, sum_one, sum_one, if_pos (by omega), if_pos (by omega)]
    have e2 : ((List.range n).map fun c => ((degI ss c : Nat) : Int)).sum = 2 * (ss.length : Int) := ih
    rw [e2, List.length_cons]; omega
theorem deg_pos {n : Nat} (hn : 2 ≤ n) {ss : List (Int × Int)} (h : MadeP n ss) {c : Nat} (hc : c < n) : 1 ≤ degI ss c := by
  obtain ⟨tr, rest, rfl, ⟨h1, h2⟩, _⟩ := h
  unfold degI
  rw [List.countP_append]
  have key : ∀ k, k < tr.length → hasC c (str tr k) = true → 1 ≤ tr.countP (hasC c) := fun k hk hh => by
    refine List.countP_pos_iff.2 ⟨str tr k, ?_, hh⟩
    rw [str_eq, List.getElem?_eq_getElem hk]; exact List.getElem_mem hk
  by_cases h0 : c = 0
  · subst h0
    obtain ⟨_, h4, h5⟩ := h2 0 (by omega)
    have := key 0 (by omega) (by unfold hasC; simp; omega)
    omega
  · obtain ⟨h3, _, _⟩ := h2 (c - 1) (by omega)
    have := key (c - 1) (by omega) (by
      unfold hasC
      rw [h3, show c - 1 + 1 = c by omega]; simp)
    omega
theorem chk_clm {n : Nat} (hn : 2 ≤ n) (hn5 : n ≤ 5) {ss : List (Int × Int)} (h : MadeP n ss) (hl : ss.length ≤ 9) (hm : ∀ p ∈ ss, 0 ≤ p.1 ∧ p.1 < p.2 ∧ p.2 < (n : Int)) : Cl.chk (ss.length : Int) (clmL n ss) = 0 := by
  unfold Cl.chk
  rw [clm_len, if_neg (by omega), if_neg (by omega), clm_sum ss hm]
  have h1 : (clmL n ss).all Cl.isClaimB = true := by
    rw [List.all_eq_true]
    intro z hz
    unfold clmL at hz
    obtain ⟨c, hc, rfl⟩ := List.mem_map.1 hz
    have := deg_pos hn h (List.mem_range.1 hc)
    have := deg_le ss c
    unfold Cl.isClaimB
    exact decide_eq_true (by omega)
  rw [h1, decide_eq_true (by omega), decide_eq_true (by omega)]; rfl
theorem ends_hasC {p : Int × Int} {n : Nat} (h : 0 ≤ p.1 ∧ p.1 < p.2 ∧ p.2 < (n : Int)) (c : Nat) : (endsM p).testBit c = hasC c p := by
  unfold endsM hasC
  rw [Nat.testBit_or, Nat.testBit_two_pow, Nat.testBit_two_pow, Bool.eq_iff_iff]
  simp
  omega
theorem oddL_bit {n : Nat} (s c : Nat) : ∀ (l : List (Int × Int)) (i o : Nat), (∀ p ∈ l, 0 ≤ p.1 ∧ p.1 < p.2 ∧ p.2 < (n : Int)) → (∀ j, i ≤ j → j < i + l.length → s.testBit j = true) →
    (oddL s i l o).testBit c = xor (o.testBit c) (decide (l.countP (hasC c) % 2 = 1))
  | [], _, o, _, _ => by simp [oddL]
  | p :: l, i, o, h, hs => by
    unfold oddL
    rw [if_pos (hs i (Nat.le_refl _) (by simp)), oddL_bit s c l (i + 1) _ (fun q hq => h q (List.mem_cons_of_mem _ hq)) (fun j h1 h2 => hs j (by omega) (by rw [List.length_cons]; omega)), Nat.testBit_xor, ends_hasC (h p (List.mem_cons_self ..)), List.countP_cons]
    cases hasC c p
    · simp
    · by_cases e : l.countP (hasC c) % 2 = 1
      · rw [if_pos rfl, decide_eq_true e, decide_eq_false (by omega)]; cases o.testBit c <;> rfl
      · rw [if_pos rfl, decide_eq_false e, decide_eq_true (by omega)]; cases o.testBit c <;> rfl
theorem odd_bit {n : Nat} {ss : List (Int × Int)} (hm : ∀ p ∈ ss, 0 ≤ p.1 ∧ p.1 < p.2 ∧ p.2 < (n : Int)) (c : Nat) : (oddM ss (2 ^ ss.length - 1)).testBit c = decide (degI ss c % 2 = 1) := by
  unfold oddM
  rw [oddL_bit (2 ^ ss.length - 1) c ss 0 0 hm (fun j _ h => by rw [Nat.testBit_two_pow_sub_one]; exact decide_eq_true (by omega))]
  rw [Nat.zero_testBit, Bool.false_xor]; rfl
theorem odd_list {n : Nat} (hn : n ≤ 16) {ss : List (Int × Int)} (hm : ∀ p ∈ ss, 0 ≤ p.1 ∧ p.1 < p.2 ∧ p.2 < (n : Int)) : listM (oddM ss (2 ^ ss.length - 1)) = preM (oddM ss (2 ^ ss.length - 1)) n := by
  have h := preM_out (oddM ss (2 ^ ss.length - 1)) n (fun i hi => by
    rw [odd_bit hm, decide_eq_false_iff_not]
    have : degI ss i = 0 := by
      unfold degI
      rw [List.countP_eq_zero]
      intro p hp
      have := hm p hp
      unfold hasC
      simp; omega
    omega) (16 - n)
  rw [show n + (16 - n) = 16 by omega] at h
  exact h
end Tl
end Go.Proofs.Ytimddkofcejijaa
