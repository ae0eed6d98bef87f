/- pure: tops between those of fewer kinds -/
import Derived.Test.YtjapconhehdcjaaVA
namespace Go.Proofs.Ytjapconhehdcjaa
open Go.RowKit Go.Sort
theorem chk_nn {zs : List Int} (h : chkL zs = 0) : ∀ z ∈ zs, 0 ≤ z := fun z hz => by have := (chkL_zero h).2.2 z hz; omega
theorem topB_sorted (sm : Nat → Nat → Nat) (a m : Nat) : (Sv.topB sm a m).Pairwise (· < ·) := by
  unfold Sv.topB
  exact List.Pairwise.filter _ List.pairwise_lt_range
/-- the smallest and the greatest top. -/
theorem tops_val {zs : List Int} (hc : chkL zs = 0) {n : Nat} (hn : zs.length = n + 2) : topsC zs = 0 ∧ ∃ lo hi : Nat, topsE zs = ((lo : Int), (hi : Int)) ∧ Sv.IsTop (Sv.smN zs) 0 (n + 1) lo ∧ Sv.IsTop (Sv.smN zs) 0 (n + 1) hi ∧ ∀ k, Sv.IsTop (Sv.smN zs) 0 (n + 1) k → lo ≤ k ∧ k ≤ hi := by
  have hz := chk_nn hc
  have hC : topsC zs = 0 := by unfold topsC; rw [if_pos hc, if_neg (by omega)]
  refine ⟨hC, ?_⟩
  have hF := Sv.F0_link hz n 0
  have hs := topB_sorted (Sv.smN zs) 0 n
  have hne := Sv.topB_ne (Sv.smN zs) 0 n
  have hi := fun k => Sv.isTop_iff (Sv.smN zs) 0 n k
  simp only [Nat.zero_add] at hF hi
  generalize Sv.topB (Sv.smN zs) 0 n = L at *
  have hl : 0 < L.length := List.length_pos_iff.2 hne
  have hg : ∀ j (hj : j < L.length), nth (F0 zs 0 (n + 1)) j = ((L[j] : Nat) : Int) := fun j hj => by
    rw [hF, nth_eq, List.getElem?_map, List.getElem?_eq_getElem hj]; rfl
  refine ⟨L[0], L[L.length - 1], ?_, (hi _).1 (List.getElem_mem _), (hi _).1 (List.getElem_mem _), fun k hk => ?_⟩
  · unfold topsE
    rw [if_pos hC, hn, show n + 2 - 1 = n + 1 by omega, hg 0 hl]
    have : (F0 zs 0 (n + 1)).length = L.length := by rw [hF, List.length_map]
    rw [this, hg (L.length - 1) (by omega)]
  · obtain ⟨j, hj, rfl⟩ := List.getElem_of_mem ((hi k).2 hk)
    have hp := List.pairwise_iff_getElem.1 hs
    constructor
    · rcases Nat.eq_zero_or_pos j with rfl | h
      · exact Nat.le_refl _
      · exact Nat.le_of_lt (hp 0 j hl hj h)
    · rcases Nat.eq_or_lt_of_le (show j ≤ L.length - 1 by omega) with h | h
      · subst h; exact Nat.le_refl _
      · exact Nat.le_of_lt (hp j (L.length - 1) hj (by omega) h)
theorem chk_of {zs : List Int} {m : Int} (h1 : 1 ≤ zs.length) (h8 : zs.length ≤ 8) (hm : m ≤ 100) (h : ∀ z ∈ zs, 1 ≤ z ∧ z ≤ m) : chkL zs = 0 := by
  refine chkL_ok (by omega) h8 fun j hj => ?_
  have := h _ (nth_mem hj)
  unfold badL
  simp; omega
theorem sm_take (zs : List Int) (n i k : Nat) (h : i + k < n) : Sv.smN (zs.take n) i k = Sv.smN zs i k := by
  unfold Sv.smN spS
  simp only
  rw [List.take_take, Nat.min_eq_left (by omega)]
theorem sm_drop (zs : List Int) (i k : Nat) : Sv.smN (zs.drop 1) i k = Sv.smN zs (1 + i) k := by
  unfold Sv.smN spS
  simp only
  rw [List.take_drop, List.drop_drop, show 1 + (i + k + 1) = 1 + i + k + 1 by omega]
/-- tops between those of fewer kinds. -/
theorem tops_between {zs : List Int} (hc : chkL zs = 0) {n : Nat} (hn : zs.length = n + 3) : ∃ a b c g l m : Nat, topsC zs = 0 ∧ topsE zs = ((a : Int), (b : Int)) ∧ topsC (zs.take (n + 2)) = 0 ∧ topsE (zs.take (n + 2)) = ((c : Int), (g : Int)) ∧ topsC (zs.drop 1) = 0 ∧ topsE (zs.drop 1) = ((l : Int), (m : Int)) ∧ c ≤ a ∧ a ≤ l + 1 ∧ g ≤ b ∧ b ≤ m + 1 ∧ a ≤ b ∧ b < n + 2 ∧ l ≤ 8 ∧ m ≤ 8 := by
  have hz := chkL_zero hc
  have hn8 : n + 3 ≤ 8 := by omega
  have hc1 : chkL (zs.take (n + 2)) = 0 := chk_of (m := 100) (by rw [List.length_take]; omega) (by rw [List.length_take]; omega) (by omega) fun z h => hz.2.2 z (List.mem_of_mem_take h)
  have hc2 : chkL (zs.drop 1) = 0 := chk_of (m := 100) (by rw [List.length_drop]; omega) (by rw [List.length_drop]; omega) (by omega) fun z h => hz.2.2 z (List.mem_of_mem_drop h)
  obtain ⟨a0, a, b, a1, a2, a3, a4⟩ := tops_val hc (n := n + 1) (by omega)
  obtain ⟨b0, c, g, b1, b2, b3, b4⟩ := tops_val hc1 (n := n) (by rw [List.length_take]; omega)
  obtain ⟨c0, l, m, c1, c2, c3, c4⟩ := tops_val hc2 (n := n) (by rw [List.length_drop]; omega)
  have hs := Sv.sms_loads (chk_nn hc)
  have e1 := Sv.topB_congr (sm := Sv.smN (zs.take (n + 2))) (sm' := Sv.smN zs) 0 0 n (fun i k h => by rw [Nat.zero_add]; exact sm_take zs (n + 2) i k (by omega))
  have e2 := Sv.topB_congr (sm := Sv.smN (zs.drop 1)) (sm' := Sv.smN zs) 0 1 n (fun i k h => by rw [Nat.zero_add]; exact sm_drop zs i k)
  have k1 : ∀ k, Sv.IsTop (Sv.smN (zs.take (n + 2))) 0 (n + 1) k ↔ Sv.IsTop (Sv.smN zs) 0 (n + 1) k := fun k => by
    have p := Sv.isTop_iff (Sv.smN (zs.take (n + 2))) 0 n k
    have q := Sv.isTop_iff (Sv.smN zs) 0 n k
    simp only [Nat.zero_add] at p q
    rw [← p, ← q, e1]
  have k2 : ∀ k, Sv.IsTop (Sv.smN (zs.drop 1)) 0 (n + 1) k ↔ Sv.IsTop (Sv.smN zs) 1 (n + 2) (k + 1) := fun k => by
    have p := Sv.isTop_iff (Sv.smN (zs.drop 1)) 0 n k
    have q := Sv.isTop_iff (Sv.smN zs) 1 n k
    simp only [Nat.zero_add] at p
    rw [← p, e2, q, show 1 + (n + 1) = n + 2 by omega, Nat.add_comm 1 k]
  refine ⟨a, b, c, g, l, m, a0, a1, b0, b1, c0, c1, ?_, ?_, ?_, ?_, ?_, ?_, ?_, ?_⟩
  · rcases Nat.lt_or_ge a c with h | h
    · have := (Sv.top_right hs ((k1 c).1 b2) a2 h).2
      exact (b4 a ((k1 a).2 this)).1
    · exact h
  · rcases Nat.lt_or_ge (l + 1) a with h | h
    · have := (Sv.top_left hs ((k2 l).1 c2) a2 h).1
      exact (a4 _ this).1
    · exact h
  · rcases Nat.lt_or_ge b g with h | h
    · have := (Sv.top_right hs ((k1 g).1 b3) a3 h).1
      exact (a4 _ this).2
    · exact h
  · rcases Nat.lt_or_ge (m + 1) b with h | h
    · have := (Sv.top_left hs ((k2 m).1 c3) a3 h).2
      have q := (c4 (b - 1) ((k2 (b - 1)).2 (by rw [show b - 1 + 1 = b by omega]; exact this))).2
      omega
    · exact h
  · exact (a4 a a2).2
  · exact a3.2.1
  · have := c2.2.1; omega
  · have := c3.2.1; omega
end Go.Proofs.Ytjapconhehdcjaa
