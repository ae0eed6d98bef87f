/- pure: the orders that begin as a list does (ord_begin) -/
import Derived.Test.YtpgifeaejjjjnaaFF
import Derived.Test.YtpgifeaejjjjnaaCX
import Derived.Test.YtpgifeaejjjjnaaCV
namespace Go.Proofs.Ytpgifeaejjjjnaa
open Go.RowKit Go.Sort
theorem flat_one {β : Type} (X : List β) (a : Nat) : ∀ n, a < n → ((List.range n).flatMap fun s => if s = a then X else []) = X
  | 0, h => absurd h (Nat.not_lt_zero a)
  | n + 1, h => by
    rw [List.range_succ, List.flatMap_append, List.flatMap_cons, List.flatMap_nil, List.append_nil]
    by_cases e : n = a
    · subst e
      rw [if_pos rfl]
      have : ((List.range n).flatMap fun s => if s = n then X else []) = [] := by
        rw [List.flatMap_eq_nil_iff]
        intro s hs
        have := List.mem_range.1 hs
        rw [if_neg (by omega)]
      rw [this, List.nil_append]
    · rw [if_neg e, List.append_nil]
      exact flat_one X a n (by omega)
/-- the orders that begin as a list does. -/
theorem ord_begin (n : Nat) : ∀ (c h : List Int) (m : Nat), c.length ≤ m → (∀ x ∈ c, 0 ≤ x ∧ x < n) → c.Nodup → (∀ x ∈ c, x ∉ h) → (ordT n m h).filter (fun r => decide (r.take (h.length + c.length) = h ++ c)) = ordT n (m - c.length) (h ++ c)
  | [], h, m, _, _, _, _ => by
    rw [List.length_nil, Nat.add_zero, List.append_nil, Nat.sub_zero, List.filter_eq_self.2]
    intro r hr
    obtain ⟨t, rfl, _⟩ := (mem_ordT n m h r).1 hr
    rw [decide_eq_true_iff, List.take_left]
  | x :: c, h, 0, hm, _, _, _ => absurd hm (by simp)
  | x :: c, h, m + 1, hm, hr, hn, hd => by
    obtain ⟨a, rfl⟩ := Int.eq_ofNat_of_zero_le (hr x (by simp)).1
    have han : a < n := by have := (hr (a : Int) (by simp)).2; omega
    obtain ⟨hn1, hn2⟩ := List.nodup_cons.1 hn
    rw [ordT, List.filter_flatMap]
    have key : ∀ s ∈ List.range n, ((if h.contains (s : Int) = true then [] else ordT n m (h ++ [(s : Int)])).filter fun r => decide (r.take (h.length + ((a : Int) :: c).length) = h ++ (a : Int) :: c)) = if s = a then ordT n (m - c.length) (h ++ (a : Int) :: c) else [] := fun s _ => by
      by_cases e : s = a
      · subst e
        have hc : ¬ h.contains (s : Int) = true := by simpa using hd (s : Int) (by simp)
        rw [if_neg hc, if_pos rfl]
        have ih := ord_begin n c (h ++ [(s : Int)]) m (by simp at hm; omega) (fun y hy => hr y (by simp [hy])) hn2 (fun y hy hyh => by
          rcases List.mem_append.1 hyh with q | q
          · exact hd y (by simp [hy]) q
          · simp at q; subst q; exact hn1 hy)
        rw [List.append_assoc] at ih
        change _ = ordT n (m - c.length) (h ++ (s : Int) :: c) at ih
        rw [← ih]
        refine List.filter_congr fun r _ => ?_
        have : h.length + ((s : Int) :: c).length = (h ++ [(s : Int)]).length + c.length := by simp; omega
        rw [this]
        rfl
      · rw [if_neg e]
        by_cases hc : h.contains (s : Int) = true
        · rw [if_pos hc]; rfl
        · rw [if_neg hc, List.filter_eq_nil_iff]
          intro r hrr
          obtain ⟨t, rfl, _⟩ := (mem_ordT n m _ _).1 hrr
          rw [decide_eq_true_iff]
          intro q
          have h1 := congrArg (fun l => nth l h.length) q
          have h2 : nth ((h ++ [(s : Int)] ++ t).take (h.length + ((a : Int) :: c).length)) h.length = (s : Int) := by
            rw [nth_take _ _ _ (by simp), nth_eq]; simp
          have h3 : nth (h ++ (a : Int) :: c) h.length = (a : Int) := by rw [nth_eq]; simp
          simp only [h2, h3] at h1
          exact e (by omega)
    rw [flat_congr key, flat_one _ a n han]
    have : m + 1 - ((a : Int) :: c).length = m - c.length := by simp
    rw [this]
end Go.Proofs.Ytpgifeaejjjjnaa
