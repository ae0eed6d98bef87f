/- pure: the law's search of a corner's rows is the reference's (ryR, ry_fl) -/
import Derived.Test.YtpgifeaejjjjnaaPD
import Derived.Test.YtpgifeaejjjjnaaFF
namespace Go.Proofs.Ytpgifeaejjjjnaa
open Go.RowKit Go.Sort
/-- does a row begin as a list does, and meet none of the others? -/
def goodR (c : List Int) (t : List (List Int)) (l : List Int) : Bool := decide (l.take c.length = c) && t.all fun o => (List.range o.length).all fun k => decide (nth l k ≠ nth o k)
/-- the first way to fill a corner's rows, as the law tries them. -/
def ryR (n : Nat) : List (List Int) → List (List Int) → Option (List (List Int))
  | [], b => some b
  | c :: t, b => (fitL n b).findSome? fun l => if goodR c t l = true then ryR n t (b ++ [l]) else none
theorem met_all {n : Nat} {t : List (List Int)} {l : List Int} (ht : ∀ o ∈ t, o.length ≤ n) : (t.all fun o => (List.range o.length).all fun k => decide (nth l k ≠ nth o k)) = true ↔ ∀ d, d < n → metB t d (nth l d) = false := by
  rw [List.all_eq_true]
  constructor
  · intro h d _
    rw [← Bool.not_eq_true, met_iff]
    rintro ⟨o, ho, hd, e⟩
    have h1 := List.all_eq_true.1 (h o ho) d (List.mem_range.2 hd)
    rw [decide_eq_true_iff] at h1
    exact h1 e.symm
  · intro h o ho
    rw [List.all_eq_true]
    intro k hk
    have hko := List.mem_range.1 hk
    have h1 := h k (Nat.lt_of_lt_of_le hko (ht o ho))
    rw [← Bool.not_eq_true, met_iff] at h1
    rw [decide_eq_true_iff]
    exact fun e => h1 ⟨o, ho, hko, e.symm⟩
theorem ry_fl {n : Nat} : ∀ (t b : List (List Int)), Part n (b ++ t) → (∀ i, i < b.length → (lth b i).length = n) → ryR n t b = flR n t b
  | [], _, _, _ => rfl
  | c :: t, b, h, hb => by
    have hk : b.length < (b ++ c :: t).length := by simp
    have hc := h.wid _ hk
    have hcr := h.rng _ hk
    have hcn := h.nod _ hk
    rw [lth_mid] at hc hcr hcn
    have hto : ∀ o ∈ t, o.length ≤ n := fun o ho => by
      obtain ⟨i, hi, rfl⟩ := lth_mem ho
      have := h.wid (b.length + (i + 1)) (by simp; omega)
      rw [lth_right] at this
      exact this
    have hbo : ∀ d, d < n → ∀ l ∈ b, d < l.length := fun d hd l hl => by
      obtain ⟨i, hi, rfl⟩ := lth_mem hl
      rw [hb i hi]; exact hd
    have e1 := ord_begin n c [] n hc hcr hcn (by simp)
    rw [List.nil_append] at e1
    rw [ryR, ← fs_filter, flR, ← e1]
    unfold fitL
    rw [List.filter_filter, List.filter_filter]
    have e2 : (ordT n n []).filter (fun r => goodR c t r && (amE n b r == 0)) = (ordT n n []).filter (fun r => frB n b t r && decide (r.take (([] : List Int).length + c.length) = c)) := by
      refine List.filter_congr fun r hr => ?_
      rw [Bool.eq_iff_iff, Bool.and_eq_true, Bool.and_eq_true, beq_iff_eq, am_iff (ord_len hr)]
      unfold goodR frB
      rw [Bool.and_eq_true, met_all hto, List.all_eq_true, List.length_nil, Nat.zero_add]
      constructor
      · rintro ⟨⟨g1, g2⟩, _, g3⟩
        refine ⟨fun d hd => ?_, g1⟩
        have hdn := List.mem_range.1 hd
        rw [metB_tkn (hbo d hdn), g3 d hdn, g2 d hdn]; rfl
      · rintro ⟨g1, g2⟩
        have g3 : ∀ d, d < n → metB b d (nth r d) = false ∧ metB t d (nth r d) = false := fun d hd => by
          have := g1 d (List.mem_range.2 hd)
          rw [Bool.and_eq_true, Bool.not_eq_true', Bool.not_eq_true'] at this
          exact this
        exact ⟨⟨g2, fun d hd => (g3 d hd).2⟩, hr, fun d hd => by rw [← metB_tkn (hbo d hd)]; exact (g3 d hd).1⟩
    rw [e2]
    refine fs_congr fun r hr => ?_
    obtain ⟨h1, h2⟩ := List.mem_filter.1 hr
    obtain ⟨h3, h4⟩ := Bool.and_eq_true_iff.1 h2
    have h5 : r ∈ ordT n (n - c.length) c := by
      rw [← e1]
      exact List.mem_filter.2 ⟨h1, h4⟩
    exact ry_fl t (b ++ [r]) (part_row h h5 h3) (fun i hi => by
      rw [List.length_append, List.length_singleton] at hi
      rcases Nat.lt_or_ge i b.length with hl | hl
      · rw [lth_app1 _ _ _ hl]; exact hb i hl
      · obtain rfl : i = b.length := by omega
        rw [lth_app2]; exact ord_len h1)
end Go.Proofs.Ytpgifeaejjjjnaa
