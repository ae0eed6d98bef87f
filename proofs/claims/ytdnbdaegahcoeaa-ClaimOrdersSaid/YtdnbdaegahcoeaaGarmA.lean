/- Layer 1: the division by which any two are at one. -/
import Derived.Test.YtdnbdaegahcoeaaSpreadA
namespace Go.Proofs.Ytdnbdaegahcoeaa
open Go.RowKit Go.Sort
/-- twice what the first one of two gets. -/
def garF (w a b : Int) : Int := max 0 (w - b) + w - max 0 (w - a)
/-- two houses are at one. -/
def oneB (zs gs : List Int) (i j : Nat) : Bool := decide (2 * nth gs i = garF (nth gs i + nth gs j) (120 * nth zs i) (120 * nth zs j))
theorem atB_one (zs gs : List Int) (i j : Nat) : atB zs gs i j = oneB zs gs i j := by
  rw [Bool.eq_iff_iff]
  unfold atB oneB tw1 garF
  simp only [Bool.and_eq_true, beq_iff_eq, decide_eq_true_eq]
  omega
theorem take_le (gs hs : List Int) (hl : gs.length = hs.length) (h : ∀ k, k < gs.length → nth gs k ≤ nth hs k) : ∀ k, k ≤ gs.length → (gs.take k).sum ≤ (hs.take k).sum ∧ ((gs.take k).sum = (hs.take k).sum → ∀ i, i < k → nth gs i = nth hs i)
  | 0, _ => ⟨by simp, fun _ i hi => absurd hi (by omega)⟩
  | k + 1, hk => by
    have ih := take_le gs hs hl h k (by omega)
    have hh := h k (by omega)
    rw [take_succ' gs k (by omega), take_succ' hs k (by omega), sum_snoc, sum_snoc]
    refine ⟨by omega, fun e i hi => ?_⟩
    by_cases hik : i = k
    · subst hik; omega
    · exact ih.2 (by omega) i (by omega)
theorem nth_ext (gs hs : List Int) (hl : gs.length = hs.length) (h : ∀ i, i < gs.length → nth gs i = nth hs i) : gs = hs := by
  apply List.ext_getElem hl
  intro i h1 h2
  have := h i h1
  rw [nth_eq, nth_eq, List.getElem?_eq_getElem h1, List.getElem?_eq_getElem h2] at this
  exact this
theorem one_fix (a b g h g' h' : Int) (e : 2 * g = garF (g + h) a b) (e' : 2 * g' = garF (g' + h') a b) (_ha : 0 ≤ a) (_hb : 0 ≤ b) (hl : g < g') (hh : h' < h) : False := by
  unfold garF at e e'; omega
theorem one_fix2 (a b g h g' h' : Int) (e : 2 * h = garF (h + g) b a) (e' : 2 * h' = garF (h' + g') b a) (_ha : 0 ≤ a) (_hb : 0 ≤ b) (hl : g < g') (hh : h' < h) : False := by
  unfold garF at e e'; omega
/-- any two houses are at one in both: the divisions are the same. -/
theorem one_same (zs gs hs : List Int) (x : Int) (hz : ∀ k, 0 ≤ nth zs k) (hg : IsDiv zs x gs) (hh : IsDiv zs x hs) (h1 : ∀ i j, i < j → j < zs.length → oneB zs gs i j = true) (h2 : ∀ i j, i < j → j < zs.length → oneB zs hs i j = true) : gs = hs := by
  obtain ⟨l1, _, s1⟩ := hg
  obtain ⟨l2, _, s2⟩ := hh
  have key : ∀ i j, i < zs.length → j < zs.length → nth gs i < nth hs i → nth hs j < nth gs j → False := by
    intro i j hi hj hlt hgt
    have a0 := hz i
    have b0 := hz j
    rcases Nat.lt_trichotomy i j with e | e | e
    · have e1 := h1 i j e hj
      have e2 := h2 i j e hj
      unfold oneB at e1 e2
      rw [decide_eq_true_eq] at e1 e2
      exact one_fix _ _ _ _ _ _ e1 e2 (by omega) (by omega) hlt hgt
    · subst e; omega
    · have e1 := h1 j i e hi
      have e2 := h2 j i e hi
      unfold oneB at e1 e2
      rw [decide_eq_true_eq] at e1 e2
      exact one_fix2 _ _ _ _ _ _ e1 e2 (by omega) (by omega) hlt hgt
  refine nth_ext _ _ (by omega) fun i hi => ?_
  by_cases ha : ∃ i, i < zs.length ∧ nth gs i < nth hs i
  · obtain ⟨p, hp, hlt⟩ := ha
    have hle : ∀ k, k < gs.length → nth gs k ≤ nth hs k := fun k hk => by
      rcases Int.lt_or_le (nth hs k) (nth gs k) with h | h
      · exact absurd (key p k hp (by omega) hlt h) id
      · exact h
    have := (take_le gs hs (by omega) hle gs.length (Nat.le_refl _)).2
    rw [List.take_length, show gs.length = hs.length by omega, List.take_length] at this
    exact this (by omega) i (by omega)
  · have hle : ∀ k, k < hs.length → nth hs k ≤ nth gs k := fun k hk => by
      rcases Int.lt_or_le (nth gs k) (nth hs k) with h | h
      · exact absurd ⟨k, by omega, h⟩ ha
      · exact h
    have := (take_le hs gs (by omega) hle hs.length (Nat.le_refl _)).2
    rw [List.take_length, show hs.length = gs.length by omega, List.take_length] at this
    exact (this (by omega) i (by omega)).symm
theorem rule_lo (c d L : Int) (_hc : 0 ≤ c) (_hd : 0 ≤ d) (_hL : 0 ≤ L) : 2 * min (60 * c) L = garF (min (60 * c) L + min (60 * d) L) (120 * c) (120 * d) := by
  unfold garF; omega
theorem rule_hi (c d L : Int) (_hc : 0 ≤ c) (_hd : 0 ≤ d) (_hL : 0 ≤ L) : 2 * (120 * c - min (60 * c) L) = garF (120 * c - min (60 * c) L + (120 * d - min (60 * d) L)) (120 * c) (120 * d) := by
  unfold garF; omega
/-- by the rule any two houses are at one. -/
theorem rule_one (x : Int) (zs : List Int) (h : Full5 x zs) (i j : Nat) (hi : i < zs.length) (hj : j < zs.length) : oneB zs (gD x zs) i j = true := by
  have h5 := h.2.1
  have hq := Q_idx_sum zs h5
  have hx := h.2.2.2
  have hmi : (⟨i, by omega⟩ : Fin 5) ∈ idxL zs.length := idx_mem ⟨zs.length, by omega⟩ ⟨i, by omega⟩ hi
  have hmj : (⟨j, by omega⟩ : Fin 5) ∈ idxL zs.length := idx_mem ⟨zs.length, by omega⟩ ⟨j, by omega⟩ hj
  have qi : Q zs ⟨i, by omega⟩ = 60 * nth zs i := by unfold Q K; show nth zs i * 120 / 2 = _; omega
  have qj : Q zs ⟨j, by omega⟩ = 60 * nth zs j := by unfold Q K; show nth zs j * 120 / 2 = _; omega
  have ki : K zs ⟨i, by omega⟩ = 120 * nth zs i := by unfold K; show nth zs i * 120 = _; omega
  have kj : K zs ⟨j, by omega⟩ = 120 * nth zs j := by unfold K; show nth zs j * 120 = _; omega
  have ci := (full_nth h i).1
  have cj := (full_nth h j).1
  unfold oneB
  rw [decide_eq_true_eq, nth_gD x zs h5 i hi, nth_gD x zs h5 j hj]
  unfold dvF
  by_cases hc : 2 * x ≤ zs.sum
  · simp only [if_pos hc]
    obtain ⟨L, hL, _, hj'⟩ := lev_level (Q zs) zs.length h5 (fun i => (Q_bd zs (full_nth h) i).1) (x * 120) (by omega) ⟨x * 2, by omega⟩ (by omega)
    rw [hj', hj', if_pos hmi, if_pos hmj, qi, qj]
    exact rule_lo _ _ _ ci cj hL
  · simp only [if_neg hc]
    obtain ⟨L, hL, _, hj'⟩ := lev_level (Q zs) zs.length h5 (fun i => (Q_bd zs (full_nth h) i).1) (zs.sum * 120 - x * 120) (by omega) ⟨zs.sum * 2 - x * 2, by omega⟩ (by omega)
    rw [hj', hj', if_pos hmi, if_pos hmj, qi, qj, ki, kj]
    exact rule_hi _ _ _ ci cj hL
end Go.Proofs.Ytdnbdaegahcoeaa
