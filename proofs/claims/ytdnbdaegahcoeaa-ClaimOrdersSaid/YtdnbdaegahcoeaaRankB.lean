/- Layer 1: houses in another order, and who claims more. -/
import Derived.Test.YtdnbdaegahcoeaaAllW
import Derived.Test.YtdnbdaegahcoeaaRankA
import Derived.Test.YtdnbdaegahcoeaaBestA
namespace Go.Proofs.Ytdnbdaegahcoeaa
open Go.RowKit Go.Sort
def swp (zs : List Int) (i k : Nat) : List Int := (zs.set i (nth zs k)).set k (nth zs i)
def sw (i k j : Nat) : Nat := if j = i then k else if j = k then i else j
theorem swp_len (zs : List Int) (i k : Nat) : (swp zs i k).length = zs.length := by simp [swp]
theorem nth_set (zs : List Int) (i j : Nat) (v : Int) (h : i < zs.length) : nth (zs.set i v) j = if j = i then v else nth zs j := by
  rw [nth_eq, nth_eq, List.getElem?_set]
  by_cases e : i = j
  · subst e; rw [if_pos rfl, if_pos h, if_pos rfl]; rfl
  · rw [if_neg e, if_neg (fun e' => e e'.symm)]
theorem nth_swp (zs : List Int) (i k j : Nat) (hi : i < zs.length) (hk : k < zs.length) : nth (swp zs i k) j = nth zs (sw i k j) := by
  unfold swp sw
  rw [nth_set _ _ _ _ (by simpa using hk), nth_set _ _ _ _ hi]
  by_cases e1 : j = k
  · subst e1
    rw [if_pos rfl, if_pos rfl]
    by_cases e2 : j = i
    · rw [if_pos e2, e2]
    · rw [if_neg e2]
  · rw [if_neg e1, if_neg e1]
    by_cases e2 : j = i
    · rw [if_pos e2, if_pos e2]
    · rw [if_neg e2, if_neg e2]
theorem sw_lt (i k j n : Nat) (hi : i < n) (hk : k < n) (hj : j < n) : sw i k j < n := by
  unfold sw; split <;> (try split) <;> omega
theorem tau_val (n i k : Nat) (hn : n ≤ 5) (hi : i < n) (hk : k < n) (a : Fin 5) : (tauF ⟨i, by omega⟩ ⟨k, by omega⟩ a).val = sw i k a.val := by
  unfold tauF sw
  by_cases e1 : a.val = i
  · rw [if_pos (Fin.ext e1), if_pos e1]
  · rw [if_neg (fun e => e1 (congrArg Fin.val e)), if_neg e1]
    by_cases e2 : a.val = k
    · rw [if_pos (Fin.ext e2), if_pos e2]
    · rw [if_neg (fun e => e2 (congrArg Fin.val e)), if_neg e2]
theorem K_swp (zs : List Int) (h5 : zs.length ≤ 5) (i k : Nat) (hi : i < zs.length) (hk : k < zs.length) : K (swp zs i k) = fun a => K zs (tauF ⟨i, by omega⟩ ⟨k, by omega⟩ a) := by
  funext a
  unfold K
  rw [nth_swp zs i k a.val hi hk, tau_val zs.length i k h5 hi hk]
theorem Q_swp (zs : List Int) (h5 : zs.length ≤ 5) (i k : Nat) (hi : i < zs.length) (hk : k < zs.length) : Q (swp zs i k) = fun a => Q zs (tauF ⟨i, by omega⟩ ⟨k, by omega⟩ a) := by
  unfold Q; rw [K_swp zs h5 i k hi hk]
theorem sum_swp (zs : List Int) (h5 : zs.length ≤ 5) (i k : Nat) (hi : i < zs.length) (hk : k < zs.length) : (swp zs i k).sum = zs.sum := by
  have h1 := K_idx_sum zs h5
  have h2 := K_idx_sum (swp zs i k) (by rw [swp_len]; exact h5)
  rw [swp_len, K_swp zs h5 i k hi hk] at h2
  have h3 := perm_sum ((tau_idx ⟨zs.length, by omega⟩ ⟨i, by omega⟩ ⟨k, by omega⟩ hi hk).map (K zs))
  rw [List.map_map] at h3
  simp only [Function.comp_def] at h3
  omega
theorem full_of {x : Int} {zs : List Int} (h1 : 1 ≤ zs.length) (h5 : zs.length ≤ 5) (hz : ∀ k, k < zs.length → 1 ≤ nth zs k ∧ nth zs k ≤ 1000) (hx : 0 ≤ x ∧ x ≤ zs.sum) : Full5 x zs := by
  refine ⟨h1, h5, fun c hc => ?_, hx⟩
  obtain ⟨k, hk, e⟩ := List.mem_iff_getElem.1 hc
  have := hz k hk
  rw [nth_eq, List.getElem?_eq_getElem hk] at this
  simp only [Option.getD_some, e] at this
  exact this
theorem full_swp {x : Int} {zs : List Int} (h : Full5 x zs) (i k : Nat) (hi : i < zs.length) (hk : k < zs.length) : Full5 x (swp zs i k) := by
  refine full_of (by rw [swp_len]; exact h.1) (by rw [swp_len]; exact h.2.1) (fun j hj => ?_) (by rw [sum_swp zs h.2.1 i k hi hk]; exact h.2.2.2)
  rw [swp_len] at hj
  rw [nth_swp zs i k j hi hk]
  exact full_nth1 h _ (sw_lt i k j _ hi hk hj)
theorem dk_swp {x : Int} {zs : List Int} (h : Full5 x zs) (i k : Nat) (hi : i < zs.length) (hk : k < zs.length) (c j : Nat) (hj : j < zs.length) : nth (DkL x (swp zs i k) c) j = nth (DkL x zs c) (sw i k j) := by
  have h5 := h.2.1
  have hx := h.2.2.2
  have hl := swp_len zs i k
  have h5' : (swp zs i k).length ≤ 5 := by omega
  have hs := sw_lt i k j _ hi hk hj
  have hT : ∀ (hj5 : j < 5) (hs5 : sw i k j < 5), tauF ⟨i, by omega⟩ ⟨k, by omega⟩ ⟨j, hj5⟩ = ⟨sw i k j, hs5⟩ := fun hj5 hs5 => Fin.ext (tau_val zs.length i k h5 hi hk ⟨j, hj5⟩)
  have hK := K_swp zs h5 i k hi hk
  have hQ := Q_swp zs h5 i k hi hk
  have hS := sum_swp zs h5 i k hi hk
  have hks := K_idx_sum zs h5
  have hqs := Q_idx_sum zs h5
  have hj5 : j < 5 := by omega
  have hs5 : sw i k j < 5 := by omega
  have hT' := hT hj5 hs5
  match c with
  | 0 =>
    show nth (gD x (swp zs i k)) j = nth (gD x zs) _
    have e1 : nth (gD x (swp zs i k)) j = dvF x (swp zs i k) ⟨j, hj5⟩ := nth_gD x _ h5' j (by omega)
    have e2 : nth (gD x zs) (sw i k j) = dvF x zs ⟨sw i k j, hs5⟩ := nth_gD x zs h5 _ hs
    rw [e1, e2, ← hT']
    unfold dvF
    rw [hS, hl, hQ, hK]
    by_cases hc : 2 * x ≤ zs.sum
    · rw [if_pos hc, if_pos hc]
      exact lev_tau (Q zs) zs.length h5 (fun i => (Q_bd zs (full_nth h) i).1) _ _ hi hk (x * 120) (by omega) ⟨x * 2, by omega⟩ (by omega) _ hj
    · rw [if_neg hc, if_neg hc]
      have := lev_tau (Q zs) zs.length h5 (fun i => (Q_bd zs (full_nth h) i).1) ⟨i, by omega⟩ ⟨k, by omega⟩ hi hk (zs.sum * 120 - x * 120) (by omega) ⟨zs.sum * 2 - x * 2, by omega⟩ (by omega) ⟨j, hj5⟩ hj
      simp only
      rw [this]
  | 1 =>
    show nth (spG x (swp zs i k)) j = nth (spG x zs) _
    have e1 : nth (spG x (swp zs i k)) j = lev (K (swp zs i k)) (swp zs i k).length (x * 120) ⟨j, hj5⟩ := nth_spG x _ h5' j (by omega)
    have e2 : nth (spG x zs) (sw i k j) = lev (K zs) zs.length (x * 120) ⟨sw i k j, hs5⟩ := nth_spG x zs h5 _ hs
    rw [e1, e2, ← hT', hl, hK]
    exact lev_tau (K zs) zs.length h5 (K_bd zs (full_nth h)) _ _ hi hk (x * 120) (by omega) ⟨x * 2, by omega⟩ (by omega) _ hj
  | 2 =>
    show nth (spL x (swp zs i k)) j = nth (spL x zs) _
    have e1 : nth (spL x (swp zs i k)) j = K (swp zs i k) ⟨j, hj5⟩ - lev (K (swp zs i k)) (swp zs i k).length ((swp zs i k).sum * 120 - x * 120) ⟨j, hj5⟩ := nth_spL x _ h5' j (by omega)
    have e2 : nth (spL x zs) (sw i k j) = K zs ⟨sw i k j, hs5⟩ - lev (K zs) zs.length (zs.sum * 120 - x * 120) ⟨sw i k j, hs5⟩ := nth_spL x zs h5 _ hs
    rw [e1, e2, ← hT', hl, hS, hK]
    have := lev_tau (K zs) zs.length h5 (K_bd zs (full_nth h)) ⟨i, by omega⟩ ⟨k, by omega⟩ hi hk (zs.sum * 120 - x * 120) (by omega) ⟨zs.sum * 2 - x * 2, by omega⟩ (by omega) ⟨j, hj5⟩ hj
    simp only
    rw [this]
  | c + 3 =>
    show nth (gA x (swp zs i k)) j = nth (gA x zs) _
    have e1 : nth (gA x (swp zs i k)) j = avgP (K (swp zs i k)) (swp zs i k).length (x * 120) ⟨j, hj5⟩ := nth_gA x _ h5' j (by omega)
    have e2 : nth (gA x zs) (sw i k j) = avgP (K zs) zs.length (x * 120) ⟨sw i k j, hs5⟩ := nth_gA x zs h5 _ hs
    rw [e1, e2, ← hT', hl, hK]
    unfold avgP
    rw [addAll_tau (K zs) zs.length h5 _ _ hi hk]
/-- who claims more gets and loses no less. -/
theorem rank_dk {x : Int} {zs : List Int} (h : Full5 x zs) (c i j : Nat) (hi : i < zs.length) (hj : j < zs.length) (hz : nth zs j ≤ nth zs i) :
    nth (DkL x zs c) j ≤ nth (DkL x zs c) i ∧ 120 * nth zs j - nth (DkL x zs c) j ≤ 120 * nth zs i - nth (DkL x zs c) i := by
  have h5 := h.2.1
  have hx := h.2.2.2
  have hqs := Q_idx_sum zs h5
  have hmi : (⟨i, by omega⟩ : Fin 5) ∈ idxL zs.length := idx_mem ⟨zs.length, by omega⟩ ⟨i, by omega⟩ hi
  have hmj : (⟨j, by omega⟩ : Fin 5) ∈ idxL zs.length := idx_mem ⟨zs.length, by omega⟩ ⟨j, by omega⟩ hj
  have qi : Q zs ⟨i, by omega⟩ = 60 * nth zs i := by unfold Q K; show nth zs i * 120 / 2 = _; omega
  have qj : Q zs ⟨j, by omega⟩ = 60 * nth zs j := by unfold Q K; show nth zs j * 120 / 2 = _; omega
  have ki : K zs ⟨i, by omega⟩ = 120 * nth zs i := by unfold K; show nth zs i * 120 = _; omega
  have kj : K zs ⟨j, by omega⟩ = 120 * nth zs j := by unfold K; show nth zs j * 120 = _; omega
  have ci := (full_nth h i).1
  have cj := (full_nth h j).1
  match c with
  | 0 =>
    show nth (gD x zs) j ≤ nth (gD x zs) i ∧ 120 * nth zs j - nth (gD x zs) j ≤ 120 * nth zs i - nth (gD x zs) i
    rw [nth_gD x zs h5 i hi, nth_gD x zs h5 j hj]
    unfold dvF
    by_cases hc : 2 * x ≤ zs.sum
    · simp only [if_pos hc]
      obtain ⟨L, hL, _, hj'⟩ := lev_level (Q zs) zs.length h5 (fun i => (Q_bd zs (full_nth h) i).1) (x * 120) (by omega) ⟨x * 2, by omega⟩ (by omega)
      rw [hj', hj', if_pos hmi, if_pos hmj, qi, qj]
      omega
    · simp only [if_neg hc]
      obtain ⟨L, hL, _, hj'⟩ := lev_level (Q zs) zs.length h5 (fun i => (Q_bd zs (full_nth h) i).1) (zs.sum * 120 - x * 120) (by omega) ⟨zs.sum * 2 - x * 2, by omega⟩ (by omega)
      rw [hj', hj', if_pos hmi, if_pos hmj, qi, qj, ki, kj]
      omega
  | 1 =>
    obtain ⟨L, hL, hf⟩ := gain_form h
    have e1 := hf i hi
    have e2 := hf j hj
    show nth (spG x zs) j ≤ nth (spG x zs) i ∧ 120 * nth zs j - nth (spG x zs) j ≤ 120 * nth zs i - nth (spG x zs) i
    omega
  | 2 =>
    obtain ⟨L, hL, hf⟩ := loss_form h
    have e1 := hf i hi
    have e2 := hf j hj
    show nth (spL x zs) j ≤ nth (spL x zs) i ∧ 120 * nth zs j - nth (spL x zs) j ≤ 120 * nth zs i - nth (spL x zs) i
    omega
  | c + 3 =>
    show nth (gA x zs) j ≤ nth (gA x zs) i ∧ 120 * nth zs j - nth (gA x zs) j ≤ 120 * nth zs i - nth (gA x zs) i
    rw [nth_gA x zs h5 i hi, nth_gA x zs h5 j hj, ← ki, ← kj]
    have hr := addAll_rank (K zs) (fun a => (K120 zs (full_nth h) a).1) zs.length h5 ⟨i, by omega⟩ ⟨j, by omega⟩ hi hj (by rw [ki, kj]; omega) (x * 120) (by omega)
    have m1 := avgP_mul (K zs) zs.length h5 (x * 120) (fun a => (K120 zs (full_nth h) a).2) ⟨x, by omega⟩ ⟨i, by omega⟩
    have m2 := avgP_mul (K zs) zs.length h5 (x * 120) (fun a => (K120 zs (full_nth h) a).2) ⟨x, by omega⟩ ⟨j, by omega⟩
    rw [m1, m2] at hr
    have hf := (fct_dvd ⟨zs.length, by omega⟩).2
    simp only at hf
    have hp : 0 < (fct zs.length : Int) := by omega
    refine ⟨Int.le_of_mul_le_mul_right hr.1 hp, Int.le_of_mul_le_mul_right (a := (fct zs.length : Int)) ?_ hp⟩
    rw [Int.sub_mul, Int.sub_mul]
    exact hr.2
end Go.Proofs.Ytdnbdaegahcoeaa
