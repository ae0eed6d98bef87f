/- Layer 1: what is drawn, its four divisions, and their duality. -/
import Derived.Test.YtdnbdaegahcoeaaDualB
import Derived.Test.YtdnbdaegahcoeaaAverage
import Derived.Test.YtdnbdaegahcoeaaDivision
namespace Go.Proofs.Ytdnbdaegahcoeaa
open Go.RowKit Go.Sort
/-- what is drawn with at most 1000: one to five claims, and a worth of at most their sum. -/
def Full5 (x : Int) (zs : List Int) : Prop := 1 ≤ zs.length ∧ zs.length ≤ 5 ∧ (∀ c ∈ zs, 1 ≤ c ∧ c ≤ 1000) ∧ 0 ≤ x ∧ x ≤ zs.sum
theorem full_chk {x : Int} {zs : List Int} (h : Full5 x zs) : chk x zs = 0 := by
  obtain ⟨h1, h2, h3, h4, h5⟩ := h
  have : zs.all isClaimB = true := by
    rw [List.all_eq_true]; intro c hc; have := h3 c hc; simp [isClaimB]; omega
  simp [chk, this, show zs ≠ [] from fun h => by simp [h] at h1, show ¬ 5 < zs.length by omega, h4, h5]
theorem full_nth {x : Int} {zs : List Int} (h : Full5 x zs) (k : Nat) : 0 ≤ nth zs k ∧ nth zs k ≤ 1000 := by
  rw [nth_eq]
  rcases hz : zs[k]? with _ | y
  · simp
  · have := h.2.2.1 y (List.mem_of_getElem? hz); simp; omega
theorem full_nth1 {x : Int} {zs : List Int} (h : Full5 x zs) (k : Nat) (hk : k < zs.length) : 1 ≤ nth zs k ∧ nth zs k ≤ 1000 := by
  rw [nth_eq, List.getElem?_eq_getElem hk]
  exact h.2.2.1 _ (List.getElem_mem hk)
theorem full_small {x : Int} {zs : List Int} (h : Full5 x zs) : Small zs := ⟨h.2.1, fun k => by have := full_nth h k; omega⟩
theorem full_rest {x : Int} {zs : List Int} (h : Full5 x zs) : Full5 (zs.sum - x) zs := ⟨h.1, h.2.1, h.2.2.1, by have := h.2.2.2; omega, by have := h.2.2.2; omega⟩
theorem full_sum {x : Int} {zs : List Int} (h : Full5 x zs) : 0 ≤ zs.sum ∧ zs.sum ≤ 5000 := by
  have := take_sumB 1000 (by decide) zs (fun k _ => full_nth h k) zs.length (Nat.le_refl _)
  rw [List.take_length] at this
  have := h.2.1; omega
theorem drawn_full (m : Int) (hm : 1 ≤ m ∧ m ≤ 1000) (n x : Int) (cs : List Int) (k : Nat) (hcs : cs.length = 5) (hk : 1 + n % 5 = (k : Int)) :
    ((cs.map (dr m)).take k).length = k ∧ Full5 (x % (((cs.map (dr m)).take k).sum + 1)) ((cs.map (dr m)).take k) ∧ (∀ c ∈ (cs.map (dr m)).take k, 1 ≤ c ∧ c ≤ m) := by
  have hl : ((cs.map (dr m)).take k).length = k := by rw [List.length_take, List.length_map, hcs]; omega
  have hmm : ∀ c ∈ (cs.map (dr m)).take k, 1 ≤ c ∧ c ≤ m := by
    intro c hc
    obtain ⟨y, _, rfl⟩ := List.mem_map.1 (List.mem_of_mem_take hc)
    unfold dr
    have h1 := Int.emod_nonneg y (show m ≠ 0 by omega)
    have h2 := Int.emod_lt_of_pos y (show 0 < m by omega)
    omega
  have hs : 0 ≤ ((cs.map (dr m)).take k).sum := by
    generalize (cs.map (dr m)).take k = zs at *
    clear hl hk
    induction zs with
    | nil => simp
    | cons z zs ih => have h1 := hmm z (by simp); have h2 := ih (fun c hc => hmm c (by simp [hc])); simp; omega
  have h1 := Int.emod_nonneg x (show ((cs.map (dr m)).take k).sum + 1 ≠ 0 by omega)
  have h2 := Int.emod_lt_of_pos x (show 0 < ((cs.map (dr m)).take k).sum + 1 by omega)
  exact ⟨hl, ⟨by omega, by omega, fun c hc => by have := hmm c hc; omega, h1, by omega⟩, hmm⟩
def gD (x : Int) (zs : List Int) : List Int := (list5 (dvF x zs)).take zs.length
def gA (x : Int) (zs : List Int) : List Int := (list5 (avgP (K zs) zs.length (x * 120))).take zs.length
theorem Q_sum5 (zs : List Int) (h : zs.length ≤ 5) : 2 * (Q zs 0 + Q zs 1 + Q zs 2 + Q zs 3 + Q zs 4) = zs.sum * 120 := by
  have := K_sum h
  have h0 := Q_two zs 0; have h1 := Q_two zs 1; have h2 := Q_two zs 2; have h3 := Q_two zs 3; have h4 := Q_two zs 4
  omega
theorem du_div (x : Int) (zs : List Int) (l : Option Addr) (cap : Nat) (w : World) (h : Full5 x zs) (hA : IntsAt w l zs) : Calls Try.prog 17 #[.int .i64 x, .slice l zs.length cap] w (SlN zs.length w (gD x zs)) := by
  have hq := Q_sum5 zs h.2.1
  by_cases hc : 2 * x ≤ zs.sum
  · exact own_slN (by unfold gD dvF; rw [if_pos hc]) (list5_len _ _ h.2.1) (divide_lo x l cap zs (Q zs) w rfl hA (full_chk h) (by omega))
  · exact own_slN (by unfold gD dvF; rw [if_neg hc]) (list5_len _ _ h.2.1) (divide_hi x l cap zs (Q zs) w rfl hA (full_chk h) (by omega))
theorem du_gain (x : Int) (zs : List Int) (l : Option Addr) (cap : Nat) (w : World) (h : Full5 x zs) (hA : IntsAt w l zs) : Calls Try.prog 19 #[.int .i64 x, .slice l zs.length cap] w (SlN zs.length w (spG x zs)) :=
  own_slN rfl (list5_len _ _ h.2.1) (gains_ok x l cap zs w hA (full_chk h))
theorem du_loss (x : Int) (zs : List Int) (l : Option Addr) (cap : Nat) (w : World) (h : Full5 x zs) (hA : IntsAt w l zs) : Calls Try.prog 21 #[.int .i64 x, .slice l zs.length cap] w (SlN zs.length w (spL x zs)) :=
  own_slN rfl (list5_len _ _ h.2.1) (losses_ok x l cap zs w hA (full_chk h))
theorem du_avg (x : Int) (zs : List Int) (l : Option Addr) (cap : Nat) (w : World) (h : Full5 x zs) (hA : IntsAt w l zs) : Calls Try.prog 30 #[.int .i64 x, .slice l zs.length cap] w (SlN zs.length w (gA x zs)) :=
  own_slN rfl (list5_len _ _ h.2.1) (average_ok x l cap zs w hA (full_chk h))
theorem K120 (zs : List Int) (hz : ∀ k, 0 ≤ nth zs k ∧ nth zs k ≤ 1000) (i : Fin 5) : 0 ≤ K zs i ∧ 120 ∣ K zs i := by
  have := hz i.val
  unfold K
  exact ⟨by omega, ⟨nth zs i.val, by omega⟩⟩
theorem avg_bd (m : Fin 5 → Int) (hm : ∀ i, 0 ≤ m i ∧ 120 ∣ m i) (n : Nat) (hn : n ≤ 5) (x : Int) (h0 : 0 ≤ x) (hx : 120 ∣ x) (j : Fin 5) (hj : j ∈ idxL n) : 0 ≤ avgP m n x j ∧ avgP m n x j ≤ m j := by
  have hp := vis_perm ⟨n, by omega⟩
  have hf := fct_dvd ⟨n, by omega⟩
  simp only at hp hf
  have e := avgP_mul m n hn x (fun i => (hm i).2) hx j
  rw [addAll_eq, Int.zero_add] at e
  have hb : ∀ l : List (List (Fin 5)), (∀ o ∈ l, o.Perm (idxL n)) → 0 ≤ (l.map fun o => inF m o x (fun _ => 0) j).sum ∧ (l.map fun o => inF m o x (fun _ => 0) j).sum ≤ m j * (l.length : Int) := by
    intro l hl
    induction l with
    | nil => simp
    | cons o l ih =>
      have hpo := hl o (List.mem_cons_self ..)
      have h1 := inF_pos m (fun i => (hm i).1) o (hpo.nodup_iff.2 (idxL_nodup n)) x h0 (fun _ => 0) j (hpo.mem_iff.2 hj)
      have h2 := ih (fun o ho => hl o (List.mem_cons_of_mem _ ho))
      simp only [List.map_cons, List.sum_cons, List.length_cons]
      rw [show ((l.length + 1 : Nat) : Int) = (l.length : Int) + 1 by omega, Int.mul_add, Int.mul_one]
      omega
  have hh := hb _ hp
  rw [vis_length, e] at hh
  have hpos : 0 < (fct n : Int) := by omega
  exact ⟨Int.le_of_mul_le_mul_right (by rw [Int.zero_mul]; exact hh.1) hpos, Int.le_of_mul_le_mul_right hh.2 hpos⟩
theorem avg_isDiv (x : Int) (zs : List Int) (h5 : zs.length ≤ 5) (hz : ∀ k, 0 ≤ nth zs k ∧ nth zs k ≤ 1000) (h0 : 0 ≤ x) (h1 : x ≤ zs.sum) : IsDiv zs x (gA x zs) := by
  have hk := K_idx_sum zs h5
  exact isDiv_of zs x _ h5 (fun j hj => avg_bd (K zs) (K120 zs hz) zs.length h5 (x * 120) (by omega) ⟨x, by omega⟩ j hj) (avg_sum (K zs) (K120 zs hz) zs.length h5 (x * 120) (by omega) ⟨x, by omega⟩ (by omega))
theorem fd_isDiv {x : Int} {zs : List Int} (h : Full5 x zs) : IsDiv zs x (gD x zs) ∧ IsDiv zs x (spG x zs) ∧ IsDiv zs x (spL x zs) ∧ IsDiv zs x (gA x zs) :=
  ⟨dv_isDiv x zs h.2.1 (full_nth h) h.2.2.2.1 h.2.2.2.2, gain_isDiv x zs h.2.1 (full_nth h) h.2.2.2.1 h.2.2.2.2, loss_isDiv x zs h.2.1 (full_nth h) h.2.2.2.1 h.2.2.2.2, avg_isDiv x zs h.2.1 (full_nth h) h.2.2.2.1 h.2.2.2.2⟩
theorem st_dvn (x : Int) (zs gs : List Int) (a c : Option Addr) (cap dap : Nat) (w : World) (h : Full5 x zs) (hd : IsDiv zs x gs) (hA : IntsAt w a zs) (hG : IntsAt w c gs) :
    Calls Try.prog 39 #[.int .i64 x, .slice a zs.length cap, .slice c zs.length dap] w fun e w' => e = .returned (.bool true) ∧ w = w' := by
  have := division_any x a c cap dap zs gs w (full_small h) hd.1 hd.2.1 hd.2.2 (by have := full_sum h; have := h.2.2.2; omega) hA hG
  rw [hd.1] at this
  exact this
theorem nth_gD (x : Int) (zs : List Int) (h : zs.length ≤ 5) (i : Nat) (hi : i < zs.length) : nth (gD x zs) i = dvF x zs ⟨i, by omega⟩ := list5_nth _ _ h i hi
theorem nth_gA (x : Int) (zs : List Int) (h : zs.length ≤ 5) (i : Nat) (hi : i < zs.length) : nth (gA x zs) i = avgP (K zs) zs.length (x * 120) ⟨i, by omega⟩ := list5_nth _ _ h i hi
theorem nth_spG (x : Int) (zs : List Int) (h : zs.length ≤ 5) (i : Nat) (hi : i < zs.length) : nth (spG x zs) i = lev (K zs) zs.length (x * 120) ⟨i, by omega⟩ := list5_nth _ _ h i hi
theorem nth_spL (x : Int) (zs : List Int) (h : zs.length ≤ 5) (i : Nat) (hi : i < zs.length) : nth (spL x zs) i = K zs ⟨i, by omega⟩ - lev (K zs) zs.length (zs.sum * 120 - x * 120) ⟨i, by omega⟩ := list5_nth _ _ h i hi
/-- the three sums of ClaimDual. -/
theorem dual_nth {x : Int} {zs : List Int} (h : Full5 x zs) (i : Nat) (hi : i < zs.length) :
    nth (gD x zs) i + nth (gD (zs.sum - x) zs) i = 120 * nth zs i ∧ nth (gA x zs) i + nth (gA (zs.sum - x) zs) i = 120 * nth zs i ∧ nth (spG x zs) i + nth (spL (zs.sum - x) zs) i = 120 * nth zs i := by
  have h5 := h.2.1
  have hm : (⟨i, by omega⟩ : Fin 5) ∈ idxL zs.length := idx_mem ⟨zs.length, by omega⟩ ⟨i, by omega⟩ hi
  have hk : K zs ⟨i, by omega⟩ = nth zs i * 120 := rfl
  rw [nth_gD x zs h5 i hi, nth_gD _ zs h5 i hi, nth_gA x zs h5 i hi, nth_gA _ zs h5 i hi, nth_spG x zs h5 i hi, nth_spL _ zs h5 i hi]
  have h1 := dv_dual x zs h5 (full_nth h) _ hm
  have h2 := avg_dual (K zs) (K120 zs (full_nth h)) zs.length h5 (x * 120) (by have := h.2.2.2; omega) ⟨x, by omega⟩ (by rw [K_idx_sum zs h5]; exact ⟨zs.sum, by omega⟩) (by rw [K_idx_sum zs h5]; have := h.2.2.2; omega) _ hm
  rw [K_idx_sum zs h5, show zs.sum * 120 - x * 120 = (zs.sum - x) * 120 by omega] at h2
  refine ⟨by omega, by omega, ?_⟩
  rw [show zs.sum * 120 - (zs.sum - x) * 120 = x * 120 by omega]
  omega
end Go.Proofs.Ytdnbdaegahcoeaa
