/- Layer 1: the reference's lists are the program's. -/
import Derived.Test.YtdnbdaegahcoeaaRuleB
namespace Go.Proofs.Ytdnbdaegahcoeaa
open Go.RowKit Go.Sort
theorem lev_list (m : Fin 5 → Int) (bs : List Int) (n : Nat) (hn : bs.length = n) (h5 : n ≤ 5) (hm : ∀ i, 0 ≤ m i ∧ 60 ∣ m i) (hb : ∀ i (h : i < n), m ⟨i, by omega⟩ = nth bs i ∧ nth bs i ≤ 1000000) (p : Int) (hp : 0 ≤ p) (hd : 60 ∣ p) (hs : p ≤ ((idxL n).map m).sum) :
    ∃ M, (0 ≤ M ∧ M ≤ 1000000) ∧ (list5 (lev m n p)).take n = bs.map (min M ·) ∧ (bs.map (min M ·)).sum = p := by
  obtain ⟨L, hL, _, hj⟩ := lev_level m n h5 hm p hp hd hs
  have e : (list5 (lev m n p)).take n = bs.map (min (min L 1000000) ·) := by
    refine nth_ext _ _ (by rw [list5_len _ _ h5, List.length_map, hn]) fun i hi => ?_
    rw [list5_len _ _ h5] at hi
    obtain ⟨h1, h2⟩ := hb i hi
    rw [list5_nth _ _ h5 i hi, hj, if_pos (idx_mem ⟨n, by omega⟩ ⟨i, by omega⟩ hi), min_nth _ _ _ (by omega), h1]
    omega
  refine ⟨min L 1000000, by omega, e, ?_⟩
  rw [← e, take_idx, lev_sum m n h5 hm p hp hd hs]
theorem mul_nth (m : Int) (zs : List Int) (i : Nat) (h : i < zs.length) : nth (zs.map (m * ·)) i = m * nth zs i := by
  rw [nth_eq, nth_eq, List.getElem?_map, List.getElem?_eq_getElem h]; rfl
theorem Q_at (zs : List Int) (i : Nat) (h : i < 5) : Q zs ⟨i, h⟩ = 60 * nth zs i := by unfold Q K; show nth zs i * 120 / 2 = _; omega
theorem K_at (zs : List Int) (i : Nat) (h : i < 5) : K zs ⟨i, h⟩ = 120 * nth zs i := by unfold K; show nth zs i * 120 = _; omega
theorem gD_lo {x : Int} {zs : List Int} (h : Full5 x zs) (hc : 2 * x ≤ zs.sum) : ∃ M, (0 ≤ M ∧ M ≤ 1000000) ∧ gD x zs = (zs.map (60 * ·)).map (min M ·) ∧ 120 * x = ((zs.map (60 * ·)).map (min M ·)).sum := by
  have h5 := h.2.1
  have hx := h.2.2.2
  have hq := Q_idx_sum zs h5
  obtain ⟨M, hM, e, hs⟩ := lev_list (Q zs) (zs.map (60 * ·)) zs.length (by simp) h5 (fun i => (Q_bd zs (full_nth h) i).1) (fun i hi => by
    rw [Q_at, mul_nth 60 zs i hi]; have := full_nth h i; omega) (x * 120) (by omega) ⟨x * 2, by omega⟩ (by omega)
  refine ⟨M, hM, ?_, by rw [hs]; omega⟩
  rw [← e]; unfold gD dvF; rw [if_pos hc]
theorem gD_hi {x : Int} {zs : List Int} (h : Full5 x zs) (hc : ¬ 2 * x ≤ zs.sum) : ∃ M, (0 ≤ M ∧ M ≤ 1000000) ∧ gD x zs = subL (zs.map (120 * ·)) ((zs.map (60 * ·)).map (min M ·)) ∧ 120 * (zs.sum - x) = ((zs.map (60 * ·)).map (min M ·)).sum := by
  have h5 := h.2.1
  have hx := h.2.2.2
  have hq := Q_idx_sum zs h5
  obtain ⟨M, hM, e, hs⟩ := lev_list (Q zs) (zs.map (60 * ·)) zs.length (by simp) h5 (fun i => (Q_bd zs (full_nth h) i).1) (fun i hi => by
    rw [Q_at, mul_nth 60 zs i hi]; have := full_nth h i; omega) (zs.sum * 120 - x * 120) (by omega) ⟨zs.sum * 2 - x * 2, by omega⟩ (by omega)
  refine ⟨M, hM, ?_, by rw [hs]; omega⟩
  rw [← e]
  refine nth_ext _ _ (by rw [sub_len, List.length_map]; exact list5_len _ _ h5) fun i hi => ?_
  have hi' : i < zs.length := by have : (gD x zs).length = zs.length := list5_len _ _ h5; omega
  rw [sub_nth _ _ _ (by simpa using hi'), mul_nth 120 zs i hi', nth_gD x zs h5 i hi', list5_nth _ _ h5 i hi']
  unfold dvF
  rw [if_neg hc, K_at]
theorem spG_list {x : Int} {zs : List Int} (h : Full5 x zs) : ∃ M, (0 ≤ M ∧ M ≤ 1000000) ∧ spG x zs = (zs.map (120 * ·)).map (min M ·) ∧ 120 * x = ((zs.map (120 * ·)).map (min M ·)).sum := by
  have h5 := h.2.1
  have hx := h.2.2.2
  have hk := K_idx_sum zs h5
  obtain ⟨M, hM, e, hs⟩ := lev_list (K zs) (zs.map (120 * ·)) zs.length (by simp) h5 (K_bd zs (full_nth h)) (fun i hi => by
    rw [K_at, mul_nth 120 zs i hi]; have := full_nth h i; omega) (x * 120) (by omega) ⟨x * 2, by omega⟩ (by omega)
  exact ⟨M, hM, e, by rw [hs]; omega⟩
theorem spL_list {x : Int} {zs : List Int} (h : Full5 x zs) : ∃ M, (0 ≤ M ∧ M ≤ 1000000) ∧ spL x zs = subL (zs.map (120 * ·)) ((zs.map (120 * ·)).map (min M ·)) ∧ 120 * (zs.sum - x) = ((zs.map (120 * ·)).map (min M ·)).sum := by
  have h5 := h.2.1
  have hx := h.2.2.2
  have hk := K_idx_sum zs h5
  obtain ⟨M, hM, e, hs⟩ := lev_list (K zs) (zs.map (120 * ·)) zs.length (by simp) h5 (K_bd zs (full_nth h)) (fun i hi => by
    rw [K_at, mul_nth 120 zs i hi]; have := full_nth h i; omega) (zs.sum * 120 - x * 120) (by omega) ⟨zs.sum * 2 - x * 2, by omega⟩ (by omega)
  refine ⟨M, hM, ?_, by rw [hs]; omega⟩
  rw [← e]
  refine nth_ext _ _ (by rw [sub_len, List.length_map]; exact list5_len _ _ h5) fun i hi => ?_
  have hi' : i < zs.length := by have : (spL x zs).length = zs.length := list5_len _ _ h5; omega
  rw [sub_nth _ _ _ (by simpa using hi'), mul_nth 120 zs i hi', nth_spL x zs h5 i hi', list5_nth _ _ h5 i hi', K_at]
/-- a call that hands back n numbers in a slice. -/
abbrev SlO (n : Nat) (w : World) (zs : List Int) (e : Ending) (w' : World) : Prop := ∃ l cap, e = .returned (.slice l n cap) ∧ IntsAt w' l zs ∧ Fut w w'
theorem own_slO {n : Nat} {w : World} {zs : List Int} {P : Program} {k : Nat} {args : Array Value} (hl : zs.length = n)
    (h : Calls P k args w fun e w' => ∃ v, e = .returned v ∧ Owns w' w.heap.size v zs ∧ RowKit.Below w.heap.size w w') : Calls P k args w (SlO n w zs) := by
  refine h.mono ?_
  rintro e w' ⟨v, rfl, hO, hB⟩
  obtain ⟨l, cap, rfl, hA, hF⟩ := own_out hl hO hB
  exact ⟨l, cap, rfl, hA, hF⟩
theorem tm_len (m x : Int) (a : Option Addr) (cap : Nat) (zs : List Int) (w : World) (hm : 0 ≤ m ∧ m ≤ 120) (h : Full5 x zs) (hA : IntsAt w a zs) : Calls Try.prog 61 #[.slice a zs.length cap, .int .i64 m] w (SlO zs.length w (zs.map (m * ·))) :=
  own_slO (by simp) (times_any m a cap zs w hm h.2.1 h.1 (full_nth h) hA)
theorem cp_len (T M x m : Int) (a : Option Addr) (cap : Nat) (zs : List Int) (w : World) (hm : 0 ≤ m ∧ m ≤ 120) (h : Full5 x zs) (hM : 0 ≤ M ∧ M ≤ 1000000) (hT : T = ((zs.map (m * ·)).map (min M ·)).sum) (hA : IntsAt w a (zs.map (m * ·))) :
    Calls Try.prog 63 #[.int .i64 T, .slice a zs.length cap] w (SlO zs.length w ((zs.map (m * ·)).map (min M ·))) := by
  have hl : (zs.map (m * ·)).length = zs.length := by simp
  have := capped_any T M a cap (zs.map (m * ·)) w hM hT (by rw [hl]; exact h.2.1) (by rw [hl]; exact h.1) (fun k hk => by
    rw [hl] at hk
    rw [mul_nth m zs k hk]
    have hz := full_nth h k
    have h1 : 0 ≤ m * nth zs k := Int.mul_nonneg hm.1 hz.1
    have h2 : m * nth zs k ≤ 120 * 1000 := Int.mul_le_mul hm.2 hz.2 hz.1 (by omega)
    omega) hA
  rw [hl] at this
  exact own_slO (by simp) this
theorem ls_len (x m M : Int) (a c : Option Addr) (cap dap : Nat) (zs : List Int) (w : World) (hm : 0 ≤ m ∧ m ≤ 120) (h : Full5 x zs) (hM : 0 ≤ M ∧ M ≤ 1000000) (hA : IntsAt w a (zs.map (120 * ·))) (hC : IntsAt w c ((zs.map (m * ·)).map (min M ·))) :
    Calls Try.prog 64 #[.slice a zs.length cap, .slice c zs.length dap] w (SlO zs.length w (subL (zs.map (120 * ·)) ((zs.map (m * ·)).map (min M ·)))) :=
  own_slO (by rw [sub_len]; simp) (less_any a c cap dap zs.length _ _ w (by simp) (by simp) h.2.1 h.1 (fun k hk => by rw [mul_nth 120 zs k hk]; have := full_nth h k; omega) (fun k hk => by
    rw [min_nth _ _ _ (by simpa using hk), mul_nth m zs k hk]
    have hz := full_nth h k
    have h1 : 0 ≤ m * nth zs k := Int.mul_nonneg hm.1 hz.1
    omega) hA hC)
end Go.Proofs.Ytdnbdaegahcoeaa
