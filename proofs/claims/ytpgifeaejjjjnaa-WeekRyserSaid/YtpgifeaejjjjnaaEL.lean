/- crs_same: the reference's crossings are package week's; Cross 35: rcross_any, the same answer as cross_any -/
import Derived.Test.YtpgifeaejjjjnaaEJ
import Derived.Test.YtpgifeaejjjjnaaEK
namespace Go.Proofs.Ytpgifeaejjjjnaa
open Go.RowKit Go.Sort
theorem stF_str (zss : List (List Int)) (r : List Int) (k : Nat) : stF zss r k = nth (lth zss k) (nth r k).toNat := rfl
theorem strF_mem (zss : List (List Int)) (r : List Int) (x : Int) : ∀ k, x ∈ strF zss r k ↔ ∃ j, j < k ∧ stF zss r j = x
  | 0 => ⟨fun h => absurd h (by simp [strF]), fun ⟨j, h, _⟩ => absurd h (Nat.not_lt_zero _)⟩
  | k + 1 => by
    have ih := strF_mem zss r x k
    cases h : (strF zss r k).contains (nth (lth zss k) (nth r k).toNat)
    · rw [strF_two zss r k h, List.mem_append, ih, List.mem_singleton]
      constructor
      · rintro (⟨j, hj, e⟩ | e)
        · exact ⟨j, by omega, e⟩
        · exact ⟨k, by omega, e.symm⟩
      · rintro ⟨j, hj, e⟩
        rcases Nat.lt_or_ge j k with h1 | h1
        · exact .inl ⟨j, h1, e⟩
        · obtain rfl : j = k := by omega
          exact .inr e.symm
    · rw [strF_one zss r k h, ih]
      constructor
      · rintro ⟨j, hj, e⟩
        exact ⟨j, by omega, e⟩
      · rintro ⟨j, hj, e⟩
        rcases Nat.lt_or_ge j k with h1 | h1
        · exact ⟨j, h1, e⟩
        · obtain rfl : j = k := by omega
          have h2 : nth (lth zss j) (nth r j).toNat ∈ strF zss r j := by simpa using h
          rw [← stF_str, e] at h2
          exact ih.1 h2
theorem strF_all (zss : List (List Int)) (r : List Int) : ∀ k, (strF zss r k).length = k ↔ ∀ i, i < k → ∀ j, j < i → stF zss r j ≠ stF zss r i
  | 0 => ⟨fun _ i h => absurd h (Nat.not_lt_zero _), fun _ => rfl⟩
  | k + 1 => by
    have ih := strF_all zss r k
    have hm := strF_mem zss r (stF zss r k) k
    have hl := strF_len zss r k
    cases h : (strF zss r k).contains (nth (lth zss k) (nth r k).toNat)
    · have h2 : ¬ stF zss r k ∈ strF zss r k := by rw [stF_str]; simpa using h
      rw [strF_two zss r k h, List.length_append, List.length_singleton]
      constructor
      · intro e i hi j hj
        rcases Nat.lt_or_ge i k with h1 | h1
        · exact ih.1 (by omega) i h1 j hj
        · obtain rfl : i = k := by omega
          exact fun q => h2 (hm.2 ⟨j, hj, q⟩)
      · intro q
        have := ih.2 (fun i hi => q i (by omega))
        omega
    · have h2 : stF zss r k ∈ strF zss r k := by rw [stF_str]; simpa using h
      rw [strF_one zss r k h]
      constructor
      · intro e; omega
      · intro q
        obtain ⟨j, hj, e⟩ := hm.1 h2
        exact (q k (by omega) j hj e).elim
/-- the reference's crossings are package week's. -/
theorem crs_same (n : Nat) (zss : List (List Int)) : crsR n zss = crsL n zss := by
  unfold crsR crsL
  refine List.filter_congr fun r hr => ?_
  have hl := ord_len hr
  unfold crsB
  rw [decide_eq_decide, hl]
  exact strF_all zss r n
theorem crsRN_same (c : Int) (zss : List (List Int)) : crsRN c zss = crsN c zss := by
  unfold crsRN crsN
  rw [crs_same]
set_option maxRecDepth 100000 in
theorem rcross_any (c : Int) (a : Option Addr) (cap : Nat) (zss : List (List Int)) (w : World) (hL : LstC w a zss) (hcap : zss.length ≤ cap) (hcm : cap ≤ 9223372036854775807) :
    Calls Try.prog 35 #[.int .i64 c, .slice a zss.length cap] w (TupI (crE c zss) (crL c zss) w) := by
  have HC := Lib.hid (rwhole_any c a cap zss w hL hcap hcm)
  unfold crE crL
  by_cases hs : fulE c zss = 0
  · rw [if_pos hs, if_pos hs]
    rw [hs] at HC
    obtain ⟨c1, c5, hn, hrow⟩ := ful_rows hs
    obtain ⟨n, rfl⟩ := Int.eq_ofNat_of_zero_le (show 0 ≤ c by omega)
    rw [show ((n : Int)).toNat = n by simp]
    obtain rfl : zss.length = n := by omega
    have HCC := Lib.hid (fun W (F : Fut w W) => rcrossings_any zss.length (by omega) a cap zss W (hL.fut F) rfl (fun k hk => by have := (hrow k hk).1; omega))
    have hcx : ((crsR zss.length zss).length : Int) ≤ 5000 := by have := crsR_len zss (n := zss.length) (by omega); omega
    rw [crs_same] at HCC hcx
    clear hL hs hrow hcap hcm
    generalize crsL zss.length zss = cr at *
    by_cases he : cr = []
    · subst he
      rw [if_pos rfl]
      go_enter Try.func35, Try.ntmps35
      go_wp2_with fail
      refine HC.out.mono ?_
      rintro _ w1 ⟨rfl, F1⟩
      have HF1 := Lib.hid F1
      have H2 := Lib.hid (HCC.out w1 F1)
      clear F1 HCC HC
      go_wp2_with fail
      refine H2.out.mono ?_
      rintro _ w2 ⟨v, rfl, hX, F2⟩
      obtain ⟨l, lc, rfl, _, _, _⟩ := hX.listsC
      have HF2 := Lib.hid (HF1.out.trans F2)
      clear hX F2
      go_wp2
      go_ret2
      exact TupI.nil 12 HF2.out
    · have hp : 0 < cr.length := List.length_pos_iff.2 he
      have HP := Lib.hid hp
      have hpx : (0 : Int) < cr.length := by omega
      have hpb : ((cr.length : Int) == 0) = false := by rw [beq_eq_false_iff_ne]; omega
      have hpn : ¬ (cr.length : Int) = 0 := by omega
      rw [if_neg he]
      clear he
      go_enter Try.func35, Try.ntmps35
      go_wp2_with fail
      refine HC.out.mono ?_
      rintro _ w1 ⟨rfl, F1⟩
      have HF1 := Lib.hid F1
      have H2 := Lib.hid (HCC.out w1 F1)
      clear F1 HCC HC
      go_wp2_with fail
      refine H2.out.mono ?_
      rintro _ w2 ⟨v, rfl, hX, F2⟩
      obtain ⟨g, cc, vals, rfl, _⟩ := hX.take HP.out
      obtain ⟨al, ac, hgs, hcell, hOr⟩ := hX.at 0 HP.out
      have HOR := Lib.hid hOr
      have HF2 := Lib.hid (HF1.out.trans F2)
      generalize lth cr 0 = row at *
      clear hX F2 hOr H2
      go_wp2
      go_ret2
      obtain ⟨a', c', e, q1, q2, hI⟩ := HOR.out.form
      simp only [Value.slice.injEq, true_and] at e
      obtain ⟨rfl, rfl⟩ := e
      exact ⟨al, ac, rfl, q1, by unfold maxLen at q2; omega, hI, HF2.out⟩
  · rw [if_neg hs, if_neg hs]
    clear hL
    generalize fulE c zss = E at *
    go_enter Try.func35, Try.ntmps35
    go_wp2_with fail
    refine HC.out.mono ?_
    rintro _ w1 ⟨rfl, F⟩
    have HF := Lib.hid F
    clear F
    go_wp2
    go_ret2
    exact TupI.nil E HF.out
end Go.Proofs.Ytpgifeaejjjjnaa
