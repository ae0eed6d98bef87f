/- Count, Cross, Crosses. -/
import Derived.Test.YtpgifeaejjjjnaaCJ
namespace Go.Proofs.Ytpgifeaejjjjnaa
open Go.RowKit Go.Sort
attribute [local go_sem] Oper.semAt_some
open Go.Shelf
/-- what a function answers that returns a number and an error. -/
abbrev TupN (r s : Int) (w : World) (e : Ending) (w' : World) : Prop := e = .returned (.tuple #[.int .i64 s, .int .i64 r]) ∧ Fut w w'
set_option maxRecDepth 100000 in
theorem count26_any (c : Int) (a : Option Addr) (cap : Nat) (zss : List (List Int)) (w : World) (hL : LstC w a zss) (hcap : zss.length ≤ cap) (hcm : cap ≤ 9223372036854775807) :
    Calls Try.prog 26 #[.int .i64 c, .slice a zss.length cap] w (TupN (opnE c zss) (cntN c zss) w) := by
  have HC := Lib.hid (open_any c a cap zss w hL hcap hcm)
  unfold cntN
  by_cases hs : opnE c zss = 0
  · rw [if_pos hs]
    rw [hs] at HC ⊢
    obtain ⟨c1, c5, hn, hrow⟩ := opn_rows hs
    obtain ⟨n, rfl⟩ := Int.eq_ofNat_of_zero_le (show 0 ≤ c by omega)
    rw [show ((n : Int)).toNat = n by simp]
    have HCC := Lib.hid (fun W W1 (F : Fut w W) h => (first_fit n (by omega) a cap zss W W1 (hL.lst.fut F) (by omega) (fun k hk => by have := (hrow k hk).1; omega) h).2)
    clear hL hs hrow hcap hcm
    generalize (fitL n zss).length = row at *
    go_enter Try.func26, Try.ntmps26
    go_wp2_with fail
    refine HC.out.mono ?_
    rintro _ w1 ⟨rfl, F1⟩
    have HF1 := Lib.hid F1
    have H2 := Lib.hid (HCC.out w1 _ F1 rfl)
    clear F1 HCC HC
    go_wp2_with fail
    refine (fitting_any _ _ _ _ _).mono ?_
    rintro _ w2 ⟨rfl, rfl⟩
    go_wp2_with fail
    refine H2.out.mono ?_
    rintro _ w2 ⟨rfl, F2⟩
    have HF2 := Lib.hid (HF1.out.trans F2)
    clear F2
    go_wp2
    go_ret2
    exact ⟨rfl, HF2.out⟩
  · rw [if_neg hs]
    clear hL
    generalize opnE c zss = E at *
    go_enter Try.func26, Try.ntmps26
    go_wp2_with fail
    refine HC.out.mono ?_
    rintro _ w1 ⟨rfl, F⟩
    have HF := Lib.hid F
    clear F
    go_wp2
    go_ret2
    exact ⟨rfl, HF.out⟩
def crsN (c : Int) (zss : List (List Int)) : Int := if fulE c zss = 0 then (crsL c.toNat zss).length else 0
def crE (c : Int) (zss : List (List Int)) : Int := if fulE c zss = 0 then (if crsL c.toNat zss = [] then 12 else 0) else fulE c zss
def crL (c : Int) (zss : List (List Int)) : List Int := if fulE c zss = 0 then lth (crsL c.toNat zss) 0 else []
theorem ful_in {n : Nat} {zss : List (List Int)} (hrow : ∀ i, i < zss.length → ((lth zss i).length : Int) = n ∧ amE n (zss.take i) (lth zss i) = 0) : ∀ k, k < zss.length → (lth zss k).length = n ∧ ∀ j, j < n → 0 ≤ nth (lth zss k) j ∧ nth (lth zss k) j < n := fun k hk => by
  obtain ⟨h1, h2⟩ := hrow k hk
  refine ⟨by omega, fun j hj => ?_⟩
  have := am_in h2 j (by omega)
  exact ⟨this.1, this.2.1⟩
set_option maxRecDepth 100000 in
theorem crosses_any (c : Int) (a : Option Addr) (cap : Nat) (zss : List (List Int)) (w : World) (hL : LstC w a zss) (hcap : zss.length ≤ cap) (hcm : cap ≤ 9223372036854775807) :
    Calls Try.prog 36 #[.int .i64 c, .slice a zss.length cap] w (TupN (fulE c zss) (crsN c zss) w) := by
  have HC := Lib.hid (isfull_any c a cap zss w hL hcap hcm)
  unfold crsN
  by_cases hs : fulE c zss = 0
  · rw [if_pos hs]
    rw [hs] at HC ⊢
    obtain ⟨c1, c5, hn, hrow⟩ := ful_rows hs
    obtain ⟨n, rfl⟩ := Int.eq_ofNat_of_zero_le (show 0 ≤ c by omega)
    rw [show ((n : Int)).toNat = n by simp]
    have HCC := Lib.hid (fun W W1 (F : Fut w W) h => (first_crs n (by omega) a cap zss W W1 (hL.lst.fut F) (by omega) (ful_in hrow) h).2)
    clear hL hs hrow hcap hcm
    generalize (crsL n zss).length = row at *
    go_enter Try.func36, Try.ntmps36
    go_wp2_with fail
    refine HC.out.mono ?_
    rintro _ w1 ⟨rfl, F1⟩
    have HF1 := Lib.hid F1
    have H2 := Lib.hid (HCC.out w1 _ F1 rfl)
    clear F1 HCC HC
    go_wp2_with fail
    refine (crossings_any _ _ _ _ _).mono ?_
    rintro _ w2 ⟨rfl, rfl⟩
    go_wp2_with fail
    refine H2.out.mono ?_
    rintro _ w2 ⟨rfl, F2⟩
    have HF2 := Lib.hid (HF1.out.trans F2)
    clear F2
    go_wp2
    go_ret2
    exact ⟨rfl, HF2.out⟩
  · rw [if_neg hs]
    clear hL
    generalize fulE c zss = E at *
    go_enter Try.func36, Try.ntmps36
    go_wp2_with fail
    refine HC.out.mono ?_
    rintro _ w1 ⟨rfl, F⟩
    have HF := Lib.hid F
    clear F
    go_wp2
    go_ret2
    exact ⟨rfl, HF.out⟩
theorem crs_first {n : Nat} {zss : List (List Int)} (hn : 0 < n) : (lth (crsL n zss) 0).length = 0 ↔ crsL n zss = [] := by
  cases h : crsL n zss with
  | nil => simp [lth]
  | cons r t =>
    have hr : r ∈ crsL n zss := by rw [h]; simp
    have := ord_len (List.mem_filter.1 hr).1
    simp [lth]
    intro e
    subst e
    simp at this
    omega
set_option maxRecDepth 100000 in
theorem cross_any (c : Int) (a : Option Addr) (cap : Nat) (zss : List (List Int)) (w : World) (hL : LstC w a zss) (hcap : zss.length ≤ cap) (hcm : cap ≤ 9223372036854775807) :
    Calls Try.prog 34 #[.int .i64 c, .slice a zss.length cap] w (TupI (crE c zss) (crL c zss) w) := by
  have HC := Lib.hid (isfull_any c a cap zss w hL hcap hcm)
  unfold crE crL
  by_cases hs : fulE c zss = 0
  · rw [if_pos hs, if_pos hs]
    rw [hs] at HC
    obtain ⟨c1, c5, hn, hrow⟩ := ful_rows hs
    obtain ⟨n, rfl⟩ := Int.eq_ofNat_of_zero_le (show 0 ≤ c by omega)
    rw [show ((n : Int)).toNat = n by simp]
    have HCC := Lib.hid (fun W W1 (F : Fut w W) h => (first_crs n (by omega) a cap zss W W1 (hL.lst.fut F) (by omega) (ful_in hrow) h).1)
    have hcf := crs_first (n := n) (zss := zss) (by omega)
    clear hL hs hrow hcap hcm
    generalize lth (crsL n zss) 0 = row at *
    by_cases he : crsL n zss = []
    · have hr0 : row = [] := List.eq_nil_of_length_eq_zero (hcf.2 he)
      subst hr0
      rw [if_pos he]
      clear he hcf
      go_enter Try.func34, Try.ntmps34
      go_wp2_with fail
      refine HC.out.mono ?_
      rintro _ w1 ⟨rfl, F1⟩
      have HF1 := Lib.hid F1
      have H2 := Lib.hid (HCC.out w1 _ F1 rfl)
      clear F1 HCC HC
      go_wp2_with fail
      refine (crossings_any _ _ _ _ _).mono ?_
      rintro _ w2 ⟨rfl, rfl⟩
      go_wp2_with fail
      refine H2.out.mono ?_
      rintro _ w2 ⟨v, rfl, ⟨l, lc, rfl, h1, h2, h3⟩, F2⟩
      have HF2 := Lib.hid (HF1.out.trans F2)
      clear F2 h2 h3
      go_wp2
      go_ret2
      exact TupI.nil 12 HF2.out
    · have hr0 : ¬ row.length = 0 := fun h => he (hcf.1 h)
      have hrx : 0 < (row.length : Int) := by omega
      have hrb : ((row.length : Int) == 0) = false := by simp; intro h; subst h; simp at hr0
      rw [if_neg he]
      clear he hcf
      go_enter Try.func34, Try.ntmps34
      go_wp2_with fail
      refine HC.out.mono ?_
      rintro _ w1 ⟨rfl, F1⟩
      have HF1 := Lib.hid F1
      have H2 := Lib.hid (HCC.out w1 _ F1 rfl)
      clear F1 HCC HC
      go_wp2_with fail
      refine (crossings_any _ _ _ _ _).mono ?_
      rintro _ w2 ⟨rfl, rfl⟩
      go_wp2_with fail
      refine H2.out.mono ?_
      rintro _ w2 ⟨v, rfl, ⟨l, lc, rfl, h1, h2, h3⟩, F2⟩
      have HF2 := Lib.hid (HF1.out.trans F2)
      have HI := Lib.hid h3
      have HM := Lib.hid h2
      clear F2 h2 h3
      go_wp2
      go_ret2
      exact ⟨l, lc, rfl, h1, by have := HM.out; unfold maxLen at this; omega, HI.out, HF2.out⟩
  · rw [if_neg hs, if_neg hs]
    clear hL
    generalize fulE c zss = E at *
    go_enter Try.func34, Try.ntmps34
    go_wp2_with fail
    refine HC.out.mono ?_
    rintro _ w1 ⟨rfl, F⟩
    have HF := Lib.hid F
    clear F
    go_wp2
    go_ret2
    exact TupI.nil E HF.out
end Go.Proofs.Ytpgifeaejjjjnaa
