/- Layer 3: the reference's wide, Corner, open. -/
import Derived.Test.YtpgifeaejjjjnaaBW
namespace Go.Proofs.Ytpgifeaejjjjnaa
open Go.RowKit Go.Sort
theorem rwide_any (a : Option Addr) (cap : Nat) (zss : List (List Int)) (w : World) (hL : LstC w a zss) (hcap : zss.length ≤ cap) (hcm : cap ≤ 9223372036854775807) :
    Calls Try.prog 90 #[.slice a zss.length cap] w fun e w' => e = .returned (.int .i64 ((lth zss 0).length : Int)) ∧ w = w' := by
  have hlx : (zss.length : Int) ≤ 9223372036854775807 := by omega
  by_cases h0 : zss.length = 0
  · have e : (lth zss 0).length = 0 := by rw [lth_eq, List.getElem?_eq_none (by omega)]; rfl
    rw [e]
    have hb : ((zss.length : Int) == 0) = true := by rw [h0]; rfl
    clear hL
    go_enter Try.func90, Try.ntmps90
    go_wp2
    go_ret
    exact ⟨rfl, rfl⟩
  · obtain ⟨bb, off, l, lc, ea, hbb, d1, hlc, hcc, hI⟩ := hL 0 (by omega)
    subst ea
    rw [Nat.add_zero] at d1
    generalize (lth zss 0).length = n at *
    have hb : ((zss.length : Int) == 0) = false := by rw [beq_eq_false_iff_ne]; omega
    have hp : (0 : Int) < zss.length := by omega
    clear hL hI
    go_enter Try.func90, Try.ntmps90
    go_wp2
    go_ret
    exact ⟨rfl, rfl⟩
theorem rcorner_any (c : Int) (a : Option Addr) (cap : Nat) (zss : List (List Int)) (w : World) (hL : LstC w a zss) (hcap : zss.length ≤ cap) (hcm : cap ≤ 9223372036854775807) :
    Calls Try.prog 43 #[.int .i64 c, .slice a zss.length cap] w fun e w' => e = .returned (.int .i64 (corE c zss)) ∧ Fut w w' := by
  have HW := Lib.hid (rwide_any a cap zss w hL hcap hcm)
  have H := Lib.hid (rchecked_any c ((lth zss 0).length : Int) a cap zss w hL hcap hcm)
  rw [rck_cor] at H
  clear hL
  generalize corE c zss = E at *
  generalize (lth zss 0).length = n at *
  go_enter Try.func43, Try.ntmps43
  go_wp2_with fail
  refine HW.out.mono ?_
  rintro _ _ ⟨rfl, rfl⟩
  go_wp2_with fail
  refine H.out.mono ?_
  rintro _ w1 ⟨rfl, F⟩
  have HF := Lib.hid F
  clear F
  go_wp2
  go_ret
  exact ⟨rfl, HF.out⟩
theorem ropen_any (c : Int) (a : Option Addr) (cap : Nat) (zss : List (List Int)) (w : World) (hL : LstC w a zss) (hcap : zss.length ≤ cap) (hcm : cap ≤ 9223372036854775807) :
    Calls Try.prog 74 #[.int .i64 c, .slice a zss.length cap] w fun e w' => e = .returned (.int .i64 (opnE c zss)) ∧ Fut w w' := by
  have HC := Lib.hid (rcheck_any c a cap zss w hL hcap hcm)
  unfold opnE
  clear hL
  by_cases hs : chkE c zss = 0
  · rw [if_pos hs]
    rw [hs] at HC
    clear hs
    by_cases hq : (zss.length : Int) = c
    · rw [if_pos hq]
      have hqb : ((zss.length : Int) == c) = true := by rw [hq]; simp
      clear hq
      go_enter Try.func74, Try.ntmps74
      go_wp2_with fail
      refine HC.out.mono ?_
      rintro _ w1 ⟨rfl, F⟩
      have HF := Lib.hid F
      clear F
      go_wp2
      go_ret
      exact ⟨rfl, HF.out⟩
    · rw [if_neg hq]
      have hqb : ((zss.length : Int) == c) = false := by rw [beq_eq_false_iff_ne]; exact hq
      go_enter Try.func74, Try.ntmps74
      go_wp2_with fail
      refine HC.out.mono ?_
      rintro _ w1 ⟨rfl, F⟩
      have HF := Lib.hid F
      clear F
      go_wp2
      go_ret
      exact ⟨rfl, HF.out⟩
  · rw [if_neg hs]
    generalize chkE c zss = E at *
    have hsb : (E == 0) = false := by rw [beq_eq_false_iff_ne]; exact hs
    go_enter Try.func74, Try.ntmps74
    go_wp2_with fail
    refine HC.out.mono ?_
    rintro _ w1 ⟨rfl, F⟩
    have HF := Lib.hid F
    clear F
    go_wp2
    go_ret
    exact ⟨rfl, HF.out⟩
end Go.Proofs.Ytpgifeaejjjjnaa
