/- the law Hall. -/
import Derived.Test.YtpgifeaejjjjnaaCY
namespace Go.Proofs.Ytpgifeaejjjjnaa
open Go.RowKit Go.Sort
theorem opn_of {n : Nat} {zss : List (List Int)} (h1 : 1 ≤ n) (h5 : n ≤ 5) (h : Plan n zss) : opnE n zss = if zss.length = n then 16 else 0 := by
  unfold opnE
  rw [if_pos (chk_plan h1 h5 h)]
  by_cases e : zss.length = n
  · rw [if_pos e, if_pos (by omega)]
  · rw [if_neg e, if_neg (by omega)]
def facP : Nat → Nat
  | 0 => 1
  | k + 1 => facP k * (k + 1)
theorem facP_fac : ∀ k, facP k = Mh.fac k
  | 0 => rfl
  | k + 1 => by rw [facP, facP_fac k, Mh.fac, Nat.mul_comm]
theorem facP_le : ∀ k, k ≤ 5 → facP k ≤ 120 := by decide
set_option maxRecDepth 100000 in
set_option maxHeartbeats 8000000 in
theorem law6_any (st ca : Nat) (by_ : Nat → Int) (hst : st < 256) (hca : ca < 256) (hby : ∀ i, i < 5 → 0 ≤ by_ i ∧ by_ i < 256) (w : World) :
    Calls Try.prog 6 #[rotaV st ca by_] w fun e w' => e = .returned (.bool true) ∧ Fut w w' := by
  have HMD := Lib.hid (fun W => made_any 5 (by omega) (by omega) st ca by_ hst hca hby W)
  have hN1 : madN 5 st ≤ 5 := by have := Nat.mod_lt st (show 0 < 5 by omega); show 1 + st % 5 ≤ 5; omega
  have hNd : 1 ≤ madN 5 st := by show 1 ≤ 1 + st % 5; omega
  have hPl : Plan (madN 5 st) (madP 5 st ca by_) := madL_plan _ _ _ (by have := Nat.mod_lt ca (show 0 < madN 5 st + 1 by omega); omega)
  generalize madN 5 st = N at *
  generalize madP 5 st ca by_ = P at *
  have HPL := Lib.hid hPl
  have hck := chk_plan hNd hN1 hPl
  have hpl := hPl.len
  have HROW := Lib.hid (fun k (hk : k < P.length) => show N ≤ (lth P k).length by rw [ord_len (hPl.row k hk)]; exact Nat.le_refl _)
  have hon := opn_of hNd hN1 hPl
  have HW : Hid (∀ (W : World) (la : Option Addr) (lc : Nat), LstC W la P → P.length ≤ lc → lc ≤ 9223372036854775807 →
      (Calls Try.prog 47 #[.int .i64 N, .slice la P.length lc] W fun e w' => ∃ v, e = .returned v ∧ OwnL w' W.heap.size v (fitL N P) ∧ Fut W w') ∧
      Calls Try.prog 20 #[.int .i64 N, .slice la P.length lc] W (TupI (opnE N P) (nxtL N P) W) ∧
      Calls Try.prog 26 #[.int .i64 N, .slice la P.length lc] W (TupN (opnE N P) (cntN N P) W) ∧
      Calls Try.prog 24 #[.int .i64 N, .slice la P.length lc] W fun e w' => e = .returned (.int .i64 (chkE N P)) ∧ Fut W w') := Lib.hid (fun W la lc hL h1 h2 =>
    ⟨fitlaw_any N (by omega) la lc P W hL.lst (by omega) HROW.out, next_any N la lc P W hL h1 h2, count26_any N la lc P W hL h1 h2, check_any N la lc P W hL h1 h2⟩)
  rw [hck] at HW
  have HFC := Lib.hid (fun h => fit_fac hPl h)
  have HFP := Lib.hid (fun h => fit_pos hPl h)
  have HFL : Hid ((fitL N P).length ≤ 5000) := Lib.hid (Nat.le_trans (sub_len _) (ord_le (by omega)))
  have hF1 : Fut w (w.alloc (.cells #[.int .u8 st, .int .u8 ca, .int .u8 (by_ 0), .int .u8 (by_ 1), .int .u8 (by_ 2), .int .u8 (by_ 3), .int .u8 (by_ 4)] 42)) := Fut.alloc _ _
  have HF1 := Lib.hid hF1
  clear hst hca hby hPl hck HPL HROW hF1
  by_cases hfull : P.length = N
  · rw [if_pos hfull] at hon
    have hnx : nxtL N P = [] := by unfold nxtL; rw [hon]; rfl
    have hcn : cntN N P = 0 := by unfold cntN; rw [hon]; rfl
    rw [hon, hnx, hcn] at HW
    clear hon hnx hcn HFC HFP
    generalize fitL N P = fl at *
    subst hfull
    go_enter Try.func6, Try.ntmps6
    go_wp2_with fail
    refine (HMD.out _).mono ?_
    rintro _ w1 ⟨v, rfl, hO, F⟩
    obtain ⟨la, lc, rfl, q1, q2, hL⟩ := hO.listsC
    have HF2 := Lib.hid (HF1.out.trans F)
    have HL2 := Lib.hid hL
    have HQ := Lib.hid (show P.length ≤ lc ∧ lc ≤ 9223372036854775807 from ⟨q1, q2⟩)
    clear HMD hO F q1 q2 hL HF1
    go_wp2_with fail
    refine (HW.out _ la lc HL2.out HQ.out.1 HQ.out.2).1.mono ?_
    rintro _ w2 ⟨v2, rfl, hO2, F⟩
    obtain ⟨l2, c2, rfl, _, _, _⟩ := hO2.listsC
    clear hO2
    have HF3 := Lib.hid (HF2.out.trans F)
    have HL3 := Lib.hid (HL2.out.fut F)
    clear F HF2 HL2
    go_wp2_with fail
    refine (HW.out _ la lc HL3.out HQ.out.1 HQ.out.2).2.1.mono ?_
    rintro _ w3 ⟨l3, c3, rfl, _, _, hI3, F⟩
    have HF4 := Lib.hid (HF3.out.trans F)
    have HL4 := Lib.hid (HL3.out.fut F)
    have HI3 := Lib.hid hI3
    clear F HF3 HL3 hI3
    go_wp2_with fail
    refine (HW.out _ la lc HL4.out HQ.out.1 HQ.out.2).2.2.1.mono ?_
    rintro _ w4 ⟨rfl, F⟩
    have HF5 := Lib.hid (HF4.out.trans F)
    have HL5 := Lib.hid (HL4.out.fut F)
    have HI4 := Lib.hid (HI3.out.fut F)
    clear F HF4 HL4 HI3
    go_wp2_with fail
    refine (HW.out _ la lc HL5.out HQ.out.1 HQ.out.2).2.2.2.mono ?_
    rintro _ w5 ⟨rfl, F⟩
    have HF6 := Lib.hid (HF5.out.trans F)
    have HI5 := Lib.hid (HI4.out.fut F)
    clear F HF5 HL5 HI4 HW
    go_wp2_with fail
    refine (works_any _).mono ?_
    rintro _ w6 ⟨rfl, F⟩
    have HF7 := Lib.hid (HF6.out.trans F)
    clear F
    go_wp2
    go_ret
    exact ⟨rfl, HF7.out⟩
  · rw [if_neg hfull] at hon
    have hnx : nxtL N P = lth (fitL N P) 0 := by unfold nxtL; rw [hon]; simp
    have hcn : cntN N P = (fitL N P).length := by unfold cntN; rw [hon]; simp
    rw [hon, hnx, hcn] at HW
    have hflp := HFP.out (by omega)
    have hfac := HFC.out (by omega)
    rw [← facP_fac] at hfac
    clear hon hnx hcn HFC HFP
    generalize fitL N P = fl at *
    obtain ⟨D, hD⟩ : ∃ D, P.length + D = N := ⟨N - P.length, by omega⟩
    have hne : ((P.length : Int) == (N : Int)) = false := by simp; omega
    have hsub : IntKind.i64.wrap ((N : Int) - (P.length : Int)) = (D : Int) := by rw [IntWalk.i64_in _ ⟨by omega, by omega⟩]; omega
    have hflx : (fl.length : Int) ≤ 5000 := by have := HFL.out; omega
    rw [show N - P.length = D by omega] at hfac
    have HD := Lib.hid hD
    have hD5 : D ≤ 5 := by omega
    have hD5x : (D : Int) ≤ 5 := by omega
    clear hD hfull
    go_enter Try.func6, Try.ntmps6
    go_wp2_with fail
    refine (HMD.out _).mono ?_
    rintro _ w1 ⟨v, rfl, hO, F⟩
    obtain ⟨la, lc, rfl, q1, q2, hL⟩ := hO.listsC
    have HF2 := Lib.hid (HF1.out.trans F)
    have HL2 := Lib.hid hL
    have HQ := Lib.hid (show P.length ≤ lc ∧ lc ≤ 9223372036854775807 from ⟨q1, q2⟩)
    clear HMD hO F q1 q2 hL HF1
    go_wp2_with fail
    refine (HW.out _ la lc HL2.out HQ.out.1 HQ.out.2).1.mono ?_
    rintro _ w2 ⟨v2, rfl, hO2, F⟩
    obtain ⟨g2, c2, l2, d2, rfl, hgs, hcell, hOr⟩ := hO2.at 0 hflp
    obtain ⟨_, _, e2, hI2⟩ := hOr.ints
    simp only [Value.slice.injEq] at e2
    obtain ⟨rfl, _, rfl⟩ := e2
    have HC := Lib.hid (show g2 < w2.heap.size ∧ w2.cell? ⟨g2, 0, none⟩ = some (.slice l2 (lth fl 0).length d2) from ⟨hgs, hcell⟩)
    have HJ := Lib.hid hI2
    have HLB : Hid ((lth fl 0).length ≤ 9223372036854775807) := Lib.hid (by
      obtain ⟨_, _, _, f1, f2, _⟩ := hOr.form
      unfold maxLen at f2
      omega)
    clear hO2 hgs hcell hOr hI2
    have HF3 := Lib.hid (HF2.out.trans F)
    have HL3 := Lib.hid (HL2.out.fut F)
    clear F HF2 HL2
    go_wp2_with fail
    refine (HW.out _ la lc HL3.out HQ.out.1 HQ.out.2).2.1.mono ?_
    rintro _ w3 ⟨l3, c3, rfl, _, _, hI3, F⟩
    have HF4 := Lib.hid (HF3.out.trans F)
    have HL4 := Lib.hid (HL3.out.fut F)
    have HI3 := Lib.hid hI3
    replace HJ := Lib.hid (HJ.out.fut F)
    replace HC := Lib.hid (show g2 < w3.heap.size ∧ w3.cell? ⟨g2, 0, none⟩ = some (.slice l2 (lth fl 0).length d2) from ⟨Nat.lt_of_lt_of_le HC.out.1 (RowKit.Below.size F), (RowKit.Below.cell F (p := ⟨g2, 0, none⟩) HC.out.1).trans HC.out.2⟩)
    clear F HF3 HL3 hI3
    go_wp2_with fail
    refine (HW.out _ la lc HL4.out HQ.out.1 HQ.out.2).2.2.1.mono ?_
    rintro _ w4 ⟨rfl, F⟩
    have HF5 := Lib.hid (HF4.out.trans F)
    have HL5 := Lib.hid (HL4.out.fut F)
    have HI4 := Lib.hid (HI3.out.fut F)
    replace HJ := Lib.hid (HJ.out.fut F)
    replace HC := Lib.hid (show g2 < w4.heap.size ∧ w4.cell? ⟨g2, 0, none⟩ = some (.slice l2 (lth fl 0).length d2) from ⟨Nat.lt_of_lt_of_le HC.out.1 (RowKit.Below.size F), (RowKit.Below.cell F (p := ⟨g2, 0, none⟩) HC.out.1).trans HC.out.2⟩)
    clear F HF4 HL4 HI3
    go_wp2_with fail
    refine (HW.out _ la lc HL5.out HQ.out.1 HQ.out.2).2.2.2.mono ?_
    rintro _ w5 ⟨rfl, F⟩
    have HF6 := Lib.hid (HF5.out.trans F)
    have HI5 := Lib.hid (HI4.out.fut F)
    replace HJ := Lib.hid (HJ.out.fut F)
    replace HC := Lib.hid (show g2 < w5.heap.size ∧ w5.cell? ⟨g2, 0, none⟩ = some (.slice l2 (lth fl 0).length d2) from ⟨Nat.lt_of_lt_of_le HC.out.1 (RowKit.Below.size F), (RowKit.Below.cell F (p := ⟨g2, 0, none⟩) HC.out.1).trans HC.out.2⟩)
    clear F HF5 HL5 HI4 HW
    have hcell := HC.out.2
    go_wp2_with fail
    go_loopw [10, 62] (fun lv iv wr => ∃ k : Nat, k ≤ D ∧ lv = .int .i64 (facP k : Nat) ∧ iv = .int .i64 k ∧ wr = w5) (fun _ iv _ => D - (intOf iv).toNat)
    case atStart => exact ⟨0, Nat.zero_le _, rfl, rfl, rfl⟩
    case round =>
      obtain ⟨k, hk, rfl, rfl, rfl⟩ := hrel
      by_cases hkd : k < D
      · have hkx : (k : Int) < D := by omega
        have hf1 := facP_le k (by omega)
        have hw1 : IntKind.i64.wrap ((facP k : Int) * ((k : Int) + 1)) = (facP (k + 1) : Nat) := by
          have e : (facP k : Int) * ((k : Int) + 1) = ((facP (k + 1) : Nat) : Int) := by rw [facP]; push_cast; rfl
          have h2 := facP_le (k + 1) (by omega)
          rw [e, IntWalk.i64_in _ ⟨by omega, by omega⟩]
        have hw2 : IntKind.i64.wrap ((k : Int) + 1) = (k : Int) + 1 := IntWalk.i64_in _ ⟨by omega, by omega⟩
        go_wp2
        go_round
        case rel => exact ⟨k + 1, by omega, by first | rfl | (congr 1), by go_num, by first | rfl | trivial⟩
        case measure => simp [intOf]; omega
      · obtain rfl : k = D := by omega
        have hgx : (facP k : Int) ≤ fl.length := by omega
        have hpx : (0 : Int) < fl.length := by omega
        have HSL := Lib.hid (same_self (cap := c3) (dap := d2) (lth fl 0) wr HI5.out HJ.out HLB.out)
        generalize lth fl 0 = row at *
        go_wp2_with fail
        refine HSL.out.mono ?_
        rintro _ w6 ⟨rfl, F⟩
        have HF7 := Lib.hid (HF6.out.trans F)
        clear F hcell
        go_wp2_with fail
        refine (works_any _).mono ?_
        rintro _ w7 ⟨rfl, F⟩
        have HF8 := Lib.hid (HF7.out.trans F)
        clear F
        go_wp2
        go_ret
        exact ⟨rfl, HF8.out⟩
end Go.Proofs.Ytpgifeaejjjjnaa
