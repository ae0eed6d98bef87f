/- the reference's Fill: rfillC_any -/
import Derived.Test.YtpgifeaejjjjnaaFF
namespace Go.Proofs.Ytpgifeaejjjjnaa
open Go.RowKit Go.Sort
set_option maxRecDepth 100000 in
set_option maxHeartbeats 4000000 in
/-- the reference's Fill. -/
theorem rfillC_any (c : Int) (a : Option Addr) (cap : Nat) (zss : List (List Int)) (w : World) (hL : LstC w a zss) (hcap : zss.length ≤ cap) (hcm : cap ≤ 9223372036854775807) :
    Calls Try.prog 41 #[.int .i64 c, .slice a zss.length cap] w (TupLC (filRE c zss) (filRL c zss) w) := by
  have HC := Lib.hid (rcorner_any c a cap zss w hL hcap hcm)
  unfold filRE filRL
  by_cases hs : corE c zss = 0
  · rw [if_pos hs, if_pos hs]
    rw [hs] at HC
    obtain ⟨c1, c5, hn, hrow⟩ := cor_rows hs
    obtain ⟨n, rfl⟩ := Int.eq_ofNat_of_zero_le (show 0 ≤ c by omega)
    rw [Int.toNat_natCast]
    have hp := cor_part hs
    have HFD := Lib.hid (fun W (F : Fut w W) => filled_any n (by omega) (by omega) zss a cap hcap hcm zss [] rfl (by simp) hp (fun i hi => absurd hi (by simp)) none 0 W (fun j hj => absurd hj (by simp)) (Nat.le_refl _) (by omega) (hL.fut F))
    have HGD := Lib.hid (fun z (hz : flR n zss [] = some z) => flR_good zss [] z hp (fun i hi => absurd hi (by simp)) hz)
    have hn5 : n ≤ 5 := by omega
    have hn1 : 1 ≤ n := by omega
    clear hL hs hrow hcap hcm hp
    cases hz : flR n zss [] with
    | none =>
      rw [hz] at HFD
      have HFN : Hid (∀ W, Fut w W → Calls Try.prog 89 #[.int .i64 n, .slice none 0 0, .slice a zss.length cap] W fun e w' => ∃ l lc, e = .returned (.tuple #[.slice l 0 lc, .bool false]) ∧ Fut W w') := Lib.hid (fun W F => (HFD.out W F).mono fun e w' ⟨l, lc, he, _, _, _, F⟩ => ⟨l, lc, he, F⟩)
      clear HFD HGD hz
      show Calls Try.prog 41 _ w (TupLC 12 [] w)
      go_enter Try.func41, Try.ntmps41
      go_wp2_with fail
      refine HC.out.mono ?_
      rintro _ w1 ⟨rfl, F1⟩
      have HF1 := Lib.hid F1
      clear F1
      go_wp2_with fail
      refine (HFN.out w1 HF1.out).mono ?_
      rintro _ w2 ⟨l, lc, rfl, F2⟩
      have HF2 := Lib.hid (HF1.out.trans F2)
      clear F2
      go_wp2
      go_ret2
      exact TupLC.nil _ HF2.out
    | some z =>
      rw [hz] at HFD
      obtain ⟨g1, g2, _, _⟩ := HGD.out z hz
      have HFN : Hid (∀ W, Fut w W → Calls Try.prog 89 #[.int .i64 n, .slice none 0 0, .slice a zss.length cap] W fun e w' => ∃ l lc, e = .returned (.tuple #[.slice l z.length lc, .bool true]) ∧ LstC w' l z ∧ Fut W w') := Lib.hid (fun W F => (HFD.out W F).mono fun e w' ⟨l, lc, he, _, _, hL, F⟩ => ⟨l, lc, he, hL, F⟩)
      have HPZ := Lib.hid g1
      clear HFD HGD hz g1 g2
      show Calls Try.prog 41 _ w (TupLC 0 (grdF n (n - z.length) z) w)
      generalize hG : grdF n (n - z.length) z = G at *
      have HRF : Hid (∀ (W : World) (l : Option Addr) (lc : Nat), LstC W l z → Calls Try.prog 81 #[.int .i64 n, .slice l z.length lc] W fun e w' => ∃ v, e = .returned v ∧ OwnX w' W.heap.size v G ∧ Fut W w') := Lib.hid (fun W l lc h => by
        have := rfill_any n hn5 l lc z W h HPZ.out hn1
        rwa [hG] at this)
      clear hG
      go_enter Try.func41, Try.ntmps41
      go_wp2_with fail
      refine HC.out.mono ?_
      rintro _ w1 ⟨rfl, F1⟩
      have HF1 := Lib.hid F1
      clear F1
      go_wp2_with fail
      refine (HFN.out w1 HF1.out).mono ?_
      rintro _ w2 ⟨l, lc, rfl, hL2, F2⟩
      have HF2 := Lib.hid (HF1.out.trans F2)
      have HL2 := Lib.hid hL2
      clear F2 hL2
      go_wp2_with fail
      refine (HRF.out w2 l lc HL2.out).mono ?_
      rintro _ w3 ⟨v, rfl, hX, F3⟩
      obtain ⟨l3, lc3, rfl, q1, q2, hL3⟩ := hX.listsC
      have HF3 := Lib.hid (HF2.out.trans F3)
      have HL3 := Lib.hid hL3
      have HQ := Lib.hid (And.intro q1 q2)
      clear F3 hL3 hX q1 q2
      go_wp2
      go_ret2
      exact ⟨l3, lc3, rfl, HQ.out.1, HQ.out.2, HL3.out, HF3.out⟩
  · rw [if_neg hs, if_neg hs]
    clear hL
    generalize corE c zss = E at *
    go_enter Try.func41, Try.ntmps41
    go_wp2_with fail
    refine HC.out.mono ?_
    rintro _ w1 ⟨rfl, F⟩
    have HF := Lib.hid F
    clear F
    go_wp2
    go_ret2
    exact TupLC.nil E HF.out
end Go.Proofs.Ytpgifeaejjjjnaa
