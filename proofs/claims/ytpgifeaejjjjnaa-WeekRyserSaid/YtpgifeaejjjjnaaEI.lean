/- The reference's Why 39: rwhy_any (whyS, whyE) -/
import Derived.Test.YtpgifeaejjjjnaaEE
namespace Go.Proofs.Ytpgifeaejjjjnaa
open Go.RowKit Go.Sort
theorem barF_none {n : Nat} {zss : List (List Int)} (h : ∀ j, j < n → barsE n zss (j : Int) = false) : barF n zss = none :=
  fs_none fun j hj => by simp [h j hj]
theorem barF_at {n k : Nat} {zss : List (List Int)} (h : ∀ j, j < k → barsE n zss (j : Int) = false) (hk : barsE n zss (k : Int) = true) (hn : k < n) : barF n zss = some k :=
  fs_at (fun j hj => by simp [h j hj]) (by simp [hk]) hn
set_option maxRecDepth 100000 in
set_option maxHeartbeats 4000000 in
theorem rwhy_any (c : Int) (a : Option Addr) (cap : Nat) (zss : List (List Int)) (w : World) (hL : LstC w a zss) (hcap : zss.length ≤ cap) (hcm : cap ≤ 9223372036854775807) :
    Calls Try.prog 39 #[.int .i64 c, .slice a zss.length cap] w fun e w' => e = .returned (.tuple #[.int .i64 (whyS c zss), .int .i64 (whyE c zss)]) ∧ Fut w w' := by
  have HC := Lib.hid (rcorner_any c a cap zss w hL hcap hcm)
  unfold whyS whyE
  by_cases hs : corE c zss = 0
  · rw [if_pos hs, if_pos hs]
    rw [hs] at HC
    obtain ⟨c1, c5, hn, hrow⟩ := cor_rows hs
    have HB := Lib.hid (fun (s : Int) W (F : Fut w W) => by
      have h := rbars_any c a cap zss s W (hL.fut F) (by omega) (fun k hk => by have := (hrow k hk).2.1; omega) c1 c5 hcap hcm
      rw [bars_same s hs] at h
      exact h)
    obtain ⟨n, rfl⟩ := Int.eq_ofNat_of_zero_le (show 0 ≤ c by omega)
    rw [show ((n : Int)).toNat = n by simp]
    have hnx : (n : Int) ≤ 5 := by omega
    generalize hV : (((barF n zss).getD 0 : Nat) : Int) = V at *
    generalize hE : (if (barF n zss).isSome = true then (0 : Int) else 13) = E at *
    have HN : Hid ((∀ j, j < n → barsE n zss (j : Int) = false) → V = 0 ∧ E = 13) := Lib.hid (fun h => by rw [barF_none h] at hV hE; exact ⟨hV.symm, hE.symm⟩)
    have HA : Hid (∀ k : Nat, (∀ j, j < k → barsE n zss (j : Int) = false) → barsE n zss (k : Int) = true → k < n → V = (k : Int) ∧ E = 0) := Lib.hid (fun k h hk hn => by rw [barF_at h hk hn] at hV hE; exact ⟨hV.symm, hE.symm⟩)
    clear hV hE
    clear hL hs hrow hcap hcm
    generalize hbb : (fun s : Int => barsE n zss s) = bb at *
    have hbb' : ∀ s : Int, barsE n zss s = bb s := fun s => by rw [← hbb]
    simp only [hbb'] at HB HN HA
    clear hbb hbb'
    go_enter Try.func39, Try.ntmps39
    go_wp2_with fail
    refine HC.out.mono ?_
    rintro _ w1 ⟨rfl, F1⟩
    have HF1 := Lib.hid F1
    have HB1 := Lib.hid (fun (s : Int) => HB.out s w1 F1)
    clear F1 HB HC
    go_wp2_with fail
    go_loopw [7] (fun iv wx => ∃ k : Nat, k ≤ n ∧ iv = .int .i64 k ∧ Hid (∀ j, j < k → bb (j : Int) = false) ∧ wx = w1) (fun iv _ => n - (intOf iv).toNat)
    case atStart => exact ⟨0, Nat.zero_le _, rfl, Lib.hid (fun j hj => absurd hj (Nat.not_lt_zero _)), rfl⟩
    case round =>
      obtain ⟨k, hkn, rfl, HK, rfl⟩ := hrel
      by_cases hlt : k < n
      · have hkx : (k : Int) < n := by omega
        have HBK := Lib.hid (HB1.out (k : Int))
        cases hb : bb (k : Int)
        · have HK1 : Hid (∀ j, j < k + 1 → bb (j : Int) = false) := Lib.hid (fun j hj => by
            rcases Nat.lt_or_ge j k with h | h
            · exact HK.out j h
            · obtain rfl : j = k := by omega
              exact hb)
          rw [hb] at HBK
          clear hb
          go_wp2_with fail
          refine HBK.out.mono ?_
          rintro _ _ ⟨rfl, rfl⟩
          go_wp2
          go_round
          case rel => exact ⟨k + 1, by omega, by go_num, HK1, by first | rfl | trivial⟩
          case measure => simp [intOf]; omega
        · have HX := Lib.hid (HA.out k HK.out hb hlt)
          rw [hb] at HBK
          clear hb
          go_wp2_with fail
          refine HBK.out.mono ?_
          rintro _ _ ⟨rfl, rfl⟩
          go_wp2
          go_ret2
          exact ⟨by rw [HX.out.1, HX.out.2]; rfl, HF1.out⟩
      · obtain rfl : k = n := by omega
        have HX := Lib.hid (HN.out HK.out)
        go_wp2
        go_ret2
        exact ⟨by rw [HX.out.1, HX.out.2]; rfl, HF1.out⟩
  · rw [if_neg hs, if_neg hs]
    clear hL
    generalize corE c zss = E at *
    go_enter Try.func39, Try.ntmps39
    go_wp2_with fail
    refine HC.out.mono ?_
    rintro _ w1 ⟨rfl, F⟩
    have HF := Lib.hid F
    clear F
    go_wp2
    go_ret2
    exact ⟨rfl, HF.out⟩
end Go.Proofs.Ytpgifeaejjjjnaa
