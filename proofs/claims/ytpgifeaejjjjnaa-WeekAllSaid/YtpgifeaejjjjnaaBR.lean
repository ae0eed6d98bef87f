/- Layer 3: the law's large and lists. -/
import Derived.Test.YtpgifeaejjjjnaaBQ
namespace Go.Proofs.Ytpgifeaejjjjnaa
open Go.RowKit Go.Sort
theorem large_any (a : Option Addr) (cap : Nat) (zss : List (List Int)) (w : World) (hL : LstAt w a zss) (hl : zss.length ≤ 9223372036854775807) (hz : ∀ k, k < zss.length → (lth zss k).length ≤ 9223372036854775807) :
    Calls Try.prog 16 #[.slice a zss.length cap] w fun e w' => e = .returned (.bool (decide (30 < zss.length ∨ ∃ k, k < zss.length ∧ 30 < (lth zss k).length))) ∧ w = w' := by
  have HL := Lib.hid hL
  have HZ := Lib.hid hz
  have hlx : (zss.length : Int) ≤ 9223372036854775807 := by omega
  generalize hE : decide (30 < zss.length ∨ ∃ k, k < zss.length ∧ 30 < (lth zss k).length) = E at *
  have HE := Lib.hid hE
  clear hL hz hE
  by_cases hb : 30 < zss.length
  · have hE : E = true := by rw [← HE.out, decide_eq_true_eq]; exact Or.inl hb
    subst hE
    have hbx : (30 : Int) < zss.length := by omega
    go_enter Try.func16, Try.ntmps16
    go_wp2
    go_ret
    exact ⟨rfl, rfl⟩
  · have hbx : ¬ (30 : Int) < zss.length := by omega
    go_enter Try.func16, Try.ntmps16
    go_wp2_with fail
    go_loopw [3] (fun iv wr => ∃ k : Nat, k ≤ zss.length ∧ iv = .int .i64 k ∧ Hid (∀ j, j < k → ¬ 30 < (lth zss j).length) ∧ wr = w) (fun iv _ => zss.length - (intOf iv).toNat)
    case atStart => exact ⟨0, Nat.zero_le _, rfl, Lib.hid (fun j hj => absurd hj (Nat.not_lt_zero j)), rfl⟩
    case round =>
      obtain ⟨k, hk, rfl, HN, rfl⟩ := hrel
      by_cases hlt : k < zss.length
      · have hkx : (k : Int) < zss.length := by omega
        obtain ⟨bb, off, l, lc, ea, hbb, d1, hI⟩ := HL.out k hlt
        subst ea
        have hzk := HZ.out k hlt
        by_cases hq : 30 < (lth zss k).length
        · have hE : E = true := by rw [← HE.out, decide_eq_true_eq]; exact Or.inr ⟨k, hlt, hq⟩
          subst hE
          generalize (lth zss k).length = n at *
          have hqx : (30 : Int) < n := by omega
          clear hI
          go_wp2
          go_ret
          exact ⟨rfl, rfl⟩
        · have HN2 : Hid (∀ j, j < k + 1 → ¬ 30 < (lth zss j).length) := Lib.hid (fun j hj => by
            rcases Nat.lt_or_ge j k with q | q
            · exact HN.out j q
            · obtain rfl : j = k := by omega
              exact hq)
          generalize (lth zss k).length = n at *
          have hqx : ¬ (30 : Int) < n := by omega
          clear hI
          go_wp2
          go_round
          case rel => exact ⟨k + 1, by omega, by go_num, HN2, trivial⟩
          case measure => simp [intOf]; omega
      · obtain rfl : k = zss.length := by omega
        have hE : E = false := by
          rw [← HE.out, decide_eq_false_iff_not]
          rintro (q | ⟨j, hj, q⟩)
          · exact hb q
          · exact HN.out j hj q
        subst hE
        go_wp2
        go_ret
        exact ⟨rfl, rfl⟩
theorem lth_ext {xss yss : List (List Int)} (hl : xss.length = yss.length) (h : ∀ j, j < xss.length → lth xss j = lth yss j) : xss = yss := by
  apply List.ext_getElem hl
  intro i h1 h2
  have := h i h1
  rw [lth_eq, lth_eq, List.getElem?_eq_getElem h1, List.getElem?_eq_getElem h2] at this
  exact this
set_option maxRecDepth 100000 in
theorem lists_any (a c : Option Addr) (cap dap : Nat) (xss yss : List (List Int)) (w : World) (hA : LstAt w a xss) (hC : LstAt w c yss) (hx : xss.length ≤ 9223372036854775807) (hy : yss.length ≤ 9223372036854775807)
    (hxe : ∀ k, k < xss.length → (lth xss k).length ≤ 9223372036854775807) (hye : ∀ k, k < yss.length → (lth yss k).length ≤ 9223372036854775807) :
    Calls Try.prog 22 #[.slice a xss.length cap, .slice c yss.length dap] w fun e w' => e = .returned (.bool (decide (xss = yss))) ∧ Fut w w' := by
  have HA := Lib.hid hA
  have HC := Lib.hid hC
  have HX := Lib.hid hxe
  have HY := Lib.hid hye
  have hlx : (xss.length : Int) ≤ 9223372036854775807 := by omega
  have hly : (yss.length : Int) ≤ 9223372036854775807 := by omega
  generalize hE : decide (xss = yss) = E at *
  have HE := Lib.hid hE
  clear hA hC hxe hye hE
  by_cases hq : xss.length = yss.length
  · have hqb : ((xss.length : Int) != yss.length) = false := by rw [hq]; simp
    have HQ := Lib.hid hq
    clear hq
    go_enter Try.func22, Try.ntmps22
    go_wp2_with fail
    go_loopw [5] (fun iv wr => ∃ k : Nat, k ≤ xss.length ∧ iv = .int .i64 k ∧ Hid (∀ j, j < k → lth xss j = lth yss j) ∧ Hid (Fut w wr)) (fun iv _ => xss.length - (intOf iv).toNat)
    case atStart => exact ⟨0, Nat.zero_le _, rfl, Lib.hid (fun j hj => absurd hj (Nat.not_lt_zero j)), Lib.hid Fut.rfl⟩
    case round =>
      obtain ⟨k, hk, rfl, HN, HF⟩ := hrel
      by_cases hlt : k < xss.length
      · have hkx : (k : Int) < xss.length := by omega
        have hky : (k : Int) < yss.length := by have := HQ.out; omega
        obtain ⟨bb, off, l, lc, ea, hbb, d1, hI⟩ := (HA.out.fut HF.out) k hlt
        subst ea
        obtain ⟨b2, off2, l2, lc2, ea2, hb2, d2, hI2⟩ := (HC.out.fut HF.out) k (by omega)
        subst ea2
        have hxk := HX.out k hlt
        have hyk := HY.out k (by omega)
        have HS := Lib.hid (fun q => same_any l l2 lc lc2 (lth xss k) (lth yss k) (wr.drewN q) hxk hyk (hI.fut (Fut.drewN wr q)) (hI2.fut (Fut.drewN wr q)))
        clear hI hI2
        cases hs : sameB (lth xss k) (lth yss k)
        · rw [hs] at HS
          have hne : lth xss k ≠ lth yss k := by unfold sameB at hs; exact of_decide_eq_false hs
          have hE : E = false := by rw [← HE.out, decide_eq_false_iff_not]; intro q; exact hne (by rw [q])
          subst hE
          clear hs hne
          go_upto_region 6 with fail
          go_quiet (first | (go_at_call 23; exact Calls.quiet_of (HS.out _)))
          go_wp2
          go_ret
          exact ⟨rfl, HF.out.trans (Fut.drewN _ _)⟩
        · rw [hs] at HS
          have he : lth xss k = lth yss k := by unfold sameB at hs; exact of_decide_eq_true hs
          have HN2 : Hid (∀ j, j < k + 1 → lth xss j = lth yss j) := Lib.hid (fun j hj => by
            rcases Nat.lt_or_ge j k with q | q
            · exact HN.out j q
            · obtain rfl : j = k := by omega
              exact he)
          clear hs he
          go_upto_region 6 with fail
          go_quiet (first | (go_at_call 23; exact Calls.quiet_of (HS.out _)))
          have HF2 := Lib.hid (HF.out.trans (Fut.drewN wr nq))
          clear d1 d2
          generalize wr.drewN nq = w6 at *
          go_wp2
          go_round
          case rel => exact ⟨k + 1, by omega, by go_num, HN2, HF2⟩
          case measure => simp [intOf]; omega
      · obtain rfl : k = xss.length := by omega
        have hE : E = true := by rw [← HE.out, decide_eq_true_eq]; exact lth_ext HQ.out HN.out
        subst hE
        go_wp2
        go_ret
        exact ⟨rfl, HF.out⟩
  · have hqb : ((xss.length : Int) != yss.length) = true := by rw [bne_iff_ne]; omega
    have hE : E = false := by rw [← HE.out, decide_eq_false_iff_not]; intro q; exact hq (by rw [q])
    subst hE
    go_enter Try.func22, Try.ntmps22
    go_wp2
    go_ret
    exact ⟨rfl, Fut.rfl⟩
end Go.Proofs.Ytpgifeaejjjjnaa
