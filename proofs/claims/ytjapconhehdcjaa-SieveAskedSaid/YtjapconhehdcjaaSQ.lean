/- Least, Best -/
import Derived.Test.YtjapconhehdcjaaSP
import Derived.Deep.DeepCutAuto
import Derived.Deep.AppendLies
namespace Go.Proofs.Ytjapconhehdcjaa
open Go.RowKit Go.Sort
theorem chkL_zero {zs : List Int} (h : chkL zs = 0) : 1 ≤ zs.length ∧ zs.length ≤ 8 ∧ ∀ z ∈ zs, 1 ≤ z ∧ z ≤ 100 := by
  unfold chkL at h
  by_cases h0 : zs.length = 0
  · rw [if_pos h0] at h; omega
  · rw [if_neg h0] at h
    by_cases h1 : 8 < zs.length
    · rw [if_pos h1] at h; omega
    · rw [if_neg h1] at h
      by_cases h2 : zs.any badL = true
      · rw [if_pos h2] at h; omega
      · refine ⟨by omega, by omega, fun z hz => ?_⟩
        have h3 : badL z = false := by
          cases hb : badL z
          · rfl
          · exact absurd (List.any_eq_true.2 ⟨z, hz, hb⟩) h2
        unfold badL at h3
        simp at h3
        omega
/-- the first of the best trees. -/
def bestE (zs : List Int) : List Int := if chkL zs = 0 then lsI (F0 zs) (m0 (F0 zs)) 8 0 (zs.length - 1) 0 else []
def leastE (zs : List Int) : Int := if chkL zs = 0 then f0 zs 0 (zs.length - 1) else 0
def countE (zs : List Int) : Int := if chkL zs = 0 then m0 (F0 zs) 0 (zs.length - 1) else 0
theorem best_call (a : Option Addr) (cap : Nat) (zs : List Int) (w : World) (hA : IntsAt w a zs) (hlc : zs.length ≤ cap) (hc : chkL zs = 0) :
    Calls Try.prog 63 #[.slice a zs.length cap] w fun e w' => ∃ F mn f, e = .returned (.tuple #[.int .i64 (f0 zs 0 (zs.length - 1)), .pointer (some ⟨w.heap.size + 1, 0, none⟩)]) ∧ Fut w w' ∧ TabL w' (w.heap.size + 1) 0 (w.heap.size + 2) F ∧ Tab w' (w.heap.size + 1) 64 mn ∧ Bd mn ∧ DoneB zs F mn f (spansL zs.length) := by
  obtain ⟨h1, h2, h3⟩ := chkL_zero hc
  obtain ⟨b, o, rfl, _⟩ := hA 0 (by omega)
  refine (best_any b o cap zs h1 h2 hlc (fun z hz => by have := h3 z hz; omega) w hA).mono ?_
  rintro e w' ⟨F, mn, f, rfl, k1, k2, k3, k4, k5, k6⟩
  exact ⟨F, mn, f, by rw [done_f h2 k6 9 0 (zs.length - 1) (by omega) (by omega) (by omega)], k1, k2, k3, k4, k6⟩
set_option maxRecDepth 100000 in
theorem least_any (a : Option Addr) (cap : Nat) (zs : List Int) (w : World) (hA : IntsAt w a zs) (hlc : zs.length ≤ cap) (hl : zs.length ≤ 1000) :
    Calls Try.prog 20 #[.slice a zs.length cap] w fun e w' => e = .returned (.tuple #[.int .i64 (leastE zs), .int .i64 (chkL zs)]) ∧ Fut w w' := by
  have HCK := Lib.hid (check_any a cap zs w hA hl)
  have HBC := Lib.hid (best_call a cap zs w hA hlc)
  have HLE : Hid (leastE zs = if chkL zs = 0 then f0 zs 0 (zs.length - 1) else 0) := Lib.hid rfl
  generalize chkL zs = E at *
  generalize f0 zs 0 (zs.length - 1) = V at *
  have hlx : (zs.length : Int) ≤ 1000 := by omega
  clear hA
  go_enter Try.func20, Try.ntmps20
  go_wp2_with fail
  refine HCK.out.mono ?_
  rintro _ _ ⟨rfl, rfl⟩
  by_cases hE : E = 0
  · have HB2 := Lib.hid (HBC.out hE)
    have HL2 : Hid (leastE zs = V) := Lib.hid (by rw [HLE.out, if_pos hE])
    subst hE
    go_wp2_with fail
    refine HB2.out.mono ?_
    rintro _ w1 ⟨F, mn, f, rfl, F1, _⟩
    go_wp2_with fail
    go_ret2
    exact ⟨by rw [HL2.out]; rfl, F1⟩
  · have HL2 : Hid (leastE zs = 0) := Lib.hid (by rw [HLE.out, if_neg hE])
    go_wp2_with fail
    go_ret2
    exact ⟨by rw [HL2.out]; rfl, Fut.rfl⟩
set_option maxRecDepth 100000 in
theorem best18_any (a : Option Addr) (cap : Nat) (zs : List Int) (w : World) (hA : IntsAt w a zs) (hlc : zs.length ≤ cap) (hl : zs.length ≤ 1000) :
    Calls Try.prog 18 #[.slice a zs.length cap] w fun e w' => TupL (chkL zs) (bestE zs) w e w' := by
  have HCK := Lib.hid (check_any a cap zs w hA hl)
  have HBC := Lib.hid (best_call a cap zs w hA hlc)
  have HLE : Hid (bestE zs = if chkL zs = 0 then lsI (F0 zs) (m0 (F0 zs)) 8 0 (zs.length - 1) 0 else []) := Lib.hid rfl
  have HZ := Lib.hid (chkL_zero (zs := zs))
  generalize chkL zs = E at *
  have hlx : (zs.length : Int) ≤ 1000 := by omega
  clear hA
  go_enter Try.func18, Try.ntmps18
  go_wp2_with fail
  refine HCK.out.mono ?_
  rintro _ _ ⟨rfl, rfl⟩
  by_cases hE : E = 0
  · have HB2 := Lib.hid (HBC.out hE)
    have hz := HZ.out hE
    have HL2 : Hid (bestE zs = lsI (F0 zs) (m0 (F0 zs)) 8 0 (zs.length - 1) 0) := Lib.hid (by rw [HLE.out, if_pos hE])
    subst hE
    obtain ⟨n1, hn1⟩ : ∃ n1, n1 = zs.length - 1 := ⟨_, rfl⟩
    have HAL : Hid (∀ W, Calls Try.prog 65 #[.int .i64 (zs.length : Nat)] W fun e w' => e = .returned (spV 0 (n1 : Nat)) ∧ Fut W w') := Lib.hid (fun W => by
      have h := allOf_any zs.length (by omega) W
      rw [show ((zs.length : Nat) : Int) - 1 = ((n1 : Nat) : Int) by omega] at h
      exact h)
    have HN := Lib.hid (And.intro hz.1 (And.intro hz.2.1 hn1))
    clear hz hn1 HCK HBC HLE HZ
    go_wp2_with fail
    refine HB2.out.mono ?_
    rintro _ w1 ⟨F, mn, f, rfl, F1, hT, hM, hBd, hD⟩
    have HLS : Hid (∀ W, Fut w1 W → Calls Try.prog 64 #[.pointer (some ⟨w.heap.size + 1, 0, none⟩), spV 0 (n1 : Nat), .int .i64 0] W fun e w' => ∃ v, e = .returned v ∧ Owns w' W.heap.size v (bestE zs) ∧ Fut W w') := Lib.hid (fun W k => by
      obtain ⟨h1, h2, h3⟩ := HN.out
      have hFF := done_F h2 hD
      have hmm : ∀ a b, a ≤ b → b < zs.length → mn a b = m0 (F0 zs) a b := fun a b h4 h5 => done_m h2 hD 9 a b h4 h5 (by omega)
      have := list_any (w.heap.size + 1) (w.heap.size + 2) zs.length (by omega) h2 F mn hBd.le (fun a b h4 h5 => by rw [hFF a b h4 h5]; exact F0_in zs a b h4) (fun a b h4 h5 => by rw [hFF a b h4 h5]; have := F0_len zs a b; omega) 8 0 n1 (by omega) (by omega) (by omega) 0 (by omega) (by omega) W (hT.fut k) (hM.fut k)
      rw [lsI_congr hFF hmm (F0_in zs) 8 0 n1 (by omega) (by omega) 0, h3, ← HL2.out] at this
      rw [h3]
      exact this)
    clear hT hM hBd hD
    go_wp2_with fail
    refine (HAL.out _).mono ?_
    rintro _ w2 ⟨rfl, F2⟩
    go_wp2_with fail
    refine (HLS.out _ F2).mono ?_
    rintro _ w3 ⟨v, rfl, hO, F3⟩
    obtain ⟨l, c, rfl, hI⟩ := hO.ints
    go_wp2_with fail
    go_ret2
    exact ⟨l, c, rfl, hI, (F1.trans F2).trans F3⟩
  · have HL2 : Hid (bestE zs = []) := Lib.hid (by rw [HLE.out, if_neg hE])
    go_wp2_with fail
    go_ret2
    exact ⟨none, 0, by rw [HL2.out]; rfl, by rw [HL2.out]; exact nil_ints _ _, Fut.rfl⟩
end Go.Proofs.Ytjapconhehdcjaa
