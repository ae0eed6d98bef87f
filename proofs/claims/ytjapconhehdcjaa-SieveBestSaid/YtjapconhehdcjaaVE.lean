/- SieveTops 9 -/
import Derived.Test.YtjapconhehdcjaaVC
import Derived.Test.YtjapconhehdcjaaVD
import Derived.Test.YtjapconhehdcjaaUH
import Derived.Deep.DeepCutAuto
import Derived.Deep.AppendLies
namespace Go.Proofs.Ytjapconhehdcjaa
open Go.RowKit Go.Sort
/-- the loads that a law makes, as a call that may be made in any world. -/
theorem dmade_call (k0 : Nat) (b : Nat → Nat) (hk : k0 ≤ 255) (hb : ∀ j, b j ≤ 255) (most : Nat) (hmo : 1 ≤ most ∧ most ≤ 100) : ∃ (n : Nat) (zs : List Int), zs.length = n ∧ (1 ≤ n ∧ n ≤ 8) ∧ chkL zs = 0 ∧ (∀ z ∈ zs, 1 ≤ z ∧ z ≤ most) ∧ ∀ w, Calls Try.prog 45 #[dustV k0 b, .int .i64 8, .int .i64 (most : Nat)] w fun e w' => ∃ g c, e = .returned (.slice (some ⟨g, 0, none⟩) n c) ∧ n ≤ c ∧ c ≤ 9223372036854775807 ∧ Owns w' w.heap.size (.slice (some ⟨g, 0, none⟩) n c) zs ∧ Fut w w' := by
  have hm := Nat.mod_lt k0 (show 0 < 8 by omega)
  have hin := dustL_in (1 + k0 % 8) most b hmo.1
  refine ⟨1 + k0 % 8, dustL (1 + k0 % 8) most b, dustL_len _ _ _, by omega, chk_of (m := most) (by rw [dustL_len]; omega) (by rw [dustL_len]; omega) (by omega) hin, hin, fun w => ?_⟩
  have h := dmade_any k0 b hk hb 8 most (1 + k0 % 8) (by omega) (by omega) rfl w
  refine Calls.mono h ?_
  rintro e w' ⟨v, rfl, hO, F⟩
  have hl := dustL_len (1 + k0 % 8) most b
  obtain ⟨g, c, rfl, _, _, _, h1, h2⟩ := row_ints (n := 1 + k0 % 8) (by have h := hO; unfold Owns at h; rw [hl] at h; exact h) hl (by omega)
  exact ⟨g, c, rfl, h1, h2, hO, F⟩
set_option maxRecDepth 100000 in
set_option maxHeartbeats 8000000 in
theorem law9_any (k0 : Nat) (b : Nat → Nat) (hk : k0 ≤ 255) (hb : ∀ j, b j ≤ 255) (w : World) :
    Calls Try.prog 9 #[dustV k0 b] w fun e w' => e = .returned (.bool true) ∧ Fut w w' := by
  obtain ⟨n, zs, hl, hn, hc, _, hmd⟩ := dmade_call k0 b hk hb 100 (by omega)
  unfold dustV at hmd ⊢
  have HMD := Lib.hid hmd
  have HL := Lib.hid hl
  obtain ⟨W0, hW0⟩ : ∃ W0, W0 = w.alloc (.cells #[.int .u8 (k0 : Nat), .int .u8 (b 0 : Nat), .int .u8 (b 1 : Nat), .int .u8 (b 2 : Nat), .int .u8 (b 3 : Nat), .int .u8 (b 4 : Nat), .int .u8 (b 5 : Nat), .int .u8 (b 6 : Nat), .int .u8 (b 7 : Nat)] 44) := ⟨_, rfl⟩
  have HW := Lib.hid hW0
  have HF0 : Hid (Fut w W0) := Lib.hid (by rw [hW0]; exact Fut.alloc _ _)
  clear hmd hb hW0
  by_cases h3 : n < 3
  · have h3x : (n : Int) < 3 := by omega
    clear hl hc
    go_enter Try.func9, Try.ntmps9
    go_wp2_with fail
    rw [← HW.out]
    refine (HMD.out W0).mono ?_
    rintro _ w1 ⟨g, c, rfl, h1, h2, hO, F1⟩
    have HWK := Lib.hid (works_any w1)
    have HF1 := Lib.hid (HF0.out.trans F1)
    clear hO F1
    go_wp2_with fail
    refine HWK.out.mono ?_
    rintro _ w2 ⟨rfl, F2⟩
    go_wp2_with fail
    go_ret
    exact ⟨rfl, HF1.out.trans F2⟩
  · obtain ⟨m, hm⟩ : ∃ m, n = m + 3 := ⟨n - 3, by omega⟩
    obtain ⟨a, b', c', g', l, m', a0, a1, b0, b1, c0, c1, q1, q2, q3, q4, q5, q6, q7, q8⟩ := tops_between hc (n := m) (by omega)
    have h3x : ¬ (n : Int) < 3 := by omega
    obtain ⟨n1, hn1⟩ : ∃ n1, n - 1 = n1 := ⟨_, rfl⟩
    have hw1 : IntKind.i64.wrap ((n : Int) - 1) = (n1 : Int) := by rw [IntWalk.i64_in _ ⟨by omega, by omega⟩]; omega
    have hw2 : IntKind.i64.wrap ((l : Int) + 1) = (l : Int) + 1 := IntWalk.i64_in _ ⟨by omega, by omega⟩
    have hw3 : IntKind.i64.wrap ((m' : Int) + 1) = (m' : Int) + 1 := IntWalk.i64_in _ ⟨by omega, by omega⟩
    have i1 : (c' : Int) ≤ a := by omega
    have i2 : (a : Int) ≤ (l : Int) + 1 := by omega
    have i3 : (g' : Int) ≤ b' := by omega
    have i4 : (b' : Int) ≤ (m' : Int) + 1 := by omega
    have i5 : (a : Int) ≤ b' := by omega
    have i6 : (b' : Int) < (n1 : Int) := by omega
    have HT1 : Hid (∀ W l' cc, n ≤ cc → IntsAt W l' zs → Calls Try.prog 27 #[.slice l' n cc] W fun e w' => e = .returned (.tuple #[.int .i64 (a : Nat), .int .i64 (b' : Nat), .int .i64 0]) ∧ Fut W w') := Lib.hid (fun W l' cc h1 h2 => by
      have h := ex_3 (tops_any l' cc zs W h2 (by omega) (by omega)) ((a : Int), (b' : Int)) 0 a1 a0
      rw [hl] at h
      exact h)
    have HT2 : Hid (∀ W l' cc, n1 ≤ cc → IntsAt W l' (zs.take n1) → Calls Try.prog 27 #[.slice l' n1 cc] W fun e w' => e = .returned (.tuple #[.int .i64 (c' : Nat), .int .i64 (g' : Nat), .int .i64 0]) ∧ Fut W w') := Lib.hid (fun W l' cc h1 h2 => by
      have hl2 : (zs.take n1).length = n1 := by rw [List.length_take]; omega
      rw [show m + 2 = n1 by omega] at b0 b1
      have h := ex_3 (tops_any l' cc (zs.take n1) W h2 (by omega) (by omega)) ((c' : Int), (g' : Int)) 0 b1 b0
      rw [hl2] at h
      exact h)
    have HT3 : Hid (∀ W l' cc, n1 ≤ cc → IntsAt W l' (zs.drop 1) → Calls Try.prog 27 #[.slice l' n1 cc] W fun e w' => e = .returned (.tuple #[.int .i64 (l : Nat), .int .i64 (m' : Nat), .int .i64 0]) ∧ Fut W w') := Lib.hid (fun W l' cc h1 h2 => by
      have hl2 : (zs.drop 1).length = n1 := by rw [List.length_drop]; omega
      have h := ex_3 (tops_any l' cc (zs.drop 1) W h2 (by omega) (by omega)) ((l : Int), (m' : Int)) 0 c1 c0
      rw [hl2] at h
      exact h)
    have HNN : Hid (n = n1 + 1 ∧ 3 ≤ n ∧ n ≤ 8) := Lib.hid (by omega)
    have hnx : (n : Int) ≤ 8 := by omega
    clear hl hc hm a0 a1 b0 b1 c0 c1 q1 q2 q3 q4 q5 q6 q7 q8 hn1
    go_enter Try.func9, Try.ntmps9
    go_wp2_with fail
    rw [← HW.out]
    refine (HMD.out W0).mono ?_
    rintro _ w1 ⟨g, c, rfl, h1, h2, hO, F1⟩
    have HF1 := Lib.hid (HF0.out.trans F1)
    have HI := Lib.hid (hO.at HL.out.symm)
    have HI2 : Hid (IntsAt w1 (some ⟨g, 0, none⟩) (zs.take n1)) := Lib.hid (HI.out.take n1)
    have HI3 : Hid (IntsAt w1 (some ⟨g, 0 + 1, none⟩) (zs.drop 1)) := Lib.hid (by
      have h := HI.out.drop (k := 1) (cap := c) (by rw [HL.out]; exact h1)
      unfold offK at h
      rw [if_neg (by have := HNN.out; omega)] at h
      exact h)
    have hsl1 := slice_toI g 0 n c n1 (by have := HNN.out; omega)
    have hsl2 : ∀ W, (Instr.sliceAt 22 (.slice (some ⟨g, 0, none⟩) n c) (some (.int .i64 (1 : Int))) none none).run Try.prog W = .ok (.slice (some ⟨g, 0 + 1, none⟩) n1 (c - 1)) W := fun W => by
      have h := slice_fromI g 0 n c 1 (by have := HNN.out; omega) h1 W
      unfold offK at h
      rw [if_neg (by have := HNN.out; omega), show n - 1 = n1 by have := HNN.out; omega] at h
      exact h
    have HCC : Hid (n ≤ c) := Lib.hid h1
    clear hO F1 h1 h2
    go_upto_region 5 with fail
    go_wp2_with fail
    refine (HT1.out w1 _ c HCC.out HI.out).mono ?_
    rintro _ w2 ⟨rfl, F2⟩
    have HF2 := Lib.hid F2
    clear F2
    go_wp2_with fail
    refine (HT2.out w2 _ c (by have := HCC.out; have := HNN.out; omega) (HI2.out.fut HF2.out)).mono ?_
    rintro _ w3 ⟨rfl, F3⟩
    have HF3 := Lib.hid (HF2.out.trans F3)
    clear F3
    go_wp2_with fail
    refine (HT3.out w3 (some ⟨g, 1, none⟩) (c - 1) (by have := HCC.out; have := HNN.out; omega) (HI3.out.fut HF3.out)).mono ?_
    rintro _ w4 ⟨rfl, F4⟩
    have HWK := Lib.hid (works_any w4)
    have HF4 := Lib.hid (HF1.out.trans (HF3.out.trans F4))
    have i7 : (0 : Int) ≤ a := by omega
    clear F4 hsl1 hsl2
    go_wp2_with fail
    refine HWK.out.mono ?_
    rintro _ w5 ⟨rfl, F5⟩
    go_wp2_with fail
    go_ret
    exact ⟨rfl, HF4.out.trans F5⟩
end Go.Proofs.Ytjapconhehdcjaa
