/- steps from a corner: steps_any -/
import Derived.Test.YtflllkamdihfaaaLD
import Derived.Deep.DeepCutAuto
namespace Go.Proofs.Ytflllkamdihfaaa
open Go.RowKit Go.Sort
/-- the corners to which one step leads. -/
def stL (c m : Int) (S : List Int) (k : Int) : List Int := (if ¬ (k + 1) % c = 0 ∧ atE m S (k + 1) = 0 then [k + 1] else []) ++ (if atE m S (k + c) = 0 then [k + c] else [])
set_option maxRecDepth 100000 in
set_option maxHeartbeats 2000000 in
theorem steps_any (r c m : Int) (hs : Side r c m) (a : Option Addr) (cap : Nat) (S : List Int) (k : Int) (hk : 0 ≤ k ∧ k < m) (w : World) (hS : IntsAt w a S) (hl : S.length ≤ 1000) :
    Calls Try.prog 108 #[parV r c a S.length cap, .int .i64 k] w fun e w' => ∃ v, e = .returned v ∧ Owns w' w.heap.size v (stL c m S k) ∧ Fut w w' := by
  obtain ⟨i0, hi0, hz0, hz1, hz2⟩ := info_parts info3
  have hm := hs.m
  have HAT := Lib.hid (fun x W (F : Fut w W) => at_any r c m hs a cap S x W (hS.fut F) hl)
  obtain ⟨_, _, hc1, hc4, _⟩ := hs
  obtain ⟨hk1, hk2⟩ := hk
  have hF : Fut w (w.alloc (.cells #[.int .i64 r, .int .i64 c, .slice a S.length cap] 24)) := Fut.alloc _ _
  have hBP := BoxP.new w r c a S.length cap
  obtain ⟨R, hR⟩ : ∃ R, R = (k + 1) % c := ⟨_, rfl⟩
  have hR2 : (k + 1).tmod c = R := by rw [Int.tmod_eq_emod_of_nonneg (by omega), hR]
  have hRb : 0 ≤ R ∧ R < 4 := by
    rw [hR]
    exact ⟨Int.emod_nonneg _ (by omega), by have := Int.emod_lt_of_pos (k + 1) (show 0 < c by omega); omega⟩
  have hw1 : IntKind.i64.wrap (k + 1) = k + 1 := IntWalk.i64_in _ ⟨by omega, by omega⟩
  have hw2 : IntKind.i64.wrap (k + c) = k + c := IntWalk.i64_in _ ⟨by omega, by omega⟩
  obtain ⟨hRb1, hRb2⟩ := hRb
  have hw3 : IntKind.i64.wrap R = R := IntWalk.i64_in _ ⟨by omega, by omega⟩
  have hc0 : ¬ c = 0 := by omega
  have hr0 : 0 ≤ k + 1 := by omega
  obtain ⟨L1, HL1⟩ : ∃ L1, Hid (L1 = if ¬ R = 0 ∧ atE m S (k + 1) = 0 then [k + 1] else []) := ⟨_, Lib.hid rfl⟩
  obtain ⟨L2, HL2⟩ : ∃ L2, Hid (L2 = if atE m S (k + c) = 0 then [k + c] else []) := ⟨_, Lib.hid rfl⟩
  have HST : Hid (stL c m S k = L1 ++ L2) := Lib.hid (by rw [HL1.out, HL2.out, hR]; rfl)
  have HA1 := Lib.hid (HAT.out (k + 1))
  have HA2 := Lib.hid (HAT.out (k + c))
  generalize atE m S (k + 1) = e1 at *
  generalize atE m S (k + c) = e2 at *
  rw [HST.out]
  have hR3 : (k + 1) % c = R := hR.symm
  have HM := Lib.hid hm
  clear hR hm HST hS hl HAT
  go_enter Try.func108, Try.ntmps108
  go_wp2_with fail
  generalize hW1 : w.alloc (.cells #[.int .i64 r, .int .i64 c, .slice a S.length cap] 24) = w1 at *
  clear hW1
  have p1 := hBP.c1
  have HBP := Lib.hid hBP
  have HF := Lib.hid hF
  clear hBP hF
  go_quiet (fail)
  have hF2 : Fut w1 (w1.drewN nq) := Fut.drewN _ _
  have HBP2 := Lib.hid (HBP.out.fut hF2)
  have HF2 := Lib.hid (HF.out.trans hF2)
  clear hF2 HBP HF p1
  generalize w1.drewN nq = w2 at *
  obtain ⟨_, p0, p1, p2⟩ := HBP2.out
  have hsz : w.heap.size ≤ w2.heap.size := RowKit.Below.size HF2.out
  obtain ⟨b1, hb1⟩ : ∃ b1, b1 = decide (¬ R = 0 ∧ e1 = 0) := ⟨_, rfl⟩
  have HB1 : Hid (L1 = if b1 = true then [k + 1] else []) := Lib.hid (by rw [HL1.out, hb1]; simp only [decide_eq_true_eq])
  obtain ⟨b2, hb2⟩ : ∃ b2, b2 = decide (e2 = 0) := ⟨_, rfl⟩
  have HB2 : Hid (L2 = if b2 = true then [k + c] else []) := Lib.hid (by rw [HL2.out, hb2]; simp only [decide_eq_true_eq])
  have HL1L : Hid (L1.length ≤ 1) := Lib.hid (by rw [HB1.out]; cases b1 <;> simp)
  have Hb1 := Lib.hid hb1
  have Hb2 := Lib.hid hb2
  clear hb1 hb2
  go_upto_region 3 with fail
  go_cut [24] from 14 to 24 (fun s24 wx => s24 = .bool b1 ∧ Hid (Fut w wx) ∧ Hid (BoxP wx w.heap.size r c a S.length cap))
  case first =>
    by_cases hR0 : R = 0
    · subst hR0
      obtain rfl : b1 = false := by rw [Hb1.out]; simp
      go_wp2_with fail
      go_meet
      exact ⟨rfl, HF2, HBP2⟩
    · by_cases he : e1 = 0
      · subst he
        obtain rfl : b1 = true := by rw [Hb1.out]; simp [hR0]
        go_wp2_with fail
        refine (HA1.out _ HF2.out).mono ?_
        rintro _ w3 ⟨rfl, F⟩
        have HF3 := Lib.hid (HF2.out.trans F)
        have HBP3 := Lib.hid (HBP2.out.fut F)
        clear F
        go_wp2_with fail
        go_meet
        exact ⟨by simp [hR0], HF3, HBP3⟩
      · obtain rfl : b1 = false := by rw [Hb1.out]; simp [he]
        go_wp2_with fail
        refine (HA1.out _ HF2.out).mono ?_
        rintro _ w3 ⟨rfl, F⟩
        have HF3 := Lib.hid (HF2.out.trans F)
        have HBP3 := Lib.hid (HBP2.out.fut F)
        clear F
        go_wp2_with fail
        go_meet
        exact ⟨by simp [he], HF3, HBP3⟩
  case rest =>
    obtain ⟨rfl, HF3, HBP3⟩ := hcut
    obtain ⟨w3, hw3'⟩ : ∃ w3, w3 = wc := ⟨_, rfl⟩
    subst hw3'
    clear HF2 HBP2 p0 p1 p2 hsz hw1 hw2 hw3 hR2 hR3 HL1 HA1 Hb1
    go_upto_if 24 with fail
    go_cut [5] from 24 to 28 (fun s5 wx => ∃ l cp, s5 = .slice l L1.length cp ∧ Hid (Owns wx w.heap.size (.slice l L1.length cp) L1) ∧ Hid (Fut w wx) ∧ Hid (BoxP wx w.heap.size r c a S.length cap))
    case first =>
      cases b1
      · obtain rfl : L1 = [] := HB1.out
        go_wp2_with fail
        go_meet
        exact ⟨none, 0, rfl, Lib.hid (World.ownsRow_nil _ _ _ _), HF3, HBP3⟩
      · obtain rfl : L1 = [k + 1] := HB1.out
        have HR : Hid ((w3.alloc (.cells #[.int .i64 (k + 1)] 3)).ownsRow w.heap.size 3 1 (.slice none 0 0) 0 []) := Lib.hid (World.ownsRow_nil _ _ _ _)
        have HZ : Hid (w.heap.size ≤ (w3.alloc (.cells #[.int .i64 (k + 1)] 3)).heap.size) := Lib.hid (RowKit.Below.size (HF3.out.trans (Fut.alloc _ _)))
        go_wp2_with (at_builtin; refine wpList_append_lies _ rfl _ _ 22 rfl w.heap.size 3 i0 (.int .i64 0) 1 8 Try.underlying22 hi0 hz0 hz1 hz2 rfl (by decide) _ 0 [] rfl HR.out ⟨w3.heap.size, 0, none⟩ 1 1 [.int .i64 (k + 1)] rfl rfl (cell_one (by simp [go_sem])) (by simp [Value.oneCell']) (by omega) (by unfold maxLen; omega) (by omega) HZ.out _ rfl ?_)
        intro g8 c8 w8 hown8 hgrow8 _ _
        have HO8 : Hid (Owns w8 w.heap.size (.slice (some ⟨g8, 0, none⟩) 1 c8) [k + 1]) := Lib.hid hown8
        have F8 : Fut w3 w8 := (Fut.alloc w3 (.cells #[.int .i64 (k + 1)] 3)).trans (fut_grown hgrow8)
        have HF8 := Lib.hid (HF3.out.trans F8)
        have HBP8 := Lib.hid (HBP3.out.fut F8)
        clear hown8 hgrow8 F8
        go_wp2_with fail
        go_meet
        exact ⟨_, _, rfl, HO8, HF8, HBP8⟩
    case rest =>
      obtain ⟨l, cp, rfl, HO4, HF4, HBP4⟩ := hcut
      obtain ⟨w4, hw4'⟩ : ∃ w4, w4 = wc := ⟨_, rfl⟩
      subst hw4'
      clear HF3 HBP3 HB1
      obtain ⟨_, p0, p1, p2⟩ := HBP4.out
      go_wp2_with fail
      refine (HA2.out _ HF4.out).mono ?_
      rintro _ w5 ⟨rfl, F⟩
      have HF5 := Lib.hid (HF4.out.trans F)
      have HO5 := Lib.hid (HO4.out.fut F)
      clear F p0 p1 p2 HBP4 HO4 HF4
      by_cases he : e2 = 0
      · subst he
        obtain rfl : b2 = true := by rw [Hb2.out]; simp
        obtain rfl : L2 = [k + c] := HB2.out
        have hL1 := HL1L.out
        have HR : Hid ((w5.alloc (.cells #[.int .i64 (k + c)] 3)).ownsRow w.heap.size 3 1 (.slice l L1.length cp) L1.length (L1.map (Value.int .i64))) := Lib.hid (HO5.out.fut (Fut.alloc _ _))
        have HZ : Hid (w.heap.size ≤ (w5.alloc (.cells #[.int .i64 (k + c)] 3)).heap.size) := Lib.hid (RowKit.Below.size (HF5.out.trans (Fut.alloc _ _)))
        go_wp2_with (at_builtin; refine wpList_append_lies _ rfl _ _ 22 rfl w.heap.size 3 i0 (.int .i64 0) 1 8 Try.underlying22 hi0 hz0 hz1 hz2 rfl (by decide) _ L1.length (L1.map (Value.int .i64)) rfl HR.out ⟨w5.heap.size, 0, none⟩ 1 1 [.int .i64 (k + c)] rfl rfl (cell_one (by simp [go_sem])) (by simp [Value.oneCell']) (by omega) (by unfold maxLen; omega) (by omega) HZ.out _ rfl ?_)
        intro g8 c8 w8 hown8 hgrow8 _ _
        have HO8 : Hid (Owns w8 w.heap.size (.slice (some ⟨g8, 0, none⟩) (L1.length + 1) c8) (L1 ++ [k + c])) := Lib.hid (by
          unfold Owns
          rw [List.length_append, List.length_singleton, List.map_append]
          exact hown8)
        have HF8 := Lib.hid (RowKit.Below.grown (HF5.out.trans (Fut.alloc w5 (.cells #[.int .i64 (k + c)] 3))) hgrow8 HZ.out fun q hq => (World.ownsRow.lt HR.out q hq).1)
        clear hown8 hgrow8
        go_wp2_with fail
        go_ret
        exact ⟨_, rfl, HO8.out, HF8.out⟩
      · obtain rfl : b2 = false := by rw [Hb2.out]; simp [he]
        obtain rfl : L2 = [] := HB2.out
        go_wp2_with fail
        go_ret
        exact ⟨_, rfl, by rw [List.append_nil]; exact HO5.out, HF5.out⟩
end Go.Proofs.Ytflllkamdihfaaa
