/- Layer 2: the reference's Fewest and Count. -/
import Derived.Test.YtimddkofcejijaaSV
namespace Go.Proofs.Ytimddkofcejijaa
open Go.RowKit Go.Sort
theorem enL_le {ss : List (Int × Int)} (hl : ss.length ≤ 9) : (enL ss).length ≤ 512 := by
  unfold enL
  refine Nat.le_trans (List.length_filter_le _ _) ?_
  rw [allF_len]
  exact Nat.le_trans (Nat.pow_le_pow_right (by decide) hl) (by decide)
theorem tail_take {zss : List (List Int)} {k : Nat} (h1 : 1 ≤ k) (h : k < zss.length) : (zss.take (k + 1)).tail = (zss.take k).tail ++ [lth zss k] := by
  rw [take_lth zss k h]
  obtain ⟨j, rfl⟩ : ∃ j, k = j + 1 := ⟨k - 1, by omega⟩
  cases zss with
  | nil => simp at h
  | cons z t => simp
theorem best_step (t : List (List Int)) (l b : List Int) : bestF (t ++ [l]) b = if l.length < (bestF t b).length then l else bestF t b := by
  unfold bestF
  rw [List.foldl_append]; rfl
set_option maxRecDepth 100000 in
set_option maxHeartbeats 4000000 in
/-- the reference's Fewest. -/
theorem fewestR_any (c : Int) (a : Option Addr) (cap : Nat) (ss : List (Int × Int)) (w : World) (hS : StrAt w a ss) :
    Calls Try.prog 23 #[mapV c a ss.length cap] w (TupL (chkM c ss) (fewR c ss) w) := by
  have HC := Lib.hid (fun W (F : Fut w W) => checkR_any c a cap ss W (hS.fut F))
  by_cases h : chkM c ss = 0
  · have hfr : fewR c ss = fewM ss := by unfold fewR; rw [if_pos h]
    rw [hfr]
    rw [h] at HC ⊢
    obtain ⟨hc1, hc6, hl, _, hp, _⟩ := chk_good h
    obtain ⟨n, rfl⟩ := Int.eq_ofNat_of_zero_le (show 0 ≤ c by omega)
    have HE := Lib.hid (fun W (F : Fut w W) => enoughL_any n a cap ss W (hS.fut F) hl (by omega) hp)
    obtain ⟨h0, t, he⟩ := enL_cons (ss := ss) (by omega)
    have HBF := Lib.hid (best_few (by omega) he)
    have hle := enL_le hl
    have hpos : 0 < (enL ss).length := by rw [he]; simp
    have HTL : Hid ((enL ss).tail = t) := Lib.hid (by rw [he]; rfl)
    have HH0 : Hid (lth (enL ss) 0 = h0) := Lib.hid (by rw [he]; rfl)
    clear h hfr hp hS he
    generalize enL ss = EN at *
    generalize fewM ss = FM at *
    go_enter Try.func23, Try.ntmps23
    go_wp2_with fail
    have hB := BoxM.new w n a ss.length cap 28
    have hF : Fut w (w.alloc (.cells #[.int .i64 n, .slice a ss.length cap] 28)) := Fut.alloc _ _
    generalize w.alloc (.cells #[.int .i64 n, .slice a ss.length cap] 28) = W1 at *
    generalize w.heap.size = B at *
    have HB := Lib.hid hB
    have HF := Lib.hid hF
    clear hB hF
    refine (HC.out _ HF.out).mono ?_
    rintro _ w2 ⟨rfl, F2⟩
    have HF2 := Lib.hid (HF.out.trans F2)
    obtain ⟨hb, b0, b1⟩ := HB.out.fut F2
    clear F2
    go_wp2_with fail
    refine (HE.out _ HF2.out).mono ?_
    rintro _ w3 ⟨v, rfl, hX, F3⟩
    have HX := Lib.hid hX
    have HF3 := Lib.hid (HF2.out.trans F3)
    obtain ⟨g, gc, l0, lc0, rfl, hg, hc0, hO0⟩ := hX.at hpos
    obtain ⟨l0', lc0', e, hI0⟩ := hO0.ints
    simp only [Value.slice.injEq] at e
    obtain ⟨rfl, _, rfl⟩ := e
    have HI0 := Lib.hid hI0
    rw [HH0.out] at hc0 HI0
    have hgx : (0 : Int) < EN.length := by omega
    clear hb b0 b1 hX F3 hO0 hI0
    go_wp2_with fail
    go_loop [6, 7] (fun bv iv => ∃ (k : Nat) (b : List Int) (bl : Option Addr) (lc : Nat), 1 ≤ k ∧ k ≤ EN.length ∧ iv = .int .i64 k ∧ bv = .slice bl b.length lc ∧ Hid (bestF ((EN.take k).tail) h0 = b) ∧ Hid (IntsAt w3 bl b)) (fun _ iv => EN.length - (intOf iv).toNat)
    case atStart =>
      refine ⟨1, h0, l0, lc0, Nat.le_refl _, hpos, rfl, rfl, Lib.hid ?_, HI0⟩
      cases EN with
      | nil => simp at hpos
      | cons z t => rfl
    case round =>
      clear HI0
      obtain ⟨k, b, bl, lc, hk1, hk, rfl, rfl, HB, HI⟩ := hrel
      by_cases hlt : k < EN.length
      · have hkx : (k : Int) < EN.length := by omega
        obtain ⟨g', c', l, lc', e, _, hcell, hOl⟩ := HX.out.at hlt
        simp only [Value.slice.injEq, Option.some.injEq, Addr.mk.injEq, and_true] at e
        obtain ⟨rfl, _, rfl⟩ := e
        obtain ⟨l', lc'', e, hI⟩ := hOl.ints
        simp only [Value.slice.injEq] at e
        obtain ⟨rfl, _, rfl⟩ := e
        have HIL := Lib.hid hI
        have HST : Hid (bestF ((EN.take (k + 1)).tail) h0 = if (lth EN k).length < b.length then lth EN k else b) := Lib.hid (by rw [tail_take hk1 hlt, best_step, HB.out])
        clear hI hOl HB
        generalize lth EN k = z at *
        by_cases hz : z.length < b.length
        · have hzx : (z.length : Int) < b.length := by omega
          rw [if_pos hz] at HST
          go_wp2
          go_round
          case rel => exact ⟨k + 1, z, l, lc', by omega, by omega, by go_num, rfl, HST, HIL⟩
          case measure => simp [intOf]; omega
        · have hzx : ¬ (z.length : Int) < b.length := by omega
          rw [if_neg hz] at HST
          go_wp2
          go_round
          case rel => exact ⟨k + 1, b, bl, lc, by omega, by omega, by go_num, rfl, HST, HI⟩
          case measure => simp [intOf]; omega
      · obtain rfl : k = EN.length := by omega
        have hb : b = FM := by
          have := HB.out
          rw [List.take_length, HTL.out, HBF.out] at this
          exact this.symm
        subst hb
        go_wp2
        go_ret2
        exact ⟨bl, lc, rfl, HI.out, HF3.out⟩
  · have hfr : fewR c ss = [] := by unfold fewR; rw [if_neg h]
    rw [hfr]
    have hne : (chkM c ss != 0) = true := bne_iff_ne.2 h
    clear h hfr
    generalize chkM c ss = r at *
    go_enter Try.func23, Try.ntmps23
    go_wp2_with fail
    have hF : Fut w (w.alloc (.cells #[.int .i64 c, .slice a ss.length cap] 28)) := Fut.alloc _ _
    generalize w.alloc (.cells #[.int .i64 c, .slice a ss.length cap] 28) = W1 at *
    generalize w.heap.size = B at *
    have HF := Lib.hid hF
    clear hF
    refine (HC.out _ HF.out).mono ?_
    rintro _ w2 ⟨rfl, F2⟩
    have HF2 := Lib.hid (HF.out.trans F2)
    clear F2
    go_wp2
    go_ret2
    exact ⟨none, 0, rfl, nil_ints _ _, HF2.out⟩
set_option maxRecDepth 100000 in
set_option maxHeartbeats 4000000 in
/-- the reference's Count. -/
theorem countRf_any (c : Int) (a : Option Addr) (cap : Nat) (ss : List (Int × Int)) (w : World) (hS : StrAt w a ss) :
    Calls Try.prog 25 #[mapV c a ss.length cap] w fun e w' => e = .returned (.tuple #[.int .i64 (countR c ss), .int .i64 (chkM c ss)]) ∧ Fut w w' := by
  have HC := Lib.hid (fun W (F : Fut w W) => checkR_any c a cap ss W (hS.fut F))
  by_cases h : chkM c ss = 0
  · obtain ⟨hc1, hc6, hl, _, hp, _⟩ := chk_good h
    have hfr : countR c ss = ((enL ss).length : Int) := by unfold countR; rw [if_pos h, enL_len (by omega)]
    rw [hfr]
    rw [h] at HC ⊢
    obtain ⟨n, rfl⟩ := Int.eq_ofNat_of_zero_le (show 0 ≤ c by omega)
    have HE := Lib.hid (fun W (F : Fut w W) => enoughL_any n a cap ss W (hS.fut F) hl (by omega) hp)
    have hle := enL_le hl
    clear h hfr hp hS
    generalize enL ss = EN at *
    go_enter Try.func25, Try.ntmps25
    go_wp2_with fail
    have hB := BoxM.new w n a ss.length cap 28
    have hF : Fut w (w.alloc (.cells #[.int .i64 n, .slice a ss.length cap] 28)) := Fut.alloc _ _
    generalize w.alloc (.cells #[.int .i64 n, .slice a ss.length cap] 28) = W1 at *
    generalize w.heap.size = B at *
    have HB := Lib.hid hB
    have HF := Lib.hid hF
    clear hB hF
    refine (HC.out _ HF.out).mono ?_
    rintro _ w2 ⟨rfl, F2⟩
    have HF2 := Lib.hid (HF.out.trans F2)
    obtain ⟨hb, b0, b1⟩ := HB.out.fut F2
    clear F2
    go_wp2_with fail
    refine (HE.out _ HF2.out).mono ?_
    rintro _ w3 ⟨v, rfl, hX, F3⟩
    have HF3 := Lib.hid (HF2.out.trans F3)
    obtain ⟨av, ac, rfl⟩ := hX.len
    clear hb b0 b1 hX F3
    go_wp2
    go_ret2
    exact ⟨rfl, HF3.out⟩
  · have hfr : countR c ss = 0 := by unfold countR; rw [if_neg h]
    rw [hfr]
    have hne : (chkM c ss != 0) = true := bne_iff_ne.2 h
    clear h hfr
    generalize chkM c ss = r at *
    go_enter Try.func25, Try.ntmps25
    go_wp2_with fail
    have hF : Fut w (w.alloc (.cells #[.int .i64 c, .slice a ss.length cap] 28)) := Fut.alloc _ _
    generalize w.alloc (.cells #[.int .i64 c, .slice a ss.length cap] 28) = W1 at *
    generalize w.heap.size = B at *
    have HF := Lib.hid hF
    clear hF
    refine (HC.out _ HF.out).mono ?_
    rintro _ w2 ⟨rfl, F2⟩
    have HF2 := Lib.hid (HF.out.trans F2)
    clear F2
    go_wp2
    go_ret2
    exact ⟨rfl, HF2.out⟩
end Go.Proofs.Ytimddkofcejijaa
