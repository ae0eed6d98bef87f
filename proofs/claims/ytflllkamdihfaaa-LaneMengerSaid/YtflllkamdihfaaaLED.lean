/- the law's steps 102 (lsteps_any) -/
import Derived.Test.YtflllkamdihfaaaLEC
import Derived.Test.YtflllkamdihfaaaLCG
import Derived.Test.YtflllkamdihfaaaLDH
namespace Go.Proofs.Ytflllkamdihfaaa
open Go.RowKit Go.Sort
theorem lst_eq {r c m : Int} (hs : Side r c m) (S : List Int) (k : Int) (hk : 0 ≤ k ∧ k < m) : stL c m S k = (if k % c + 1 < c ∧ S.contains (k + 1) = false then [k + 1] else []) ++ (if k / c + 1 < r ∧ S.contains (k + c) = false then [k + c] else []) := by
  obtain ⟨h1, h2, h3, h4, h5⟩ := hs
  have a1 : (¬ (k + 1) % c = 0 ∧ 0 ≤ k + 1 ∧ k + 1 < m) ↔ k % c + 1 < c := by
    rcases (by omega : c = 1 ∨ c = 2 ∨ c = 3 ∨ c = 4) with rfl | rfl | rfl | rfl <;> omega
  have a2 : (0 ≤ k + c ∧ k + c < m) ↔ k / c + 1 < r := by
    rcases (by omega : c = 1 ∨ c = 2 ∨ c = 3 ∨ c = 4) with rfl | rfl | rfl | rfl <;> omega
  have e1 : (¬ (k + 1) % c = 0 ∧ atE m S (k + 1) = 0) ↔ (k % c + 1 < c ∧ S.contains (k + 1) = false) := by
    rw [atE_zero, Bool.eq_false_iff, ne_eq, List.contains_iff_mem, ← a1]
    exact ⟨fun ⟨h1, h2, h3, h4⟩ => ⟨⟨h1, h2, h3⟩, h4⟩, fun ⟨⟨h1, h2, h3⟩, h4⟩ => ⟨h1, h2, h3, h4⟩⟩
  have e2 : atE m S (k + c) = 0 ↔ (k / c + 1 < r ∧ S.contains (k + c) = false) := by
    rw [atE_zero, Bool.eq_false_iff, ne_eq, List.contains_iff_mem, ← a2]
    exact ⟨fun ⟨h2, h3, h4⟩ => ⟨⟨h2, h3⟩, h4⟩, fun ⟨⟨h2, h3⟩, h4⟩ => ⟨h2, h3, h4⟩⟩
  unfold stL
  simp only [e1, e2]
set_option maxRecDepth 100000 in
set_option maxHeartbeats 8000000 in
theorem lsteps_any (r c m : Int) (hs : Side r c m) (a : Option Addr) (cap : Nat) (S : List Int) (k : Int) (hk : 0 ≤ k ∧ k < m) (w : World) (hS : IntsAt w a S) (hl : S.length ≤ 1000) :
    Calls Try.prog 102 #[parV r c a S.length cap, .int .i64 k] w fun e w' => ∃ v, e = .returned v ∧ Owns w' w.heap.size v (stL c m S k) ∧ Fut w w' := by
  obtain ⟨i0, hi0, hz0, hz1, hz2⟩ := info_parts info3
  have hmm := side_m hs
  have HST0 := Lib.hid (lst_eq hs S k hk)
  obtain ⟨hr1, hr4, hc1, hc4, _⟩ := hs
  obtain ⟨hk1, hk2⟩ := hk
  have HC1 := Lib.hid (fun W (F : Fut w W) => contains_any a cap S (k + 1) W (hS.fut F) hl)
  have HC2 := Lib.hid (fun W (F : Fut w W) => contains_any a cap S (k + c) W (hS.fut F) hl)
  have HF1 : Hid (Fut w (w.alloc (.cells #[.int .i64 r, .int .i64 c, .slice a S.length cap] 24))) := Lib.hid (Fut.alloc _ _)
  have HBP1 := Lib.hid (BoxP.new w r c a S.length cap)
  obtain ⟨R, hR⟩ : ∃ R, R = k % c := ⟨_, rfl⟩
  obtain ⟨Q, hQ⟩ : ∃ Q, Q = k / c := ⟨_, rfl⟩
  have hRb : 0 ≤ R ∧ R < 4 := by
    rw [hR]
    exact ⟨Int.emod_nonneg _ (by omega), by have := Int.emod_lt_of_pos k (show 0 < c by omega); omega⟩
  have hQb : 0 ≤ Q ∧ Q ≤ 16 := by
    rw [hQ]
    exact ⟨Int.ediv_nonneg hk1 (by omega), Int.le_trans (Int.ediv_le_self c hk1) (by omega)⟩
  obtain ⟨hRb1, hRb2⟩ := hRb
  obtain ⟨hQb1, hQb2⟩ := hQb
  have hR2 : k.tmod c = R := by rw [Int.tmod_eq_emod_of_nonneg (by omega), hR]
  have hQ2 : k.tdiv c = Q := by rw [Int.tdiv_eq_ediv_of_nonneg (by omega), hQ]
  have hw1 : IntKind.i64.wrap (k + 1) = k + 1 := IntWalk.i64_in _ ⟨by omega, by omega⟩
  have hw2 : IntKind.i64.wrap (k + c) = k + c := IntWalk.i64_in _ ⟨by omega, by omega⟩
  have hw3 : IntKind.i64.wrap R = R := IntWalk.i64_in _ ⟨by omega, by omega⟩
  have hw4 : IntKind.i64.wrap (R + 1) = R + 1 := IntWalk.i64_in _ ⟨by omega, by omega⟩
  have hw5 : IntKind.i64.wrap Q = Q := IntWalk.i64_in _ ⟨by omega, by omega⟩
  have hw6 : IntKind.i64.wrap (Q + 1) = Q + 1 := IntWalk.i64_in _ ⟨by omega, by omega⟩
  have hc0 : ¬ c = 0 := by omega
  obtain ⟨L1, HL1⟩ : ∃ L1, Hid (L1 = if R + 1 < c ∧ S.contains (k + 1) = false then [k + 1] else []) := ⟨_, Lib.hid rfl⟩
  obtain ⟨L2, HL2⟩ : ∃ L2, Hid (L2 = if Q + 1 < r ∧ S.contains (k + c) = false then [k + c] else []) := ⟨_, Lib.hid rfl⟩
  have HST : Hid (stL c m S k = L1 ++ L2) := Lib.hid (by rw [HST0.out, HL1.out, HL2.out, hR, hQ])
  have hR3 : k % c = R := hR.symm
  have hQ3 : k / c = Q := hQ.symm
  clear hR hQ HST0 hS hl
  generalize stL c m S k = E at *
  go_enter Try.func102, Try.ntmps102
  go_wp2_with fail
  generalize hW1 : w.alloc (.cells #[.int .i64 r, .int .i64 c, .slice a S.length cap] 24) = w1 at *
  clear hW1
  obtain ⟨_, p0, p1, p2⟩ := HBP1.out
  have HQ1 := Lib.hid (fun nq => HC1.out (w1.drewN nq) (HF1.out.trans (Fut.drewN _ nq)))
  by_cases hd1 : R + 1 < c
  · cases hs1 : S.contains (k + 1)
    · have hF1 : L1 = [k + 1] := by rw [HL1.out, if_pos ⟨hd1, hs1⟩]
      rw [hs1] at HQ1
      have HF1L := Lib.hid hF1
      clear hF1 hs1
      go_upto_region 2 with fail
      go_quiet (first | (with_reducible (go_at_call 57; exact Calls.quiet_of_same ((HQ1.out _).mono fun _ _ ⟨h, h'⟩ => ⟨h, h'.symm⟩))))
      have HF2 := Lib.hid (HF1.out.trans (Fut.drewN w1 nq))
      have HBP2 := Lib.hid (HBP1.out.fut (Fut.drewN w1 nq))
      clear p0 p1 p2 HQ1 HF1 HBP1 HC1
      generalize w1.drewN nq = w2 at *
      obtain ⟨_, p0, p1, p2⟩ := HBP2.out
      have HRW1 : Hid ((w2.alloc (.cells #[.int .i64 (k + 1)] 3)).ownsRow w.heap.size 3 1 (.slice none 0 0) 0 []) := Lib.hid (World.ownsRow_nil _ _ _ _)
      have HFA1 := Lib.hid (HF2.out.trans (Fut.alloc w2 (.cells #[.int .i64 (k + 1)] 3)))
      go_wp2_with (at_builtin; refine wpList_append_lies _ rfl _ _ 22 rfl w.heap.size 3 i0 (.int .i64 0) 1 8 Try.underlying22 hi0 hz0 hz1 hz2 rfl (by decide) _ 0 [] rfl HRW1.out ⟨w2.heap.size, 0, none⟩ 1 1 [.int .i64 (k + 1)] rfl rfl (cell_one (by simp [go_sem])) (by simp [Value.oneCell']) (by omega) (by unfold maxLen; omega) (by omega) (RowKit.Below.size HFA1.out) _ rfl ?_)
      intro g3 c3 w3 hown3 hgrow3 _ _
      have F3 : Fut w2 w3 := (Fut.alloc w2 (.cells #[.int .i64 (k + 1)] 3)).trans (fut_grown hgrow3)
      have HF3 := Lib.hid (HF2.out.trans F3)
      have HBP3 := Lib.hid (HBP2.out.fut F3)
      have HO3 : Hid (w3.ownsRow w.heap.size 3 1 (.slice (some ⟨g3, 0, none⟩) 1 c3) 1 ([k + 1].map (Value.int .i64))) := Lib.hid hown3
      clear hown3 hgrow3 F3 p0 p1 p2 HRW1 HFA1 HF2 HBP2
      by_cases hd2 : Q + 1 < r
      · cases hs2 : S.contains (k + c)
        · have HE : Hid (E = [k + 1] ++ [k + c]) := Lib.hid (by rw [HST.out, HL2.out, if_pos ⟨hd2, hs2⟩]; rw [HF1L.out])
          rw [hs2] at HC2
          obtain ⟨_, p0, p1, p2⟩ := HBP3.out
          have HQ2 := Lib.hid (fun nq => HC2.out (w3.drewN nq) (HF3.out.trans (Fut.drewN _ nq)))
          go_upto_region 4 with fail
          go_quiet (first | (with_reducible (go_at_call 57; exact Calls.quiet_of_same ((HQ2.out _).mono fun _ _ ⟨h, h'⟩ => ⟨h, h'.symm⟩))))
          have HF3z := Lib.hid (HF3.out.trans (Fut.drewN w3 nq))
          have HO3z := Lib.hid (row_fut (w' := w3.drewN nq) (HO3.out) (Fut.drewN w3 nq))
          have HB3z := Lib.hid (HBP3.out.fut (Fut.drewN w3 nq))
          clear p0 p1 p2 HQ2
          generalize w3.drewN nq = wq3z at *
          obtain ⟨_, p0, p1, p2⟩ := HB3z.out
          have HRW : Hid ((wq3z.alloc (.cells #[.int .i64 (k + c)] 3)).ownsRow w.heap.size 3 1 (.slice (some ⟨g3, 0, none⟩) 1 c3) 1 ([k + 1].map (Value.int .i64))) := Lib.hid (World.ownsRow.alloc HO3z.out _)
          have HFA := Lib.hid (HF3z.out.trans (Fut.alloc wq3z (.cells #[.int .i64 (k + c)] 3)))
          go_wp2_with (at_builtin; refine wpList_append_src rfl _ _ 22 rfl w.heap.size 3 i0 (.int .i64 0) 8 Try.underlying22 hi0 hz0 hz1 hz2 rfl (.slice (some ⟨g3, 0, none⟩) 1 c3) 1 ([k + 1].map (Value.int .i64)) rfl HRW.out _ 1 [.int .i64 (k + c)] rfl (.inr ⟨⟨wq3z.heap.size, 0, none⟩, 1, rfl, rfl, cell_one (by simp [go_sem]), by simp [Value.oneCell']⟩) (by unfold maxLen; omega) (by omega) (RowKit.Below.size HFA.out) ?_)
          intro av ac wn hown hgr
          have HFn : Hid (Fut w wn) := Lib.hid (RowKit.Below.grown HFA.out hgr (RowKit.Below.size HFA.out) fun q hq => (World.ownsRow.lt HRW.out q hq).1)
          have HOn : Hid (Owns wn w.heap.size (.slice av (1 + 1) ac) ([k + 1] ++ [k + c])) := Lib.hid (by unfold Owns; rw [List.length_append, List.map_append]; exact hown)
          clear hown hgr p0 p1 p2
          go_wp2_with fail
          go_ret
          exact ⟨_, rfl, by rw [HE.out]; exact HOn.out, HFn.out⟩
        · have HE : Hid (E = [k + 1]) := Lib.hid (by rw [HST.out, HL2.out, if_neg (fun q => by rw [hs2] at q; cases q.2)]; rw [HF1L.out]; try simp)
          rw [hs2] at HC2
          obtain ⟨_, p0, p1, p2⟩ := HBP3.out
          have HQ2 := Lib.hid (fun nq => HC2.out (w3.drewN nq) (HF3.out.trans (Fut.drewN _ nq)))
          go_upto_region 4 with fail
          go_quiet (first | (with_reducible (go_at_call 57; exact Calls.quiet_of_same ((HQ2.out _).mono fun _ _ ⟨h, h'⟩ => ⟨h, h'.symm⟩))))
          have HF3z := Lib.hid (HF3.out.trans (Fut.drewN w3 nq))
          have HO3z := Lib.hid (row_fut (w' := w3.drewN nq) (HO3.out) (Fut.drewN w3 nq))
          have HB3z := Lib.hid (HBP3.out.fut (Fut.drewN w3 nq))
          clear p0 p1 p2 HQ2
          generalize w3.drewN nq = wq3z at *
          go_wp2_with fail
          go_ret
          exact ⟨_, rfl, by rw [HE.out]; exact HO3z.out, HF3z.out⟩
      · have HE : Hid (E = [k + 1]) := Lib.hid (by rw [HST.out, HL2.out, if_neg (fun q => hd2 q.1)]; rw [HF1L.out]; try simp)
        obtain ⟨_, p0, p1, p2⟩ := HBP3.out
        have HQ2 := Lib.hid (fun nq => HC2.out (w3.drewN nq) (HF3.out.trans (Fut.drewN _ nq)))
        go_upto_region 4 with fail
        go_quiet (fail)
        have HF3z := Lib.hid (HF3.out.trans (Fut.drewN w3 nq))
        have HO3z := Lib.hid (row_fut (w' := w3.drewN nq) (HO3.out) (Fut.drewN w3 nq))
        have HB3z := Lib.hid (HBP3.out.fut (Fut.drewN w3 nq))
        clear p0 p1 p2 HQ2
        generalize w3.drewN nq = wq3z at *
        go_wp2_with fail
        go_ret
        exact ⟨_, rfl, by rw [HE.out]; exact HO3z.out, HF3z.out⟩
    · have hF1 : L1 = [] := by rw [HL1.out, if_neg (fun q => by rw [hs1] at q; cases q.2)]
      rw [hs1] at HQ1
      clear hs1
      go_upto_region 2 with fail
      go_quiet (first | (with_reducible (go_at_call 57; exact Calls.quiet_of_same ((HQ1.out _).mono fun _ _ ⟨h, h'⟩ => ⟨h, h'.symm⟩))))
      have HF2 := Lib.hid (HF1.out.trans (Fut.drewN w1 nq))
      have HBP2 := Lib.hid (HBP1.out.fut (Fut.drewN w1 nq))
      clear p0 p1 p2 HQ1 HF1 HBP1 HC1
      generalize w1.drewN nq = w2 at *
      by_cases hd2 : Q + 1 < r
      · cases hs2 : S.contains (k + c)
        · have HE : Hid (E = ([] : List Int) ++ [k + c]) := Lib.hid (by rw [HST.out, HL2.out, if_pos ⟨hd2, hs2⟩]; rw [hF1])
          rw [hs2] at HC2
          obtain ⟨_, p0, p1, p2⟩ := HBP2.out
          have HQ2 := Lib.hid (fun nq => HC2.out (w2.drewN nq) (HF2.out.trans (Fut.drewN _ nq)))
          go_upto_region 4 with fail
          go_quiet (first | (with_reducible (go_at_call 57; exact Calls.quiet_of_same ((HQ2.out _).mono fun _ _ ⟨h, h'⟩ => ⟨h, h'.symm⟩))))
          have HF2z := Lib.hid (HF2.out.trans (Fut.drewN w2 nq))
          have HO2z := Lib.hid (row_fut (w' := w2.drewN nq) ((World.ownsRow_nil w2 w.heap.size 3 1)) (Fut.drewN w2 nq))
          have HB2z := Lib.hid (HBP2.out.fut (Fut.drewN w2 nq))
          clear p0 p1 p2 HQ2
          generalize w2.drewN nq = wq2z at *
          obtain ⟨_, p0, p1, p2⟩ := HB2z.out
          have HRW : Hid ((wq2z.alloc (.cells #[.int .i64 (k + c)] 3)).ownsRow w.heap.size 3 1 (.slice none 0 0) 0 (([] : List Int).map (Value.int .i64))) := Lib.hid (World.ownsRow.alloc HO2z.out _)
          have HFA := Lib.hid (HF2z.out.trans (Fut.alloc wq2z (.cells #[.int .i64 (k + c)] 3)))
          go_wp2_with (at_builtin; refine wpList_append_src rfl _ _ 22 rfl w.heap.size 3 i0 (.int .i64 0) 8 Try.underlying22 hi0 hz0 hz1 hz2 rfl (.slice none 0 0) 0 (([] : List Int).map (Value.int .i64)) rfl HRW.out _ 1 [.int .i64 (k + c)] rfl (.inr ⟨⟨wq2z.heap.size, 0, none⟩, 1, rfl, rfl, cell_one (by simp [go_sem]), by simp [Value.oneCell']⟩) (by unfold maxLen; omega) (by omega) (RowKit.Below.size HFA.out) ?_)
          intro av ac wn hown hgr
          have HFn : Hid (Fut w wn) := Lib.hid (RowKit.Below.grown HFA.out hgr (RowKit.Below.size HFA.out) fun q hq => (World.ownsRow.lt HRW.out q hq).1)
          have HOn : Hid (Owns wn w.heap.size (.slice av (0 + 1) ac) (([] : List Int) ++ [k + c])) := Lib.hid (by unfold Owns; rw [List.length_append, List.map_append]; exact hown)
          clear hown hgr p0 p1 p2
          go_wp2_with fail
          go_ret
          exact ⟨_, rfl, by rw [HE.out]; exact HOn.out, HFn.out⟩
        · have HE : Hid (E = ([] : List Int)) := Lib.hid (by rw [HST.out, HL2.out, if_neg (fun q => by rw [hs2] at q; cases q.2)]; rw [hF1]; try simp)
          rw [hs2] at HC2
          obtain ⟨_, p0, p1, p2⟩ := HBP2.out
          have HQ2 := Lib.hid (fun nq => HC2.out (w2.drewN nq) (HF2.out.trans (Fut.drewN _ nq)))
          go_upto_region 4 with fail
          go_quiet (first | (with_reducible (go_at_call 57; exact Calls.quiet_of_same ((HQ2.out _).mono fun _ _ ⟨h, h'⟩ => ⟨h, h'.symm⟩))))
          have HF2z := Lib.hid (HF2.out.trans (Fut.drewN w2 nq))
          have HO2z := Lib.hid (row_fut (w' := w2.drewN nq) ((World.ownsRow_nil w2 w.heap.size 3 1)) (Fut.drewN w2 nq))
          have HB2z := Lib.hid (HBP2.out.fut (Fut.drewN w2 nq))
          clear p0 p1 p2 HQ2
          generalize w2.drewN nq = wq2z at *
          go_wp2_with fail
          go_ret
          exact ⟨_, rfl, by rw [HE.out]; exact HO2z.out, HF2z.out⟩
      · have HE : Hid (E = ([] : List Int)) := Lib.hid (by rw [HST.out, HL2.out, if_neg (fun q => hd2 q.1)]; rw [hF1]; try simp)
        obtain ⟨_, p0, p1, p2⟩ := HBP2.out
        have HQ2 := Lib.hid (fun nq => HC2.out (w2.drewN nq) (HF2.out.trans (Fut.drewN _ nq)))
        go_upto_region 4 with fail
        go_quiet (fail)
        have HF2z := Lib.hid (HF2.out.trans (Fut.drewN w2 nq))
        have HO2z := Lib.hid (row_fut (w' := w2.drewN nq) ((World.ownsRow_nil w2 w.heap.size 3 1)) (Fut.drewN w2 nq))
        have HB2z := Lib.hid (HBP2.out.fut (Fut.drewN w2 nq))
        clear p0 p1 p2 HQ2
        generalize w2.drewN nq = wq2z at *
        go_wp2_with fail
        go_ret
        exact ⟨_, rfl, by rw [HE.out]; exact HO2z.out, HF2z.out⟩
  · have hF1 : L1 = [] := by rw [HL1.out, if_neg (fun q => hd1 q.1)]
    go_upto_region 2 with fail
    go_quiet (fail)
    have HF2 := Lib.hid (HF1.out.trans (Fut.drewN w1 nq))
    have HBP2 := Lib.hid (HBP1.out.fut (Fut.drewN w1 nq))
    clear p0 p1 p2 HQ1 HF1 HBP1 HC1
    generalize w1.drewN nq = w2 at *
    by_cases hd2 : Q + 1 < r
    · cases hs2 : S.contains (k + c)
      · have HE : Hid (E = ([] : List Int) ++ [k + c]) := Lib.hid (by rw [HST.out, HL2.out, if_pos ⟨hd2, hs2⟩]; rw [hF1])
        rw [hs2] at HC2
        obtain ⟨_, p0, p1, p2⟩ := HBP2.out
        have HQ2 := Lib.hid (fun nq => HC2.out (w2.drewN nq) (HF2.out.trans (Fut.drewN _ nq)))
        go_upto_region 4 with fail
        go_quiet (first | (with_reducible (go_at_call 57; exact Calls.quiet_of_same ((HQ2.out _).mono fun _ _ ⟨h, h'⟩ => ⟨h, h'.symm⟩))))
        have HF2z := Lib.hid (HF2.out.trans (Fut.drewN w2 nq))
        have HO2z := Lib.hid (row_fut (w' := w2.drewN nq) ((World.ownsRow_nil w2 w.heap.size 3 1)) (Fut.drewN w2 nq))
        have HB2z := Lib.hid (HBP2.out.fut (Fut.drewN w2 nq))
        clear p0 p1 p2 HQ2
        generalize w2.drewN nq = wq2z at *
        obtain ⟨_, p0, p1, p2⟩ := HB2z.out
        have HRW : Hid ((wq2z.alloc (.cells #[.int .i64 (k + c)] 3)).ownsRow w.heap.size 3 1 (.slice none 0 0) 0 (([] : List Int).map (Value.int .i64))) := Lib.hid (World.ownsRow.alloc HO2z.out _)
        have HFA := Lib.hid (HF2z.out.trans (Fut.alloc wq2z (.cells #[.int .i64 (k + c)] 3)))
        go_wp2_with (at_builtin; refine wpList_append_src rfl _ _ 22 rfl w.heap.size 3 i0 (.int .i64 0) 8 Try.underlying22 hi0 hz0 hz1 hz2 rfl (.slice none 0 0) 0 (([] : List Int).map (Value.int .i64)) rfl HRW.out _ 1 [.int .i64 (k + c)] rfl (.inr ⟨⟨wq2z.heap.size, 0, none⟩, 1, rfl, rfl, cell_one (by simp [go_sem]), by simp [Value.oneCell']⟩) (by unfold maxLen; omega) (by omega) (RowKit.Below.size HFA.out) ?_)
        intro av ac wn hown hgr
        have HFn : Hid (Fut w wn) := Lib.hid (RowKit.Below.grown HFA.out hgr (RowKit.Below.size HFA.out) fun q hq => (World.ownsRow.lt HRW.out q hq).1)
        have HOn : Hid (Owns wn w.heap.size (.slice av (0 + 1) ac) (([] : List Int) ++ [k + c])) := Lib.hid (by unfold Owns; rw [List.length_append, List.map_append]; exact hown)
        clear hown hgr p0 p1 p2
        go_wp2_with fail
        go_ret
        exact ⟨_, rfl, by rw [HE.out]; exact HOn.out, HFn.out⟩
      · have HE : Hid (E = ([] : List Int)) := Lib.hid (by rw [HST.out, HL2.out, if_neg (fun q => by rw [hs2] at q; cases q.2)]; rw [hF1]; try simp)
        rw [hs2] at HC2
        obtain ⟨_, p0, p1, p2⟩ := HBP2.out
        have HQ2 := Lib.hid (fun nq => HC2.out (w2.drewN nq) (HF2.out.trans (Fut.drewN _ nq)))
        go_upto_region 4 with fail
        go_quiet (first | (with_reducible (go_at_call 57; exact Calls.quiet_of_same ((HQ2.out _).mono fun _ _ ⟨h, h'⟩ => ⟨h, h'.symm⟩))))
        have HF2z := Lib.hid (HF2.out.trans (Fut.drewN w2 nq))
        have HO2z := Lib.hid (row_fut (w' := w2.drewN nq) ((World.ownsRow_nil w2 w.heap.size 3 1)) (Fut.drewN w2 nq))
        have HB2z := Lib.hid (HBP2.out.fut (Fut.drewN w2 nq))
        clear p0 p1 p2 HQ2
        generalize w2.drewN nq = wq2z at *
        go_wp2_with fail
        go_ret
        exact ⟨_, rfl, by rw [HE.out]; exact HO2z.out, HF2z.out⟩
    · have HE : Hid (E = ([] : List Int)) := Lib.hid (by rw [HST.out, HL2.out, if_neg (fun q => hd2 q.1)]; rw [hF1]; try simp)
      obtain ⟨_, p0, p1, p2⟩ := HBP2.out
      have HQ2 := Lib.hid (fun nq => HC2.out (w2.drewN nq) (HF2.out.trans (Fut.drewN _ nq)))
      go_upto_region 4 with fail
      go_quiet (fail)
      have HF2z := Lib.hid (HF2.out.trans (Fut.drewN w2 nq))
      have HO2z := Lib.hid (row_fut (w' := w2.drewN nq) ((World.ownsRow_nil w2 w.heap.size 3 1)) (Fut.drewN w2 nq))
      have HB2z := Lib.hid (HBP2.out.fut (Fut.drewN w2 nq))
      clear p0 p1 p2 HQ2
      generalize w2.drewN nq = wq2z at *
      go_wp2_with fail
      go_ret
      exact ⟨_, rfl, by rw [HE.out]; exact HO2z.out, HF2z.out⟩
end Go.Proofs.Ytflllkamdihfaaa
