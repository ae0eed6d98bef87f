/- Order: order_any -/
import Derived.Test.YtflllkamdihfaaaLN
namespace Go.Proofs.Ytflllkamdihfaaa
open Go.RowKit Go.Sort
set_option maxRecDepth 100000 in
set_option maxHeartbeats 8000000 in
theorem order_any (r c : Int) (a : Option Addr) (cap : Nat) (S : List Int) (ya : Option Addr) (yc : Nat) (Y : List Int) (ta : Option Addr) (tc : Nat) (T : List Int) (fa : Option Addr) (fc : Nat) (F : List (List Int)) (w : World) (h : InPQ w a S ya yc Y ta tc T) (hF : LstAt w fa F) (hFl : F.length ≤ 1000) (hFk : ∀ k, k < F.length → (lth F k).length ≤ 1000) :
    Calls Try.prog 30 #[parV r c a S.length cap, plaV ya Y.length yc ta T.length tc, .slice fa F.length fc] w (TupL (ordP r c S Y T F).1 (ordP r c S Y T F).2 w) := by
  obtain ⟨i0, hi0, hz0, hz1, hz2⟩ := info_parts info3
  have hA : Fut w ((w.alloc (.cells #[.int .i64 r, .int .i64 c, .slice a S.length cap] 24)).alloc (.cells #[.slice ya Y.length yc, .slice ta T.length tc] 26)) := (Fut.alloc _ _).trans (Fut.alloc _ _)
  have hBP := (BoxP.new w r c a S.length cap).fut (Fut.alloc _ (.cells #[.slice ya Y.length yc, .slice ta T.length tc] 26))
  have hBQ := BoxQ.new (w.alloc (.cells #[.int .i64 r, .int .i64 c, .slice a S.length cap] 24)) ya Y.length yc ta T.length tc
  rw [World.size_alloc] at hBQ
  have HCK := Lib.hid (fun W (F : Fut w W) => chk_any r c a cap S ya yc Y ta tc T W (h.fut F))
  have HA := Lib.hid hA
  have HBP := Lib.hid hBP
  have HBQ := Lib.hid hBQ
  obtain ⟨_, p0, p1, p2⟩ := hBP
  obtain ⟨_, q0, q1⟩ := hBQ
  unfold ordP
  by_cases hc : chkP r c S Y T = 0
  · rw [if_pos hc]
    rw [hc] at HCK
    have hs := (chk_side hc).1
    have hy3 := (chk_side hc).2.2.2.2.1
    have HCW := Lib.hid (fun k (hk : k < F.length) W (G : Fut w W) => by
      obtain ⟨b, o, l, lc, _, _, _, hI⟩ := hF k hk
      exact (⟨l, lc, hI.fut G⟩ : ∃ (l : Option Addr) (lc : Nat), IntsAt W l (lth F k)))
    have HCV := Lib.hid (fun (l : Option Addr) (lc : Nat) k (hk : k < F.length) W (G : Fut w W) (hI : IntsAt W l (lth F k)) => checkWay_any r c _ hs a cap S l lc (lth F k) W (h.s.fut G) h.sl hI (hFk k hk))
    generalize r * c = m at *
    have HT := Lib.hid (And.intro h.t h.tl)
    have HY := Lib.hid h.y
    have HFA := Lib.hid hF
    have HFK := Lib.hid hFk
    have hyx : (Y.length : Int) ≤ 3 := by omega
    have hfx : (F.length : Int) ≤ 1000 := by omega
    clear hc hs h hF hFk hA HCW
    by_cases hl : F.length = Y.length
    · rw [if_pos hl]
      have hlx : ((F.length : Int) != (Y.length : Int)) = false := by rw [bne_eq_false_iff_eq]; omega
      have hlx2 : ¬ ((F.length : Int) ≠ (Y.length : Int)) := by omega
      have HFY := Lib.hid hl
      obtain ⟨E, hE⟩ : ∃ E, E = orG c m S Y T F F.length 0 [] := ⟨_, rfl⟩
      rw [← hE]
      have HE := Lib.hid hE
      clear hE hl
      go_enter Try.func30, Try.ntmps30
      go_wp2_with fail
      refine (HCK.out _ HA.out).mono ?_
      rintro _ w2 ⟨rfl, F2⟩
      have HF2 := Lib.hid (HA.out.trans F2)
      have HBP2 := Lib.hid (HBP.out.fut F2)
      have HBQ2 := Lib.hid (HBQ.out.fut F2)
      clear p0 p1 p2 q0 q1 F2 HBP HBQ HA HCK
      obtain ⟨_, q0, q1⟩ := HBQ2.out
      go_wp2_with fail
      clear q0 q1
      go_loopw [9, 28] (fun ov iv wr => ∃ (k : Nat) (o : List Int) (l : Option Addr) (cc : Nat), k ≤ F.length ∧ ov = .slice l o.length cc ∧ iv = .int .i64 k ∧ Hid (Owns wr w2.heap.size (.slice l o.length cc) o) ∧ Hid (E = orG c m S Y T F (F.length - k) k o) ∧ Hid (o.length = k) ∧ Hid (Fut w2 wr)) (fun _ iv _ => F.length - (intOf iv).toNat)
      case atStart => exact ⟨0, [], none, 0, Nat.zero_le _, rfl, rfl, Lib.hid (World.ownsRow_nil _ _ _ _), HE, Lib.hid rfl, Lib.hid Fut.rfl⟩
      case round =>
        obtain ⟨k, o, l, cc, hk, rfl, rfl, HO, HG, HOL, HFX⟩ := hrel
        obtain ⟨wo, hwo⟩ : ∃ wo, wo = wr := ⟨_, rfl⟩
        subst hwo
        have HFW := Lib.hid (HF2.out.trans HFX.out)
        by_cases hkl : k < F.length
        · have hkx : (k : Int) < F.length := by omega
          have hky : (k : Int) < Y.length := by have := HFY.out; omega
          have hg := HG.out
          obtain ⟨n, hn⟩ : ∃ n, F.length - k = n + 1 := ⟨F.length - k - 1, by omega⟩
          rw [hn, orG] at hg
          obtain ⟨fb, fo, wl, wlc, rfl, _, d1, hI⟩ := (HFA.out.fut HFW.out) k hkl
          have HCC := Lib.hid (HCV.out wl wlc k hkl wo HFW.out hI)
          have HI := Lib.hid hI
          have HWK := Lib.hid (HFK.out k hkl)
          have HBPo := Lib.hid (HBP2.out.fut HFX.out)
          obtain ⟨_, p0, p1, p2⟩ := HBPo.out
          generalize lth F k = way at *
          clear hI
          by_cases hce : cwE c m S way = 0
          · rw [if_pos hce] at hg
            rw [hce] at HCC
            have hwn : way ≠ [] := fun e => by
              rw [e] at hce
              unfold cwE at hce
              rw [if_pos rfl] at hce
              omega
            have hwl : 0 < way.length := List.length_pos_iff.2 hwn
            have hw1 : IntKind.i64.wrap ((way.length : Int) - 1) = ((way.length - 1 : Nat) : Int) := by rw [IntWalk.i64_in _ ⟨by omega, by have := HWK.out; omega⟩]; omega
            have hwlx : ((way.length - 1 : Nat) : Int) < way.length := by omega
            have hwln : (0 : Int) ≤ ((way.length - 1 : Nat) : Int) := by omega
            have hw0x : (0 : Int) < way.length := by omega
            clear hce hwn
            go_wp2_with fail
            refine HCC.out.mono ?_
            rintro _ w3 ⟨rfl, F3⟩
            have HF3 := Lib.hid (HFX.out.trans F3)
            have HFW3 := Lib.hid (HFW.out.trans F3)
            have HO3 := Lib.hid (HO.out.fut F3)
            have HBQ3 := Lib.hid ((HBQ2.out.fut HFX.out).fut F3)
            have HI3 := Lib.hid (HI.out.fut F3)
            clear p0 p1 p2 F3 d1 HBPo
            obtain ⟨_, q0, q1⟩ := HBQ3.out
            obtain ⟨wb, wof, rfl, _, e1⟩ := HI3.out (way.length - 1) (by omega)
            obtain ⟨wb2, wof2, ee, _, e2⟩ := HI3.out 0 (by omega)
            simp only [Option.some.injEq, Addr.mk.injEq, and_true] at ee
            obtain ⟨rfl, rfl⟩ := ee
            rw [Nat.add_zero] at e2
            obtain ⟨yb, yo, rfl, _, e3⟩ := (HY.out.fut HFW3.out) k (by have := HFY.out; omega)
            have HIX := Lib.hid (fun q => index_any ta tc T (nth way (way.length - 1)) (w3.drewN q) (HT.out.1.fut (HFW3.out.trans (Fut.drewN w3 q))) HT.out.2)
            generalize nth way (way.length - 1) = z at *
            generalize nth way 0 = z0 at *
            generalize nth Y k = yk at *
            generalize hwl1 : way.length - 1 = wl1 at *
            have htb := idx_in z T 0
            have htl : idxE T z < T.length := by have := htb.2.1; unfold idxE; omega
            have htg : -1 ≤ idxE T z := htb.1
            generalize idxE T z = tip at *
            clear htb hwl1
            go_upto_region 13 with fail
            go_quiet (first | (go_at_call 86; exact Calls.quiet_of_same ((HIX.out _).mono fun _ _ ⟨h, h'⟩ => ⟨h, h'.symm⟩)))
            have hq4 : Fut w3 (w3.drewN nq) := Fut.drewN _ _
            have HF4 := Lib.hid (HF3.out.trans hq4)
            have HFW4 := Lib.hid (HFW3.out.trans hq4)
            have HO4 := Lib.hid (HO3.out.fut hq4)
            have HBQ4 := Lib.hid (HBQ3.out.fut hq4)
            replace e2 := (RowKit.Below.cell hq4 (World.block_lt_of_cell? _ _ e2)).trans e2
            replace e3 := (RowKit.Below.cell hq4 (World.block_lt_of_cell? _ _ e3)).trans e3
            clear q0 q1 e1 hq4 HF3 HFW3 HO3 HBQ3 HIX hw1 hwlx hwln
            generalize w3.drewN nq = w4 at *
            obtain ⟨_, q0, q1⟩ := HBQ4.out
            by_cases hz : z0 = yk
            · have hzb : (z0 != yk) = false := by rw [bne_eq_false_iff_eq]; exact hz
              by_cases ht : 0 ≤ tip
              · have htn : ¬ tip < 0 := by omega
                rw [if_pos ⟨hz, ht⟩] at hg
                have HCN := Lib.hid (fun W (hW : Owns W w2.heap.size (.slice l o.length cc) o) => by
                  obtain ⟨l', cc', e, hI⟩ := hW.ints
                  simp only [Value.slice.injEq, true_and] at e
                  obtain ⟨rfl, rfl⟩ := e
                  exact contains_any l cc o tip W hI (by have := HOL.out; omega))
                go_upto_region 14 with fail
                go_quiet (fail)
                have hq5 : Fut w4 (w4.drewN nq) := Fut.drewN _ _
                have HF5 := Lib.hid (HF4.out.trans hq5)
                have HO5 := Lib.hid (HO4.out.fut hq5)
                clear q0 q1 e2 e3 hq5 hzb htn
                generalize w4.drewN nq = w5 at *
                have HC5 := Lib.hid (HCN.out w5 HO5.out)
                cases hct : o.contains tip
                · rw [hct] at HC5 hg
                  rw [if_neg (by decide)] at hg
                  have HG2 := Lib.hid hg
                  clear hct hg
                  have hok : o.length ≤ 1000 := by have := HOL.out; omega
                  have HR : Hid ((w5.alloc (.cells #[.int .i64 tip] 3)).ownsRow w2.heap.size 3 1 (.slice l o.length cc) o.length (o.map (Value.int .i64))) := Lib.hid (HO5.out.fut (Fut.alloc _ _))
                  have hFa : Fut w2 (w5.alloc (.cells #[.int .i64 tip] 3)) := HF5.out.trans (Fut.alloc _ _)
                  have HZ := Lib.hid (RowKit.Below.size hFa)
                  go_wp2_with fail
                  refine HC5.out.mono ?_
                  rintro _ _ ⟨rfl, rfl⟩
                  go_wp2_with (at_builtin; refine wpList_append_lies _ rfl _ _ 22 rfl w2.heap.size 3 i0 (.int .i64 0) 1 8 Try.underlying22 hi0 hz0 hz1 hz2 rfl (by decide) _ o.length (o.map (Value.int .i64)) rfl HR.out ⟨w5.heap.size, 0, none⟩ 1 1 [.int .i64 tip] rfl rfl (cell_one (by simp [go_sem])) (by simp [Value.oneCell']) (by omega) (by unfold maxLen; omega) (by omega) HZ.out _ rfl ?_)
                  intro g8 c8 w8 hown8 hgrow8 _ _
                  have HO8 : Hid (Owns w8 w2.heap.size (.slice (some ⟨g8, 0, none⟩) (o.length + 1) c8) (o ++ [tip])) := Lib.hid (by
                    unfold Owns
                    rw [List.length_append, List.length_singleton, List.map_append]
                    exact hown8)
                  have HF8 : Hid (Fut w2 w8) := Lib.hid (RowKit.Below.grown hFa hgrow8 HZ.out fun q hq => (World.ownsRow.lt HR.out q hq).1)
                  have HOL8 : Hid ((o ++ [tip]).length = k + 1) := Lib.hid (by rw [List.length_append, HOL.out]; rfl)
                  have hnk : F.length - (k + 1) = n := by omega
                  clear hown8 hgrow8 hFa
                  go_wp2_with fail
                  go_roundw
                  case rel =>
                    have HO9 : Hid (Owns w8 w2.heap.size (.slice (some ⟨g8, 0, none⟩) (o ++ [tip]).length c8) (o ++ [tip])) := Lib.hid (by rw [List.length_append]; exact HO8.out)
                    first
                    | exact ⟨k + 1, o ++ [tip], some ⟨g8, 0, none⟩, c8, by omega, by rw [List.length_append]; rfl, by go_num, HO9, by rw [hnk]; exact HG2, HOL8, HF8⟩
                    | ((repeat apply Exists.intro); exact ⟨⟨k + 1, o ++ [tip], some ⟨g8, 0, none⟩, c8, by omega, by rw [List.length_append]; rfl, by go_num, HO9, by rw [hnk]; exact HG2, HOL8, HF8⟩, rfl⟩)
                  case measure => simp [intOf]; omega
                · rw [hct] at HC5 hg
                  rw [if_pos rfl] at hg
                  have HG2 := Lib.hid hg
                  clear hct hg
                  go_wp2_with fail
                  refine HC5.out.mono ?_
                  rintro _ _ ⟨rfl, rfl⟩
                  go_wp2_with fail
                  go_ret2
                  rw [HG2.out]
                  exact ⟨none, 0, rfl, nil_ints _ _, HF2.out.trans HF5.out⟩
              · have htn : tip < 0 := by omega
                rw [if_neg (fun q => ht q.2)] at hg
                have HG2 := Lib.hid hg
                clear hg
                go_upto_region 14 with fail
                go_quiet (fail)
                have HF5 := Lib.hid (HF4.out.trans (Fut.drewN w4 nq))
                clear q0 q1 e2 e3
                go_wp2
                go_ret2
                rw [HG2.out]
                exact ⟨none, 0, rfl, nil_ints _ _, HF2.out.trans HF5.out⟩
            · have hzb : (z0 != yk) = true := by rw [bne_iff_ne]; exact hz
              rw [if_neg (fun q => hz q.1)] at hg
              have HG2 := Lib.hid hg
              clear hg
              go_upto_region 14 with fail
              go_quiet (fail)
              have HF5 := Lib.hid (HF4.out.trans (Fut.drewN w4 nq))
              clear q0 q1 e2 e3
              go_wp2
              go_ret2
              rw [HG2.out]
              exact ⟨none, 0, rfl, nil_ints _ _, HF2.out.trans HF5.out⟩
          · rw [if_neg hce] at hg
            have HG2 := Lib.hid hg
            clear hg
            generalize cwE c m S way = ce at *
            go_wp2_with fail
            refine HCC.out.mono ?_
            rintro _ w3 ⟨rfl, F3⟩
            have HF3 := Lib.hid (HFX.out.trans F3)
            clear p0 p1 p2 F3 d1 HBPo
            go_wp2_with fail
            go_ret2
            rw [HG2.out]
            exact ⟨none, 0, rfl, nil_ints _ _, HF2.out.trans HF3.out⟩
        · obtain rfl : F.length = k := by omega
          have hg := HG.out
          rw [Nat.sub_self, orG] at hg
          have HG2 := Lib.hid hg
          clear hg
          obtain ⟨l', cc', e, hI⟩ := HO.out.ints
          simp only [Value.slice.injEq, true_and] at e
          obtain ⟨rfl, rfl⟩ := e
          have HI := Lib.hid hI
          clear hI
          go_wp2_with fail
          go_ret2
          rw [HG2.out]
          exact ⟨l, cc, rfl, HI.out, HFW.out⟩
    · rw [if_neg hl]
      have hlx : ((F.length : Int) != (Y.length : Int)) = true := by rw [bne_iff_ne]; omega
      have hlx2 : (F.length : Int) ≠ (Y.length : Int) := by omega
      go_enter Try.func30, Try.ntmps30
      go_wp2_with fail
      refine (HCK.out _ HA.out).mono ?_
      rintro _ w2 ⟨rfl, F2⟩
      have HF2 := Lib.hid (HA.out.trans F2)
      have HBQ2 := Lib.hid (HBQ.out.fut F2)
      clear p0 p1 p2 q0 q1 F2
      obtain ⟨_, q0, q1⟩ := HBQ2.out
      go_wp2_with fail
      go_ret2
      exact ⟨none, 0, rfl, nil_ints _ _, HF2.out⟩
  · rw [if_neg hc]
    generalize chkP r c S Y T = ce at *
    clear hA h hF hFk
    go_enter Try.func30, Try.ntmps30
    go_wp2_with fail
    refine (HCK.out _ HA.out).mono ?_
    rintro _ w2 ⟨rfl, F2⟩
    have HF2 := Lib.hid (HA.out.trans F2)
    clear p0 p1 p2 q0 q1 F2
    go_wp2_with fail
    go_ret2
    exact ⟨none, 0, rfl, nil_ints _ _, HF2.out⟩
end Go.Proofs.Ytflllkamdihfaaa
