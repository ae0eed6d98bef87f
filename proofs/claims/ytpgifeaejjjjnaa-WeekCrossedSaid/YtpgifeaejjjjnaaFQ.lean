/- law 10: law10_any -/
import Derived.Test.YtpgifeaejjjjnaaFP
import Derived.Test.YtpgifeaejjjjnaaFB
import Derived.Test.YtpgifeaejjjjnaaCZ
import Derived.Test.YtpgifeaejjjjnaaCK
import Derived.Test.YtpgifeaejjjjnaaEG
import Derived.Test.YtpgifeaejjjjnaaCU
import Derived.Test.YtpgifeaejjjjnaaFE
namespace Go.Proofs.Ytpgifeaejjjjnaa
open Go.RowKit Go.Sort
theorem plan_drop {n : Nat} {z : List (List Int)} (h : Plan n z) : Plan n (z.drop 1) := by
  have e : ∀ i, lth (z.drop 1) i = lth z (1 + i) := fun i => by rw [lth_eq, List.getElem?_drop, lth_eq]
  refine ⟨by rw [List.length_drop]; have := h.len; omega, fun i hi => ?_, fun i j hij hj d hd => ?_⟩
  · rw [List.length_drop] at hi
    rw [e]; exact h.row _ (by omega)
  · rw [List.length_drop] at hj
    rw [e, e]; exact h.col _ _ (by omega) (by omega) d hd
theorem ful_of {n : Nat} {z : List (List Int)} (h1 : 1 ≤ n) (h5 : n ≤ 5) (h : Plan n z) : fulE n z = if z.length < n then 21 else 0 := by
  unfold fulE
  rw [if_pos (chk_plan h1 h5 h)]
  by_cases e : z.length < n
  · rw [if_pos (by omega), if_pos e]
  · rw [if_neg (by omega), if_neg e]
set_option maxRecDepth 100000 in
set_option maxHeartbeats 8000000 in
theorem law10_any (st ca : Nat) (by_ : Nat → Int) (hst : st < 256) (_hca : ca < 256) (hby : ∀ i, i < 5 → 0 ≤ by_ i ∧ by_ i < 256) (w : World) :
    Calls Try.prog 10 #[rotaV st ca by_] w fun e w' => e = .returned (.bool true) ∧ Fut w w' := by
  obtain ⟨i1, hi1, hy0, hy1, hy2⟩ := info_parts info28
  have HMD := Lib.hid (fun W => made_any 5 (by omega) (by omega) st 255 by_ hst (by omega) hby W)
  have hN1 : madN 5 st ≤ 5 := by have := Nat.mod_lt st (show 0 < 5 by omega); show 1 + st % 5 ≤ 5; omega
  have hNd : 1 ≤ madN 5 st := by show 1 ≤ 1 + st % 5; omega
  have hC : 255 % (madN 5 st + 1) ≤ madN 5 st := by have := Nat.mod_lt 255 (show 0 < madN 5 st + 1 by omega); omega
  have HMD2 : Hid (∀ W, Calls Try.prog 46 #[rotaV st 255 by_, .int .i64 5] W fun e w' => ∃ v, e = .returned (.tuple #[.int .i64 (madN 5 st), v]) ∧ OwnL w' W.heap.size v (madL (madN 5 st) by_ (255 % (madN 5 st + 1))) ∧ Fut W w') := Lib.hid (fun W => HMD.out W)
  clear HMD
  generalize 255 % (madN 5 st + 1) = C at *
  generalize madN 5 st = N at *
  have HPN := Lib.hid (madL_plan N by_)
  have hPl : Plan N (madL N by_ N) := madL_plan N by_ N (Nat.le_refl _)
  have hlen := madL_len N by_ N
  have hfu : fulE N (madL N by_ N) = 0 := by rw [ful_of hNd hN1 hPl, if_neg (by omega)]
  have hfd : fulE N ((madL N by_ N).drop 1) = 21 := by rw [ful_of hNd hN1 (plan_drop hPl), if_pos (by rw [List.length_drop]; omega)]
  have HB := Lib.hid (BoxRo.new w st 255 by_)
  have hF : Fut w (w.alloc (.cells #[.int .u8 st, .int .u8 255, .int .u8 (by_ 0), .int .u8 (by_ 1), .int .u8 (by_ 2), .int .u8 (by_ 3), .int .u8 (by_ 4)] 42)) := Fut.alloc _ _
  have HFA := Lib.hid hF
  have HBY := Lib.hid hby
  have hnx : (N : Int) ≤ 5 := by omega
  clear hF hby hst
  go_enter Try.func10, Try.ntmps10
  go_wp2_with fail
  refine (HMD2.out _).mono ?_
  rintro _ w2 ⟨v, rfl, hO, F⟩
  generalize w.alloc (.cells #[.int .u8 st, .int .u8 255, .int .u8 (by_ 0), .int .u8 (by_ 1), .int .u8 (by_ 2), .int .u8 (by_ 3), .int .u8 (by_ 4)] 42) = w1 at *
  obtain ⟨l0, lc0, rfl, _, _, _⟩ := hO.listsC
  have HO := Lib.hid hO
  have HF2 := Lib.hid F
  rw [madL_len] at HO
  have hcl := madL_len N by_ C
  rw [hcl]
  clear hO F HMD2 hcl
  go_wp2_with fail
  go_loopw [4] (fun ov wr => ∃ i l lc, i ≤ N ∧ ov = .slice l i lc ∧ Hid (OwnL wr w1.heap.size ov (madL N by_ i)) ∧ Hid (Fut w1 wr)) (fun ov _ => N - lenV ov)
  case atStart => exact ⟨C, l0, lc0, hC, rfl, HO, HF2⟩
  case round =>
    obtain ⟨i, l, lc, hiN, rfl, HOX, HFX⟩ := hrel
    clear HO
    by_cases hlt : i < N
    · have hix : (i : Int) < N := by omega
      have hPi := HPN.out i (by omega)
      have hli := madL_len N by_ i
      obtain ⟨la, lc', hlv, q1, q2, hL⟩ := HOX.out.listsC
      rw [hli] at hlv
      simp only [Value.slice.injEq, true_and] at hlv
      obtain ⟨rfl, rfl⟩ := hlv
      have hft := fitlaw_any N (by omega) l lc (madL N by_ i) wr hL.lst (by omega) (fun k hk => by rw [ord_len (hPi.row k hk)]; exact Nat.le_refl _)
      rw [hli] at hft
      have HFT := Lib.hid hft
      have HLI := Lib.hid hli
      have HFP := Lib.hid (fit_pos hPi (by omega))
      have HFL : Hid ((fitL N (madL N by_ i)).length ≤ 5000) := Lib.hid (Nat.le_trans (sub_len _) (ord_le (by omega)))
      have HSS : Hid (madL N by_ (i + 1) = madL N by_ i ++ [lth (fitL N (madL N by_ i)) ((by_ i).toNat % (fitL N (madL N by_ i)).length)]) := Lib.hid rfl
      have HSZ := Lib.hid (RowKit.Below.size HFX.out)
      clear hPi hL q1 q2 hft hli
      generalize fitL N (madL N by_ i) = fl at *
      generalize madL N by_ i = P at *
      obtain ⟨b, hb⟩ := Int.eq_ofNat_of_zero_le (HBY.out i (by omega)).1
      have hb256 := (HBY.out i (by omega)).2
      have HBX := Lib.hid (HB.out.b i (by omega))
      have hi4 : (i : Int) < 5 := by omega
      rw [hb] at HSS HBX hb256
      rw [Int.toNat_natCast] at HSS
      have hjl := Nat.mod_lt b HFP.out
      have hrm : (b : Int) % (fl.length : Int) = ((b % fl.length : Nat) : Int) := by exact_mod_cast rfl
      have hrt : (b : Int).tmod (fl.length : Int) = ((b % fl.length : Nat) : Int) := by rw [Int.tmod_eq_emod_of_nonneg (by omega)]; exact hrm
      have hfx : (fl.length : Int) ≤ 5000 := by have := HFL.out; omega
      have hfz : ¬ (fl.length : Int) = 0 := by have := HFP.out; omega
      have hwb : IntKind.i64.wrap (b : Int) = b := IntWalk.i64_in _ ⟨by omega, by omega⟩
      generalize b % fl.length = j at *
      have hjx : (j : Int) < fl.length := by omega
      clear hb
      go_wp2_with fail
      refine HFT.out.mono ?_
      rintro _ w3 ⟨v, rfl, hFl, F⟩
      obtain ⟨g, cc, l2, lc2, rfl, hgs, hcell, hOr⟩ := hFl.at j hjl
      have HFW := Lib.hid (HFX.out.trans F)
      have hbc := (RowKit.Below.cell (HFX.out.trans F) (p := ⟨w.heap.size, 2 + i, none⟩) HB.out.lt).trans HBX.out
      have HOR := Lib.hid (hOr.base (B' := w1.heap.size) HSZ.out)
      obtain ⟨vals, hrow, hel⟩ := HOX.out
      rw [HLI.out] at hrow
      have HRW := Lib.hid (row_fut hrow F)
      have HEL := Lib.hid (hel.fut F)
      have HS2 : Hid (w1.heap.size ≤ w3.heap.size) := Lib.hid (Nat.le_trans HSZ.out (RowKit.Below.size F))
      generalize lth fl j = row at *
      clear hFl F hOr hrow hel HFT
      go_wp2_with (at_builtin; refine wpList_append_lies _ rfl _ _ 22 rfl w1.heap.size 28 i1 (.slice none 0 0) 1 24 Try.underlying22 hi1 hy0 hy1 hy2 rfl (by decide) _ i vals rfl (row_fut HRW.out (Fut.alloc _ _)) ⟨w3.heap.size, 0, none⟩ 1 1 [.slice l2 row.length lc2] rfl rfl (cell_one (by simp [go_sem])) (by simp [Value.oneCell']) (by omega) (by unfold maxLen; omega) (by omega) (Nat.le_trans HS2.out (RowKit.Below.size (Fut.alloc w3 _))) _ rfl ?_)
      intro g8 c8 w8 hown8 hgrow8 hat8 _
      have HX8 : Hid (OwnL w8 w1.heap.size (.slice (some ⟨g8, 0, none⟩) (i + 1) c8) (P ++ [row])) := Lib.hid (by
        have h5 := HLI.out
        subst h5
        exact OwnL.app (row_fut HRW.out (Fut.alloc _ _)) (HEL.out.fut (Fut.alloc _ _)) (HOR.out.fut (Fut.alloc _ _)) hown8 hgrow8)
      have HF8 : Hid (Fut w1 w8) := Lib.hid (RowKit.Below.grown (HFW.out.trans (Fut.alloc w3 (.cells #[.slice l2 row.length lc2] 28))) hgrow8 (RowKit.Below.size (HFW.out.trans (Fut.alloc w3 (.cells #[.slice l2 row.length lc2] 28)))) fun q hq => (World.ownsRow.lt HRW.out q hq).1)
      clear hown8 hgrow8 hat8
      go_wp2
      go_round
      case rel => exact ⟨i + 1, _, _, by omega, rfl, by rw [HSS.out]; exact HX8, HF8⟩
      case measure => simp [lenV]; omega
    · obtain rfl : i = N := by omega
      obtain ⟨la, lc', hlv, q1, q2, hL⟩ := HOX.out.listsC
      rw [hlen] at hlv q1
      simp only [Value.slice.injEq, true_and] at hlv
      obtain ⟨rfl, rfl⟩ := hlv
      have hwid : ∀ k, k < i → (lth (madL i by_ i) k).length = i := fun k hk => ord_len (hPl.row k (by omega))
      have HW0 := Lib.hid (HFA.out.trans HFX.out)
      generalize madL i by_ i = P at *
      obtain ⟨pb, po, _, _, el, _⟩ := hL 0 (by omega)
      subst el
      have HC54 := Lib.hid (fun W (F : Fut wr W) => crslaw_any i hN1 (some ⟨pb, po, none⟩) lc P W (hL.fut F).lst hlen hwid)
      have HC34 : Hid (∀ W, Fut wr W → Calls Try.prog 34 #[.int .i64 i, .slice (some ⟨pb, po, none⟩) i lc] W (TupI (if crsL i P = [] then 12 else 0) (lth (crsL i P) 0) W)) := Lib.hid (fun W F => by
        have h := cross_any i (some ⟨pb, po, none⟩) lc P W (hL.fut F) (by omega) q2
        unfold crE crL at h
        rw [if_pos hfu, if_pos hfu, Int.toNat_natCast, hlen] at h
        exact h)
      have HC36 : Hid (∀ W, Fut wr W → Calls Try.prog 36 #[.int .i64 i, .slice (some ⟨pb, po, none⟩) i lc] W (TupN 0 (crsL i P).length W)) := Lib.hid (fun W F => by
        have h := crosses_any i (some ⟨pb, po, none⟩) lc P W (hL.fut F) (by omega) q2
        unfold crsN at h
        rw [if_pos hfu, hfu, Int.toNat_natCast, hlen] at h
        exact h)
      have HC35 : Hid (∀ W, Fut wr W → Calls Try.prog 34 #[.int .i64 i, .slice (some ⟨pb, offK po 1 lc, none⟩) (i - 1) (lc - 1)] W (TupI 21 [] W)) := Lib.hid (fun W F => by
        have hdl : (P.drop 1).length = i - 1 := by rw [List.length_drop, hlen]
        have h := cross_any i (some ⟨pb, offK po 1 lc, none⟩) (lc - 1) (P.drop 1) W ((hL.fut F).drop (k := 1) (by omega)) (by omega) (by omega)
        unfold crE crL at h
        rw [if_neg (by rw [hfd]; decide), if_neg (by rw [hfd]; decide), hfd, hdl] at h
        exact h)
      have hsf : ∀ W, (Instr.sliceAt 22 (.slice (some ⟨pb, po, none⟩) i lc) (some (.int .i64 1)) none none).run Try.prog W = .ok (.slice (some ⟨pb, offK po 1 lc, none⟩) (i - 1) (lc - 1)) W := fun W => slice_from22 pb po i lc 1 (by omega) q1 W
      have hcl5 : (crsL i P).length ≤ 5000 := Nat.le_trans (sub_len _) (ord_le hN1)
      clear hL hfu hfd hlen hwid HOX HPN hPl HFX HBY HB HFA
      generalize offK po 1 lc = o1 at *
      generalize i - 1 = i1' at *
      generalize lc - 1 = lc1 at *
      generalize crsL i P = CR at *
      cases CR with
      | nil =>
        replace HC34 : Hid (∀ W, Fut wr W → Calls Try.prog 34 #[.int .i64 i, .slice (some ⟨pb, po, none⟩) i lc] W (TupI 12 [] W)) := HC34
        have hcx : (([] : List (List Int)).length : Int) ≤ 5000 := by omega
        go_wp2_with fail
        refine (HC54.out wr Fut.rfl).mono ?_
        rintro _ w4 ⟨v4, rfl, hO4, F4⟩
        have HF4 := Lib.hid F4
        clear F4 HC54
        obtain ⟨l4, lc4, rfl, _, _, _⟩ := hO4.listsC
        have HO4 := Lib.hid hO4
        clear hO4
        go_wp2_with fail
        refine (HC34.out w4 HF4.out).mono ?_
        rintro _ w5 ⟨l5, lc5, rfl, c1, c2, hI5, F5⟩
        have HF5 := Lib.hid (HF4.out.trans F5)
        have HO5 := Lib.hid (HO4.out.fut F5)
        have HI5 := Lib.hid hI5
        have HQ5 := Lib.hid (Nat.le_trans c1 c2)
        clear F5 HF4 HO4 hI5 c1 c2 HC34
        go_wp2_with fail
        refine (HC36.out w5 HF5.out).mono ?_
        rintro _ w6 ⟨rfl, F6⟩
        have HF6 := Lib.hid (HF5.out.trans F6)
        have HO6 := Lib.hid (HO5.out.fut F6)
        have HI6 := Lib.hid (HI5.out.fut F6)
        clear F6 HF5 HO5 HI5 HC36
        go_wp2_with fail
        refine (HC35.out w6 HF6.out).mono ?_
        rintro _ w7 ⟨l7, lc7, rfl, _, _, _, F7⟩
        have HF7 := Lib.hid (HW0.out.trans (HF6.out.trans F7))
        have HO7 := Lib.hid (HO6.out.fut F7)
        have HI7 := Lib.hid (HI6.out.fut F7)
        clear F7 HF6 HO6 HI6 HC35 hsf HW0
        clear HO7 HI7
        go_wp2_with fail
        refine (works_any _).mono ?_
        rintro _ w8 ⟨rfl, F8⟩
        have HF8 := Lib.hid (HF7.out.trans F8)
        clear F8
        go_wp2
        go_ret
        exact ⟨rfl, HF8.out⟩
      | cons r rest =>
        replace HC34 : Hid (∀ W, Fut wr W → Calls Try.prog 34 #[.int .i64 i, .slice (some ⟨pb, po, none⟩) i lc] W (TupI 0 r W)) := HC34
        have hcx : ((r :: rest).length : Int) ≤ 5000 := by omega
        have hlx : 0 < ((r :: rest).length : Int) := by simp
        go_wp2_with fail
        refine (HC54.out wr Fut.rfl).mono ?_
        rintro _ w4 ⟨v4, rfl, hO4, F4⟩
        have HF4 := Lib.hid F4
        clear F4 HC54
        obtain ⟨l4, lc4, rfl, _, _, _⟩ := hO4.listsC
        have HO4 := Lib.hid hO4
        clear hO4
        go_wp2_with fail
        refine (HC34.out w4 HF4.out).mono ?_
        rintro _ w5 ⟨l5, lc5, rfl, c1, c2, hI5, F5⟩
        have HF5 := Lib.hid (HF4.out.trans F5)
        have HO5 := Lib.hid (HO4.out.fut F5)
        have HI5 := Lib.hid hI5
        have HQ5 := Lib.hid (Nat.le_trans c1 c2)
        clear F5 HF4 HO4 hI5 c1 c2 HC34
        go_wp2_with fail
        refine (HC36.out w5 HF5.out).mono ?_
        rintro _ w6 ⟨rfl, F6⟩
        have HF6 := Lib.hid (HF5.out.trans F6)
        have HO6 := Lib.hid (HO5.out.fut F6)
        have HI6 := Lib.hid (HI5.out.fut F6)
        clear F6 HF5 HO5 HI5 HC36
        go_wp2_with fail
        refine (HC35.out w6 HF6.out).mono ?_
        rintro _ w7 ⟨l7, lc7, rfl, _, _, _, F7⟩
        have HF7 := Lib.hid (HW0.out.trans (HF6.out.trans F7))
        have HO7 := Lib.hid (HO6.out.fut F7)
        have HI7 := Lib.hid (HI6.out.fut F7)
        clear F7 HF6 HO6 HI6 HC35 hsf HW0
        obtain ⟨g, c, l8, lc8, e8, hgs, hcell, hOr⟩ := HO7.out.at 0 (by simp)
        simp only [Value.slice.injEq, true_and] at e8
        obtain ⟨rfl, rfl⟩ := e8
        replace hcell : w7.cell? ⟨g, 0, none⟩ = some (.slice l8 r.length lc8) := hcell
        replace hOr : Owns w7 wr.heap.size (.slice l8 r.length lc8) r := hOr
        obtain ⟨a9, c9, e9, hI9⟩ := hOr.ints
        simp only [Value.slice.injEq, true_and] at e9
        obtain ⟨rfl, rfl⟩ := e9
        have HI9 := Lib.hid hI9
        clear hOr hI9 HO7
        generalize (r :: rest).length = m at *
        go_wp2_with fail
        refine (same_self r _ HI7.out HI9.out HQ5.out).mono ?_
        rintro _ w8 ⟨rfl, F8⟩
        have HF8 := Lib.hid (HF7.out.trans F8)
        clear F8
        go_wp2_with fail
        refine (works_any _).mono ?_
        rintro _ w9 ⟨rfl, F9⟩
        have HF9 := Lib.hid (HF8.out.trans F9)
        clear F9
        go_wp2
        go_ret
        exact ⟨rfl, HF9.out⟩
end Go.Proofs.Ytpgifeaejjjjnaa
