/- Layer 3: the reference's Free. -/
import Derived.Test.YtpgifeaejjjjnaaBX
namespace Go.Proofs.Ytpgifeaejjjjnaa
open Go.RowKit Go.Sort
def frR (zss : List (List Int)) (n i : Nat) : List (List Int) := (List.range i).map fun d => frT zss d n
theorem frR_succ (zss : List (List Int)) (n i : Nat) : frR zss n (i + 1) = frR zss n i ++ [frT zss i n] := by unfold frR; rw [List.range_succ, List.map_append]; rfl
theorem frR_len (zss : List (List Int)) (n i : Nat) : (frR zss n i).length = i := by unfold frR; simp
set_option maxRecDepth 100000 in
set_option maxHeartbeats 4000000 in
theorem rfree_any (c : Int) (a : Option Addr) (cap : Nat) (zss : List (List Int)) (w : World) (hL : LstC w a zss) (hcap : zss.length ≤ cap) (hcm : cap ≤ 9223372036854775807) :
    Calls Try.prog 19 #[.int .i64 c, .slice a zss.length cap] w (TupLC (chkE c zss) (freeE c zss) w) := by
  have HC := Lib.hid (rcheck_any c a cap zss w hL hcap hcm)
  unfold freeE
  by_cases hs : chkE c zss = 0
  · rw [if_pos hs]
    rw [hs] at HC ⊢
    obtain ⟨c1, c5, hn, hrow⟩ := chk_rows hs
    obtain ⟨n, rfl⟩ := Int.eq_ofNat_of_zero_le (show 0 ≤ c by omega)
    have hn5 : n ≤ 5 := by omega
    rw [show ((n : Int)).toNat = n by simp]
    have HT := Lib.hid (fun (d : Nat) (s : Int) (W : World) (F : Fut w W) (h : d < n) => (by
      have := rmet_any a cap zss d s W (hL.lst.fut F) (by omega) (fun k hk => by have := (hrow k hk).1; omega)
      rw [metB_tkn (fun l hl => by
        obtain ⟨j, hj, rfl⟩ := List.getElem_of_mem hl
        have e : zss[j] = lth zss j := by rw [lth_eq, List.getElem?_eq_getElem hj]; rfl
        rw [e]
        have := (hrow j hj).1
        omega)] at this
      exact this : Calls Try.prog 70 #[.slice a zss.length cap, .int .i64 d, .int .i64 s] W fun e w' => e = .returned (.bool (tkn zss d s)) ∧ W = w'))
    have HLE := Lib.hid (frT_len zss)
    have HFR : Hid (∀ d s, frT zss d (s + 1) = if tkn zss d s = true then frT zss d s else frT zss d s ++ [(s : Int)]) := Lib.hid (fun d s => rfl)
    have HRR := Lib.hid (frR_succ zss n)
    have HRN := Lib.hid (frR_len zss n)
    have HF0 : Hid (∀ d, frT zss d 0 = []) := Lib.hid (fun d => rfl)
    have HR0 : Hid (frR zss n 0 = []) := Lib.hid rfl
    have hRE : (List.range n).map (fun d => frT zss d n) = frR zss n n := rfl
    rw [hRE]
    obtain ⟨i0, hi0, hz0, hz1, hz2⟩ := info_parts info3
    obtain ⟨i1, hi1, hy0, hy1, hy2⟩ := info_parts info28
    have hnx : (n : Int) ≤ 5 := by omega
    clear hL hrow hs hcap hcm hRE
    generalize frR zss n = fR at *
    generalize frT zss = fr at *
    go_enter Try.func19, Try.ntmps19
    go_wp2_with fail
    refine HC.out.mono ?_
    rintro _ w1 ⟨rfl, F⟩
    have HF1 := Lib.hid F
    clear F
    go_wp2_with fail
    go_loopw [7, 8] (fun ov iv wr => ∃ i : Nat, i ≤ n ∧ iv = .int .i64 i ∧ Hid (OwnL wr w.heap.size ov (fR i)) ∧ Hid (Fut w wr)) (fun _ iv _ => n - (intOf iv).toNat)
    case atStart => exact ⟨0, Nat.zero_le _, rfl, Lib.hid (by rw [HR0.out]; exact OwnL.nil _ _), HF1⟩
    case round =>
      obtain ⟨i, hi, rfl, HO, HF⟩ := hrel
      by_cases hlt : i < n
      · have hix : (i : Int) < n := by omega
        go_wp2_with fail
        generalize wr = w0 at *
        go_loopw [9, 10] (fun lv jv wq => ∃ j : Nat, j ≤ n ∧ jv = .int .i64 j ∧ Hid (Owns wq w0.heap.size lv (fr i j)) ∧ Hid (Fut w0 wq)) (fun _ jv _ => n - (intOf jv).toNat)
        case atStart => exact ⟨0, Nat.zero_le _, rfl, Lib.hid (by rw [HF0.out]; exact World.ownsRow_nil _ _ _ _), Lib.hid Fut.rfl⟩
        case round =>
          obtain ⟨j, hj, rfl, HR, HB⟩ := hrel
          by_cases hjl : j < n
          · have hjx : (j : Int) < n := by omega
            have HTJ := Lib.hid (HT.out i (j : Int) wr (HF.out.trans HB.out) hlt)
            have HS := Lib.hid (HFR.out i j)
            have HRL := Lib.hid (HLE.out i j)
            cases htk : tkn zss i (j : Int)
            · rw [htk] at HTJ HS
              simp only [Bool.false_eq_true, if_false] at HS
              clear htk
              generalize hrn : fr i (j + 1) = rn at *
              have HRX := Lib.hid hrn
              clear hrn
              generalize fr i j = rj at *
              obtain ⟨av, ac, hav, hl1, hl2, _⟩ := HR.out.form
              subst hav
              go_wp2_with fail
              refine HTJ.out.mono ?_
              rintro _ _ ⟨rfl, rfl⟩
              go_wp2_with (at_builtin; refine wpList_append_own _ rfl _ _ 28 rfl w0.heap.size 3 i0 (.int .i64 0) 1 8 Try.underlying28 hi0 hz0 hz1 hz2 rfl (by decide) _ _ _ rfl (HR.out.fut (Fut.alloc _ _)) ⟨wr.heap.size, 0, none⟩ 1 1 [.int .i64 (j : Int)] rfl rfl (cell_one (by simp [go_sem])) (by simp [Value.oneCell']) (by have := HRL.out; unfold maxLen; omega) (by have := HRL.out; omega) (by have := RowKit.Below.size HB.out; simp; omega) ?_)
              intro v' w7 hown' hgrow _
              have HR7 : Hid (Owns w7 w0.heap.size v' rn) := Lib.hid (by rw [HS.out]; unfold Owns; simpa using hown')
              have HB7 : Hid (Fut w0 w7) := Lib.hid (RowKit.Below.grown (HB.out.trans (Fut.alloc _ _)) hgrow (RowKit.Below.size (HB.out.trans (Fut.alloc _ _))) (fun q hq => (World.ownsRow.lt (HR.out.fut (Fut.alloc wr (.cells #[.int .i64 (j : Int)] 3))) q hq).1))
              clear hown' hgrow
              go_wp2
              go_round
              case rel => exact ⟨j + 1, by omega, by go_num, by rw [HRX.out]; exact HR7, HB7⟩
              case measure => simp [intOf]; omega
            · rw [htk] at HTJ HS
              simp only [if_true] at HS
              clear htk
              go_wp2_with fail
              refine HTJ.out.mono ?_
              rintro _ _ ⟨rfl, rfl⟩
              rw [← HS.out] at HR
              go_wp2
              go_round
              case rel => exact ⟨j + 1, by omega, by go_num, HR, HB⟩
              case measure => simp [intOf]; omega
          · obtain rfl : j = n := by omega
            have HRS := Lib.hid (HRR.out i)
            have HRL := Lib.hid (HRN.out i)
            have HQL := Lib.hid (HLE.out i j)
            have HO2 := Lib.hid (HO.out.fut HB.out)
            generalize hRn : fR (i + 1) = Rn at *
            have HRX := Lib.hid hRn
            clear hRn
            generalize fR i = Ri at *
            generalize fr i j = rw' at *
            obtain ⟨av, ac, hav, hl1, hl2, _⟩ := HR.out.form
            subst hav
            obtain ⟨vals, hO1, hE1⟩ := HO2.out
            have hb0 : w.heap.size ≤ w0.heap.size := RowKit.Below.size HF.out
            have hbq : w0.heap.size ≤ wr.heap.size := RowKit.Below.size HB.out
            go_wp2_with (at_builtin; refine wpList_append_own _ rfl _ _ 22 rfl w.heap.size 28 i1 (.slice none 0 0) 1 24 Try.underlying22 hi1 hy0 hy1 hy2 rfl (by decide) _ _ _ rfl (row_fut hO1 (Fut.alloc _ _)) ⟨wr.heap.size, 0, none⟩ 1 1 [.slice av rw'.length ac] rfl rfl (cell_one (by simp [go_sem])) (by simp [Value.oneCell']) (by have := HRL.out; unfold maxLen; omega) (by have := HRL.out; omega) (by simp; omega) ?_)
            intro v' w7 hown' hgrow _
            have hOA := row_fut hO1 (Fut.alloc wr (.cells #[.slice av rw'.length ac] 28))
            have HO7 : Hid (OwnL w7 w.heap.size v' Rn) := Lib.hid (by
              rw [HRS.out]
              refine ⟨vals ++ [.slice av rw'.length ac], ?_, Elems.app (hE1.fut (Fut.alloc _ _)) ((HR.out.base hb0).fut (Fut.alloc _ _)) hOA hgrow⟩
              have e : (Ri ++ [rw']).length = Ri.length + 1 := by simp
              rw [e]
              simpa using hown')
            have HF7 : Hid (Fut w w7) := Lib.hid (RowKit.Below.grown ((HF.out.trans HB.out).trans (Fut.alloc _ _)) hgrow (by simp; omega) (fun q hq => (World.ownsRow.lt hOA q hq).1))
            clear hown' hgrow hOA
            go_wp2
            go_round
            case rel => exact ⟨i + 1, by omega, by go_num, by rw [HRX.out]; exact HO7, HF7⟩
            case measure => simp [intOf]; omega
      · obtain rfl : i = n := by omega
        obtain ⟨l, lc, e, q1, q2, hL⟩ := HO.out.listsC
        subst e
        go_wp2
        go_ret2
        exact ⟨_, _, rfl, q1, q2, hL, HF.out⟩
  · rw [if_neg hs]
    clear hL
    generalize chkE c zss = E at *
    go_enter Try.func19, Try.ntmps19
    go_wp2_with fail
    refine HC.out.mono ?_
    rintro _ w1 ⟨rfl, F⟩
    have HF := Lib.hid F
    clear F
    go_wp2
    go_ret2
    exact TupLC.nil E HF.out
end Go.Proofs.Ytpgifeaejjjjnaa
