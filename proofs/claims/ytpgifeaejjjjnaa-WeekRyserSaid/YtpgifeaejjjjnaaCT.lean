/- the reference's Turned. -/
import Derived.Test.YtpgifeaejjjjnaaCS
namespace Go.Proofs.Ytpgifeaejjjjnaa
open Go.RowKit Go.Sort
/-- a row by streets, after so many days. -/
def tl (n : Nat) (zs : List Int) (d : Nat) : List Int := (List.range n).map fun (s : Nat) => tset zs d s
theorem tl_len (n : Nat) (zs : List Int) (d : Nat) : (tl n zs d).length = n := by unfold tl; simp
theorem tl_zero (n : Nat) (zs : List Int) : oftL n [] = tl n zs 0 := by
  unfold oftL tl
  refine List.map_congr_left fun s _ => ?_
  simp [tset]
theorem tl_succ (n : Nat) (zs : List Int) (d z : Nat) (hz : nth zs d = (z : Int)) : (tl n zs d).set z (d : Int) = tl n zs (d + 1) := by
  apply List.ext_getElem
  · rw [List.length_set, tl_len, tl_len]
  · intro j h1 h2
    rw [List.length_set, tl_len] at h1
    rw [List.getElem_set]
    have e1 : (tl n zs d)[j]'(by rw [tl_len]; exact h1) = tset zs d j := by unfold tl; rw [List.getElem_map, List.getElem_range]
    have e2 : (tl n zs (d + 1))[j]'(by rw [tl_len]; exact h1) = (if (j : Int) = nth zs d then (d : Int) else tset zs d j) := by unfold tl; rw [List.getElem_map, List.getElem_range]; rfl
    rw [e1, e2, hz]
    by_cases e : z = j
    · rw [if_pos e, if_pos (by omega)]
    · rw [if_neg e, if_neg (by omega)]
def accT (n : Nat) (zss : List (List Int)) (i : Nat) : List (List Int) := (List.range i).map fun k => tl n (lth zss k) n
theorem accT_succ (n : Nat) (zss : List (List Int)) (i : Nat) : accT n zss (i + 1) = accT n zss i ++ [tl n (lth zss i) n] := by
  unfold accT; rw [List.range_succ, List.map_append]; rfl
theorem accT_len (n : Nat) (zss : List (List Int)) (i : Nat) : (accT n zss i).length = i := by unfold accT; simp
theorem accT_all (n : Nat) (zss : List (List Int)) : accT n zss zss.length = gridL zss.length n (fun i s => tset (lth zss i) n s) := rfl
set_option maxRecDepth 100000 in
set_option maxHeartbeats 4000000 in
theorem rturned_any (c : Int) (a : Option Addr) (cap : Nat) (zss : List (List Int)) (w : World) (hL : LstC w a zss) (hcap : zss.length ≤ cap) (hcm : cap ≤ 9223372036854775807) :
    Calls Try.prog 29 #[.int .i64 c, .slice a zss.length cap] w (TupLC (chkE c zss) (turnE c zss) w) := by
  have HC := Lib.hid (rcheck_any c a cap zss w hL hcap hcm)
  unfold turnE
  by_cases hs : chkE c zss = 0
  · rw [if_pos hs]
    rw [hs] at HC ⊢
    obtain ⟨c1, c5, hn, hrow⟩ := chk_rows hs
    obtain ⟨n, rfl⟩ := Int.eq_ofNat_of_zero_le (show 0 ≤ c by omega)
    have hz5 : zss.length ≤ 5 := by omega
    have hn5 : n ≤ 5 := by omega
    have HL := Lib.hid hL
    have HROW := Lib.hid hrow
    obtain ⟨i1, hi1, hy0, hy1, hy2⟩ := info_parts info28
    have hmk1 := fun W => mk_row n (by omega) W
    rw [show ((n : Int)).toNat = n by simp, ← accT_all]
    have hzx : (zss.length : Int) ≤ 5 := by omega
    clear hL hrow hs hcap hcm
    go_enter Try.func29, Try.ntmps29
    go_wp2_with fail
    refine HC.out.mono ?_
    rintro _ w1 ⟨rfl, F⟩
    have HF1 := Lib.hid F
    clear F
    go_wp2_with fail
    go_loopw [7, 8] (fun ov iv wr => ∃ k : Nat, k ≤ zss.length ∧ iv = .int .i64 k ∧ Hid (OwnX wr w1.heap.size ov (accT n zss k)) ∧ Hid (Fut w1 wr)) (fun _ iv _ => zss.length - (intOf iv).toNat)
    case atStart => exact ⟨0, Nat.zero_le _, rfl, Lib.hid (OwnX.nil _ _), Lib.hid Fut.rfl⟩
    case round =>
      obtain ⟨k, hk, rfl, HOX, HFX⟩ := hrel
      by_cases hlt : k < zss.length
      · have hkx : (k : Int) < zss.length := by omega
        have HFw := Lib.hid (HF1.out.trans HFX.out)
        obtain ⟨bb, off, l, lc, ea, hbb, d1, hlc, hcc, hI⟩ := HL.out k hlt
        subst ea
        have hlen := (HROW.out k hlt).1
        have HAM := Lib.hid (am_in (HROW.out k hlt).2)
        have HII := Lib.hid (hI.fut HFw.out)
        have HD1 := Lib.hid d1
        have HAS := Lib.hid (accT_succ n zss k)
        have HAL := Lib.hid (accT_len n zss k)
        clear hI d1
        generalize hzs : lth zss k = zs at *
        have HZS := Lib.hid hzs
        clear hzs
        have HLEN : Hid (zs.length = n) := Lib.hid (by omega)
        clear hlen
        have HM := Lib.hid (made_own wr n (by omega))
        go_wp2_with fail
        have FM : Fut wr (wr.alloc (.cells (madeCells #[Value.int .i64 0] n) 3)) := Fut.alloc _ _
        have HFM := Lib.hid FM
        rw [tl_zero n zs] at HM
        generalize hQ : wr.alloc (.cells (madeCells #[Value.int .i64 0] n) 3) = W2 at *
        clear hQ
        generalize wr = wq at *
        clear FM
        go_loopw [10] (fun iv ws => ∃ d : Nat, d ≤ n ∧ iv = .int .i64 d ∧ Hid (Owns ws wq.heap.size (.slice (some ⟨wq.heap.size, 0, none⟩) n n) (tl n zs d)) ∧ Hid (Fut wq ws)) (fun iv _ => n - (intOf iv).toNat)
        case atStart => exact ⟨0, Nat.zero_le _, rfl, HM, HFM⟩
        case round =>
          obtain ⟨d, hdn, rfl, HO3, HB3⟩ := hrel
          by_cases hdl : d < n
          · have hdx : (d : Int) < n := by omega
            obtain ⟨b1, off1, el, hb1, e1⟩ := (HII.out.fut HB3.out) d (by have := HLEN.out; omega)
            have d2 := (RowKit.Below.cell (Fut.trans HFw.out HB3.out) (p := ⟨bb, off + k, none⟩) hbb).trans HD1.out
            rw [HLEN.out] at d2
            subst el
            obtain ⟨z0, z1, _, _⟩ := HAM.out d (by have := HLEN.out; omega)
            obtain ⟨z, hz⟩ := Int.eq_ofNat_of_zero_le z0
            rw [hz] at e1 z0 z1
            have hzn : z < n := by omega
            obtain ⟨g1, g2, g3⟩ := own_at HO3.out (tl_len n zs d) z hzn
            have hO4 := own_set HO3.out (tl_len n zs d) z (d : Int)
            rw [tl_succ n zs d z hz] at hO4
            have HO4 := Lib.hid hO4
            have HB4 : Hid (Fut wq (wr.setCell ⟨wq.heap.size, z, none⟩ (.int .i64 d))) := Lib.hid (RowKit.Below.setCell (p := ⟨wq.heap.size, z, none⟩) HB3.out (Nat.le_refl _) _)
            clear hO4 HO3 hz
            go_wp2
            go_round
            case rel => exact ⟨d + 1, by omega, by go_num, HO4, HB4⟩
            case measure => simp [intOf]; omega
          · obtain rfl : d = n := by omega
            have HOR : Hid (Owns wr 0 (.slice (some ⟨wq.heap.size, 0, none⟩) (tl d zs d).length d) (tl d zs d)) := Lib.hid (by rw [tl_len]; exact HO3.out.base (Nat.zero_le _))
            have HTL := Lib.hid (tl_len d zs d)
            obtain ⟨vals, hrow, hel⟩ := HOX.out
            have HRW := Lib.hid (row_fut hrow HB3.out)
            have HEL := Lib.hid (hel.fut HB3.out)
            have HFZ := Lib.hid (HFX.out.trans HB3.out)
            rw [HAL.out] at HRW
            have HBW : Hid (w1.heap.size ≤ wr.heap.size) := Lib.hid (RowKit.Below.size HFZ.out)
            clear hrow hel HO3
            go_wp2_with (at_builtin; refine wpList_append_lies _ rfl _ _ 22 rfl w1.heap.size 28 i1 (.slice none 0 0) 1 24 Try.underlying22 hi1 hy0 hy1 hy2 rfl (by decide) _ k vals rfl (row_fut HRW.out (Fut.alloc _ _)) ⟨wr.heap.size, 0, none⟩ 1 1 [.slice (some ⟨wq.heap.size, 0, none⟩) d d] rfl rfl (cell_one (by simp [go_sem])) (by simp [Value.oneCell']) (by omega) (by unfold maxLen; omega) (by omega) (by have := HBW.out; simp; omega) _ rfl ?_)
            intro g8 c8 w8 hown8 hgrow8 _ _
            have HX8 : Hid (OwnX w8 w1.heap.size (.slice (some ⟨g8, 0, none⟩) (k + 1) c8) (accT d zss (k + 1))) := Lib.hid (by
              have h1 := row_fut HRW.out (Fut.alloc wr (.cells #[.slice (some ⟨wq.heap.size, 0, none⟩) d d] 28))
              have h2 := HEL.out.fut (Fut.alloc wr (.cells #[.slice (some ⟨wq.heap.size, 0, none⟩) d d] 28))
              have h3 := HOR.out.fut (Fut.alloc wr (.cells #[.slice (some ⟨wq.heap.size, 0, none⟩) d d] 28))
              rw [HTL.out] at h3
              rw [HAS.out]
              have e : k = (accT d zss k).length := HAL.out.symm
              have h4 := OwnX.app (zss := accT d zss k) (by rw [HAL.out]; exact h1) h2 h3 (by rw [HAL.out]; exact hown8) hgrow8
              rw [HAL.out] at h4
              exact h4)
            have HF8 : Hid (Fut w1 w8) := Lib.hid (RowKit.Below.grown (HFZ.out.trans (Fut.alloc wr (.cells #[.slice (some ⟨wq.heap.size, 0, none⟩) d d] 28))) hgrow8 (RowKit.Below.size (HFZ.out.trans (Fut.alloc wr (.cells #[.slice (some ⟨wq.heap.size, 0, none⟩) d d] 28)))) fun q hq => (World.ownsRow.lt HRW.out q hq).1)
            clear hown8 hgrow8
            go_wp2
            go_round
            case rel => exact ⟨k + 1, by omega, by go_num, HX8, HF8⟩
            case measure => simp [intOf]; omega
      · obtain rfl : k = zss.length := by omega
        obtain ⟨l, lc, e, q1, q2, hL⟩ := HOX.out.listsC
        subst e
        go_wp2
        go_ret2
        exact ⟨l, lc, rfl, q1, q2, hL, HF1.out.trans HFX.out⟩
  · rw [if_neg hs]
    clear hL
    generalize chkE c zss = E at *
    go_enter Try.func29, Try.ntmps29
    go_wp2_with fail
    refine HC.out.mono ?_
    rintro _ w1 ⟨rfl, F⟩
    have HF := Lib.hid F
    clear F
    go_wp2
    go_ret2
    exact TupLC.nil E HF.out
end Go.Proofs.Ytpgifeaejjjjnaa
