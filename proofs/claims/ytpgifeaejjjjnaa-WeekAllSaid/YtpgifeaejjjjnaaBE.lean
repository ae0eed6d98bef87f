/- Layer 3: Turned. -/
import Derived.Test.YtpgifeaejjjjnaaBD
namespace Go.Proofs.Ytpgifeaejjjjnaa
open Go.RowKit Go.Sort
theorem info28b : (Try.prog.info? 28).map (fun i => (i.zero, i.size, i.bytes)) = some (some (.slice none 0 0), 1, 24) := info28
theorem mk_row (n : Nat) (h : n ≤ 1000) (W : World) : (Instr.makeSlice 28 (.int .i64 n) (.int .i64 n)).run Try.prog W = .ok (.slice (some ⟨W.heap.size, 0, none⟩) n n) (W.alloc (.cells (madeCells #[.int .i64 0] n) 3)) :=
  run_make_row' 28 3 (.int .i64 0) 8 Try.underlying28 info3 rfl .i64 .i64 n (by omega) (by omega) W
theorem mk_rows (n : Nat) (h : n ≤ 1000) (W : World) : (Instr.makeSlice 22 (.int .i64 n) (.int .i64 n)).run Try.prog W = .ok (.slice (some ⟨W.heap.size, 0, none⟩) n n) (W.alloc (.cells (madeCells #[.slice none 0 0] n) 28)) :=
  run_make_row' 22 28 (.slice none 0 0) 24 Try.underlying22 info28 rfl .i64 .i64 n (by omega) (by omega) W
theorem turned_any (c : Int) (a : Option Addr) (cap : Nat) (zss : List (List Int)) (w : World) (hL : LstC w a zss) (hcap : zss.length ≤ cap) (hcm : cap ≤ 9223372036854775807) :
    Calls Try.prog 28 #[.int .i64 c, .slice a zss.length cap] w (TupLC (chkE c zss) (turnE c zss) w) := by
  have HC := Lib.hid (check_any c a cap zss w hL hcap hcm)
  unfold turnE
  by_cases hs : chkE c zss = 0
  · rw [if_pos hs]
    rw [hs] at HC ⊢
    obtain ⟨c1, c5, hn, hrow⟩ := chk_rows hs
    obtain ⟨n, rfl⟩ := Int.eq_ofNat_of_zero_le (show 0 ≤ c by omega)
    have hz5 : zss.length ≤ 5 := by omega
    have hn5 : n ≤ 5 := by omega
    have HL := Lib.hid hL
    have HROW := Lib.hid hrow
    have hmk1 := fun W => mk_row n (by omega) W
    have hmk2 := fun W => mk_rows zss.length (by omega) W
    rw [show ((n : Int)).toNat = n by simp]
    clear hL hrow hs hcap hcm
    generalize hE : gridL zss.length n (fun i s => tset (lth zss i) n s) = R at *
    have HE := Lib.hid hE
    have hRL : R.length = zss.length := by rw [← hE, gridL_len]
    have HRL := Lib.hid hRL
    clear hE hRL
    go_enter Try.func28, Try.ntmps28
    go_wp2_with fail
    refine HC.out.mono ?_
    rintro _ w1 ⟨rfl, F⟩
    have HF1 := Lib.hid F
    have hsz := RowKit.Below.size F
    clear F
    go_wp2_with fail
    have hG0 := Grid.made w1 zss.length n
    have F1 : RowKit.Below w1.heap.size w1 (w1.alloc (.cells (madeCells #[Value.slice none 0 0] zss.length) 28)) := Fut.alloc _ _
    generalize w1.alloc (.cells (madeCells #[Value.slice none 0 0] zss.length) 28) = W1 at *
    generalize hB : w1.heap.size = g at *
    have HF0 := Lib.hid F1
    have HG0 := Lib.hid hG0
    clear hG0 F1 hmk2
    go_loopw [23] (fun iv wr => ∃ (k : Nat) (bl : Nat → Nat), k ≤ zss.length ∧ iv = .int .i64 k ∧ Hid (Grid wr g g zss.length n bl k (fun i s => tset (lth zss i) n s)) ∧ Hid (RowKit.Below g w1 wr)) (fun iv _ => zss.length - (intOf iv).toNat)
    case atStart => exact ⟨0, fun _ => 0, Nat.zero_le _, rfl, Lib.hid (HG0.out.congr fun i j hi => absurd hi (Nat.not_lt_zero i)), HF0⟩
    case round =>
      obtain ⟨k, bl, hk, rfl, HG, HF⟩ := hrel
      by_cases hlt : k < zss.length
      · have hkx : (k : Int) < zss.length := by omega
        have HFw := Lib.hid (Fut.trans' HF1.out HF.out (by omega))
        obtain ⟨bb, off, l, lc, ea, hbb, d1, hlc, hcc, hI⟩ := HL.out k hlt
        subst ea
        have d2 : wr.cell? ⟨bb, off + k, none⟩ = some (.slice l (lth zss k).length lc) := (RowKit.Below.cell HFw.out (p := ⟨bb, off + k, none⟩) hbb).trans d1
        have hlen := (HROW.out k hlt).1
        have HAM := Lib.hid (am_in (HROW.out k hlt).2)
        have HII := Lib.hid hI
        have hGo := HG.out.outer
        have o1 : wr.cell? ⟨g, k, none⟩ = some (.slice none 0 0) := by rw [hGo.cell hlt, if_neg (Nat.lt_irrefl _)]
        have o2 : wr.frozen? ⟨g, k, none⟩ = false := hGo.frozen k
        have o3 : g < wr.heap.size := hGo.lt
        have hGR := HG.out.row.congr (f' := fun i s => if i = k then 0 else tset (lth zss i) n s) (fun i j _ _ => rfl)
        have hBR : RowKit.Below g w1 ((wr.alloc (.cells (madeCells #[Value.int .i64 0] n) 3)).setCell ⟨g, k, none⟩ (.slice (some ⟨wr.heap.size, 0, none⟩) n n)) := (HF.out.alloc (Nat.le_of_lt o3) _).setCell (Nat.le_refl _) _
        clear hGo hI d1 HG HF
        generalize hzs : lth zss k = zs at *
        have HZS := Lib.hid hzs
        clear hzs
        have hlen' : zs.length = n := by omega
        have hd2 : wr.cell? ⟨bb, off + k, none⟩ = some (.slice l n lc) := by rw [← hlen']; exact d2
        clear d2 hlen
        rw [World.setCell_alloc_past _ _ _ _ o3] at hGR hBR
        go_wp2_with fail
        generalize (wr.setCell ⟨g, k, none⟩ (.slice (some ⟨wr.heap.size, 0, none⟩) n n)).alloc (.cells (madeCells #[Value.int .i64 0] n) 3) = W2 at *
        have hb2 : (fun i => if i = k then wr.heap.size else bl i) k = wr.heap.size := by simp
        generalize (fun i => if i = k then wr.heap.size else bl i) = bl2 at *
        generalize wr.heap.size = b at *
        have HG2 := Lib.hid hGR
        have HB2 := Lib.hid hBR
        clear hGR hBR o1 o2 o3 hd2 bl
        go_loopw [35] (fun iv ws => ∃ d : Nat, d ≤ n ∧ iv = .int .i64 d ∧ Hid (Grid ws g g zss.length n bl2 (k + 1) (fun i s => if i = k then tset zs d s else tset (lth zss i) n s)) ∧ Hid (RowKit.Below g w1 ws)) (fun iv _ => n - (intOf iv).toNat)
        case atStart => exact ⟨0, Nat.zero_le _, rfl, Lib.hid (HG2.out.congr fun i j _ _ => rfl), HB2⟩
        case round =>
          obtain ⟨d, hdn, rfl, HG3, HB3⟩ := hrel
          by_cases hdl : d < n
          · have hdx : (d : Int) < n := by omega
            have HFs := Lib.hid (Fut.trans' HF1.out HB3.out (by omega))
            obtain ⟨b1, off1, el, hb1, e1⟩ := (HII.out.fut HFs.out) d (by omega)
            subst el
            obtain ⟨z0, z1, _, _⟩ := HAM.out d (by omega)
            obtain ⟨z, hz⟩ := Int.eq_ofNat_of_zero_le z0
            rw [hz] at e1 z0 z1
            have hzn : z < n := by omega
            have g1 := HG3.out.cell (Nat.lt_succ_self k) hlt
            have g2 := HG3.out.at (Nat.lt_succ_self k) hzn
            have g3 : wr.frozen? ⟨bl2 k, z, none⟩ = false := (HG3.out.inner k (Nat.lt_succ_self k)).frozen z
            rw [hb2] at g1 g2 g3
            have HP := Lib.hid (HG3.out.put (Nat.lt_succ_self k) z (d : Int))
            rw [hb2] at HP
            have hgb : g ≤ b := by have := HG3.out.above k (Nat.lt_succ_self k); omega
            have HB4 : Hid (RowKit.Below g w1 (wr.setCell ⟨b, z, none⟩ (.int .i64 d))) := Lib.hid (HB3.out.setCell hgb _)
            have HP2 : Hid (Grid (wr.setCell ⟨b, z, none⟩ (.int .i64 d)) g g zss.length n bl2 (k + 1) (fun i s => if i = k then tset zs (d + 1) s else tset (lth zss i) n s)) := Lib.hid (HP.out.congr fun i j _ _ => by
              by_cases ei : i = k
              · subst ei
                rw [if_pos rfl, if_pos rfl]
                unfold tset
                rw [hz]
                by_cases ej : j = z
                · rw [if_pos ⟨rfl, ej⟩, if_pos (by omega)]
                · rw [if_neg (fun q => ej q.2), if_neg (by omega)]
                  cases d <;> rfl
              · rw [if_neg (fun q => ei q.1), if_neg ei, if_neg ei])
            clear HP HG3 HB3 hz
            go_wp2
            go_round
            case rel => exact ⟨d + 1, by omega, by go_num, HP2, HB4⟩
            case measure => simp [intOf]; omega
          · obtain rfl : d = n := by omega
            have HG4 := Lib.hid (HG3.out.congr (f' := fun i s => tset (lth zss i) d s) (fun i j _ _ => by
              by_cases ei : i = k
              · subst ei; rw [if_pos rfl, HZS.out]
              · rw [if_neg ei]))
            clear HG3
            go_wp2
            go_round
            case rel => exact ⟨k + 1, bl2, by omega, by go_num, HG4, HB3⟩
            case measure => simp [intOf]; omega
      · obtain rfl : k = zss.length := by omega
        go_wp2
        go_ret2
        refine ⟨some ⟨g, 0, none⟩, zss.length, ?_, by have := HRL.out; omega, by omega, ?_, Fut.trans' HF1.out HF.out (by omega)⟩
        · rw [HRL.out]; rfl
        · rw [← HE.out]; exact HG.out.lists (by omega)
  · rw [if_neg hs]
    clear hL
    generalize chkE c zss = E at *
    go_enter Try.func28, Try.ntmps28
    go_wp2_with fail
    refine HC.out.mono ?_
    rintro _ w1 ⟨rfl, F⟩
    have HF := Lib.hid F
    clear F
    go_wp2
    go_ret2
    exact TupLC.nil E HF.out
end Go.Proofs.Ytpgifeaejjjjnaa
