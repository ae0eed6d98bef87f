/- The reference's full 81: rfill_any (grdF: the first row that fits, again and again) -/
import Derived.Test.YtpgifeaejjjjnaaEF
import Derived.Test.YtpgifeaejjjjnaaDB
namespace Go.Proofs.Ytpgifeaejjjjnaa
open Go.RowKit Go.Sort
/-- rows that fit, the first each time, so many of them. -/
def grdF (n : Nat) : Nat → List (List Int) → List (List Int)
  | 0, z => z
  | m + 1, z => grdF n m (z ++ [lth (fitL n z) 0])
def lenV : Value → Nat
  | .slice _ n _ => n
  | _ => 0
theorem grd_step {n : Nat} {z : List (List Int)} (h : z.length < n) : grdF n (n - z.length) z = grdF n (n - (z ++ [lth (fitL n z) 0]).length) (z ++ [lth (fitL n z) 0]) := by
  obtain ⟨m, hm⟩ : ∃ m, n - z.length = m + 1 := ⟨n - z.length - 1, by omega⟩
  rw [List.length_append, hm, show n - (z.length + [lth (fitL n z) 0].length) = m by simp; omega]
  rfl
theorem grd_end {n : Nat} {z : List (List Int)} (h : ¬ z.length < n) : grdF n (n - z.length) z = z := by
  rw [show n - z.length = 0 by omega]; rfl
set_option maxRecDepth 100000 in
set_option maxHeartbeats 4000000 in
/-- the reference fills a plan with the first row that fits, again and again. -/
theorem rfill_any (n : Nat) (hn : n ≤ 5) (a : Option Addr) (cap : Nat) (zss : List (List Int)) (w : World) (hL : LstC w a zss) (hP : Plan n zss) (h1 : 1 ≤ n) :
    Calls Try.prog 81 #[.int .i64 n, .slice a zss.length cap] w fun e w' => ∃ v, e = .returned v ∧ OwnX w' w.heap.size v (grdF n (n - zss.length) zss) ∧ Fut w w' := by
  obtain ⟨i1, hi1, hy0, hy1, hy2⟩ := info_parts info28
  have HC := Lib.hid (copied_any a cap zss w hL (by have := hP.len; omega) (fun k hk => by have := ord_len (hP.row k hk); omega))
  have HP := Lib.hid hP
  have hnx : (n : Int) ≤ 5 := by omega
  generalize hG : grdF n (n - zss.length) zss = G at *
  have HG := Lib.hid hG
  clear hL hG hP
  go_enter Try.func81, Try.ntmps81
  go_wp2_with fail
  refine HC.out.mono ?_
  rintro _ w1 ⟨v, rfl, hX1, F1⟩
  have HX1 := Lib.hid hX1
  have HF1 := Lib.hid F1
  obtain ⟨l1, lc1, rfl, _, _, _⟩ := hX1.listsC
  clear hX1 F1 HC
  go_wp2_with fail
  go_loopw [5] (fun ov wx => ∃ cur, Hid (Plan n cur) ∧ Hid (grdF n (n - cur.length) cur = G) ∧ (∃ l lc, ov = .slice l cur.length lc) ∧ Hid (OwnX wx w.heap.size ov cur) ∧ Hid (Fut w wx)) (fun ov _ => n - lenV ov)
  case atStart => exact ⟨zss, HP, HG, ⟨_, _, rfl⟩, HX1, HF1⟩
  case round =>
    obtain ⟨cur, HPL, HGC, ⟨l, lc, rfl⟩, HOX, HFX⟩ := hrel
    have hcl : cur.length ≤ n := HPL.out.len
    by_cases hlt : cur.length < n
    · have hltx : (cur.length : Int) < n := by omega
      obtain ⟨l', lc', e, hlc, hlm, hC⟩ := HOX.out.listsC
      simp only [Value.slice.injEq, true_and] at e
      obtain ⟨rfl, rfl⟩ := e
      have hft := rfitting_any n hn l lc cur wr hC.lst (by omega) (fun k hk => by have := ord_len (HPL.out.row k hk); omega)
      rw [fit_ref (fun i hi => by have := ord_len (HPL.out.row i hi); omega)] at hft
      have HFT := Lib.hid hft
      have hp := fit_pos HPL.out hlt
      have HPF := Lib.hid hp
      have HGS := Lib.hid (HGC.out.symm.trans (grd_step hlt))
      have HPA := Lib.hid (plan_add HPL.out (r := lth (fitL n cur) 0) (by rw [lth_eq, List.getElem?_eq_getElem hp]; exact List.getElem_mem _) hlt)
      obtain ⟨vals, hrow, hel⟩ := HOX.out
      have HROW := Lib.hid hrow
      have HEL := Lib.hid hel
      have HBW : Hid (w.heap.size ≤ wr.heap.size) := Lib.hid (RowKit.Below.size HFX.out)
      clear hrow hel hft hp hC
      generalize fitL n cur = fl at *
      go_wp2_with fail
      refine HFT.out.mono ?_
      rintro _ w2 ⟨v2, rfl, hX2, F2⟩
      obtain ⟨g, cc, vals2, rfl, _⟩ := hX2.take HPF.out
      obtain ⟨al, ac, hgs, hcell, hOr⟩ := hX2.at 0 HPF.out
      have HOR := Lib.hid hOr
      have HFW := Lib.hid (HFX.out.trans F2)
      have HR5 := Lib.hid (row_fut HROW.out F2)
      have HE5 := Lib.hid (HEL.out.fut F2)
      have HB5 : Hid (w.heap.size ≤ w2.heap.size) := Lib.hid (RowKit.Below.size HFW.out)
      have hpx : (0 : Int) < fl.length := by have := HPF.out; omega
      generalize lth fl 0 = row at *
      clear hX2 F2 hOr HFT HROW HEL
      go_wp2_with (at_builtin; refine wpList_append_lies _ rfl _ _ 22 rfl w.heap.size 28 i1 (.slice none 0 0) 1 24 Try.underlying22 hi1 hy0 hy1 hy2 rfl (by decide) _ cur.length vals rfl (row_fut HR5.out (Fut.alloc _ _)) ⟨w2.heap.size, 0, none⟩ 1 1 [.slice al row.length ac] rfl rfl (cell_one (by simp [go_sem])) (by simp [Value.oneCell']) (by omega) (by unfold maxLen; omega) (by omega) (Nat.le_trans HB5.out (RowKit.Below.size (Fut.alloc w2 _))) _ rfl ?_)
      intro g8 c8 w8 hown8 hgrow8 _ _
      have HX8 : Hid (OwnX w8 w.heap.size (.slice (some ⟨g8, 0, none⟩) (cur.length + 1) c8) (cur ++ [row])) := Lib.hid (OwnX.app (row_fut HR5.out (Fut.alloc _ _)) (HE5.out.fut (Fut.alloc _ _)) (HOR.out.fut (Fut.alloc _ _)) hown8 hgrow8)
      have HF8 : Hid (Fut w w8) := Lib.hid (RowKit.Below.grown (HFW.out.trans (Fut.alloc w2 (.cells #[.slice al row.length ac] 28))) hgrow8 (RowKit.Below.size (HFW.out.trans (Fut.alloc w2 (.cells #[.slice al row.length ac] 28)))) fun q hq => (World.ownsRow.lt HR5.out q hq).1)
      clear hown8 hgrow8
      go_wp2
      go_round
      case rel => exact ⟨cur ++ [row], HPA, Lib.hid HGS.out.symm, ⟨_, _, by rw [List.length_append]; rfl⟩, HX8, HF8⟩
      case measure => simp [lenV]; omega
    · have HGE := Lib.hid (HGC.out.symm.trans (grd_end hlt))
      have hle : ¬ (cur.length : Int) < n := by omega
      go_wp2
      go_ret
      exact ⟨_, rfl, by rw [HGE.out]; exact HOX.out, HFX.out⟩
end Go.Proofs.Ytpgifeaejjjjnaa
