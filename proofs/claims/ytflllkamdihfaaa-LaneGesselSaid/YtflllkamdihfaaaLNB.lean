/- merged: LHV LHW LHY -/
import Derived.Test.YtflllkamdihfaaaLHP
import Derived.Test.YtflllkamdihfaaaLNA
import Derived.Test.YtflllkamdihfaaaLHF
import Derived.Deep.DeepCutAuto
import Derived.Deep.QuietTactic
import Derived.BigQuiet
import Derived.Deep.RegionLawGrows
namespace Go.Proofs.Ytflllkamdihfaaa
open Go.RowKit Go.Sort
section
/-- what LaneGessel's three cells hold when these families are done. -/
structure GsI (B1 B2 B3 : Nat) (T : List Int) (D : List (List (List Int))) (w : World) : Prop where
  s : w.heap[B1]? = some (.cells #[.int .i64 (D.map fun G => sgnO (ordF T G)).sum] 3)
  n : w.heap[B2]? = some (.cells #[.int .i64 (D.length : Nat)] 3)
  f : ∃ fa fc, w.heap[B3]? = some (.cells #[.slice fa (lstF 0 [] D).length fc] 35) ∧ ∀ W, But (fun q => q = B1 ∨ q = B2 ∨ q = B3) w W → LstAt W fa (lstF 0 [] D)
  ml : (lstF 0 [] D).length ≤ 3
  mw : ∀ k, k < (lstF 0 [] D).length → (lth (lstF 0 [] D) k).length ≤ 16
theorem GsI.fut {B1 B2 B3 : Nat} {T : List Int} {D : List (List (List Int))} {w w' : World} (h : GsI B1 B2 B3 T D w) (F : Fut w w') : GsI B1 B2 B3 T D w' := by
  obtain ⟨fa, fc, h1, h2⟩ := h.f
  exact ⟨heap_fut h.s F, heap_fut h.n F, ⟨fa, fc, heap_fut h1 F, fun W X => h2 W ((But.of_below F).trans (X.mono fun _ _ hz => hz) )⟩, h.ml, h.mw⟩
theorem sg_bound (T : List Int) : ∀ D : List (List (List Int)), -(D.length : Int) ≤ (D.map fun G => sgnO (ordF T G)).sum ∧ (D.map fun G => sgnO (ordF T G)).sum ≤ D.length
  | [] => by simp
  | G :: D => by
    have h := sg_bound T D
    have h2 : -1 ≤ sgnO (ordF T G) ∧ sgnO (ordF T G) ≤ 1 := by unfold sgnO; split <;> omega
    rw [List.map_cons, List.sum_cons, List.length_cons]
    omega
/-- one more family. -/
theorem gess_step {B1 B2 B3 : Nat} (h12 : B1 ≠ B2) (h13 : B1 ≠ B3) (h23 : B2 ≠ B3) {T : List Int} {D : List (List (List Int))} {w : World} (hI : GsI B1 B2 B3 T D w) (hD : D.length ≤ 1000000000000000) (a : Option Addr) (cap : Nat) (F : List (List Int)) (oa : Option Addr) (oc : Nat)
    (hF : ∀ W, But (fun q => q = B1 ∨ q = B2 ∨ q = B3) w W → LstAt W a F) (hO : IntsAt w oa (ordF T F)) (hFl : F.length ≤ 3) (hFk : ∀ k, k < F.length → (lth F k).length ≤ 16) :
    Calls Try.prog 43 #[.slice a F.length cap, .slice oa F.length oc, .pointer (some ⟨B1, 0, none⟩), .pointer (some ⟨B2, 0, none⟩), .pointer (some ⟨B3, 0, none⟩)] w fun e w' => e = .returned (.tuple #[]) ∧ But (fun q => q = B1 ∨ q = B2 ∨ q = B3) w w' ∧ GsI B1 B2 B3 T (D ++ [F]) w' := by
  obtain ⟨fa, fc, h1, h2⟩ := hI.f
  have hb := sg_bound T D
  have hol : (ordF T F).length = F.length := by unfold ordF; rw [List.length_map]
  have h := gess_any B1 B2 B3 h12 h13 h23 _ D.length (by omega) hD fa fc (lstF 0 [] D) a cap F oa oc (ordF T F) w hI.s hI.n h1 h2 hF hO hI.ml hFl (by omega) hI.mw hFk
  rw [hol] at h
  refine h.mono ?_
  rintro _ w' ⟨rfl, hB, k1, k2, k3⟩
  refine ⟨rfl, hB, ?_, ?_, ?_, ?_, ?_⟩
  · rw [k1, List.map_append, List.sum_append]; simp
  · rw [k2, List.length_append, List.length_singleton]
  · rw [lstF_one]
    by_cases hc : D.length = 0 ∨ lsB F.flatten (lstF 0 [] D).flatten = true
    · rw [if_pos hc] at k3 ⊢
      exact ⟨a, cap, k3, fun W X => hF W (hB.trans (X.mono fun _ _ hz => hz))⟩
    · rw [if_neg hc] at k3 ⊢
      exact ⟨fa, fc, k3, fun W X => h2 W (hB.trans (X.mono fun _ _ hz => hz))⟩
  · rw [lstF_one]; split
    · exact hFl
    · exact hI.ml
  · rw [lstF_one]; split
    · exact hFk
    · exact hI.mw
end
section
set_option maxRecDepth 100000 in
set_option maxHeartbeats 4000000 in
/-- families' closure 99 where each cart has a way: the callback. -/
theorem gofam_base {B1 B2 B3 Br Bf Bx Bg : Nat} (h12 : B1 ≠ B2) (h13 : B1 ≠ B3) (h23 : B2 ≠ B3) {T : List Int} {D : List (List (List Int))} {w : World} (hI : GsI B1 B2 B3 T D w) (hD : D.length ≤ 1000000000000000) (a : Option Addr) (cap : Nat) (F : List (List Int)) (oa : Option Addr) (oc : Nat) (sn : Nat)
    (hF : ∀ W, But (fun q => q = B1 ∨ q = B2 ∨ q = B3) w W → LstAt W a F) (hO : IntsAt w oa (ordF T F)) (hFl : F.length ≤ 3) (hFk : ∀ k, k < F.length → (lth F k).length ≤ 16)
    (ra : Option Addr) (rc : Nat) (hr : w.heap[Br]? = some (.cells #[.slice ra F.length rc] 106))
    (hf : w.heap[Bf]? = some (.cells #[.func (.func 43) #[] #[.pointer (some ⟨B1, 0, none⟩), .pointer (some ⟨B2, 0, none⟩), .pointer (some ⟨B3, 0, none⟩)]] 70)) :
    Calls Try.prog 99 #[.slice a F.length cap, .slice oa F.length oc, .int .u32 sn, .pointer (some ⟨Br, 0, none⟩), .pointer (some ⟨Bf, 0, none⟩), .pointer (some ⟨Bx, 0, none⟩), .pointer (some ⟨Bg, 0, none⟩)] w fun e w' => e = .returned (.tuple #[]) ∧ But (fun q => q = B1 ∨ q = B2 ∨ q = B3) w w' ∧ GsI B1 B2 B3 T (D ++ [F]) w' := by
  have HST := Lib.hid (gess_step h12 h13 h23 hI hD a cap F oa oc hF hO hFl hFk)
  have c0 := cell_of1 hr
  have c1 := cell_of1 hf
  clear hI hF hO hFk hr hf
  go_enter Try.func99, Try.ntmps99
  go_wp2_with fail
  refine HST.out.mono ?_
  rintro _ w' ⟨rfl, hB, hG⟩
  have HB := Lib.hid hB
  have HG := Lib.hid hG
  clear hB hG
  go_wp2_with fail
  first | refine bodyPost_ret (results_none rfl _ _ _) rfl ?_ | refine bodyPost_end (results_none rfl _ _ _) rfl ?_
  exact ⟨rfl, HB.out, HG.out⟩
end
section
theorem three_of {w : World} {B : Nat} {t : TypeId} {x y : Value} (h : w.heap[B]? = some (.cells #[x, y] t)) : w.cell? ⟨B, 1, none⟩ = some y := by unfold World.cell?; rw [h]; rfl
theorem one_cell {w : World} {s : Nat} {x : Value} (h : w.cell? ⟨s, 0, none⟩ = some x) : ∀ (j : Nat) (u : Value), [x][j]? = some u → w.cell? ((⟨s, 0, none⟩ : Addr).add j) = some u := fun j u hu => by
  match j, hu with
  | 0, hu => cases hu; exact h
theorem fut_none {w w' : World} (g : w.grownBy w' none) : Fut w w' := RowKit.Below.grown Fut.rfl g (Nat.le_refl _) (fun q hq => by cases hq)
theorem cell_new (w : World) (x : Value) (t : TypeId) : (w.alloc (.cells #[x] t)).cell? ⟨w.heap.size, 0, none⟩ = some x := cell_of1 (World.alloc_heap_new _ _)
theorem cell_at {w W : World} {s : Nat} {x : Value} (h : w.cell? ⟨s, 0, none⟩ = some x) (F : Fut w W) : W.cell? ⟨s, 0, none⟩ = some x := (RowKit.Below.cell F (p := ⟨s, 0, none⟩) (World.block_lt_of_cell? _ _ h)).trans h
theorem RowZ.cells {Z : Nat → Prop} {w : World} {a : Option Addr} {cap : Nat} {vals : List Value} (h : RowZ Z w a cap vals) (W : World) (b : But Z w W) : ∀ ad, a = some ad → ∀ (j : Nat) (u : Value), vals[j]? = some u → W.cell? (ad.add j) = some u := fun ad e j u hu => by
  rcases h with ⟨rfl, _, _⟩ | ⟨g, rfl, _, _, _, h5⟩
  · cases e
  · cases e
    have := h5 W b j u hu
    have e2 : ((⟨g, 0, none⟩ : Addr).add j) = ⟨g, j, none⟩ := by unfold Addr.add; split <;> simp_all
    rw [e2]; exact this
theorem RowZ.none {Z : Nat → Prop} {w : World} {a : Option Addr} {cap : Nat} {vals : List Value} (h : RowZ Z w a cap vals) (e : a = none) : vals = [] := by
  rcases h with ⟨_, _, h⟩ | ⟨g, rfl, _⟩
  · exact h
  · cases e
set_option maxRecDepth 100000 in
set_option maxHeartbeats 8000000 in
/-- families' closure: all families that go on from some ways. -/
theorem gofam_any {B1 B2 B3 Br Bf Bx Bg : Nat} (h12 : B1 ≠ B2) (h13 : B1 ≠ B3) (h23 : B2 ≠ B3) {R : List (List (List Int))} {ra : Option Addr} {rc : Nat} {ya : Option Addr} {yn yc : Nat} {ta : Option Addr} {tc : Nat} {T : List Int} (hR3 : R.length ≤ 3) (hT3 : T.length ≤ 3)
    (hRl : ∀ row ∈ R, row.length ≤ 100000 ∧ ∀ l ∈ row, 0 < l.length ∧ l.length ≤ 16 ∧ ∀ x ∈ l, 0 ≤ x ∧ x < 16) : ∀ (n : Nat) (F : List (List Int)) (D : List (List (List Int))) (a : Option Addr) (cap : Nat) (oa : Option Addr) (oc : Nat) (w : World), F.length + n = R.length → (∀ l ∈ F, l.length ≤ 16 ∧ ∀ x ∈ l, 0 ≤ x ∧ x < 16) → GsI B1 B2 B3 T D w → D.length + (gfL (R.drop F.length) F).length ≤ 1000000000000000 →
    GfE (Zc B1 B2 B3) B1 B2 B3 Br Bf Bx Bg R ra rc ya yn yc ta tc T w → FamZ (Zc B1 B2 B3) w a cap F → RowZ (Zc B1 B2 B3) w oa oc ((ordF T F).map (Value.int .i64)) →
    Calls Try.prog 99 #[.slice a F.length cap, .slice oa F.length oc, .int .u32 (snB F : Nat), .pointer (some ⟨Br, 0, none⟩), .pointer (some ⟨Bf, 0, none⟩), .pointer (some ⟨Bx, 0, none⟩), .pointer (some ⟨Bg, 0, none⟩)] w fun e w' => e = .returned (.tuple #[]) ∧ But (Zc B1 B2 B3) w w' ∧ GsI B1 B2 B3 T (D ++ gfL (R.drop F.length) F) w' := by
  intro n
  induction n with
  | zero =>
    intro F D a cap oa oc w hn hF hI hD hE hFZ hOZ
    have e : R.drop F.length = [] := List.drop_of_length_le (by omega)
    rw [e, gfL] at hD ⊢
    rw [List.length_singleton] at hD
    have hr := hE.br w (But.refl _ _)
    rw [← show F.length = R.length by omega] at hr
    exact gofam_base h12 h13 h23 hI (by omega) a cap F oa oc (snB F) (fun W b => hFZ.lst W b) hOZ.ints (by omega) (fun k hk => (hF (lth F k) (by rw [lth_get hk]; exact List.getElem_mem hk)).1) ra rc hr (hE.bf w (But.refl _ _))
  | succ n ih =>
    intro F D a cap oa oc w hn hF hI hD hE hFZ hOZ
    obtain ⟨i0, hi0, hz0, hz1, hz2⟩ := info_parts info3
    obtain ⟨i1, hi1, hy0, hy1, hy2⟩ := info_parts info22
    have hk : F.length < R.length := by omega
    have hdr : R.drop F.length = ltH R F.length :: R.drop (F.length + 1) := by
      rw [ltH_eq, List.getElem?_eq_getElem hk]; exact List.drop_eq_getElem_cons hk
    rw [hdr] at hD ⊢
    have hrow := hRl (ltH R F.length) (by rw [ltH_eq, List.getElem?_eq_getElem hk]; exact List.getElem_mem hk)
    obtain ⟨rg, la, lc, rfl, hrc, hcl, hRW⟩ := hE.rows.at hk
    have HPS := Lib.hid (fun i hi => gfP_succ (R.drop (F.length + 1)) F (ltH R F.length) i hi)
    have HPE := Lib.hid (gfP_end (R.drop (F.length + 1)) F (ltH R F.length))
    have HPL := Lib.hid (fun i hi => gfP_le (R.drop (F.length + 1)) F (ltH R F.length) i hi)
    have HP0 : Hid (gfP (R.drop (F.length + 1)) F (ltH R F.length) 0 = []) := Lib.hid rfl
    have HIH : Hid (∀ (l : List Int), l ∈ ltH R F.length → ∀ (D' : List (List (List Int))) a' cap' oa' oc' W, GsI B1 B2 B3 T D' W → D'.length + (gfL (R.drop (F.length + 1)) (F ++ [l])).length ≤ 1000000000000000 → GfE (Zc B1 B2 B3) B1 B2 B3 Br Bf Bx Bg R (some ⟨rg, 0, none⟩) rc ya yn yc ta tc T W → FamZ (Zc B1 B2 B3) W a' cap' (F ++ [l]) → RowZ (Zc B1 B2 B3) W oa' oc' ((ordF T (F ++ [l])).map (Value.int .i64)) →
        Calls Try.prog 99 #[.slice a' (F.length + 1) cap', .slice oa' (F.length + 1) oc', .int .u32 (snB (F ++ [l]) : Nat), .pointer (some ⟨Br, 0, none⟩), .pointer (some ⟨Bf, 0, none⟩), .pointer (some ⟨Bx, 0, none⟩), .pointer (some ⟨Bg, 0, none⟩)] W fun e w' => e = .returned (.tuple #[]) ∧ But (Zc B1 B2 B3) W w' ∧ GsI B1 B2 B3 T (D' ++ gfL (R.drop (F.length + 1)) (F ++ [l])) w') := Lib.hid (fun l hl D' a' cap' oa' oc' W q1 q2 q3 q4 q5 => by
      have h := ih (F ++ [l]) D' a' cap' oa' oc' W (by rw [List.length_append, List.length_singleton]; omega) (fun x hx => by
        rcases List.mem_append.1 hx with hx | hx
        · exact hF x hx
        · rw [List.mem_singleton.1 hx]; exact (hrow.2 l hl).2) q1 (by rw [List.length_append, List.length_singleton]; exact q2) q3 q4 q5
      rwa [List.length_append, List.length_singleton] at h)
    have HBZ : Hid (∀ q, Zc B1 B2 B3 q → q < w.heap.size) := Lib.hid (fun q hq => by
      have g1 := (Array.getElem?_eq_some_iff.1 hI.s).1
      have g2 := (Array.getElem?_eq_some_iff.1 hI.n).1
      obtain ⟨_, _, h3, _⟩ := hI.f
      have g3 := (Array.getElem?_eq_some_iff.1 h3).1
      rcases hq with rfl | rfl | rfl <;> assumption)
    have HAP := Lib.hid (fun (l : List Int) (hl : l ∈ ltH R F.length) => sn_apart (F := F) (l := l) (fun w hw => (hF w hw).2) (hrow.2 l hl).2.2)
    have HSL : Hid (snB F < 65536) := Lib.hid (sn_lt fun l hl => (hF l hl).2)
    have HSN := Lib.hid (fun l => sn_snoc F l)
    have HOF : Hid (∀ l, ordF T (F ++ [l]) = ordF T F ++ [idxE T (lst l)]) := Lib.hid (fun l => by unfold ordF; rw [List.map_append]; rfl)
    have HOL : Hid ((ordF T F).length = F.length) := Lib.hid (by unfold ordF; rw [List.length_map])
    have HROW : Hid (∀ l ∈ ltH R F.length, 0 < l.length ∧ l.length ≤ 16 ∧ ∀ x ∈ l, 0 ≤ x ∧ x < 16) := Lib.hid hrow.2
    have HRL : Hid ((ltH R F.length).length ≤ 100000) := Lib.hid hrow.1
    have HD := Lib.hid hD
    have HI := Lib.hid hI
    have HE := Lib.hid hE
    have HFZ := Lib.hid hFZ
    have HOZ := Lib.hid hOZ
    have HCL := Lib.hid hcl
    have HRW := Lib.hid hRW
    have c0 := cell_of1 (hE.br w (But.refl _ _))
    have c1 := hcl w (But.refl _ _)
    have hkx : (F.length : Int) < R.length := by omega
    have hke : ((F.length : Int) == (R.length : Int)) = false := by rw [beq_eq_false_iff_ne]; omega
    have HX3 : Hid (F.length ≤ 3 ∧ T.length ≤ 3) := Lib.hid ⟨by omega, hT3⟩
    clear hF hI hD hE hFZ hOZ hdr hrow hcl hRW ih h12 h13 h23 hRl hR3 hT3 hn
    generalize R.drop (F.length + 1) = Rs at *
    generalize ltH R F.length = row at *
    generalize hGG : gfL (row :: Rs) F = GG at *
    clear hGG
    go_enter Try.func99, Try.ntmps99
    go_wp2_with fail
    have hrlx : (row.length : Int) ≤ 100000 := by have := HRL.out; omega
    clear c0 c1
    go_loopw [29] (fun iv wr => ∃ i : Nat, i ≤ row.length ∧ iv = .int .i64 i ∧ Hid (But (Zc B1 B2 B3) w wr) ∧ Hid (GsI B1 B2 B3 T (D ++ gfP Rs F row i) wr)) (fun iv _ => row.length - (intOf iv).toNat)
    case atStart => exact ⟨0, Nat.zero_le _, rfl, Lib.hid (But.refl _ _), Lib.hid (by rw [HP0.out, List.append_nil]; exact HI.out)⟩
    case round =>
      obtain ⟨i, hi, rfl, HB, HG⟩ := hrel
      clear HI HP0
      by_cases hil : i < row.length
      · have hix : (i : Int) < row.length := by omega
        obtain ⟨l, hl⟩ : ∃ l, l = lth row i := ⟨_, rfl⟩
        have hlm : l ∈ row := by rw [hl, lth_get hil]; exact List.getElem_mem hil
        have HPS2 := Lib.hid (HPS.out i hil)
        have HPL2 := Lib.hid (HPL.out (i + 1) hil)
        obtain ⟨g2, wa, wc, rfl, hwc, hcw, hIW⟩ := HRW.out.at hil
        rw [← hl] at HPS2 hcw hIW
        have hLL := HROW.out l hlm
        obtain ⟨lb, lo, rfl, hlb, cl⟩ := hIW wr HB.out (l.length - 1) (by omega)
        have d1 := hcw wr HB.out
        have HCW := Lib.hid hcw
        have HIW := Lib.hid hIW
        have HLL := Lib.hid hLL
        have HLM := Lib.hid hlm
        have cl' : wr.cell? ⟨lb, lo + (l.length - 1), none⟩ = some (.int .i64 (lst l)) := cl
        have e0 := three_of (HE.out.bx wr HB.out)
        have hw2 : IntKind.i64.wrap ((l.length : Int) - 1) = ((l.length - 1 : Nat) : Int) := by rw [IntWalk.i64_in _ ⟨by omega, by omega⟩]; omega
        have hwlx : ((l.length - 1 : Nat) : Int) < l.length := by omega
        have HQ := Lib.hid (fun nq => index_any ta tc T (lst l) (wr.drewN nq) ((HE.out.t wr HB.out).fut (Fut.drewN _ nq)) (by have := HX3.out.2; omega))
        clear hl hcw hIW hLL cl
        go_upto_region 6 with fail
        go_quiet (first | (with_reducible (go_at_call 86; exact Calls.quiet_of_same ((HQ.out _).mono fun _ _ ⟨h, h'⟩ => ⟨h, h'.symm⟩))))
        have HB6 : Hid (But (Zc B1 B2 B3) w (wr.drewN nq)) := Lib.hid (HB.out.trans (But.of_below (Fut.drewN wr nq)))
        have HG6 : Hid (GsI B1 B2 B3 T (D ++ gfP Rs F row i) (wr.drewN nq)) := Lib.hid (HG.out.fut (Fut.drewN wr nq))
        clear HQ d1 cl' e0 HB HG hw2 hwlx
        generalize wr.drewN nq = w6 at *
        have HBT := Lib.hid (bits_any (some ⟨lb, lo, none⟩) wc l w6 (HIW.out w6 HB6.out) (by have := HLL.out.2.1; omega) HLL.out.2.2)
        have hbl := bs_lt HLL.out.2.2
        have HBT2 : Hid (∀ W, Fut w6.drew W → Calls Try.prog 50 #[.slice (some ⟨lb, lo, none⟩) l.length wc] W fun e w' => e = .returned (.int .u32 (bsN l : Nat)) ∧ W = w') := Lib.hid (fun W X => bits_any (some ⟨lb, lo, none⟩) wc l W (HIW.out W (HB6.out.trans (But.of_below ((below_drewN Fut.rfl 1 : Fut w6 w6.drew).trans X)))) (by have := HLL.out.2.1; omega) HLL.out.2.2)
        have HAND : Hid (bits BinOp.and IntKind.u32 ((snB F : Nat) : Int) ((bsN l : Nat) : Int) = ((snB F &&& bsN l : Nat) : Int)) := Lib.hid (u32_and_nat _ _ (by have := HSL.out; omega) (by omega))
        have HOR : Hid (bits BinOp.or IntKind.u32 ((snB F : Nat) : Int) ((bsN l : Nat) : Int) = ((snB (F ++ [l]) : Nat) : Int)) := Lib.hid (by rw [HSN.out]; exact u32_or_nat _ _ (by have := HSL.out; omega) (by omega))
        have HAPL := Lib.hid (HAP.out l HLM.out)
        go_wp2_with fail
        refine HBT.out.mono ?_
        rintro _ _ ⟨rfl, rfl⟩
        cases hap : apB F l
        · have hz : (bits BinOp.and IntKind.u32 ((snB F : Nat) : Int) ((bsN l : Nat) : Int) == 0) = false := by
            rw [HAND.out, beq_eq_false_iff_ne]
            intro e
            have e2 : snB F &&& bsN l = 0 := by exact_mod_cast e
            rw [HAPL.out.1 e2] at hap
            cases hap
          have HR : Hid (GsI B1 B2 B3 T (D ++ gfP Rs F row (i + 1)) w6) := Lib.hid (by rw [HPS2.out, hap]; simpa using HG6.out)
          clear hap HAND HOR HBT hbl
          go_wp2_with fail
          go_roundw
          case rel => first
            | exact ⟨i + 1, by omega, by go_num, HB6, HR⟩
            | ((repeat apply Exists.intro); exact ⟨⟨i + 1, by omega, by go_num, HB6, HR⟩, rfl⟩)
          case measure => simp [intOf]; omega
        · have hz : (bits BinOp.and IntKind.u32 ((snB F : Nat) : Int) ((bsN l : Nat) : Int) == 0) = true := by
            rw [HAND.out, beq_iff_eq, HAPL.out.2 hap]; rfl
          rw [hap, if_pos rfl] at HPS2
          have HIH2 : Hid (∀ a' cap' oa' oc' W, GsI B1 B2 B3 T (D ++ gfP Rs F row i) W → GfE (Zc B1 B2 B3) B1 B2 B3 Br Bf Bx Bg R (some ⟨rg, 0, none⟩) rc ya yn yc ta tc T W → FamZ (Zc B1 B2 B3) W a' cap' (F ++ [l]) → RowZ (Zc B1 B2 B3) W oa' oc' ((ordF T (F ++ [l])).map (Value.int .i64)) →
              Calls Try.prog 99 #[.slice a' (F.length + 1) cap', .slice oa' (F.length + 1) oc', .int .u32 (snB (F ++ [l]) : Nat), .pointer (some ⟨Br, 0, none⟩), .pointer (some ⟨Bf, 0, none⟩), .pointer (some ⟨Bx, 0, none⟩), .pointer (some ⟨Bg, 0, none⟩)] W fun e w' => e = .returned (.tuple #[]) ∧ But (Zc B1 B2 B3) W w' ∧ GsI B1 B2 B3 T (D ++ gfP Rs F row i ++ gfL Rs (F ++ [l])) w') := Lib.hid (fun a' cap' oa' oc' W q1 q3 q4 q5 => HIH.out l HLM.out (D ++ gfP Rs F row i) a' cap' oa' oc' W q1 (by
                have h1 := HPL2.out
                have h2 := HD.out
                rw [HPS2.out, List.length_append] at h1
                rw [List.length_append]; omega) q3 q4 q5)
          have hcf : ∀ W, (Instr.sliceAt 35 (.slice a F.length cap) none (some (.int .i64 (F.length : Nat))) (some (.int .i64 (F.length : Nat)))).run Try.prog W = .ok (.slice a F.length F.length) W := by
            obtain ⟨_, q1, q2, _⟩ := HFZ.out
            exact q2.cut35 q1
          have hco : ∀ W, (Instr.sliceAt 22 (.slice oa F.length oc) none (some (.int .i64 (F.length : Nat))) (some (.int .i64 (F.length : Nat)))).run Try.prog W = .ok (.slice oa F.length F.length) W := HOZ.out.cut22 (by rw [List.length_map, HOL.out])
          obtain ⟨fvals, hfl, hrz, hfe⟩ := HFZ.out
          have FD : Fut w6 w6.drew := below_drewN Fut.rfl 1
          have HB0 : Hid (But (Zc B1 B2 B3) w w6.drew) := Lib.hid (HB6.out.trans (But.of_below FD))
          have HG0 : Hid (GsI B1 B2 B3 T (D ++ gfP Rs F row i) w6.drew) := Lib.hid (HG6.out.fut FD)
          have HE0 : Hid (GfE (Zc B1 B2 B3) B1 B2 B3 Br Bf Bx Bg R (some ⟨rg, 0, none⟩) rc ya yn yc ta tc T w6.drew) := Lib.hid (HE.out.but HB0.out)
          have HFL : Hid (fvals.length = F.length) := Lib.hid hfl
          have HFE := Lib.hid hfe
          have HFN : Hid (a = none → F.length = 0 ∧ F.length = 0) := Lib.hid (fun e => by have := hrz.none e; rw [this] at hfl; simp at hfl; omega)
          have HON : Hid (oa = none → F.length = 0 ∧ F.length = 0) := Lib.hid (fun e => by have h1 := HOZ.out.none e; have h2 := HOL.out; rw [List.map_eq_nil_iff] at h1; rw [h1] at h2; simp at h2; omega)
          have HFC : Hid (∀ W, Fut w6.drew W → ∀ ad, a = some ad → ∀ (j : Nat) (u : Value), fvals[j]? = some u → W.cell? (ad.add j) = some u) := Lib.hid (fun W X => hrz.cells W (HB0.out.trans (But.of_below X)))
          have HOC : Hid (∀ W, Fut w6.drew W → ∀ ad, oa = some ad → ∀ (j : Nat) (u : Value), ((ordF T F).map (Value.int .i64))[j]? = some u → W.cell? (ad.add j) = some u) := Lib.hid (fun W X => HOZ.out.cells W (HB0.out.trans (But.of_below X)))
          have HU0 : Hid (∀ W, Fut w6.drew W → ∀ q, Zc B1 B2 B3 q → q < W.heap.size) := Lib.hid (fun W X q hq => Nat.lt_of_lt_of_le (HBZ.out q hq) (Nat.le_trans HB0.out.size (RowKit.Below.size X)))
          have keep : ∀ W, Fut w6.drew W → W.cell? ⟨Bg, 0, none⟩ = some (.func (.func 99) #[] #[.pointer (some ⟨Br, 0, none⟩), .pointer (some ⟨Bf, 0, none⟩), .pointer (some ⟨Bx, 0, none⟩), .pointer (some ⟨Bg, 0, none⟩)]) := fun W X => cell_of1 (HE.out.bg W (HB0.out.trans (But.of_below X)))
          clear hap HAND HAPL HBT hbl HB6 HG6 hfl hrz hfe FD HIH
          generalize snB (F ++ [l]) = sn2 at *
          generalize bsN l = bl at *
          go_upto_region 8 with fail
          refine wp_region_held_drew (S := (fun w' => w'.cell? ⟨Bg, 0, none⟩ = some (.func (.func 99) #[] #[.pointer (some ⟨Br, 0, none⟩), .pointer (some ⟨Bf, 0, none⟩), .pointer (some ⟨Bx, 0, none⟩), .pointer (some ⟨Bg, 0, none⟩)]))) (by kernel_rfl) ?_ (fun hHeld => ?_)
          · exact keep _ Fut.rfl
          generalize w6.drew = u0 at *
          refine wpAnyH_take (i := 0) (oi := { dst := some 47, op := Op.load 124 (Operand.tmp 6), type := 124, pos := "outright.go:105", after := #[], guard := none }) (v := ?_) rfl (by kernel_rfl) (by kernel_rfl) (by kernel_rfl) (fun _ _ _ h => h) (Or.inl ⟨by rfl, ?_⟩) (by assumption) ?_
          rotate_left
          · (intro w hSw; go_simp <;> with_reducible rfl)
          try simp only [Act.put, List.setIfInBounds_toArray, List.set_cons_zero, List.set_cons_succ]
          refine wpAnyH_take (i := 1) (oi := { dst := some 48, op := Op.move (Operand.tmp 0), type := 35, pos := "outright.go:105", after := #[], guard := none }) (v := ?_) rfl (by kernel_rfl) (by kernel_rfl) (by kernel_rfl) (fun _ _ _ h => h) (Or.inl ⟨by rfl, ?_⟩) (by assumption) ?_
          rotate_left
          · (intro w hSw; go_simp <;> with_reducible rfl)
          try simp only [Act.put, List.setIfInBounds_toArray, List.set_cons_zero, List.set_cons_succ]
          refine wpAnyH_take (i := 2) (oi := { dst := some 49, op := Op.move (Operand.tmp 10), type := 3, pos := "outright.go:105", after := #[], guard := none }) (v := ?_) rfl (by kernel_rfl) (by kernel_rfl) (by kernel_rfl) (fun _ _ _ h => h) (Or.inl ⟨by rfl, ?_⟩) (by assumption) ?_
          rotate_left
          · (intro w hSw; go_simp <;> with_reducible rfl)
          try simp only [Act.put, List.setIfInBounds_toArray, List.set_cons_zero, List.set_cons_succ]
          refine wpAnyH_take (i := 3) (oi := { dst := some 50, op := Op.move (Operand.tmp 10), type := 3, pos := "outright.go:105", after := #[], guard := none }) (v := ?_) rfl (by kernel_rfl) (by kernel_rfl) (by kernel_rfl) (fun _ _ _ h => h) (Or.inl ⟨by rfl, ?_⟩) (by assumption) ?_
          rotate_left
          · (intro w hSw; go_simp <;> with_reducible rfl)
          try simp only [Act.put, List.setIfInBounds_toArray, List.set_cons_zero, List.set_cons_succ]
          refine wpAnyH_take (i := 4) (oi := { dst := some 51, op := Op.slice 35 (Operand.tmp 48) none (some (Operand.tmp 49)) (some (Operand.tmp 50)), type := 35, pos := "outright.go:105", after := #[{ on := 1, ground := Ground.data }, { on := 2, ground := Ground.data }, { on := 3, ground := Ground.data }], guard := none }) (v := ?_) rfl (by kernel_rfl) (by kernel_rfl) (by kernel_rfl) (fun _ _ _ h => h) (Or.inl ⟨by rfl, ?_⟩) (by assumption) ?_
          rotate_left
          · (intro w hSw; go_simp <;> with_reducible rfl)
          try simp only [Act.put, List.setIfInBounds_toArray, List.set_cons_zero, List.set_cons_succ]
          refine wpAnyH_take (i := 5) (oi := { dst := some 52, op := Op.move (Operand.tmp 12), type := 22, pos := "outright.go:105", after := #[], guard := none }) (v := ?_) rfl (by kernel_rfl) (by kernel_rfl) (by kernel_rfl) (fun _ _ _ h => h) (Or.inl ⟨by rfl, ?_⟩) (by assumption) ?_
          rotate_left
          · (intro w hSw; go_simp <;> with_reducible rfl)
          try simp only [Act.put, List.setIfInBounds_toArray, List.set_cons_zero, List.set_cons_succ]
          refine wpAnyH_take (i := 8) (oi := { dst := some 55, op := Op.move (Operand.tmp 1), type := 22, pos := "outright.go:105", after := #[], guard := none }) (v := ?_) rfl (by kernel_rfl) (by kernel_rfl) (by kernel_rfl) (fun _ _ _ h => h) (Or.inl ⟨by rfl, ?_⟩) (by assumption) ?_
          rotate_left
          · (intro w hSw; go_simp <;> with_reducible rfl)
          try simp only [Act.put, List.setIfInBounds_toArray, List.set_cons_zero, List.set_cons_succ]
          refine wpAnyH_take (i := 9) (oi := { dst := some 56, op := Op.move (Operand.tmp 10), type := 3, pos := "outright.go:105", after := #[], guard := none }) (v := ?_) rfl (by kernel_rfl) (by kernel_rfl) (by kernel_rfl) (fun _ _ _ h => h) (Or.inl ⟨by rfl, ?_⟩) (by assumption) ?_
          rotate_left
          · (intro w hSw; go_simp <;> with_reducible rfl)
          try simp only [Act.put, List.setIfInBounds_toArray, List.set_cons_zero, List.set_cons_succ]
          refine wpAnyH_take (i := 10) (oi := { dst := some 57, op := Op.move (Operand.tmp 10), type := 3, pos := "outright.go:105", after := #[], guard := none }) (v := ?_) rfl (by kernel_rfl) (by kernel_rfl) (by kernel_rfl) (fun _ _ _ h => h) (Or.inl ⟨by rfl, ?_⟩) (by assumption) ?_
          rotate_left
          · (intro w hSw; go_simp <;> with_reducible rfl)
          try simp only [Act.put, List.setIfInBounds_toArray, List.set_cons_zero, List.set_cons_succ]
          refine wpAnyH_take (i := 11) (oi := { dst := some 58, op := Op.slice 22 (Operand.tmp 55) none (some (Operand.tmp 56)) (some (Operand.tmp 57)), type := 22, pos := "outright.go:105", after := #[{ on := 8, ground := Ground.data }, { on := 9, ground := Ground.data }, { on := 10, ground := Ground.data }], guard := none }) (v := ?_) rfl (by kernel_rfl) (by kernel_rfl) (by kernel_rfl) (fun _ _ _ h => h) (Or.inl ⟨by rfl, ?_⟩) (by assumption) ?_
          rotate_left
          · (intro w hSw; go_simp <;> with_reducible rfl)
          try simp only [Act.put, List.setIfInBounds_toArray, List.set_cons_zero, List.set_cons_succ]
          refine wpAnyH_take (i := 12) (oi := { dst := some 59, op := Op.move (Operand.tmp 13), type := 3, pos := "outright.go:105", after := #[], guard := none }) (v := ?_) rfl (by kernel_rfl) (by kernel_rfl) (by kernel_rfl) (fun _ _ _ h => h) (Or.inl ⟨by rfl, ?_⟩) (by assumption) ?_
          rotate_left
          · (intro w hSw; go_simp <;> with_reducible rfl)
          try simp only [Act.put, List.setIfInBounds_toArray, List.set_cons_zero, List.set_cons_succ]
          refine wpAnyH_take (i := 15) (oi := { dst := some 62, op := Op.move (Operand.tmp 2), type := 76, pos := "outright.go:105", after := #[], guard := none }) (v := ?_) rfl (by kernel_rfl) (by kernel_rfl) (by kernel_rfl) (fun _ _ _ h => h) (Or.inl ⟨by rfl, ?_⟩) (by assumption) ?_
          rotate_left
          · (intro w hSw; go_simp <;> with_reducible rfl)
          try simp only [Act.put, List.setIfInBounds_toArray, List.set_cons_zero, List.set_cons_succ]
          refine wpAnyH_take (i := 16) (oi := { dst := some 63, op := Op.move (Operand.tmp 12), type := 22, pos := "outright.go:105", after := #[], guard := none }) (v := ?_) rfl (by kernel_rfl) (by kernel_rfl) (by kernel_rfl) (fun _ _ _ h => h) (Or.inl ⟨by rfl, ?_⟩) (by assumption) ?_
          rotate_left
          · (intro w hSw; go_simp <;> with_reducible rfl)
          try simp only [Act.put, List.setIfInBounds_toArray, List.set_cons_zero, List.set_cons_succ]
          refine wpAnyH_ready (rs := [6, 13]) (by kernel_rfl) (by simp) ?_
          refine AllReadyH.cons (o := { dst := some 53, op := Op.buildSlice 35 1 #[(0, Operand.tmp 52)], type := 35, pos := "outright.go:105", after := #[{ on := 5, ground := Ground.data }], guard := none }) rfl (fun K hK => ?_) (AllReadyH.cons (o := { dst := some 60, op := Op.buildSlice 22 1 #[(0, Operand.tmp 59)], type := 22, pos := "outright.go:105", after := #[{ on := 12, ground := Ground.data }], guard := none }) rfl (fun K hK => ?_) (AllReadyH.nil))
          · go_simp
            obtain ⟨v6, hv6⟩ : ∃ W, W = u0.alloc (.cells #[(.slice (some ⟨lb, lo, none⟩) l.length wc)] 22) := ⟨_, rfl⟩
            have T6 : Hid (Fut u0 v6) := Lib.hid (by rw [hv6]; exact Fut.alloc _ _)
            have G6 : Hid (Fut u0 v6) := Lib.hid ((Fut.rfl).trans T6.out)
            have N6 : Hid (v6.cell? ⟨u0.heap.size, 0, none⟩ = some (.slice (some ⟨lb, lo, none⟩) l.length wc)) := Lib.hid (by rw [hv6]; exact cell_new _ _ _)
            obtain ⟨s6, hs6⟩ : ∃ s, s = u0.heap.size := ⟨_, rfl⟩
            rw [← hv6]
            rw [← hs6] at N6 ⊢
            clear hv6 hs6
            refine hK.out _ _ ?_ (fun hHeld => ?_)
            · exact keep _ G6.out
            clear hK K
            try simp only [Act.put, List.setIfInBounds_toArray, List.set_cons_zero, List.set_cons_succ]
            refine wpAnyH_ready (rs := [7, 13]) (by kernel_rfl) (by simp) ?_
            refine AllReadyH.cons (o := { dst := some 54, op := Op.call { callee := Callee.builtin Builtin.append, args := #[Operand.tmp 51, Operand.tmp 53], argTypes := #[35, 35] }, type := 35, pos := "outright.go:105", after := #[{ on := 4, ground := Ground.data }, { on := 6, ground := Ground.data }], guard := none }) rfl (fun K hK => ?_) (AllReadyH.cons (o := { dst := some 60, op := Op.buildSlice 22 1 #[(0, Operand.tmp 59)], type := 22, pos := "outright.go:105", after := #[{ on := 12, ground := Ground.data }], guard := none }) rfl (fun K hK => ?_) (AllReadyH.nil))
            · refine step_append_grows rfl _ _ 35 rfl 22 i1 (.slice none 0 0) 1 24 Try.underlying35 hi1 hy0 hy1 hy2 rfl (by decide) a F.length F.length fvals rfl HFN.out (by rw [HFL.out, Nat.mul_one]) (HFC.out v6 (G6.out)) ⟨s6, 0, none⟩ 1 1 [.slice (some ⟨lb, lo, none⟩) l.length wc] rfl rfl (one_cell (cell_at N6.out (Fut.rfl))) (by simp [Value.oneCell']) (by omega) (by have := HX3.out.1; unfold maxLen; omega) (by have := HX3.out.1; omega) ?_
              intro v' v7 hown hgr
              have T7 : Hid (Fut v6 v7) := Lib.hid (fut_none hgr)
              have G7 : Hid (Fut u0 v7) := Lib.hid ((G6.out).trans T7.out)
              obtain ⟨a7, c7, e7, hF7⟩ := FamZ.snoc HFL.out HFE.out (HB0.out.trans (But.of_below G7.out)) (fun W b => HIW.out W (HB0.out.trans ((But.of_below G7.out).trans b))) hown (HU0.out v6 (G6.out))
              subst e7
              have H7 := Lib.hid hF7
              clear hown hgr hF7
              refine hK.out _ _ ?_ (fun hHeld => ?_)
              · exact keep _ G7.out
              clear hK K
              try simp only [Act.put, List.setIfInBounds_toArray, List.set_cons_zero, List.set_cons_succ]
              refine wpAnyH_ready (rs := [13]) (by kernel_rfl) (by simp) ?_
              refine AllReadyH.cons (o := { dst := some 60, op := Op.buildSlice 22 1 #[(0, Operand.tmp 59)], type := 22, pos := "outright.go:105", after := #[{ on := 12, ground := Ground.data }], guard := none }) rfl (fun K hK => ?_) AllReadyH.nil
              go_simp
              obtain ⟨v13, hv13⟩ : ∃ W, W = v7.alloc (.cells #[(.int .i64 (idxE T (lst l)))] 3) := ⟨_, rfl⟩
              have T13 : Hid (Fut v7 v13) := Lib.hid (by rw [hv13]; exact Fut.alloc _ _)
              have G13 : Hid (Fut u0 v13) := Lib.hid ((G7.out).trans T13.out)
              have N13 : Hid (v13.cell? ⟨v7.heap.size, 0, none⟩ = some (.int .i64 (idxE T (lst l)))) := Lib.hid (by rw [hv13]; exact cell_new _ _ _)
              obtain ⟨s13, hs13⟩ : ∃ s, s = v7.heap.size := ⟨_, rfl⟩
              rw [← hv13]
              rw [← hs13] at N13 ⊢
              clear hv13 hs13
              refine hK.out _ _ ?_ (fun hHeld => ?_)
              · exact keep _ G13.out
              clear hK K
              try simp only [Act.put, List.setIfInBounds_toArray, List.set_cons_zero, List.set_cons_succ]
              refine wpAnyH_ready (rs := [14]) (by kernel_rfl) (by simp) ?_
              refine AllReadyH.cons (o := { dst := some 61, op := Op.call { callee := Callee.builtin Builtin.append, args := #[Operand.tmp 58, Operand.tmp 60], argTypes := #[22, 22] }, type := 22, pos := "outright.go:105", after := #[{ on := 11, ground := Ground.data }, { on := 13, ground := Ground.data }, { on := 7, ground := Ground.chain }], guard := none }) rfl (fun K hK => ?_) AllReadyH.nil
              refine step_append_grows rfl _ _ 22 rfl 3 i0 (.int .i64 0) 1 8 Try.underlying22 hi0 hz0 hz1 hz2 rfl (by decide) oa F.length F.length ((ordF T F).map (Value.int .i64)) rfl HON.out (by rw [List.length_map, HOL.out, Nat.mul_one]) (HOC.out v13 (G13.out)) ⟨s13, 0, none⟩ 1 1 [.int .i64 (idxE T (lst l))] rfl rfl (one_cell (cell_at N13.out (Fut.rfl))) (by simp [Value.oneCell']) (by omega) (by have := HX3.out.1; unfold maxLen; omega) (by have := HX3.out.1; omega) ?_
              intro v' v14 hown hgr
              have T14 : Hid (Fut v13 v14) := Lib.hid (fut_none hgr)
              have G14 : Hid (Fut u0 v14) := Lib.hid ((G13.out).trans T14.out)
              obtain ⟨a14, c14, e14, hO14⟩ := RowZ.new hown (by rw [List.length_append, List.length_map, HOL.out]; rfl) (HU0.out v13 (G13.out))
              subst e14
              have H14 : Hid (RowZ (Zc B1 B2 B3) v14 a14 c14 ((ordF T (F ++ [l])).map (Value.int .i64))) := Lib.hid (by rw [HOF.out, List.map_append]; exact hO14)
              have H7b := Lib.hid (H7.out.but (But.of_below ((T13.out.trans T14.out))))
              clear hown hgr hO14
              refine hK.out _ _ ?_ (fun hHeld => ?_)
              · exact keep _ G14.out
              clear hK K
              try simp only [Act.put, List.setIfInBounds_toArray, List.set_cons_zero, List.set_cons_succ]
              refine wpAnyH_ready (rs := [17]) (by kernel_rfl) (by simp) ?_
              refine AllReadyH.cons (o := { dst := some 64, op := Op.call { callee := Callee.value (Operand.func 50), args := #[Operand.tmp 63], argTypes := #[22] }, type := 76, pos := "outright.go:105", after := #[{ on := 16, ground := Ground.data }, { on := 14, ground := Ground.chain }], guard := none }) rfl (fun K hK => ?_) AllReadyH.nil
              go_simp
              go_at_call 50
              refine (HBT2.out _ G14.out).mono ?_
              rintro _ _ ⟨rfl, rfl⟩
              try go_wp2_with fail
              refine hK.out _ _ ?_ (fun hHeld => ?_)
              · exact keep _ G14.out
              clear hK K
              try simp only [Act.put, List.setIfInBounds_toArray, List.set_cons_zero, List.set_cons_succ]
              refine wpAnyH_take (i := 18) (oi := { dst := some 65, op := Op.binOp BinOp.or 76 (Operand.tmp 62) (Operand.tmp 64) 76, type := 76, pos := "outright.go:105", after := #[{ on := 15, ground := Ground.data }, { on := 17, ground := Ground.data }], guard := none }) (v := ?_) rfl (by kernel_rfl) (by kernel_rfl) (by kernel_rfl) (fun _ _ _ h => h) (Or.inl ⟨by rfl, ?_⟩) (by assumption) ?_
              rotate_left
              · (intro w hSw; go_simp <;> with_reducible rfl)
              try simp only [Act.put, List.setIfInBounds_toArray, List.set_cons_zero, List.set_cons_succ]
              refine wpAnyH_ready (rs := [19]) (by kernel_rfl) (by simp) ?_
              refine AllReadyH.cons (o := { dst := some 66, op := Op.call { callee := Callee.value (Operand.tmp 47), args := #[Operand.tmp 54, Operand.tmp 61, Operand.tmp 65], argTypes := #[35, 22, 76] }, type := 0, pos := "outright.go:105", after := #[{ on := 0, ground := Ground.data }, { on := 7, ground := Ground.data }, { on := 14, ground := Ground.data }, { on := 18, ground := Ground.data }, { on := 17, ground := Ground.chain }], guard := none }) rfl (fun K hK => ?_) AllReadyH.nil
              try rw [HOR.out]
              go_simp
              try rw [HOR.out]
              go_at_call 99
              refine (HIH2.out a7 c7 a14 c14 v14 (HG0.out.fut G14.out) (HE0.out.but (But.of_below G14.out)) H7b.out H14.out).mono ?_
              rintro _ v19 ⟨rfl, hB19, hG19⟩
              have HB19 := Lib.hid ((HB0.out.trans (But.of_below G14.out)).trans hB19)
              have HG19 := Lib.hid hG19
              have HK19 := Lib.hid (cell_of1 (HE.out.bg _ HB19.out))
              clear hB19 hG19
              try go_wp2_with fail
              refine hK.out _ _ ?_ (fun hHeld => ?_)
              · exact HK19.out
              clear hK K
              try simp only [Act.put, List.setIfInBounds_toArray, List.set_cons_zero, List.set_cons_succ]
              refine wpAnyH_done (by kernel_rfl) ?_ _
              have HR : Hid (GsI B1 B2 B3 T (D ++ gfP Rs F row (i + 1)) v19) := Lib.hid (by rw [HPS2.out, ← List.append_assoc]; exact HG19.out)
              go_wp2_with fail
              go_roundw
              case rel => first
                | exact ⟨i + 1, by omega, by go_num, HB19, HR⟩
                | ((repeat apply Exists.intro); exact ⟨⟨i + 1, by omega, by go_num, HB19, HR⟩, rfl⟩)
              case measure => simp [intOf]; omega
            · go_simp
              obtain ⟨v13, hv13⟩ : ∃ W, W = v6.alloc (.cells #[(.int .i64 (idxE T (lst l)))] 3) := ⟨_, rfl⟩
              have T13 : Hid (Fut v6 v13) := Lib.hid (by rw [hv13]; exact Fut.alloc _ _)
              have G13 : Hid (Fut u0 v13) := Lib.hid ((G6.out).trans T13.out)
              have N13 : Hid (v13.cell? ⟨v6.heap.size, 0, none⟩ = some (.int .i64 (idxE T (lst l)))) := Lib.hid (by rw [hv13]; exact cell_new _ _ _)
              obtain ⟨s13, hs13⟩ : ∃ s, s = v6.heap.size := ⟨_, rfl⟩
              rw [← hv13]
              rw [← hs13] at N13 ⊢
              clear hv13 hs13
              refine hK.out _ _ ?_ (fun hHeld => ?_)
              · exact keep _ G13.out
              clear hK K
              try simp only [Act.put, List.setIfInBounds_toArray, List.set_cons_zero, List.set_cons_succ]
              refine wpAnyH_ready (rs := [7]) (by kernel_rfl) (by simp) ?_
              refine AllReadyH.cons (o := { dst := some 54, op := Op.call { callee := Callee.builtin Builtin.append, args := #[Operand.tmp 51, Operand.tmp 53], argTypes := #[35, 35] }, type := 35, pos := "outright.go:105", after := #[{ on := 4, ground := Ground.data }, { on := 6, ground := Ground.data }], guard := none }) rfl (fun K hK => ?_) AllReadyH.nil
              refine step_append_grows rfl _ _ 35 rfl 22 i1 (.slice none 0 0) 1 24 Try.underlying35 hi1 hy0 hy1 hy2 rfl (by decide) a F.length F.length fvals rfl HFN.out (by rw [HFL.out, Nat.mul_one]) (HFC.out v13 (G13.out)) ⟨s6, 0, none⟩ 1 1 [.slice (some ⟨lb, lo, none⟩) l.length wc] rfl rfl (one_cell (cell_at N6.out (T13.out))) (by simp [Value.oneCell']) (by omega) (by have := HX3.out.1; unfold maxLen; omega) (by have := HX3.out.1; omega) ?_
              intro v' v7 hown hgr
              have T7 : Hid (Fut v13 v7) := Lib.hid (fut_none hgr)
              have G7 : Hid (Fut u0 v7) := Lib.hid ((G13.out).trans T7.out)
              obtain ⟨a7, c7, e7, hF7⟩ := FamZ.snoc HFL.out HFE.out (HB0.out.trans (But.of_below G7.out)) (fun W b => HIW.out W (HB0.out.trans ((But.of_below G7.out).trans b))) hown (HU0.out v13 (G13.out))
              subst e7
              have H7 := Lib.hid hF7
              clear hown hgr hF7
              refine hK.out _ _ ?_ (fun hHeld => ?_)
              · exact keep _ G7.out
              clear hK K
              try simp only [Act.put, List.setIfInBounds_toArray, List.set_cons_zero, List.set_cons_succ]
              refine wpAnyH_ready (rs := [14]) (by kernel_rfl) (by simp) ?_
              refine AllReadyH.cons (o := { dst := some 61, op := Op.call { callee := Callee.builtin Builtin.append, args := #[Operand.tmp 58, Operand.tmp 60], argTypes := #[22, 22] }, type := 22, pos := "outright.go:105", after := #[{ on := 11, ground := Ground.data }, { on := 13, ground := Ground.data }, { on := 7, ground := Ground.chain }], guard := none }) rfl (fun K hK => ?_) AllReadyH.nil
              refine step_append_grows rfl _ _ 22 rfl 3 i0 (.int .i64 0) 1 8 Try.underlying22 hi0 hz0 hz1 hz2 rfl (by decide) oa F.length F.length ((ordF T F).map (Value.int .i64)) rfl HON.out (by rw [List.length_map, HOL.out, Nat.mul_one]) (HOC.out v7 (G7.out)) ⟨s13, 0, none⟩ 1 1 [.int .i64 (idxE T (lst l))] rfl rfl (one_cell (cell_at N13.out (T7.out))) (by simp [Value.oneCell']) (by omega) (by have := HX3.out.1; unfold maxLen; omega) (by have := HX3.out.1; omega) ?_
              intro v' v14 hown hgr
              have T14 : Hid (Fut v7 v14) := Lib.hid (fut_none hgr)
              have G14 : Hid (Fut u0 v14) := Lib.hid ((G7.out).trans T14.out)
              obtain ⟨a14, c14, e14, hO14⟩ := RowZ.new hown (by rw [List.length_append, List.length_map, HOL.out]; rfl) (HU0.out v7 (G7.out))
              subst e14
              have H14 : Hid (RowZ (Zc B1 B2 B3) v14 a14 c14 ((ordF T (F ++ [l])).map (Value.int .i64))) := Lib.hid (by rw [HOF.out, List.map_append]; exact hO14)
              have H7b := Lib.hid (H7.out.but (But.of_below (T14.out)))
              clear hown hgr hO14
              refine hK.out _ _ ?_ (fun hHeld => ?_)
              · exact keep _ G14.out
              clear hK K
              try simp only [Act.put, List.setIfInBounds_toArray, List.set_cons_zero, List.set_cons_succ]
              refine wpAnyH_ready (rs := [17]) (by kernel_rfl) (by simp) ?_
              refine AllReadyH.cons (o := { dst := some 64, op := Op.call { callee := Callee.value (Operand.func 50), args := #[Operand.tmp 63], argTypes := #[22] }, type := 76, pos := "outright.go:105", after := #[{ on := 16, ground := Ground.data }, { on := 14, ground := Ground.chain }], guard := none }) rfl (fun K hK => ?_) AllReadyH.nil
              go_simp
              go_at_call 50
              refine (HBT2.out _ G14.out).mono ?_
              rintro _ _ ⟨rfl, rfl⟩
              try go_wp2_with fail
              refine hK.out _ _ ?_ (fun hHeld => ?_)
              · exact keep _ G14.out
              clear hK K
              try simp only [Act.put, List.setIfInBounds_toArray, List.set_cons_zero, List.set_cons_succ]
              refine wpAnyH_take (i := 18) (oi := { dst := some 65, op := Op.binOp BinOp.or 76 (Operand.tmp 62) (Operand.tmp 64) 76, type := 76, pos := "outright.go:105", after := #[{ on := 15, ground := Ground.data }, { on := 17, ground := Ground.data }], guard := none }) (v := ?_) rfl (by kernel_rfl) (by kernel_rfl) (by kernel_rfl) (fun _ _ _ h => h) (Or.inl ⟨by rfl, ?_⟩) (by assumption) ?_
              rotate_left
              · (intro w hSw; go_simp <;> with_reducible rfl)
              try simp only [Act.put, List.setIfInBounds_toArray, List.set_cons_zero, List.set_cons_succ]
              refine wpAnyH_ready (rs := [19]) (by kernel_rfl) (by simp) ?_
              refine AllReadyH.cons (o := { dst := some 66, op := Op.call { callee := Callee.value (Operand.tmp 47), args := #[Operand.tmp 54, Operand.tmp 61, Operand.tmp 65], argTypes := #[35, 22, 76] }, type := 0, pos := "outright.go:105", after := #[{ on := 0, ground := Ground.data }, { on := 7, ground := Ground.data }, { on := 14, ground := Ground.data }, { on := 18, ground := Ground.data }, { on := 17, ground := Ground.chain }], guard := none }) rfl (fun K hK => ?_) AllReadyH.nil
              try rw [HOR.out]
              go_simp
              try rw [HOR.out]
              go_at_call 99
              refine (HIH2.out a7 c7 a14 c14 v14 (HG0.out.fut G14.out) (HE0.out.but (But.of_below G14.out)) H7b.out H14.out).mono ?_
              rintro _ v19 ⟨rfl, hB19, hG19⟩
              have HB19 := Lib.hid ((HB0.out.trans (But.of_below G14.out)).trans hB19)
              have HG19 := Lib.hid hG19
              have HK19 := Lib.hid (cell_of1 (HE.out.bg _ HB19.out))
              clear hB19 hG19
              try go_wp2_with fail
              refine hK.out _ _ ?_ (fun hHeld => ?_)
              · exact HK19.out
              clear hK K
              try simp only [Act.put, List.setIfInBounds_toArray, List.set_cons_zero, List.set_cons_succ]
              refine wpAnyH_done (by kernel_rfl) ?_ _
              have HR : Hid (GsI B1 B2 B3 T (D ++ gfP Rs F row (i + 1)) v19) := Lib.hid (by rw [HPS2.out, ← List.append_assoc]; exact HG19.out)
              go_wp2_with fail
              go_roundw
              case rel => first
                | exact ⟨i + 1, by omega, by go_num, HB19, HR⟩
                | ((repeat apply Exists.intro); exact ⟨⟨i + 1, by omega, by go_num, HB19, HR⟩, rfl⟩)
              case measure => simp [intOf]; omega
          · go_simp
            obtain ⟨v13, hv13⟩ : ∃ W, W = u0.alloc (.cells #[(.int .i64 (idxE T (lst l)))] 3) := ⟨_, rfl⟩
            have T13 : Hid (Fut u0 v13) := Lib.hid (by rw [hv13]; exact Fut.alloc _ _)
            have G13 : Hid (Fut u0 v13) := Lib.hid ((Fut.rfl).trans T13.out)
            have N13 : Hid (v13.cell? ⟨u0.heap.size, 0, none⟩ = some (.int .i64 (idxE T (lst l)))) := Lib.hid (by rw [hv13]; exact cell_new _ _ _)
            obtain ⟨s13, hs13⟩ : ∃ s, s = u0.heap.size := ⟨_, rfl⟩
            rw [← hv13]
            rw [← hs13] at N13 ⊢
            clear hv13 hs13
            refine hK.out _ _ ?_ (fun hHeld => ?_)
            · exact keep _ G13.out
            clear hK K
            try simp only [Act.put, List.setIfInBounds_toArray, List.set_cons_zero, List.set_cons_succ]
            refine wpAnyH_ready (rs := [6]) (by kernel_rfl) (by simp) ?_
            refine AllReadyH.cons (o := { dst := some 53, op := Op.buildSlice 35 1 #[(0, Operand.tmp 52)], type := 35, pos := "outright.go:105", after := #[{ on := 5, ground := Ground.data }], guard := none }) rfl (fun K hK => ?_) AllReadyH.nil
            go_simp
            obtain ⟨v6, hv6⟩ : ∃ W, W = v13.alloc (.cells #[(.slice (some ⟨lb, lo, none⟩) l.length wc)] 22) := ⟨_, rfl⟩
            have T6 : Hid (Fut v13 v6) := Lib.hid (by rw [hv6]; exact Fut.alloc _ _)
            have G6 : Hid (Fut u0 v6) := Lib.hid ((G13.out).trans T6.out)
            have N6 : Hid (v6.cell? ⟨v13.heap.size, 0, none⟩ = some (.slice (some ⟨lb, lo, none⟩) l.length wc)) := Lib.hid (by rw [hv6]; exact cell_new _ _ _)
            obtain ⟨s6, hs6⟩ : ∃ s, s = v13.heap.size := ⟨_, rfl⟩
            rw [← hv6]
            rw [← hs6] at N6 ⊢
            clear hv6 hs6
            refine hK.out _ _ ?_ (fun hHeld => ?_)
            · exact keep _ G6.out
            clear hK K
            try simp only [Act.put, List.setIfInBounds_toArray, List.set_cons_zero, List.set_cons_succ]
            refine wpAnyH_ready (rs := [7]) (by kernel_rfl) (by simp) ?_
            refine AllReadyH.cons (o := { dst := some 54, op := Op.call { callee := Callee.builtin Builtin.append, args := #[Operand.tmp 51, Operand.tmp 53], argTypes := #[35, 35] }, type := 35, pos := "outright.go:105", after := #[{ on := 4, ground := Ground.data }, { on := 6, ground := Ground.data }], guard := none }) rfl (fun K hK => ?_) AllReadyH.nil
            refine step_append_grows rfl _ _ 35 rfl 22 i1 (.slice none 0 0) 1 24 Try.underlying35 hi1 hy0 hy1 hy2 rfl (by decide) a F.length F.length fvals rfl HFN.out (by rw [HFL.out, Nat.mul_one]) (HFC.out v6 (G6.out)) ⟨s6, 0, none⟩ 1 1 [.slice (some ⟨lb, lo, none⟩) l.length wc] rfl rfl (one_cell (cell_at N6.out (Fut.rfl))) (by simp [Value.oneCell']) (by omega) (by have := HX3.out.1; unfold maxLen; omega) (by have := HX3.out.1; omega) ?_
            intro v' v7 hown hgr
            have T7 : Hid (Fut v6 v7) := Lib.hid (fut_none hgr)
            have G7 : Hid (Fut u0 v7) := Lib.hid ((G6.out).trans T7.out)
            obtain ⟨a7, c7, e7, hF7⟩ := FamZ.snoc HFL.out HFE.out (HB0.out.trans (But.of_below G7.out)) (fun W b => HIW.out W (HB0.out.trans ((But.of_below G7.out).trans b))) hown (HU0.out v6 (G6.out))
            subst e7
            have H7 := Lib.hid hF7
            clear hown hgr hF7
            refine hK.out _ _ ?_ (fun hHeld => ?_)
            · exact keep _ G7.out
            clear hK K
            try simp only [Act.put, List.setIfInBounds_toArray, List.set_cons_zero, List.set_cons_succ]
            refine wpAnyH_ready (rs := [14]) (by kernel_rfl) (by simp) ?_
            refine AllReadyH.cons (o := { dst := some 61, op := Op.call { callee := Callee.builtin Builtin.append, args := #[Operand.tmp 58, Operand.tmp 60], argTypes := #[22, 22] }, type := 22, pos := "outright.go:105", after := #[{ on := 11, ground := Ground.data }, { on := 13, ground := Ground.data }, { on := 7, ground := Ground.chain }], guard := none }) rfl (fun K hK => ?_) AllReadyH.nil
            refine step_append_grows rfl _ _ 22 rfl 3 i0 (.int .i64 0) 1 8 Try.underlying22 hi0 hz0 hz1 hz2 rfl (by decide) oa F.length F.length ((ordF T F).map (Value.int .i64)) rfl HON.out (by rw [List.length_map, HOL.out, Nat.mul_one]) (HOC.out v7 (G7.out)) ⟨s13, 0, none⟩ 1 1 [.int .i64 (idxE T (lst l))] rfl rfl (one_cell (cell_at N13.out ((T6.out.trans T7.out)))) (by simp [Value.oneCell']) (by omega) (by have := HX3.out.1; unfold maxLen; omega) (by have := HX3.out.1; omega) ?_
            intro v' v14 hown hgr
            have T14 : Hid (Fut v7 v14) := Lib.hid (fut_none hgr)
            have G14 : Hid (Fut u0 v14) := Lib.hid ((G7.out).trans T14.out)
            obtain ⟨a14, c14, e14, hO14⟩ := RowZ.new hown (by rw [List.length_append, List.length_map, HOL.out]; rfl) (HU0.out v7 (G7.out))
            subst e14
            have H14 : Hid (RowZ (Zc B1 B2 B3) v14 a14 c14 ((ordF T (F ++ [l])).map (Value.int .i64))) := Lib.hid (by rw [HOF.out, List.map_append]; exact hO14)
            have H7b := Lib.hid (H7.out.but (But.of_below (T14.out)))
            clear hown hgr hO14
            refine hK.out _ _ ?_ (fun hHeld => ?_)
            · exact keep _ G14.out
            clear hK K
            try simp only [Act.put, List.setIfInBounds_toArray, List.set_cons_zero, List.set_cons_succ]
            refine wpAnyH_ready (rs := [17]) (by kernel_rfl) (by simp) ?_
            refine AllReadyH.cons (o := { dst := some 64, op := Op.call { callee := Callee.value (Operand.func 50), args := #[Operand.tmp 63], argTypes := #[22] }, type := 76, pos := "outright.go:105", after := #[{ on := 16, ground := Ground.data }, { on := 14, ground := Ground.chain }], guard := none }) rfl (fun K hK => ?_) AllReadyH.nil
            go_simp
            go_at_call 50
            refine (HBT2.out _ G14.out).mono ?_
            rintro _ _ ⟨rfl, rfl⟩
            try go_wp2_with fail
            refine hK.out _ _ ?_ (fun hHeld => ?_)
            · exact keep _ G14.out
            clear hK K
            try simp only [Act.put, List.setIfInBounds_toArray, List.set_cons_zero, List.set_cons_succ]
            refine wpAnyH_take (i := 18) (oi := { dst := some 65, op := Op.binOp BinOp.or 76 (Operand.tmp 62) (Operand.tmp 64) 76, type := 76, pos := "outright.go:105", after := #[{ on := 15, ground := Ground.data }, { on := 17, ground := Ground.data }], guard := none }) (v := ?_) rfl (by kernel_rfl) (by kernel_rfl) (by kernel_rfl) (fun _ _ _ h => h) (Or.inl ⟨by rfl, ?_⟩) (by assumption) ?_
            rotate_left
            · (intro w hSw; go_simp <;> with_reducible rfl)
            try simp only [Act.put, List.setIfInBounds_toArray, List.set_cons_zero, List.set_cons_succ]
            refine wpAnyH_ready (rs := [19]) (by kernel_rfl) (by simp) ?_
            refine AllReadyH.cons (o := { dst := some 66, op := Op.call { callee := Callee.value (Operand.tmp 47), args := #[Operand.tmp 54, Operand.tmp 61, Operand.tmp 65], argTypes := #[35, 22, 76] }, type := 0, pos := "outright.go:105", after := #[{ on := 0, ground := Ground.data }, { on := 7, ground := Ground.data }, { on := 14, ground := Ground.data }, { on := 18, ground := Ground.data }, { on := 17, ground := Ground.chain }], guard := none }) rfl (fun K hK => ?_) AllReadyH.nil
            try rw [HOR.out]
            go_simp
            try rw [HOR.out]
            go_at_call 99
            refine (HIH2.out a7 c7 a14 c14 v14 (HG0.out.fut G14.out) (HE0.out.but (But.of_below G14.out)) H7b.out H14.out).mono ?_
            rintro _ v19 ⟨rfl, hB19, hG19⟩
            have HB19 := Lib.hid ((HB0.out.trans (But.of_below G14.out)).trans hB19)
            have HG19 := Lib.hid hG19
            have HK19 := Lib.hid (cell_of1 (HE.out.bg _ HB19.out))
            clear hB19 hG19
            try go_wp2_with fail
            refine hK.out _ _ ?_ (fun hHeld => ?_)
            · exact HK19.out
            clear hK K
            try simp only [Act.put, List.setIfInBounds_toArray, List.set_cons_zero, List.set_cons_succ]
            refine wpAnyH_done (by kernel_rfl) ?_ _
            have HR : Hid (GsI B1 B2 B3 T (D ++ gfP Rs F row (i + 1)) v19) := Lib.hid (by rw [HPS2.out, ← List.append_assoc]; exact HG19.out)
            go_wp2_with fail
            go_roundw
            case rel => first
              | exact ⟨i + 1, by omega, by go_num, HB19, HR⟩
              | ((repeat apply Exists.intro); exact ⟨⟨i + 1, by omega, by go_num, HB19, HR⟩, rfl⟩)
            case measure => simp [intOf]; omega
      · obtain rfl : i = row.length := by omega
        have HEND : Hid (GsI B1 B2 B3 T (D ++ GG) wr) := Lib.hid (by rw [← HPE.out]; exact HG.out)
        clear HG
        go_wp2_with fail
        refine bodyPost_end (results_none rfl _ _ _) rfl ?_
        exact ⟨rfl, HB.out, HEND.out⟩
end
end Go.Proofs.Ytflllkamdihfaaa
