/- a plan by numbers: made. -/
import Derived.Test.YtpgifeaejjjjnaaCX
namespace Go.Proofs.Ytpgifeaejjjjnaa
open Go.RowKit Go.Sort
/-- a plan by numbers. -/
abbrev rotaV (st ca : Int) (by_ : Nat → Int) : Value := .agg #[.int .u8 st, .int .u8 ca, .int .u8 (by_ 0), .int .u8 (by_ 1), .int .u8 (by_ 2), .int .u8 (by_ 3), .int .u8 (by_ 4)]
def madL (n : Nat) (by_ : Nat → Int) : Nat → List (List Int)
  | 0 => []
  | i + 1 => madL n by_ i ++ [lth (fitL n (madL n by_ i)) ((by_ i).toNat % (fitL n (madL n by_ i)).length)]
theorem madL_len (n : Nat) (by_ : Nat → Int) : ∀ i, (madL n by_ i).length = i
  | 0 => rfl
  | i + 1 => by rw [madL, List.length_append, madL_len n by_ i]; rfl
theorem plan_nil (n : Nat) : Plan n [] := ⟨Nat.zero_le _, fun i hi => absurd hi (by simp), fun i j _ hj => absurd hj (by simp)⟩
theorem lth_app1 (zss : List (List Int)) (r : List Int) (i : Nat) (h : i < zss.length) : lth (zss ++ [r]) i = lth zss i := by rw [lth_eq, lth_eq, List.getElem?_append_left h]
theorem lth_app2 (zss : List (List Int)) (r : List Int) : lth (zss ++ [r]) zss.length = r := by rw [lth_eq, List.getElem?_append_right (Nat.le_refl _)]; simp
theorem plan_add {n : Nat} {zss : List (List Int)} {r : List Int} (h : Plan n zss) (hr : r ∈ fitL n zss) (hl : zss.length < n) : Plan n (zss ++ [r]) := by
  obtain ⟨h1, h2⟩ := List.mem_filter.1 hr
  have h3 : amE n zss r = 0 := by simpa using h2
  obtain ⟨_, h4⟩ := (am_iff (ord_len h1)).1 h3
  refine ⟨by simp; omega, fun i hi => ?_, fun i j hij hj d hd => ?_⟩
  · rw [List.length_append, List.length_singleton] at hi
    rcases Nat.lt_or_ge i zss.length with hlt | hge
    · rw [lth_app1 _ _ _ hlt]; exact h.row i hlt
    · obtain rfl : i = zss.length := by omega
      rw [lth_app2]; exact h1
  · rw [List.length_append, List.length_singleton] at hj
    rcases Nat.lt_or_ge j zss.length with hlt | hge
    · rw [lth_app1 _ _ _ hlt, lth_app1 _ _ _ (by omega)]; exact h.col i j hij hlt d hd
    · obtain rfl : j = zss.length := by omega
      rw [lth_app2, lth_app1 _ _ _ hij]
      exact tkn_no.1 (h4 d hd) i hij
theorem fit_row {n : Nat} {zss : List (List Int)} {k : Nat} (h : Plan n zss) (hl : zss.length < n) : lth (fitL n zss) (k % (fitL n zss).length) ∈ fitL n zss := by
  have hp := fit_pos h hl
  have hk := Nat.mod_lt k hp
  rw [lth_eq, List.getElem?_eq_getElem hk]
  exact List.getElem_mem _
theorem madL_plan (n : Nat) (by_ : Nat → Int) : ∀ i, i ≤ n → Plan n (madL n by_ i)
  | 0, _ => plan_nil n
  | i + 1, hi => by
    have ih := madL_plan n by_ i (by omega)
    rw [madL]
    exact plan_add ih (fit_row ih (by rw [madL_len]; omega)) (by rw [madL_len]; omega)
theorem OwnL.at {w : World} {B : Nat} {v : Value} {zss : List (List Int)} (h : OwnL w B v zss) (j : Nat) (hj : j < zss.length) :
    ∃ g c l lc, v = .slice (some ⟨g, 0, none⟩) zss.length c ∧ g < w.heap.size ∧ w.cell? ⟨g, j, none⟩ = some (.slice l (lth zss j).length lc) ∧ Owns w B (.slice l (lth zss j).length lc) (lth zss j) := by
  obtain ⟨vals, h1, h2⟩ := h
  obtain ⟨v', e, hv⟩ := h2.2 j hj
  obtain ⟨a, cap, rfl, _⟩ := hv.ints
  rcases h1.2 with ⟨_, h0⟩ | ⟨g, c, cur, rfl, _⟩
  · omega
  · have hc := World.ownsRow.cells h1 (g := g) rfl j _ e
    rw [Addr.add_lit, Nat.zero_add] at hc
    exact ⟨g, c, a, cap, rfl, World.block_lt_of_cell? _ _ hc, hc, hv⟩
/-- the box of a plan by numbers. -/
structure BoxRo (w : World) (B : Nat) (st ca : Int) (by_ : Nat → Int) : Prop where
  lt : B < w.heap.size
  s : w.cell? ⟨B, 0, none⟩ = some (.int .u8 st)
  c : w.cell? ⟨B, 1, none⟩ = some (.int .u8 ca)
  b : ∀ i, i < 5 → w.cell? ⟨B, 2 + i, none⟩ = some (.int .u8 (by_ i))
theorem BoxRo.fut {w w' : World} {B : Nat} {st ca : Int} {by_ : Nat → Int} (h : BoxRo w B st ca by_) (F : Fut w w') : BoxRo w' B st ca by_ :=
  ⟨Nat.lt_of_lt_of_le h.lt (RowKit.Below.size F), (RowKit.Below.cell F (p := ⟨B, 0, none⟩) h.lt).trans h.s, (RowKit.Below.cell F (p := ⟨B, 1, none⟩) h.lt).trans h.c, fun i hi => (RowKit.Below.cell F (p := ⟨B, 2 + i, none⟩) h.lt).trans (h.b i hi)⟩
theorem BoxRo.new (w : World) (st ca : Int) (by_ : Nat → Int) : BoxRo (w.alloc (.cells #[.int .u8 st, .int .u8 ca, .int .u8 (by_ 0), .int .u8 (by_ 1), .int .u8 (by_ 2), .int .u8 (by_ 3), .int .u8 (by_ 4)] 42)) w.heap.size st ca by_ := by
  have h := World.alloc_heap_new w (.cells #[.int .u8 st, .int .u8 ca, .int .u8 (by_ 0), .int .u8 (by_ 1), .int .u8 (by_ 2), .int .u8 (by_ 3), .int .u8 (by_ 4)] 42)
  refine ⟨by simp, ?_, ?_, fun i hi => ?_⟩
  · unfold World.cell?; rw [h]; rfl
  · unfold World.cell?; rw [h]; rfl
  · unfold World.cell?; rw [h]
    rcases (by omega : i = 0 ∨ i = 1 ∨ i = 2 ∨ i = 3 ∨ i = 4) with rfl | rfl | rfl | rfl | rfl <;> rfl
abbrev madN (most st : Nat) : Nat := 1 + st % most
abbrev madP (most st ca : Nat) (by_ : Nat → Int) : List (List Int) := madL (madN most st) by_ (ca % (madN most st + 1))
theorem w64_in {x : Int} (h1 : -9223372036854775808 ≤ x) (h2 : x ≤ 9223372036854775807) : wrap64 x = x := by
  unfold wrap64
  omega
set_option maxRecDepth 100000 in
set_option maxHeartbeats 4000000 in
theorem made_any (most : Nat) (hm1 : 1 ≤ most) (hm5 : most ≤ 5) (st ca : Nat) (by_ : Nat → Int) (hst : st < 256) (hca : ca < 256) (hby : ∀ i, i < 5 → 0 ≤ by_ i ∧ by_ i < 256) (w : World) :
    Calls Try.prog 46 #[rotaV st ca by_, .int .i64 most] w fun e w' => ∃ v, e = .returned (.tuple #[.int .i64 (madN most st), v]) ∧ OwnL w' w.heap.size v (madP most st ca by_) ∧ Fut w w' := by
  obtain ⟨i1, hi1, hy0, hy1, hy2⟩ := info_parts info28
  have hmx : (1 : Int) ≤ most := by omega
  have hmn : ¬ (most : Int) = 0 := by omega
  have hN1 : madN most st ≤ 5 := by have := Nat.mod_lt st (show 0 < most by omega); show 1 + st % most ≤ 5; omega
  have hw1 : wrap64 (1 + (st : Int) % (most : Int)) = (madN most st : Int) := by
    have e : (st : Int) % (most : Int) = ((st % most : Nat) : Int) := by exact_mod_cast rfl
    rw [e]
    rw [w64_in (by omega) (by have := Nat.mod_lt st (show 0 < most by omega); omega)]
    show _ = ((1 + st % most : Nat) : Int)
    omega
  have hw1' : IntKind.i64.wrap (1 + (st : Int) % (most : Int)) = (madN most st : Int) := by
    have e : (st : Int) % (most : Int) = ((st % most : Nat) : Int) := by exact_mod_cast rfl
    rw [e, IntWalk.i64_in _ ⟨by omega, by have := Nat.mod_lt st (show 0 < most by omega); omega⟩]
    show _ = ((1 + st % most : Nat) : Int)
    omega
  have hNd : 1 ≤ madN most st := by show 1 ≤ 1 + st % most; omega
  have hPN := Lib.hid (madL_plan (madN most st) by_)
  have hCd : ca % (madN most st + 1) ≤ madN most st := by have := Nat.mod_lt ca (show 0 < madN most st + 1 by omega); omega
  show Calls Try.prog 46 #[rotaV st ca by_, .int .i64 most] w fun e w' => ∃ v, e = .returned (.tuple #[.int .i64 (madN most st), v]) ∧ OwnL w' w.heap.size v (madL (madN most st) by_ (ca % (madN most st + 1))) ∧ Fut w w'
  generalize madN most st = N at *
  have hw2 : wrap64 ((N : Int) + 1) = (N : Int) + 1 := w64_in (by omega) (by omega)
  have hw3 : ¬ (N : Int) + 1 = 0 := by omega
  have hw4 : (ca : Int) % ((N : Int) + 1) = ((ca % (N + 1) : Nat) : Int) := by exact_mod_cast rfl
  generalize ca % (N + 1) = C at *
  have hCx : (C : Int) ≤ N := by omega
  have hw2' : IntKind.i64.wrap ((N : Int) + 1) = (N : Int) + 1 := IntWalk.i64_in _ ⟨by omega, by omega⟩
  have hw5 : IntKind.i64.wrap (1 + (st : Int).tmod (most : Int)) = (N : Int) := by rw [Int.tmod_eq_emod_of_nonneg (by omega)]; exact hw1'
  have hw6 : (ca : Int).tmod ((N : Int) + 1) = (C : Int) := by rw [Int.tmod_eq_emod_of_nonneg (by omega)]; exact hw4
  have HB := Lib.hid (BoxRo.new w st ca by_)
  have hF : Fut w (w.alloc (.cells #[.int .u8 st, .int .u8 ca, .int .u8 (by_ 0), .int .u8 (by_ 1), .int .u8 (by_ 2), .int .u8 (by_ 3), .int .u8 (by_ 4)] 42)) := Fut.alloc _ _
  have HFA := Lib.hid hF
  have HBY := Lib.hid hby
  clear hF hby
  go_enter Try.func46, Try.ntmps46
  go_wp2_with fail
  generalize w.alloc (.cells #[.int .u8 st, .int .u8 ca, .int .u8 (by_ 0), .int .u8 (by_ 1), .int .u8 (by_ 2), .int .u8 (by_ 3), .int .u8 (by_ 4)] 42) = w1 at *
  clear hw1 hw2 hw3 hw4 hw1' hw2' hw5 hw6 hmx hmn
  go_loopw [7, 22] (fun ov iv wr => ∃ i : Nat, i ≤ C ∧ iv = .int .i64 i ∧ Hid (OwnL wr w1.heap.size ov (madL N by_ i)) ∧ Hid (Fut w1 wr)) (fun _ iv _ => C - (intOf iv).toNat)
  case atStart => exact ⟨0, Nat.zero_le _, rfl, Lib.hid (OwnL.nil _ _), Lib.hid Fut.rfl⟩
  case round =>
    obtain ⟨i, hiC, rfl, HOX, HFX⟩ := hrel
    by_cases hlt : i < C
    · have hix : (i : Int) < C := by omega
      have hPi := hPN.out i (by omega)
      have HPi := Lib.hid hPi
      have hli := madL_len N by_ i
      obtain ⟨la, lc, hlv, q1, q2, hL⟩ := HOX.out.listsC
      have HLI := Lib.hid hli
      have HFT := Lib.hid (fitlaw_any N (by omega) la lc (madL N by_ i) wr hL.lst (by omega) (fun k hk => by rw [ord_len (hPi.row k hk)]; exact Nat.le_refl _))
      have HFP := Lib.hid (fit_pos hPi (by omega))
      have HFL : Hid ((fitL N (madL N by_ i)).length ≤ 5000) := Lib.hid (Nat.le_trans (sub_len _) (ord_le (by omega)))
      have HSS : Hid (madL N by_ (i + 1) = madL N by_ i ++ [lth (fitL N (madL N by_ i)) ((by_ i).toNat % (fitL N (madL N by_ i)).length)]) := Lib.hid rfl
      have HSZ := Lib.hid (RowKit.Below.size HFX.out)
      rw [hlv]
      rw [hlv] at HOX
      clear hlv hPi hli hL q1 q2
      generalize fitL N (madL N by_ i) = fl at *
      generalize madL N by_ i = P at *
      obtain ⟨b, hb⟩ := Int.eq_ofNat_of_zero_le (HBY.out i (by omega)).1
      have hb256 := (HBY.out i (by omega)).2
      have HBX := Lib.hid (HB.out.b i (by omega))
      have hi4 : (i : Int) < 5 := by omega
      rw [hb] at HSS HBX hb256
      rw [Int.toNat_natCast] at HSS
      have hjl := Nat.mod_lt b HFP.out
      have hrm : (b : Int) % (fl.length : Int) = ((b % fl.length : Nat) : Int) := by exact_mod_cast rfl
      have hrt : (b : Int).tmod (fl.length : Int) = ((b % fl.length : Nat) : Int) := by rw [Int.tmod_eq_emod_of_nonneg (by omega)]; exact hrm
      have hfx : (fl.length : Int) ≤ 5000 := by have := HFL.out; omega
      have hfz : ¬ (fl.length : Int) = 0 := by have := HFP.out; omega
      have hwb : IntKind.i64.wrap (b : Int) = b := IntWalk.i64_in _ ⟨by omega, by omega⟩
      generalize b % fl.length = j at *
      have hjx : (j : Int) < fl.length := by omega
      clear hb
      go_wp2_with fail
      refine HFT.out.mono ?_
      rintro _ w2 ⟨v, rfl, hFl, F⟩
      obtain ⟨g, cc, l2, lc2, rfl, hgs, hcell, hOr⟩ := hFl.at j hjl
      have HFW := Lib.hid (HFX.out.trans F)
      have hbc := (RowKit.Below.cell (HFX.out.trans F) (p := ⟨w.heap.size, 2 + i, none⟩) HB.out.lt).trans HBX.out
      have HOR := Lib.hid (hOr.base (B' := w1.heap.size) HSZ.out)
      obtain ⟨vals, hrow, hel⟩ := HOX.out
      have HRW := Lib.hid (row_fut hrow F)
      have HEL := Lib.hid (hel.fut F)
      have HS2 : Hid (w1.heap.size ≤ w2.heap.size) := Lib.hid (Nat.le_trans HSZ.out (RowKit.Below.size F))
      have HPL := Lib.hid (show P.length ≤ 5 by have := HLI.out; omega)
      generalize lth fl j = row at *
      clear hFl F hOr hrow hel HFT
      go_wp2_with (at_builtin; refine wpList_append_lies _ rfl _ _ 22 rfl w1.heap.size 28 i1 (.slice none 0 0) 1 24 Try.underlying22 hi1 hy0 hy1 hy2 rfl (by decide) _ P.length vals rfl (row_fut HRW.out (Fut.alloc _ _)) ⟨w2.heap.size, 0, none⟩ 1 1 [.slice l2 row.length lc2] rfl rfl (cell_one (by simp [go_sem])) (by simp [Value.oneCell']) (by omega) (by have := HPL.out; unfold maxLen; omega) (by have := HPL.out; omega) (by have := HS2.out; simp; omega) _ rfl ?_)
      intro g8 c8 w8 hown8 hgrow8 hat8 _
      have HX8 : Hid (OwnL w8 w1.heap.size (.slice (some ⟨g8, 0, none⟩) (P.length + 1) c8) (P ++ [row])) := Lib.hid (OwnL.app (row_fut HRW.out (Fut.alloc _ _)) (HEL.out.fut (Fut.alloc _ _)) (HOR.out.fut (Fut.alloc _ _)) hown8 hgrow8)
      have HF8 : Hid (Fut w1 w8) := Lib.hid (RowKit.Below.grown (HFW.out.trans (Fut.alloc w2 (.cells #[.slice l2 row.length lc2] 28))) hgrow8 (RowKit.Below.size (HFW.out.trans (Fut.alloc w2 (.cells #[.slice l2 row.length lc2] 28)))) fun q hq => (World.ownsRow.lt HRW.out q hq).1)
      clear hown8 hgrow8
      go_wp2
      go_round
      case rel => exact ⟨i + 1, by omega, by go_num, by rw [HSS.out]; exact HX8, HF8⟩
      case measure => simp [intOf]; omega
    · obtain rfl : i = C := by omega
      go_wp2
      go_ret2
      exact ⟨_, rfl, HOX.out.base (RowKit.Below.size HFA.out), HFA.out.trans HFX.out⟩
end Go.Proofs.Ytpgifeaejjjjnaa
