/- First 27: first_any -/
import Derived.Test.YtflllkamdihfaaaLBG
namespace Go.Proofs.Ytflllkamdihfaaa
open Go.RowKit Go.Sort
/-- what First answers. -/
def fstE (r c : Int) (S Y T : List Int) : Int := if chkP r c S Y T = 0 then (if famL c (r * c) S Y T = [] then 12 else 0) else chkP r c S Y T
def fstL (r c : Int) (S Y T : List Int) : List (List Int) := if chkP r c S Y T = 0 then (famL c (r * c) S Y T).head?.getD [] else []
theorem errs_box {w : World} {B : Nat} {u : Value} {t : TypeId} (h : w.heap[B]? = some (.cells #[u] t)) : w.cell? ⟨B, 0, none⟩ = some u ∧ w.frozen? ⟨B, 0, none⟩ = false := by
  unfold World.cell? World.frozen?
  rw [h]
  exact ⟨rfl, rfl⟩
section
attribute [local go_sem] Oper.semAt_some
open Go.Shelf
set_option maxRecDepth 100000 in
set_option maxHeartbeats 4000000 in
theorem first_any (r c : Int) (a : Option Addr) (cap : Nat) (S : List Int) (ya : Option Addr) (yc : Nat) (Y : List Int) (ta : Option Addr) (tc : Nat) (T : List Int) (w : World) (h : InPQ w a S ya yc Y ta tc T) :
    Calls Try.prog 27 #[parV r c a S.length cap, plaV ya Y.length yc ta T.length tc] w (TupLC (fstE r c S Y T) (fstL r c S Y T) w) := by
  have hA : Fut w ((w.alloc (.cells #[.int .i64 r, .int .i64 c, .slice a S.length cap] 24)).alloc (.cells #[.slice ya Y.length yc, .slice ta T.length tc] 26)) := (Fut.alloc _ _).trans (Fut.alloc _ _)
  have hBP := (BoxP.new w r c a S.length cap).fut (Fut.alloc _ (.cells #[.slice ya Y.length yc, .slice ta T.length tc] 26))
  have hBQ := BoxQ.new (w.alloc (.cells #[.int .i64 r, .int .i64 c, .slice a S.length cap] 24)) ya Y.length yc ta T.length tc
  rw [World.size_alloc] at hBQ
  have hWs : ((w.alloc (.cells #[.int .i64 r, .int .i64 c, .slice a S.length cap] 24)).alloc (.cells #[.slice ya Y.length yc, .slice ta T.length tc] 26)).heap.size = w.heap.size + 2 := by simp
  have HCK := Lib.hid (fun W (F : Fut w W) => chk_any r c a cap S ya yc Y ta tc T W (h.fut F))
  have HIN := Lib.hid h
  have HCG := Lib.hid (fun q => chk_all (r := r) (c := c) (S := S) (Y := Y) (T := T) q)
  have HN : Hid (fstE r c S Y T = if chkP r c S Y T = 0 then (if famL c (r * c) S Y T = [] then 12 else 0) else chkP r c S Y T) := Lib.hid rfl
  have HM : Hid (fstL r c S Y T = if chkP r c S Y T = 0 then (famL c (r * c) S Y T).head?.getD [] else []) := Lib.hid rfl
  generalize fstE r c S Y T = N at *
  generalize fstL r c S Y T = M at *
  generalize hck : chkP r c S Y T = ck at *
  have HSQ := Lib.hid (fun (hs : Side r c (r * c)) W (F : Fut w W) => apart_seq W r c (r * c) hs a cap S ya yc Y ta tc T (h.fut F))
  clear h hck
  refine (callsIn_wide (n := 3)).1 ?_
  refine callsIn_of_wp_marks Try.func27 rfl trivial ?_ rfl
  simp only [Try.ntmps27, List.size_toArray, List.length_cons, List.length_nil, Nat.reduceAdd, Nat.reduceSub, Array.replicate_succ, Array.replicate_zero, List.push_toArray, List.append_toArray, List.nil_append, List.cons_append]
  have hA4 : Fut w ((((w.alloc (.cells #[.int .i64 r, .int .i64 c, .slice a S.length cap] 24)).alloc (.cells #[.slice ya Y.length yc, .slice ta T.length tc] 26)).alloc (.cells #[.slice none 0 0] 35)).alloc (.cells #[.int .i64 0] 31)) := (hA.trans (Fut.alloc _ _)).trans (Fut.alloc _ _)
  have hBP4 := (hBP.fut (Fut.alloc _ (.cells #[.slice none 0 0] 35))).fut (Fut.alloc _ (.cells #[.int .i64 0] 31))
  have hBQ4 := (hBQ.fut (Fut.alloc _ (.cells #[.slice none 0 0] 35))).fut (Fut.alloc _ (.cells #[.int .i64 0] 31))
  have hh2 : ((((w.alloc (.cells #[.int .i64 r, .int .i64 c, .slice a S.length cap] 24)).alloc (.cells #[.slice ya Y.length yc, .slice ta T.length tc] 26)).alloc (.cells #[.slice none 0 0] 35)).alloc (.cells #[.int .i64 0] 31)).heap[w.heap.size + 1 + 1]? = some (.cells #[.slice none 0 0] 35) := by
    rw [RowKit.Below.heap_alloc _ _ _ (by simp)]
    have := World.alloc_heap_new ((w.alloc (.cells #[.int .i64 r, .int .i64 c, .slice a S.length cap] 24)).alloc (.cells #[.slice ya Y.length yc, .slice ta T.length tc] 26)) (.cells #[.slice none 0 0] 35)
    rwa [hWs] at this
  have hh3 : ((((w.alloc (.cells #[.int .i64 r, .int .i64 c, .slice a S.length cap] 24)).alloc (.cells #[.slice ya Y.length yc, .slice ta T.length tc] 26)).alloc (.cells #[.slice none 0 0] 35)).alloc (.cells #[.int .i64 0] 31)).heap[w.heap.size + 1 + 1 + 1]? = some (.cells #[.int .i64 0] 31) := by
    have := World.alloc_heap_new (((w.alloc (.cells #[.int .i64 r, .int .i64 c, .slice a S.length cap] 24)).alloc (.cells #[.slice ya Y.length yc, .slice ta T.length tc] 26)).alloc (.cells #[.slice none 0 0] 35)) (.cells #[.int .i64 0] 31)
    rwa [World.size_alloc, hWs] at this
  clear hA hBP hBQ hWs
  have p0 := hBP4.c0
  have p1 := hBP4.c1
  have p2 := hBP4.c2
  have q0 := hBQ4.c0
  have q1 := hBQ4.c1
  gi_wp2_with fail
  generalize (((w.alloc (.cells #[.int .i64 r, .int .i64 c, .slice a S.length cap] 24)).alloc (.cells #[.slice ya Y.length yc, .slice ta T.length tc] 26)).alloc (.cells #[.slice none 0 0] 35)).alloc (.cells #[.int .i64 0] 31) = W1 at *
  obtain ⟨R2, hR2⟩ : ∃ R2, R2 = w.heap.size + 1 + 1 := ⟨_, rfl⟩
  rw [← hR2] at hh2 hh3 ⊢
  have hRw : w.heap.size ≤ R2 := by omega
  clear hR2
  refine ⟨trivial, ?_⟩
  refine (callsIn_wide.2 (HCK.out _ hA4)).mono ?_
  rintro e w2 ⟨rfl, F2⟩
  have HF2 := Lib.hid (hA4.trans F2)
  have HBP2 := Lib.hid (hBP4.fut F2)
  have HBQ2 := Lib.hid (hBQ4.fut F2)
  have hk2 := (RowKit.Below.block F2 R2 (Array.getElem?_eq_some_iff.1 hh2).1).trans hh2
  have hk3 := (RowKit.Below.block F2 (R2 + 1) (Array.getElem?_eq_some_iff.1 hh3).1).trans hh3
  clear F2 hA4 hBP4 hBQ4 p0 p1 p2 q0 q1 hh2 hh3
  obtain ⟨_, p0, p1, p2⟩ := HBP2.out
  obtain ⟨_, q0, q1⟩ := HBQ2.out
  obtain ⟨e2, f2⟩ := errs_box hk2
  obtain ⟨e3, f3⟩ := errs_box hk3
  by_cases h0 : ck = 0
  · subst h0
    have HG := Lib.hid (HCG.out rfl)
    have HSS := Lib.hid (fun W F => HSQ.out HG.out.side W F (fun y hy => ⟨(HG.out.y y hy).1, (HG.out.y y hy).2.1⟩))
    clear HCG HSQ
    gi_wp2_with fail
    refine ⟨trivial, ?_⟩
    refine (callsIn_wide.2 (aptF_any r c a S.length cap ya Y.length yc ta T.length tc w2)).mono ?_
    rintro e w4 ⟨rfl, F4, hBP4, hBQ4⟩
    have hm2 := (RowKit.Below.block F4 R2 (Array.getElem?_eq_some_iff.1 hk2).1).trans hk2
    have hm3 := (RowKit.Below.block F4 (R2 + 1) (Array.getElem?_eq_some_iff.1 hk3).1).trans hk3
    have HF4 := Lib.hid (HF2.out.trans F4)
    have hR4 : R2 + 1 < w4.heap.size := (Array.getElem?_eq_some_iff.1 hm3).1
    have hww : w.heap.size ≤ w2.heap.size := RowKit.Below.size HF2.out
    generalize hb1 : w2.heap.size + 1 = Bq at *
    generalize hb0 : w2.heap.size = Bp at *
    clear p0 p1 p2 q0 q1 F4 HBP2 HBQ2 HF2 hk2 hk3 e2 e3 f2 f3
    generalize hFL : famL c (r * c) S Y T = FL at *
    gi_wp2_with fail
    refine range_v (xs := FL) (V := RdF) (N0 := w.heap.size) (Ok := fun W => Fut w W ∧ BoxP W Bp r c a S.length cap ∧ BoxQ W Bq ya Y.length yc ta T.length tc) (gf := 110) (lb := #[.pointer (some ⟨Bq, 0, none⟩), .pointer (some ⟨Bp, 0, none⟩)]) rfl (fun _ _ => rfl)
      (fun x v w w' h k => h.calm k) (HSS.out w Fut.rfl Bp Bq) (by omega) (fun W2 hb2 => ⟨HF4.out.trans hb2, hBP4.fut hb2, hBQ4.fut hb2⟩) rfl (fun k => k = R2 ∨ k = R2 + 1) (fun k hk => by omega)
      (fun pre W1 => pre = [] ∧ W1.heap[R2]? = some (.cells #[.slice none 0 0] 35) ∧ W1.heap[R2 + 1]? = some (.cells #[.int .i64 0] 31) ∧ Hid (RowKit.Below w.heap.size w W1))
      (fun cd pre W1 => cd = .ret ∧ ∃ x v, pre = [x] ∧ W1.heap[R2]? = some (.cells #[v] 35) ∧ W1.heap[R2 + 1]? = some (.cells #[.int .i64 0] 31) ∧ RdF x v W1 ∧ Hid (RowKit.Below w.heap.size w W1))
      (fun s A B hs hb => ⟨hs.1, (hb.block _ (by omega)).trans hs.2.1, (hb.block _ (by omega)).trans hs.2.2.1, Lib.hid (hs.2.2.2.out.trans (hb.mono (by omega)))⟩)
      (fun cd s A B hs hb => by
        obtain ⟨h1, x, v, h2, h3, h4, h5, h6⟩ := hs
        exact ⟨h1, x, v, h2, hb.cells _ _ h3 rfl, hb.cells _ _ h4 rfl, h5.calm (hb.mono (Nat.zero_le _)), Lib.hid (h6.out.trans ((hb.mono (by omega)).low_below h6.out.size))⟩)
      ⟨rfl, hm2, hm3, Lib.hid HF4.out⟩
      (fun v => { tmps := #[parV r c a S.length cap, plaV ya Y.length yc ta T.length tc, .pointer (some ⟨w.heap.size, 0, none⟩), .pointer (some ⟨w.heap.size + 1, 0, none⟩), .pointer (some ⟨R2, 0, none⟩), .pointer (some ⟨R2 + 1, 0, none⟩), .int .i64 0, v, .agg #[.int .i64 r, .int .i64 c, .slice a S.length cap], .agg #[.slice ya Y.length yc, .slice ta T.length tc], .int .i64 0, .int .i64 0, .bool false, undef, .agg #[.int .i64 r, .int .i64 c, .slice a S.length cap], .agg #[.slice ya Y.length yc, .slice ta T.length tc], .func (.func 110) #[] #[.pointer (some ⟨Bq, 0, none⟩), .pointer (some ⟨Bp, 0, none⟩)], v, undef], defers := [] })
      ?assign ?body ?done ?stop
    case assign =>
      intro m l' v W1 K hK
      gi_wp2
      exact hK
    case body =>
      rintro m l' pre x v W1 hs1 ⟨rfl, hh1, hh2, hb1⟩ hR hpre
      obtain ⟨e2, f2⟩ := errs_box hh1
      obtain ⟨e3, f3⟩ := errs_box hh2
      have HR := Lib.hid hR
      obtain ⟨xg, xv, rfl, _⟩ := hR
      gi_wp2_with fail
      have k1 : (W1.setCell ⟨R2, 0, none⟩ (.slice (some ⟨xg, 0, none⟩) x.length x.length)).heap[R2 + 1]? = some (.cells #[.int .i64 0] 31) := (RowKit.Below.heap_setCell W1 ⟨R2, 0, none⟩ _ (R2 + 1) (show R2 + 1 ≠ R2 by omega)).trans hh2
      have k3 : ((W1.setCell ⟨R2, 0, none⟩ (.slice (some ⟨xg, 0, none⟩) x.length x.length)).setCell ⟨R2 + 1, 0, none⟩ (.int .i64 0)).heap[R2]? = some (.cells #[.slice (some ⟨xg, 0, none⟩) x.length x.length] 35) := (RowKit.Below.heap_setCell _ ⟨R2 + 1, 0, none⟩ _ R2 (show R2 ≠ R2 + 1 by omega)).trans (set_heap (u' := .slice (some ⟨xg, 0, none⟩) x.length x.length) hh1)
      refine ⟨(But.setCell (Z := fun k => k = R2 ∨ k = R2 + 1) (p := ⟨R2, 0, none⟩) (But.refl _ W1) (.inl (.inl rfl)) _).setCell (p := ⟨R2 + 1, 0, none⟩) (.inl (.inr rfl)) _, rfl, x, _, rfl, k3, set_heap k1, (HR.out.store hh1 (by decide) _).store k1 (by decide) _, Lib.hid ((hb1.out.setCell (p := ⟨R2, 0, none⟩) hRw _).setCell (p := ⟨R2 + 1, 0, none⟩) (show w.heap.size ≤ R2 + 1 by omega) _)⟩
    case done =>
      rintro D W5 hD ⟨hnil, hh1, hh2, hb5⟩ hK
      obtain ⟨e2, f2⟩ := errs_box hh1
      obtain ⟨e3, f3⟩ := errs_box hh2
      obtain rfl : N = 12 := by have := HN.out; simpa [hFL, hnil] using this
      obtain rfl : M = [] := by have := HM.out; simpa [hFL, hnil] using this
      gi_wp2_with fail
      have hK' : ((W5.setCell ⟨R2, 0, none⟩ (.slice none 0 0)).setCell ⟨R2 + 1, 0, none⟩ (.int .i64 12)).heap[D]? = some (.deferred (some [])) := (RowKit.Below.heap_setCell _ ⟨R2 + 1, 0, none⟩ _ D (show D ≠ R2 + 1 by omega)).trans ((RowKit.Below.heap_setCell _ ⟨R2, 0, none⟩ _ D (show D ≠ R2 by omega)).trans hK)
      refine ⟨by simp, .inl ⟨_, _, rfl, run_takeDeferred hK', ?_⟩⟩
      have k1 : (W5.setCell ⟨R2, 0, none⟩ (.slice none 0 0)).heap[R2 + 1]? = some (.cells #[.int .i64 0] 31) := (RowKit.Below.heap_setCell W5 ⟨R2, 0, none⟩ _ (R2 + 1) (show R2 + 1 ≠ R2 by omega)).trans hh2
      have k2 := set_heap (u' := .int .i64 12) k1
      have k3 : ((W5.setCell ⟨R2, 0, none⟩ (.slice none 0 0)).setCell ⟨R2 + 1, 0, none⟩ (.int .i64 12)).heap[R2]? = some (.cells #[.slice none 0 0] 35) := (RowKit.Below.heap_setCell _ ⟨R2 + 1, 0, none⟩ _ R2 (show R2 ≠ R2 + 1 by omega)).trans (set_heap (u' := .slice none 0 0) hh1)
      have hca := Calm.putObj (B := w.heap.size) (.deferred none) (by omega) hK' rfl
      have k4 := (errs_box (hca.cells _ _ k2 rfl)).1
      have k5 := (errs_box (hca.cells _ _ k3 rfl)).1
      refine ⟨.tuple #[.slice none 0 0, .int .i64 12], by simp [results, Try.f27, go_sem, k4, k5], ?_⟩
      exact TupLC.nil 12 (((hb5.out.setCell (p := ⟨R2, 0, none⟩) hRw _).setCell (p := ⟨R2 + 1, 0, none⟩) (show w.heap.size ≤ R2 + 1 by omega) _).trans (below_putObj _ _ (by omega)))
    case stop =>
      rintro D cd pre W5 hD hpre ⟨rfl, x, v, rfl, hh1, hh2, hR5, hb5⟩ hK
      have hx : FL ≠ [] ∧ FL.head?.getD [] = x := by
        obtain ⟨t, rfl⟩ := hpre
        exact ⟨by simp, rfl⟩
      obtain rfl : N = 0 := by have := HN.out; simpa [hFL, hx.1] using this
      obtain rfl : M = x := by have := HM.out; simpa [hFL, hx.2] using this
      have hca : Calm w.heap.size W5 (W5.putObj D (.deferred none)) := Calm.putObj (B := w.heap.size) (.deferred none) (by omega) hK rfl
      have k4 := (errs_box (hca.cells _ _ hh1 rfl)).1
      have k5 := (errs_box (hca.cells _ _ hh2 rfl)).1
      obtain ⟨l, lc, rfl, g1, g2, g3⟩ := (hR5.calm (hca.mono (Nat.zero_le _))).listsC
      gi_wp2_with fail
      refine ⟨by simp, .inl ⟨_, _, rfl, run_takeDeferred hK, ?_⟩⟩
      refine ⟨.tuple #[.slice l M.length lc, .int .i64 0], by simp [results, Try.f27, go_sem, k4, k5], ?_⟩
      exact ⟨l, lc, rfl, g1, g2, g3, hb5.out.trans (below_putObj _ _ (by omega))⟩
  · obtain rfl : N = ck := by rw [HN.out, if_neg h0]
    obtain rfl : M = [] := by rw [HM.out, if_neg h0]
    clear HCG HSQ
    gi_wp2_with fail
    have k1 : (w2.setCell ⟨R2, 0, none⟩ (.slice none 0 0)).heap[R2 + 1]? = some (.cells #[.int .i64 0] 31) := (RowKit.Below.heap_setCell w2 ⟨R2, 0, none⟩ _ (R2 + 1) (show R2 + 1 ≠ R2 by omega)).trans hk3
    have k2 := (errs_box (set_heap (u' := .int .i64 N) k1)).1
    have k3 : ((w2.setCell ⟨R2, 0, none⟩ (.slice none 0 0)).setCell ⟨R2 + 1, 0, none⟩ (.int .i64 N)).heap[R2]? = some (.cells #[.slice none 0 0] 35) := (RowKit.Below.heap_setCell _ ⟨R2 + 1, 0, none⟩ _ R2 (show R2 ≠ R2 + 1 by omega)).trans (set_heap (u' := .slice none 0 0) hk2)
    have k4 := (errs_box k3).1
    have hF : Fut w ((w2.setCell ⟨R2, 0, none⟩ (.slice none 0 0)).setCell ⟨R2 + 1, 0, none⟩ (.int .i64 N)) := (RowKit.Below.setCell HF2.out (p := ⟨R2, 0, none⟩) hRw _).setCell (p := ⟨R2 + 1, 0, none⟩) (show w.heap.size ≤ R2 + 1 by omega) _
    refine ⟨.tuple #[.slice none 0 0, .int .i64 N], by simp [results, Try.f27, go_sem, k2, k4], ?_⟩
    exact TupLC.nil N hF
end
end Go.Proofs.Ytflllkamdihfaaa
