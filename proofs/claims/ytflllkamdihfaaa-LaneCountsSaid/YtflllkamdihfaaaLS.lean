/- rests exchanged: swapped_any -/
import Derived.Test.YtflllkamdihfaaaLR
import Derived.Test.YtflllkamdihfaaaLJ
namespace Go.Proofs.Ytflllkamdihfaaa
open Go.RowKit Go.Sort
theorem fm3_in {F : List (List Int)} {i : Nat} {x : Int} {p : Nat × Nat × Int} : ∀ (f j : Nat), fm3 F i x f j = some p → ∃ j', p = (i, j', x) ∧ j' ≠ i ∧ (lth F j').contains x = true
  | 0, _, h => by rw [fm3] at h; cases h
  | f + 1, j, h => by
    rw [fm3] at h
    by_cases hc : j ≠ i ∧ (lth F j).contains x = true
    · rw [if_pos hc] at h
      cases h
      exact ⟨j, rfl, hc⟩
    · rw [if_neg hc] at h
      exact fm3_in f (j + 1) h
theorem fm2_in {F : List (List Int)} {i : Nat} {p : Nat × Nat × Int} : ∀ (l : List Int), fm2 F i l = some p → ∃ j x, p = (i, j, x) ∧ j ≠ i ∧ (lth F j).contains x = true ∧ x ∈ l
  | [], h => by rw [fm2] at h; cases h
  | y :: t, h => by
    rw [fm2] at h
    cases h3 : fm3 F i y F.length 0 with
    | some r =>
      rw [h3] at h
      cases h
      obtain ⟨j, e, h1, h2⟩ := fm3_in _ _ h3
      exact ⟨j, y, e, h1, h2, by simp⟩
    | none =>
      rw [h3] at h
      obtain ⟨j, x, e, h1, h2, h4⟩ := fm2_in t h
      exact ⟨j, x, e, h1, h2, by simp [h4]⟩
theorem fm1_in {F : List (List Int)} {p : Nat × Nat × Int} : ∀ (f i : Nat), fm1 F f i = some p → ∃ i' j x, p = (i', j, x) ∧ j ≠ i' ∧ x ∈ lth F i' ∧ x ∈ lth F j
  | 0, _, h => by rw [fm1] at h; cases h
  | f + 1, i, h => by
    rw [fm1] at h
    cases h2 : fm2 F i (lth F i) with
    | some r =>
      rw [h2] at h
      cases h
      obtain ⟨j, x, e, h1, h3, h4⟩ := fm2_in _ h2
      exact ⟨i, j, x, e, h1, h4, by simpa using h3⟩
    | none =>
      rw [h2] at h
      exact fm1_in f (i + 1) h
theorem lth_nil {F : List (List Int)} {x : Int} {i : Nat} (h : x ∈ lth F i) : i < F.length := by
  rcases Nat.lt_or_ge i F.length with q | q
  · exact q
  · rw [lth_eq, List.getElem?_eq_none q] at h; simp at h
theorem idx_mem {x : Int} : ∀ {l : List Int} {k : Nat}, x ∈ l → ∃ p : Nat, idxF x l k = (k + p : Nat) ∧ p < l.length
  | y :: t, k, h => by
    unfold idxF
    by_cases e : y = x
    · rw [if_pos e]; exact ⟨0, rfl, by simp⟩
    · rw [if_neg e]
      obtain ⟨p, h1, h2⟩ := idx_mem (l := t) (k := k + 1) ((List.mem_cons.1 h).resolve_left fun q => e q.symm)
      exact ⟨p + 1, by rw [h1]; congr 1; omega, by simp; omega⟩
theorem FreeSt.fut {w w' : World} {g n : Nat} {vs : Nat → Value} {L : Nat → List Int} (h : FreeSt w g n vs n L) (F : Fut w w') : FreeSt w' g n vs n L :=
  ⟨h.outer.of_block (RowKit.Below.block F _ h.outer.lt), fun i hi => (h.done i hi).fut F, h.rest⟩
theorem FreeSt.put {w : World} {g n i : Nat} {vs : Nat → Value} {L : Nat → List Int} {v : Value} {z : List Int} (h : FreeSt w g n vs n L) (hv : Owns w (g + 1) v z) : FreeSt (w.setCell ⟨g, i, none⟩ v) g n (fun k => if k = i then v else vs k) n (fun k => if k = i then z else L k) := by
  have hb : But (fun q => q = g) w (w.setCell ⟨g, i, none⟩ v) := But.setCell (Z := fun q => q = g) (But.refl _ _) (p := ⟨g, i, none⟩) (.inl rfl) _
  refine ⟨h.outer.set i v, fun k hk => ?_, fun k h1 h2 => by omega⟩
  by_cases e : k = i
  · show Owns _ _ (if k = i then v else vs k) (if k = i then z else L k)
    rw [if_pos e, if_pos e]; exact hv.but hb (fun q hq => by omega)
  · show Owns _ _ (if k = i then v else vs k) (if k = i then z else L k)
    rw [if_neg e, if_neg e]; exact (h.done k hk).but hb (fun q hq => by omega)
theorem concat_two (l1 l2 : Option Addr) (n1 n2 c1 c2 : Nat) (xs ys : List Int) (W : World) (h1 : IntsAt W l1 xs) (h2 : IntsAt W l2 ys) (e1 : xs.length = n1) (e2 : ys.length = n2) (hx : n1 ≤ 1000) (hy : n2 ≤ 1000) :
    Calls Try.prog 46 #[.slice (some ⟨W.heap.size, 0, none⟩) 2 2] (W.alloc (.cells #[.slice l1 n1 c1, .slice l2 n2 c2] 22)) fun e w' => ∃ v, e = .returned v ∧ Owns w' W.heap.size v (xs ++ ys) ∧ Fut W w' := by
  have hb : W.heap.size < (W.alloc (.cells #[.slice l1 n1 c1, .slice l2 n2 c2] 22)).heap.size := by simp
  have hn := World.alloc_heap_new W (.cells #[.slice l1 n1 c1, .slice l2 n2 c2] 22)
  have hLs : LstAt (W.alloc (.cells #[.slice l1 n1 c1, .slice l2 n2 c2] 22)) (some ⟨W.heap.size, 0, none⟩) [xs, ys] := fun j hj => by
    have hj2 : j < 2 := hj
    rcases (by omega : j = 0 ∨ j = 1) with rfl | rfl
    · refine ⟨W.heap.size, 0, l1, c1, rfl, hb, ?_, h1.fut (Fut.alloc _ _)⟩
      show _ = some (Value.slice _ xs.length c1)
      rw [e1]; unfold World.cell?; rw [hn]; rfl
    · refine ⟨W.heap.size, 0, l2, c2, rfl, hb, ?_, h2.fut (Fut.alloc _ _)⟩
      show _ = some (Value.slice _ ys.length c2)
      rw [e2]; unfold World.cell?; rw [hn]; rfl
  have h := concat_any (some ⟨W.heap.size, 0, none⟩) 2 [xs, ys] _ hLs (by simp) (fun j hj => by
    have hj2 : j < 2 := hj
    rcases (by omega : j = 0 ∨ j = 1) with rfl | rfl
    · show xs.length ≤ 1000; omega
    · show ys.length ≤ 1000; omega)
  refine h.mono ?_
  rintro _ w5 ⟨v5, rfl, hO, F5⟩
  refine ⟨v5, rfl, ?_, (Fut.alloc _ _).trans F5⟩
  have := hO.base (B' := W.heap.size) (by simp)
  simpa using this
/-- a family in which what comes behind a corner is exchanged. -/
def swpL (F : List (List Int)) (i j p q : Nat) : List (List Int) := (F.set i ((lth F i).take p ++ (lth F j).drop q)).set j ((lth F j).take q ++ (lth F i).drop p)
set_option maxRecDepth 100000 in
set_option maxHeartbeats 8000000 in
theorem swapped_any (fa : Option Addr) (fc : Nat) (F : List (List Int)) (i j p q : Nat) (x : Int) (w : World) (hF : LstC w fa F) (hFl : F.length ≤ 1000) (hFk : ∀ k, k < F.length → (lth F k).length ≤ 1000) (hi : i < F.length) (hj : j < F.length) (hij : j ≠ i) (hp : idxE (lth F i) x = (p : Int)) (hq : idxE (lth F j) x = (q : Int)) (hpl : p < (lth F i).length) (hql : q < (lth F j).length) :
    Calls Try.prog 91 #[.agg #[.int .i64 (i : Int), .int .i64 (j : Int), .int .i64 x], .slice fa F.length fc] w fun e w' => ∃ l lc, e = .returned (.slice l F.length lc) ∧ F.length ≤ lc ∧ lc ≤ 9223372036854775807 ∧ LstC w' l (swpL F i j p q) ∧ Fut w w' := by
  have HKP := Lib.hid (fun W (G : Fut w W) => kept_any fa fc F W (hF.lst.fut G) hFl hFk)
  obtain ⟨fb, fo, ra, rac, rfl, hfb, d1, ha1, ha2, hIa⟩ := hF i hi
  obtain ⟨fb2, fo2, rb, rbc, ee, _, d2, hb1, hb2, hIb⟩ := hF j hj
  simp only [Option.some.injEq, Addr.mk.injEq, and_true] at ee
  obtain ⟨rfl, rfl⟩ := ee
  have hla := hFk i hi
  have hlb := hFk j hj
  have hB0 : (w.alloc (.cells #[.int .i64 (i : Int), .int .i64 (j : Int), .int .i64 x] 112)).heap[w.heap.size]? = some (.cells #[.int .i64 (i : Int), .int .i64 (j : Int), .int .i64 x] 112) := World.alloc_heap_new _ _
  have HBX : Hid (∀ W, Fut (w.alloc (.cells #[.int .i64 (i : Int), .int .i64 (j : Int), .int .i64 x] 112)) W → W.cell? ⟨w.heap.size, 0, none⟩ = some (.int .i64 (i : Int)) ∧ W.cell? ⟨w.heap.size, 1, none⟩ = some (.int .i64 (j : Int)) ∧ W.cell? ⟨w.heap.size, 2, none⟩ = some (.int .i64 x)) := Lib.hid (fun W G => by
    have hb : w.heap.size < (w.alloc (.cells #[.int .i64 (i : Int), .int .i64 (j : Int), .int .i64 x] 112)).heap.size := by simp
    exact ⟨(RowKit.Below.cell G (p := ⟨w.heap.size, 0, none⟩) hb).trans (by unfold World.cell?; rw [hB0]; rfl), (RowKit.Below.cell G (p := ⟨w.heap.size, 1, none⟩) hb).trans (by unfold World.cell?; rw [hB0]; rfl), (RowKit.Below.cell G (p := ⟨w.heap.size, 2, none⟩) hb).trans (by unfold World.cell?; rw [hB0]; rfl)⟩)
  have HFW : Hid (Fut w (w.alloc (.cells #[.int .i64 (i : Int), .int .i64 (j : Int), .int .i64 x] 112))) := Lib.hid (Fut.alloc _ _)
  have hix : (i : Int) < F.length := by omega
  have hjx : (j : Int) < F.length := by omega
  have HRW : Hid (∀ W, Fut w W → W.cell? ⟨fb, fo + i, none⟩ = some (.slice ra (lth F i).length rac) ∧ W.cell? ⟨fb, fo + j, none⟩ = some (.slice rb (lth F j).length rbc)) := Lib.hid (fun W G => ⟨(RowKit.Below.cell G (p := ⟨fb, fo + i, none⟩) hfb).trans d1, (RowKit.Below.cell G (p := ⟨fb, fo + j, none⟩) hfb).trans d2⟩)
  have HIA := Lib.hid hIa
  have HIB := Lib.hid hIb
  have HEI : Hid (swpL F i j p q = (F.set i ((lth F i).take p ++ (lth F j).drop q)).set j ((lth F j).take q ++ (lth F i).drop p)) := Lib.hid rfl
  generalize swpL F i j p q = R at *
  have HIX := Lib.hid (fun W (G : Fut w W) => by have h := index_any ra rac (lth F i) x W (hIa.fut G) hla; rwa [hp] at h)
  have HJX := Lib.hid (fun W (G : Fut w W) => by have h := index_any rb rbc (lth F j) x W (hIb.fut G) hlb; rwa [hq] at h)
  clear hB0 hF hFk d1 d2 hIa hIb hp hq hfb
  generalize hA : lth F i = A at *
  generalize hB : lth F j = B at *
  have HAB := Lib.hid (And.intro hA hB)
  clear hA hB
  go_enter Try.func91, Try.ntmps91
  go_wp2_with fail
  generalize w.alloc (.cells #[.int .i64 (i : Int), .int .i64 (j : Int), .int .i64 x] 112) = w1 at *
  refine (HKP.out _ HFW.out).mono ?_
  rintro _ w2 ⟨g, vs, rfl, hg, hG, F2⟩
  have HG2 := Lib.hid hG
  have HF2 := Lib.hid F2
  clear hG F2 HKP
  obtain ⟨b0, b1, b2⟩ := HBX.out w2 HF2.out
  obtain ⟨r1, r2⟩ := HRW.out w2 (HFW.out.trans HF2.out)
  go_upto_region 2 with fail
  go_quiet (fail)
  have hq3 : Fut w2 (w2.drewN nq) := Fut.drewN _ _
  have HF3 := Lib.hid (HF2.out.trans hq3)
  have HG3 : Hid (FreeSt (w2.drewN nq) g F.length vs F.length fun i => lth F i) := Lib.hid ⟨HG2.out.outer.of_block rfl, fun a ha => (HG2.out.done a ha).fut hq3, HG2.out.rest⟩
  clear b0 b1 b2 r1 r2 hq3 HF2 HG2
  generalize w2.drewN nq = w3 at *
  obtain ⟨b0, b1, b2⟩ := HBX.out w3 HF3.out
  have hpx : (p : Int) ≤ A.length := by omega
  have hqx : (q : Int) ≤ B.length := by omega
  have HIQ := Lib.hid (fun n => HIX.out (w3.drewN n) ((HFW.out.trans HF3.out).trans (Fut.drewN _ n)))
  have HJQ := Lib.hid (fun n => HJX.out (w3.drewN n) ((HFW.out.trans HF3.out).trans (Fut.drewN _ n)))
  go_upto_region 3 with fail
  go_quiet (first | (with_reducible (go_at_call 86; exact Calls.quiet_of_same ((HIQ.out _).mono fun _ _ ⟨h, h'⟩ => ⟨h, h'.symm⟩))) | (go_at_call 86; exact Calls.quiet_of_same ((HJQ.out _).mono fun _ _ ⟨h, h'⟩ => ⟨h, h'.symm⟩)))
  have hq4 : Fut w3 (w3.drewN nq) := Fut.drewN _ _
  have HF4 := Lib.hid (HF3.out.trans hq4)
  have HG4 := Lib.hid (HG3.out.fut hq4)
  clear b0 b1 b2 hq4 HF3 HG3 HIQ HJQ
  generalize w3.drewN nq = w4 at *
  obtain ⟨ab, ao, rfl, _, _⟩ := HIA.out 0 (by omega)
  obtain ⟨bb, bo, rfl, _, _⟩ := HIB.out 0 (by omega)
  have hs1 := fun W => slice_toI ab ao A.length rac p (by omega) W
  have hs2 := fun W => slice_fromI bb bo B.length rbc q (by omega) hb1 W
  have hs3 := fun W => slice_toI bb bo B.length rbc q (by omega) W
  have hs4 := fun W => slice_fromI ab ao A.length rac p (by omega) ha1 W
  have HC1 := Lib.hid (fun W (G : Fut w W) => concat_two (some ⟨ab, ao, none⟩) (some ⟨bb, offK bo q rbc, none⟩) p (B.length - q) rac (rbc - q) (A.take p) (B.drop q) W ((HIA.out.fut G).take p) ((HIB.out.fut G).drop hb1) (by rw [List.length_take]; omega) List.length_drop (by omega) (by omega))
  have HC2 := Lib.hid (fun W (G : Fut w W) => concat_two (some ⟨bb, bo, none⟩) (some ⟨ab, offK ao p rac, none⟩) q (A.length - p) rbc (rac - p) (B.take q) (A.drop p) W ((HIB.out.fut G).take q) ((HIA.out.fut G).drop ha1) (by rw [List.length_take]; omega) List.length_drop (by omega) (by omega))
  generalize A.take p ++ B.drop q = L1 at *
  generalize B.take q ++ A.drop p = L2 at *
  have hw1s : w.heap.size < w1.heap.size := World.block_lt_of_cell? _ _ (HBX.out w1 Fut.rfl).1
  have hgs : ¬ g = w.heap.size := by omega
  have hgs2 : ¬ w.heap.size = g := by omega
  have HFW4 := Lib.hid (HFW.out.trans HF4.out)
  obtain ⟨b0, b1, b2⟩ := HBX.out w4 HF4.out
  have hbl := World.block_lt_of_cell? _ _ b0
  go_upto_region 4 with fail
  go_region_held3 (fun w' => w'.cell? ⟨w.heap.size, 0, none⟩ = some (.int .i64 (i : Int))) (first | exact y1 | exact b0 | go_keep)
    (first
      | (go_at_call 46; refine (HC1.out w4.drew (HFW4.out.trans (Fut.drewN w4 1))).mono ?_; rintro _ w5 ⟨v5, rfl, hO5, F5⟩; obtain ⟨l5, c5, rfl, _⟩ := hO5.ints; have FA5 : Fut w4 w5 := Fut.trans (Fut.drewN w4 1) F5; have y1 : w5.cell? ⟨w.heap.size, 0, none⟩ = some (.int .i64 (i : Int)) := (RowKit.Below.cell FA5 (p := ⟨w.heap.size, 0, none⟩) hbl).trans b0; have hR5 := (HG4.out.fut FA5).outer; have y2 := hR5.cell hi; have y3 := hR5.frozen i))
  have hG6 := (HG4.out.fut FA5).put (i := i) ((hO5.base (show g + 1 ≤ w4.drew.heap.size from HG4.out.outer.lt)))
  have hF6 : Fut w1 (w5.setCell ⟨g, i, none⟩ (.slice l5 L1.length c5)) := RowKit.Below.setCell (HF4.out.trans FA5) (p := ⟨g, i, none⟩) hg _
  clear y1 y2 y3 hR5 FA5 F5 hO5 b0 b1 b2 hbl
  generalize w5.setCell ⟨g, i, none⟩ (.slice l5 L1.length c5) = w6 at *
  have HG6 := Lib.hid hG6
  have HF6 := Lib.hid hF6
  have HFW6 := Lib.hid (HFW.out.trans hF6)
  clear hG6 hF6 HG4 HF4 HFW4
  obtain ⟨b0, b1, b2⟩ := HBX.out w6 HF6.out
  have hbl := World.block_lt_of_cell? _ _ b1
  go_upto_region 5 with fail
  go_region_held3 (fun w' => w'.cell? ⟨w.heap.size, 1, none⟩ = some (.int .i64 (j : Int))) (first | exact y1 | exact b1 | go_keep)
    (first
      | (go_at_call 46; refine (HC2.out w6.drew (HFW6.out.trans (Fut.drewN w6 1))).mono ?_; rintro _ w7 ⟨v7, rfl, hO7, F7⟩; obtain ⟨l7, c7, rfl, _⟩ := hO7.ints; have FA7 : Fut w6 w7 := Fut.trans (Fut.drewN w6 1) F7; have y1 : w7.cell? ⟨w.heap.size, 1, none⟩ = some (.int .i64 (j : Int)) := (RowKit.Below.cell FA7 (p := ⟨w.heap.size, 1, none⟩) hbl).trans b1; have hR7 := (HG6.out.fut FA7).outer; have y2 := hR7.cell hj; have y3 := hR7.frozen j))
  have hG8 := (HG6.out.fut FA7).put (i := j) ((hO7.base (show g + 1 ≤ w6.drew.heap.size from HG6.out.outer.lt)))
  have hF8 : Fut w1 (w7.setCell ⟨g, j, none⟩ (.slice l7 L2.length c7)) := RowKit.Below.setCell (HF6.out.trans FA7) (p := ⟨g, j, none⟩) hg _
  clear y1 y2 y3 hR7 FA7 F7 hO7 b0 b1 b2 hbl
  generalize w7.setCell ⟨g, j, none⟩ (.slice l7 L2.length c7) = w8 at *
  have HG8 := Lib.hid hG8
  have HF8 := Lib.hid hF8
  clear hG8 hF8
  go_wp2_with fail
  go_ret
  refine ⟨some ⟨g, 0, none⟩, F.length, rfl, Nat.le_refl _, by omega, ?_, HFW.out.trans HF8.out⟩
  have hL := HG8.out.lists
  have e : (List.range F.length).map (fun k => if k = j then L2 else if k = i then L1 else lth F k) = R := by
    rw [HEI.out]
    refine lth_ext (by simp) fun k hk => ?_
    have hk2 : k < F.length := by simpa using hk
    rw [lth_eq, List.getElem?_map, List.getElem?_range hk2]
    show (if k = j then L2 else if k = i then L1 else lth F k) = _
    by_cases ej : k = j
    · rw [if_pos ej, ej, lth_set_same _ _ _ (by simpa using hj)]
    · rw [if_neg ej, lth_set_ne _ _ _ _ (fun q => ej q.symm)]
      by_cases ei : k = i
      · rw [if_pos ei, ei, lth_set_same _ _ _ hi]
      · rw [if_neg ei, lth_set_ne _ _ _ _ (fun q => ei q.symm)]
  rw [e] at hL
  exact hL
end Go.Proofs.Ytflllkamdihfaaa
