/- Layer 2: the map that a town draws. -/
import Derived.Test.YtimddkofcejijaaSB
import Derived.Deep.OwnRows
import Derived.Laws.OwnMore
namespace Go.Proofs.Ytimddkofcejijaa
open Go.RowKit Go.Sort
abbrev tC (t : Nat → Int) : Array Value := #[.int .u8 (t 0), .int .u8 (t 1), .int .u8 (t 2), .int .u8 (t 3), .int .u8 (t 4), .int .u8 (t 5), .int .u8 (t 6), .int .u8 (t 7), .int .u8 (t 8), .int .u8 (t 9), .int .u8 (t 10), .int .u8 (t 11), .int .u8 (t 12), .int .u8 (t 13), .int .u8 (t 14), .int .u8 (t 15), .int .u8 (t 16), .int .u8 (t 17), .int .u8 (t 18), .int .u8 (t 19), .int .u8 (t 20), .int .u8 (t 21), .int .u8 (t 22), .int .u8 (t 23), .int .u8 (t 24), .int .u8 (t 25), .int .u8 (t 26)]
abbrev tV (t : Nat → Int) : Value := .agg (tC t)
def tOk (t : Nat → Int) : Prop := ∀ i, 0 ≤ t i ∧ t i ≤ 255
/-- the block b holds a town. -/
def BoxT (w : World) (b : Nat) (t : Nat → Int) : Prop := b < w.heap.size ∧ ∀ i, i < 27 → w.cell? ⟨b, i, none⟩ = some (.int .u8 (t i))
theorem tC_get (t : Nat → Int) (i : Nat) (h : i < 27) : (tC t)[i]? = some (.int .u8 (t i)) := by
  match i, h with
  | 0, _ => rfl | 1, _ => rfl | 2, _ => rfl | 3, _ => rfl | 4, _ => rfl | 5, _ => rfl | 6, _ => rfl | 7, _ => rfl | 8, _ => rfl
  | 9, _ => rfl | 10, _ => rfl | 11, _ => rfl | 12, _ => rfl | 13, _ => rfl | 14, _ => rfl | 15, _ => rfl | 16, _ => rfl | 17, _ => rfl
  | 18, _ => rfl | 19, _ => rfl | 20, _ => rfl | 21, _ => rfl | 22, _ => rfl | 23, _ => rfl | 24, _ => rfl | 25, _ => rfl | 26, _ => rfl
  | i + 27, h => omega
theorem BoxT.new (w : World) (t : Nat → Int) : BoxT (w.alloc (.cells (tC t) 60)) w.heap.size t := by
  refine ⟨by simp, fun i hi => ?_⟩
  rw [World.cell?_alloc_at _ _ _ _ rfl]
  exact tC_get t i hi
theorem BoxT.belowB {w w' : World} {b B : Nat} {t : Nat → Int} (h : BoxT w b t) (hB : b < B) (F : RowKit.Below B w w') : BoxT w' b t :=
  ⟨Nat.lt_of_lt_of_le h.1 (RowKit.Below.size F), fun i hi => (RowKit.Below.cell F (p := ⟨b, i, none⟩) hB).trans (h.2 i hi)⟩
theorem slice9 (k : Nat) (hk : k ≤ 9) (B : Nat) (w : World) : (Instr.sliceAt 58 (.pointer (some ⟨B, 9, none⟩)) none (some (.int .i64 k)) none).run Try.prog w = .ok (.slice (some ⟨B, 9, none⟩) k 9) w := by
  have h0 : ∀ B w, (Instr.sliceAt 58 (.pointer (some ⟨B, 9, none⟩)) none (some (.int .i64 0)) none).run Try.prog w = .ok (.slice (some ⟨B, 9, none⟩) 0 9) w := fun _ _ => by kernel_rfl
  have h1 : ∀ B w, (Instr.sliceAt 58 (.pointer (some ⟨B, 9, none⟩)) none (some (.int .i64 1)) none).run Try.prog w = .ok (.slice (some ⟨B, 9, none⟩) 1 9) w := fun _ _ => by kernel_rfl
  have h2 : ∀ B w, (Instr.sliceAt 58 (.pointer (some ⟨B, 9, none⟩)) none (some (.int .i64 2)) none).run Try.prog w = .ok (.slice (some ⟨B, 9, none⟩) 2 9) w := fun _ _ => by kernel_rfl
  have h3 : ∀ B w, (Instr.sliceAt 58 (.pointer (some ⟨B, 9, none⟩)) none (some (.int .i64 3)) none).run Try.prog w = .ok (.slice (some ⟨B, 9, none⟩) 3 9) w := fun _ _ => by kernel_rfl
  have h4 : ∀ B w, (Instr.sliceAt 58 (.pointer (some ⟨B, 9, none⟩)) none (some (.int .i64 4)) none).run Try.prog w = .ok (.slice (some ⟨B, 9, none⟩) 4 9) w := fun _ _ => by kernel_rfl
  have h5 : ∀ B w, (Instr.sliceAt 58 (.pointer (some ⟨B, 9, none⟩)) none (some (.int .i64 5)) none).run Try.prog w = .ok (.slice (some ⟨B, 9, none⟩) 5 9) w := fun _ _ => by kernel_rfl
  have h6 : ∀ B w, (Instr.sliceAt 58 (.pointer (some ⟨B, 9, none⟩)) none (some (.int .i64 6)) none).run Try.prog w = .ok (.slice (some ⟨B, 9, none⟩) 6 9) w := fun _ _ => by kernel_rfl
  have h7 : ∀ B w, (Instr.sliceAt 58 (.pointer (some ⟨B, 9, none⟩)) none (some (.int .i64 7)) none).run Try.prog w = .ok (.slice (some ⟨B, 9, none⟩) 7 9) w := fun _ _ => by kernel_rfl
  have h8 : ∀ B w, (Instr.sliceAt 58 (.pointer (some ⟨B, 9, none⟩)) none (some (.int .i64 8)) none).run Try.prog w = .ok (.slice (some ⟨B, 9, none⟩) 8 9) w := fun _ _ => by kernel_rfl
  have h9 : ∀ B w, (Instr.sliceAt 58 (.pointer (some ⟨B, 9, none⟩)) none (some (.int .i64 9)) none).run Try.prog w = .ok (.slice (some ⟨B, 9, none⟩) 9 9) w := fun _ _ => by kernel_rfl
  match k, hk with
  | 0, _ => exact h0 B w
  | 1, _ => exact h1 B w
  | 2, _ => exact h2 B w
  | 3, _ => exact h3 B w
  | 4, _ => exact h4 B w
  | 5, _ => exact h5 B w
  | 6, _ => exact h6 B w
  | 7, _ => exact h7 B w
  | 8, _ => exact h8 B w
  | 9, _ => exact h9 B w
  | k + 10, h => exact absurd h (by omega)
/-- the first streets of a map join each corner to a smaller one. -/
def TreeL (c : Nat) (tr : List (Int × Int)) : Prop := tr.length = c ∧ ∀ k, k < c → (str tr k).2 = ((k + 1 : Nat) : Int) ∧ 0 ≤ (str tr k).1 ∧ (str tr k).1 ≤ k
/-- a map of so many corners whose first streets are such, and all others are streets. -/
def MadeP (n : Nat) (ss : List (Int × Int)) : Prop := ∃ tr rest, ss = tr ++ rest ∧ TreeL (n - 1) tr ∧ ∀ p ∈ rest, 0 ≤ p.1 ∧ p.1 < p.2 ∧ p.2 < n
theorem Owns.belowB {w w' : World} {B0 B g n : Nat} {L : List Int} (h : Owns w B0 (.slice (some ⟨g, 0, none⟩) n n) L) (hg : g < B) (F : RowKit.Below B w w') : Owns w' B0 (.slice (some ⟨g, 0, none⟩) n n) L := by
  obtain ⟨h1, h2⟩ := h
  refine ⟨h1, ?_⟩
  rcases h2 with h2 | ⟨g', cap, cur, h3, h4, h5, h6⟩
  · exact .inl h2
  · simp at h3
    obtain ⟨rfl, e1, e2⟩ := h3
    exact .inr ⟨g, cap, cur, by rw [← e1, ← e2], h4, by rw [F.block g hg]; exact h5, h6⟩
theorem TreeL.nil : TreeL 0 [] := ⟨rfl, fun k hk => absurd hk (by omega)⟩
theorem TreeL.snoc {k : Nat} {tr : List (Int × Int)} (h : TreeL k tr) {b : Int} (h0 : 0 ≤ b) (hb : b ≤ k) : TreeL (k + 1) (tr ++ [(b, ((k + 1 : Nat) : Int))]) := by
  obtain ⟨h1, h2⟩ := h
  refine ⟨by simp [h1], fun j hj => ?_⟩
  by_cases hlt : j < k
  · have e : str (tr ++ [(b, ((k + 1 : Nat) : Int))]) j = str tr j := by rw [str_eq, str_eq, List.getElem?_append_left (by omega)]
    rw [e]; exact h2 j hlt
  · obtain rfl : j = k := by omega
    have e : str (tr ++ [(b, ((j + 1 : Nat) : Int))]) j = (b, ((j + 1 : Nat) : Int)) := by rw [str_eq, ← h1, List.getElem?_append_right (Nat.le_refl _)]; simp
    rw [e]; exact ⟨rfl, h0, hb⟩
/-- the depths. -/
def DepL (ds : List Int) (n k : Nat) : Prop := ds.length = n ∧ ∀ j, 0 ≤ nth ds j ∧ nth ds j ≤ k
theorem DepL.zero (n : Nat) : DepL (oftL n []) n 0 := by
  refine ⟨oft_len _ _, fun j => ?_⟩
  by_cases h : j < n
  · rw [oft_nth _ _ _ h]; simp
  · rw [nth_eq, List.getElem?_eq_none (by rw [oft_len]; omega)]; simp
theorem DepL.set {ds : List Int} {n k : Nat} (h : DepL ds n k) (i : Nat) {x : Int} (h0 : 0 ≤ x) (h1 : x ≤ k + 1) : DepL (ds.set i x) n (k + 1) := by
  refine ⟨by rw [List.length_set]; exact h.1, fun j => ?_⟩
  have hj := h.2 j
  rw [nth_eq] at hj ⊢
  rw [List.getElem?_set]
  split
  · split
    · simp; omega
    · simp; omega
  · omega
theorem BoxT.fut {w w' : World} {b : Nat} {t : Nat → Int} (h : BoxT w b t) (F : Fut w w') : BoxT w' b t := h.belowB h.1 F
theorem OwnP.fut {w w' : World} {B : Nat} {v : Value} {ss : List (Int × Int)} (h : OwnP w B v ss) (F : Fut w w') : OwnP w' B v ss := by
  obtain ⟨h1, h2⟩ := h
  refine ⟨h1, ?_⟩
  rcases h2 with h2 | ⟨g, cap, cur, h3, h4, h5, h6⟩
  · exact .inl h2
  · exact .inr ⟨g, cap, cur, h3, h4, by rw [F.block g (Array.getElem?_eq_some_iff.1 h5).1]; exact h5, h6⟩
set_option maxRecDepth 100000 in
set_option maxHeartbeats 8000000 in
theorem made_any (t : Nat → Int) (corners most : Nat) (w : World) (ht : tOk t) (hc : 1 ≤ corners ∧ corners ≤ 6) (hm : 5 ≤ most ∧ most ≤ 9) :
    Calls Try.prog 39 #[tV t, .int .i64 corners, .int .i64 most] w fun e w' => ∃ (n : Nat) (ss : List (Int × Int)) (l : Option Addr) (lc : Nat), e = .returned (mapV n l ss.length lc) ∧ StrAt w' l ss ∧ Fut w w' ∧ 1 ≤ n ∧ n ≤ corners ∧ MadeP n ss ∧ ss.length ≤ most := by
  obtain ⟨i0, hi0, hz0, hz1, hz2⟩ := info_parts info65
  have HT := Lib.hid ht
  obtain ⟨hc1, hc2⟩ := hc
  have hcx1 : (1 : Int) ≤ corners := by omega
  have hcx2 : (corners : Int) ≤ 6 := by omega
  have hmx : (most : Int) ≤ 9 := by omega
  have h00 := ht 0
  obtain ⟨q0, hq0⟩ := Int.eq_ofNat_of_zero_le h00.1
  have hq255 : q0 ≤ 255 := by omega
  obtain ⟨n, hn⟩ : ∃ n, n = 1 + q0 % corners := ⟨_, rfl⟩
  have hn6 : n ≤ corners := by have := Nat.mod_lt q0 (show 0 < corners by omega); omega
  have hn1 : 1 ≤ n := by omega
  have hwn : wrap64 (1 + (q0 : Int) % (corners : Int)) = (n : Int) := by
    rw [hn]
    have h1 : (q0 : Int) % (corners : Int) = ((q0 % corners : Nat) : Int) := by simp
    have h2 := Nat.mod_lt q0 (show 0 < corners by omega)
    rw [h1]
    unfold wrap64
    omega
  have hmk := run_make_row' (P := Try.prog) 25 3 (.int .i64 0) 8 Try.underlying25 info3 rfl .i64 .i64 n (by omega) (by omega)
  clear ht hn
  go_enter Try.func39, Try.ntmps39
  go_wp2_with fail
  rw [hwn]
  have hB0 := BoxT.new w t
  have hF1 : Fut w (w.alloc (.cells (tC t) 60)) := Fut.alloc _ _
  have hs1 : (w.alloc (.cells (tC t) 60)).heap.size = w.heap.size + 1 := by simp
  generalize w.alloc (.cells (tC t) 60) = W1 at *
  have hR0 := BoxW.new W1 (.int .i64 0) (.slice none 0 0) 24
  have hF2 : Fut W1 (W1.alloc (.cells #[.int .i64 0, .slice none 0 0] 24)) := Fut.alloc _ _
  have hs2 : (W1.alloc (.cells #[.int .i64 0, .slice none 0 0] 24)).heap.size = W1.heap.size + 1 := by simp
  generalize W1.alloc (.cells #[.int .i64 0, .slice none 0 0] 24) = W2 at *
  have hM0 := BoxW.new W2 (.int .i64 n) (.slice none 0 0) 24
  have hF3 : Fut W2 (W2.alloc (.cells #[.int .i64 n, .slice none 0 0] 24)) := Fut.alloc _ _
  have hs3 : (W2.alloc (.cells #[.int .i64 n, .slice none 0 0] 24)).heap.size = W2.heap.size + 1 := by simp
  generalize W2.alloc (.cells #[.int .i64 n, .slice none 0 0] 24) = W3 at *
  have hD0 := made_own W3 n (by omega)
  have hF4 : Fut W3 (W3.alloc (.cells (madeCells #[Value.int .i64 0] n) 3)) := Fut.alloc _ _
  have hs4 : (W3.alloc (.cells (madeCells #[Value.int .i64 0] n) 3)).heap.size = W3.heap.size + 1 := by simp
  generalize W3.alloc (.cells (madeCells #[Value.int .i64 0] n) 3) = W4 at *
  rw [hs1] at hs2 hR0
  rw [hs2] at hs3 hM0
  rw [hs3] at hs4 hD0
  generalize hHH : w.heap.size = H at *
  have HH := Lib.hid (Nat.le_of_eq hHH)
  have HB0 := Lib.hid (((hB0.fut hF2).fut hF3).fut hF4)
  have HR0 := Lib.hid ((hR0.fut hF3).fut hF4)
  have HM0 := Lib.hid (hM0.fut hF4)
  have HD0 := Lib.hid hD0
  have HF0 := Lib.hid (((hF1.trans hF2).trans hF3).trans hF4)
  have HZ0 : Hid (H + 1 + 1 + 1 + 1 ≤ W4.heap.size) := Lib.hid (by omega)
  have HDL0 := Lib.hid (DepL.zero n)
  generalize oftL n [] = ds0 at *
  have hnx : (n : Int) ≤ 6 := by omega
  have hnx1 : (1 : Int) ≤ n := by omega
  clear hB0 hF1 hs1 hR0 hF2 hs2 hM0 hF3 hs3 hD0 hF4 hs4 hHH hmk hwn
  go_loopw [10] (fun cv wr => ∃ (k : Nat) (tr : List (Int × Int)) (v : Value) (ds : List Int), k + 1 ≤ n ∧ cv = .int .i64 ((k + 1 : Nat) : Int) ∧ Hid (TreeL k tr) ∧ Hid (OwnP wr (H + 1 + 1 + 1 + 1) v tr) ∧ Hid (BoxT wr H t) ∧ Hid (BoxW wr (H + 1) (.int .i64 0) (.slice none 0 0)) ∧ Hid (BoxW wr (H + 1 + 1) (.int .i64 n) v) ∧ Hid (Owns wr (H + 1 + 1 + 1) (.slice (some ⟨H + 1 + 1 + 1, 0, none⟩) n n) ds) ∧ Hid (DepL ds n k) ∧ Hid (Fut w wr) ∧ Hid (H + 1 + 1 + 1 + 1 ≤ wr.heap.size)) (fun cv _ => n - (intOf cv).toNat)
  case atStart => exact ⟨0, [], .slice none 0 0, ds0, hn1, rfl, Lib.hid TreeL.nil, Lib.hid (World.ownsRow_nil _ _ _ _), HB0, HR0, HM0, HD0, HDL0, HF0, HZ0⟩
  case round =>
    obtain ⟨k, tr, v, ds, hk, rfl, HTR, HOP, HBT, HBR, HBM, HOD, HDL, HF, HZ⟩ := hrel
    by_cases hlt : k + 1 < n
    · have hkx : ((k + 1 : Nat) : Int) < n := by omega
      have c0 := HBT.out.2 (3 + (k + 1)) (by omega)
      have h0 := HT.out (3 + (k + 1))
      obtain ⟨x, hx⟩ := Int.eq_ofNat_of_zero_le h0.1
      rw [hx] at c0
      have hx255 : (x : Int) ≤ 255 := by omega
      obtain ⟨b, hb⟩ : ∃ b, b = x % (k + 1) := ⟨_, rfl⟩
      have hbk : b ≤ k := by have := Nat.mod_lt x (show 0 < k + 1 by omega); omega
      have hwb : (x : Int) % ((k + 1 : Nat) : Int) = (b : Int) := by rw [hb]; simp
      obtain ⟨hm1, m0, m1, m2, m3⟩ := HBM.out
      obtain ⟨d0, d1, d2⟩ := own_at HOD.out HDL.out.1 b (by omega)
      obtain ⟨e0, e1, _⟩ := own_at HOD.out HDL.out.1 (k + 1) (by omega)
      have hdb := HDL.out.2 b
      have hbt := HBT.out.1
      generalize nth ds b = y at *
      generalize nth ds (k + 1) = z at *
      generalize hK : k + 1 = K at *
      clear hx h0 hb
      have HXK := Lib.hid hwb
      have htl : tr.length ≤ 1000 := by have := HTR.out.1; omega
      have hown0 : wr.ownsRow (H + 1 + 1 + 1 + 1) 65 2 v tr.length (flatP tr) := HOP.out
      have hblw : RowKit.Below (H + 1 + 1 + 1) wr (wr.setCell ⟨H + 1 + 1 + 1, K, none⟩ (.int .i64 (y + 1))) := (RowKit.Below.refl _ wr).setCell (p := ⟨H + 1 + 1 + 1, K, none⟩) (Nat.le_refl _) _
      have hown1 : (wr.setCell ⟨H + 1 + 1 + 1, K, none⟩ (.int .i64 (y + 1))).ownsRow (H + 1 + 1 + 1 + 1) 65 2 v tr.length (flatP tr) := ownsRow_setCell_below hown0 (a := ⟨H + 1 + 1 + 1, K, none⟩) (by show H + 1 + 1 + 1 < _; omega) _
      have HO1 := Lib.hid hown1
      have HB1 := Lib.hid (HBT.out.belowB (by omega) hblw)
      have HR1 := Lib.hid (HBR.out.belowB (by omega) hblw)
      have HM1 := Lib.hid (HBM.out.belowB (by omega) hblw)
      have HD1 := Lib.hid (own_set HOD.out HDL.out.1 K (y + 1))
      have HDL1 := Lib.hid (HDL.out.set K (x := y + 1) (by omega) (by omega))
      have HF1 : Hid (Fut w (wr.setCell ⟨H + 1 + 1 + 1, K, none⟩ (.int .i64 (y + 1)))) := Lib.hid (HF.out.trans' hblw (by have := HH.out; omega))
      have HZ1 : Hid (H + 1 + 1 + 1 + 1 ≤ (wr.setCell ⟨H + 1 + 1 + 1, K, none⟩ (.int .i64 (y + 1))).heap.size) := Lib.hid (by simpa using HZ.out)
      clear hown0 hown1 hblw
      go_upto_region 9 with fail
      rw [HXK.out]
      generalize wr.setCell ⟨H + 1 + 1 + 1, K, none⟩ (.int .i64 (y + 1)) = w1 at *
      have hzw : H + 1 + 1 + 1 + 1 ≤ w1.heap.size := HZ1.out
      obtain ⟨hm1', m0', m1', m2', m3'⟩ := HM1.out
      clear hm1 m0 m1 m2 m3 d0 d1 d2 e0 e1 c0 hwb
      go_wp2_with (at_builtin; refine wpList_app _ rfl _ _ 22 rfl (H + 1 + 1 + 1 + 1) 65 i0 (.agg #[.int .i64 0, .int .i64 0]) 2 16 Try.underlying22 hi0 hz0 hz1 hz2 rfl (by decide) _ _ _ rfl (HO1.out.alloc _) ⟨w1.heap.size, 0, none⟩ 1 1 [.int .i64 (b : Int), .int .i64 (K : Int)] rfl (by decide) rfl ?c1 ?c2 ?c3 ?c4 ?c5 ?_)
      case c1 => exact World.news_of_block (cs := #[.int .i64 (b : Int), .int .i64 (K : Int)]) (t := 65) (fr := (0, 0)) (heap_alloc_new _ _)
      case c2 => intro u hu; simp at hu; rcases hu with rfl | rfl <;> rfl
      case c3 => exact maxL (by omega)
      case c4 => omega
      case c5 => simp; omega
      · intro v' w2 hown' hgrow _
        have hBel : RowKit.Below (H + 1 + 1 + 1 + 1) w1 w2 := (RowKit.Below.alloc (RowKit.Below.refl _ _) hzw _).grown hgrow (by simp; omega) (fun i hi => (HO1.out.lt i hi).1)
        have HO2 : Hid (OwnP w2 (H + 1 + 1 + 1 + 1) v' (tr ++ [((b : Int), (K : Int))])) := Lib.hid (by unfold OwnP; rw [flatP_app, List.length_append]; exact hown')
        have HB2 := Lib.hid (HB1.out.belowB (by omega) hBel)
        have HR2 := Lib.hid (HR1.out.belowB (by omega) hBel)
        have hM2 := HM1.out.belowB (by omega) hBel
        have HD2 := Lib.hid (HD1.out.belowB (by omega) hBel)
        have HF2 : Hid (Fut w w2) := Lib.hid (HF1.out.trans' hBel (by have := HH.out; omega))
        have HZ2 := Lib.hid (Nat.le_trans hzw (RowKit.Below.size hBel))
        have HM2 := Lib.hid hM2
        obtain ⟨n0, n1, n2, n3, n4⟩ := hM2
        have hblw : RowKit.Below (H + 1 + 1) w2 (w2.setCell ⟨H + 1 + 1, 1, none⟩ v') := (RowKit.Below.refl _ w2).setCell (p := ⟨H + 1 + 1, 1, none⟩) (Nat.le_refl _) _
        have HO3 : Hid (OwnP (w2.setCell ⟨H + 1 + 1, 1, none⟩ v') (H + 1 + 1 + 1 + 1) v' (tr ++ [((b : Int), (K : Int))])) := Lib.hid (ownsRow_setCell_below HO2.out (a := ⟨H + 1 + 1, 1, none⟩) (by show H + 1 + 1 < _; omega) _)
        have HB3 := Lib.hid (HB2.out.belowB (by omega) hblw)
        have HR3 := Lib.hid (HR2.out.belowB (by omega) hblw)
        have HM3 := Lib.hid (HM2.out.set v')
        have HD3 : Hid (Owns (w2.setCell ⟨H + 1 + 1, 1, none⟩ v') (H + 1 + 1 + 1) (.slice (some ⟨H + 1 + 1 + 1, 0, none⟩) n n) (ds.set K (y + 1))) := Lib.hid (ownsRow_setCell_below HD2.out (a := ⟨H + 1 + 1, 1, none⟩) (by show H + 1 + 1 < _; omega) _)
        have HF3 : Hid (Fut w (w2.setCell ⟨H + 1 + 1, 1, none⟩ v')) := Lib.hid (HF2.out.trans' hblw (by have := HH.out; omega))
        have HZ3 : Hid (H + 1 + 1 + 1 + 1 ≤ (w2.setCell ⟨H + 1 + 1, 1, none⟩ v').heap.size) := Lib.hid (by simpa using HZ2.out)
        have HTR2 : Hid (TreeL (k + 1) (tr ++ [((b : Int), (K : Int))])) := Lib.hid (by rw [← hK]; exact HTR.out.snoc (by omega) (by omega))
        obtain ⟨l', n', c', hv'⟩ : ∃ l' n' c', v' = .slice l' n' c' := by obtain ⟨a', c', e, _⟩ := HO2.out.str; exact ⟨_, _, _, e⟩
        subst hv'
        clear hown' hgrow hBel hblw HB2 HR2 HD2 HF2 HZ2 HO2 m0' m1' m2' m3' hm1'
        go_wp2
        go_roundw
        case rel => exact ⟨k + 1, tr ++ [((b : Int), (K : Int))], .slice l' n' c', ds.set K (y + 1), by omega, by rw [← hK]; go_num, HTR2, HO3, HB3, HR3, HM3, HD3, HDL1, HF3, HZ3⟩
        case measure => simp [intOf]; omega
    · obtain rfl : n = k + 1 := by omega
      have c1 := HBT.out.2 1 (by omega)
      have h1 := HT.out 1
      obtain ⟨q1, hq1⟩ := Int.eq_ofNat_of_zero_le h1.1
      rw [hq1] at c1
      obtain ⟨m', hm'⟩ : ∃ m', m' = q1 % 10 := ⟨_, rfl⟩
      have hm9 : m' ≤ 9 := by omega
      have hwm : (q1 : Int) % 10 = (m' : Int) := by rw [hm']; simp
      have hsl := fun W => slice9 m' hm9 H W
      have hbt := HBT.out.1
      have hq255' : (q1 : Int) ≤ 255 := by omega
      have hkn : ¬ ((k + 1 : Nat) : Int) < ((k + 1 : Nat) : Int) := by omega
      generalize hN : k + 1 = n at *
      have HMS := Lib.hid hm
      have htn : tr.length ≤ most := by have := HTR.out.1; have := HMS.out.1; omega
      clear hq1 h1 hm'
      go_upto_region 10 with fail
      go_wp2_with fail
      have HDL2 := Lib.hid HDL.out.2
      have HDLn := Lib.hid HDL.out.1
      have hmx5 : (m' : Int) ≤ 9 := by omega
      have hkk : k ≤ 5 := by omega
      have HI0 := Lib.hid hi0
      have HZI0 := Lib.hid hz0
      have HZI1 := Lib.hid hz1
      have HZI2 := Lib.hid hz2
      clear c1 hwm hsl hbt hkn hz0 hz1 hz2 hi0
      go_loopw [61] (fun iv wr => ∃ (j : Nat) (rest : List (Int × Int)) (v2 : Value), j ≤ m' ∧ iv = .int .i64 j ∧ Hid (∀ p ∈ rest, 0 ≤ p.1 ∧ p.1 < p.2 ∧ p.2 < (n : Int)) ∧ Hid ((tr ++ rest).length ≤ most) ∧ Hid (OwnP wr (H + 1 + 1 + 1 + 1) v2 (tr ++ rest)) ∧ Hid (BoxT wr H t) ∧ Hid (BoxW wr (H + 1) (.int .i64 0) (.slice none 0 0)) ∧ Hid (BoxW wr (H + 1 + 1) (.int .i64 n) v2) ∧ Hid (Owns wr (H + 1 + 1 + 1) (.slice (some ⟨H + 1 + 1 + 1, 0, none⟩) n n) ds) ∧ Hid (Fut w wr) ∧ Hid (H + 1 + 1 + 1 + 1 ≤ wr.heap.size)) (fun iv _ => m' - (intOf iv).toNat)
      case atStart => exact ⟨0, [], v, Nat.zero_le _, rfl, Lib.hid (fun p hp => by cases hp), Lib.hid (by simpa using htn), Lib.hid (by simpa using HOP.out), HBT, HBR, HBM, HOD, HF, HZ⟩
      case round =>
        clear HBT HBR HBM HOD HF HZ HOP
        obtain ⟨j, rest, v2, hj, rfl, HRP, HRL, HOP, HBT, HBR, HBM, HOD, HF, HZ⟩ := hrel
        by_cases hjt : j < m'
        · have hjx : (j : Int) < m' := by omega
          have c3 := HBT.out.2 (9 + j * 2) (by omega)
          have c4 := HBT.out.2 (9 + j * 2 + 1) (by omega)
          have h3 := HT.out (9 + j * 2)
          have h4 := HT.out (9 + j * 2 + 1)
          obtain ⟨x, hx⟩ := Int.eq_ofNat_of_zero_le h3.1
          obtain ⟨y, hy⟩ := Int.eq_ofNat_of_zero_le h4.1
          rw [hx] at c3
          rw [hy] at c4
          have hx255 : (x : Int) ≤ 255 := by omega
          have hy255 : (y : Int) ≤ 255 := by omega
          have hbt := HBT.out.1
          obtain ⟨a, ha⟩ : ∃ a, a = x % n := ⟨_, rfl⟩
          obtain ⟨b, hb⟩ : ∃ b, b = y % n := ⟨_, rfl⟩
          have han : a < n := by rw [ha]; exact Nat.mod_lt _ (by omega)
          have hbn : b < n := by rw [hb]; exact Nat.mod_lt _ (by omega)
          have HWA : Hid ((x : Int) % (n : Int) = (a : Int)) := Lib.hid (by rw [ha]; simp)
          have HWB : Hid ((y : Int) % (n : Int) = (b : Int)) := Lib.hid (by rw [hb]; simp)
          have hn0 : ((n : Int) == 0) = false := by rw [beq_eq_false_iff_ne]; omega
          clear hx hy h3 h4 ha hb
          go_wp2_with fail
          go_quiet (fail)
          have hF5 : Fut wr ((wr.alloc (.cells #[.int .u8 (x : Int), .int .u8 (y : Int)] 57)).drewN nq) := (Fut.alloc _ _).trans (Fut.drewN _ _)
          rw [HWA.out, HWB.out]
          generalize (wr.alloc (.cells #[.int .u8 (x : Int), .int .u8 (y : Int)] 57)).drewN nq = w5 at *
          obtain ⟨l2, c2, hv2, _⟩ := HOP.out.str
          subst hv2
          have HNL : Hid ((tr ++ rest).length ≤ most) := HRL
          generalize hN2 : (tr ++ rest).length = N2 at *
          have hNL : N2 ≤ most := HNL.out
          have HN2 := Lib.hid hN2
          have HRL0 : Hid ((tr ++ rest).length ≤ most) := Lib.hid (by rw [HN2.out]; exact hNL)
          clear hN2
          have HB5 := Lib.hid (HBT.out.fut hF5)
          have HR5 := Lib.hid (HBR.out.fut hF5)
          have HM5 := Lib.hid (HBM.out.fut hF5)
          have HD5 := Lib.hid (HOD.out.fut hF5)
          have HO5 : Hid (OwnP w5 (H + 1 + 1 + 1 + 1) (.slice l2 N2 c2) (tr ++ rest)) := Lib.hid (OwnP.fut HOP.out hF5)
          have HF5 := Lib.hid (HF.out.trans hF5)
          have HZ5 := Lib.hid (Nat.le_trans HZ.out (RowKit.Below.size hF5))
          obtain ⟨hm1, m0, m1, m2, m3⟩ := HM5.out
          obtain ⟨d0, d1, d2⟩ := own_at HD5.out HDLn.out a han
          obtain ⟨e0, e1, e2⟩ := own_at HD5.out HDLn.out b hbn
          have hda := HDL2.out a
          have hdb := HDL2.out b
          have f2 := HB5.out.2 2 (by omega)
          have hb2 := HB5.out.1
          have h2 := HT.out 2
          obtain ⟨q2, hq2⟩ := Int.eq_ofNat_of_zero_le h2.1
          rw [hq2] at f2
          have hq2255 : (q2 : Int) ≤ 255 := by omega
          generalize nth ds a = da at *
          generalize nth ds b = db at *
          have hax : (a : Int) < n := by omega
          have hbx : (b : Int) < n := by omega
          clear hF5 HBT HBR HBM HOD HOP HF HZ c3 c4 hbt hq2 h2
          by_cases hab : a = b
          · have hab' : ((a : Int) == (b : Int)) = true := by rw [hab]; simp
            go_wp2_with fail
            go_quiet (fail)
            have HFQ : Fut w5 (w5.drewN nq) := Fut.drewN _ _
            have HB6 := Lib.hid (HB5.out.fut HFQ)
            have HR6 := Lib.hid (HR5.out.fut HFQ)
            have HM6 := Lib.hid (HM5.out.fut HFQ)
            have HD6 := Lib.hid (HD5.out.fut HFQ)
            have HO6 : Hid (OwnP (w5.drewN nq) (H + 1 + 1 + 1 + 1) (.slice l2 N2 c2) (tr ++ rest)) := Lib.hid (OwnP.fut HO5.out HFQ)
            have HF6 := Lib.hid (HF5.out.trans HFQ)
            have HZ6 : Hid (H + 1 + 1 + 1 + 1 ≤ (w5.drewN nq).heap.size) := Lib.hid HZ5.out
            generalize w5.drewN nq = w6 at *
            clear HFQ m0 m1 m2 m3 hm1 d0 d1 d2 e0 e1 e2 f2
            go_wp2
            go_roundw
            case rel => exact ⟨j + 1, rest, .slice l2 N2 c2, by omega, by go_num, HRP, HRL0, HO6, HB6, HR6, HM6, HD6, HF6, HZ6⟩
            case measure => simp [intOf]; omega
          · have hab' : ((a : Int) == (b : Int)) = false := by rw [beq_eq_false_iff_ne]; omega
            by_cases hge : most ≤ N2
            · have hge' : decide ((most : Int) ≤ (N2 : Int)) = true := by rw [decide_eq_true_eq]; omega
              go_wp2_with fail
              go_quiet (fail)
              have HFQ : Fut w5 (w5.drewN nq) := Fut.drewN _ _
              have HB6 := Lib.hid (HB5.out.fut HFQ)
              have HR6 := Lib.hid (HR5.out.fut HFQ)
              have HM6 := Lib.hid (HM5.out.fut HFQ)
              have HD6 := Lib.hid (HD5.out.fut HFQ)
              have HO6 : Hid (OwnP (w5.drewN nq) (H + 1 + 1 + 1 + 1) (.slice l2 N2 c2) (tr ++ rest)) := Lib.hid (OwnP.fut HO5.out HFQ)
              have HF6 := Lib.hid (HF5.out.trans HFQ)
              have HZ6 : Hid (H + 1 + 1 + 1 + 1 ≤ (w5.drewN nq).heap.size) := Lib.hid HZ5.out
              generalize w5.drewN nq = w6 at *
              clear HFQ m0 m1 m2 m3 hm1 d0 d1 d2 e0 e1 e2 f2
              go_wp2
              go_roundw
              case rel => exact ⟨j + 1, rest, .slice l2 N2 c2, by omega, by go_num, HRP, HRL0, HO6, HB6, HR6, HM6, HD6, HF6, HZ6⟩
              case measure => simp [intOf]; omega
            · have hge' : decide ((most : Int) ≤ (N2 : Int)) = false := by rw [decide_eq_false_iff_not]; omega
              have hge2 : ¬ (most : Int) ≤ (N2 : Int) := by omega
              by_cases hev : (q2 : Int) % 2 = 1
              · have hev' : ((q2 : Int) % 2 == 1) = true := by rw [beq_iff_eq]; exact hev
                by_cases hpa : (da + db) % 2 = 0
                · have hpa' : ((da + db) % 2 == 0) = true := by rw [beq_iff_eq]; exact hpa
                  go_wp2_with fail
                  go_quiet (fail)
                  have HFQ : Fut w5 (w5.drewN nq) := Fut.drewN _ _
                  have HB6 := Lib.hid (HB5.out.fut HFQ)
                  have HR6 := Lib.hid (HR5.out.fut HFQ)
                  have HM6 := Lib.hid (HM5.out.fut HFQ)
                  have HD6 := Lib.hid (HD5.out.fut HFQ)
                  have HO6 : Hid (OwnP (w5.drewN nq) (H + 1 + 1 + 1 + 1) (.slice l2 N2 c2) (tr ++ rest)) := Lib.hid (OwnP.fut HO5.out HFQ)
                  have HF6 := Lib.hid (HF5.out.trans HFQ)
                  have HZ6 : Hid (H + 1 + 1 + 1 + 1 ≤ (w5.drewN nq).heap.size) := Lib.hid HZ5.out
                  generalize w5.drewN nq = w6 at *
                  clear HFQ m0 m1 m2 m3 hm1 d0 d1 d2 e0 e1 e2 f2
                  go_wp2
                  go_roundw
                  case rel => exact ⟨j + 1, rest, .slice l2 N2 c2, by omega, by go_num, HRP, HRL0, HO6, HB6, HR6, HM6, HD6, HF6, HZ6⟩
                  case measure => simp [intOf]; omega
                · have hpa' : ((da + db) % 2 == 0) = false := by rw [beq_eq_false_iff_ne]; exact hpa
                  go_wp2_with fail
                  go_quiet (fail)
                  have HFQ : Fut w5 (w5.drewN nq) := Fut.drewN _ _
                  have HB6 := Lib.hid (HB5.out.fut HFQ)
                  have HR6 := Lib.hid (HR5.out.fut HFQ)
                  have HM6 := Lib.hid (HM5.out.fut HFQ)
                  have HD6 := Lib.hid (HD5.out.fut HFQ)
                  have HO6 : Hid (OwnP (w5.drewN nq) (H + 1 + 1 + 1 + 1) (.slice l2 N2 c2) (tr ++ rest)) := Lib.hid (OwnP.fut HO5.out HFQ)
                  have HF6 := Lib.hid (HF5.out.trans HFQ)
                  have HZ6 : Hid (H + 1 + 1 + 1 + 1 ≤ (w5.drewN nq).heap.size) := Lib.hid HZ5.out
                  generalize w5.drewN nq = w6 at *
                  clear HFQ m0 m1 m2 m3 hm1 d0 d1 d2 e0 e1 e2 f2
                  have hzw : H + 1 + 1 + 1 + 1 ≤ w6.heap.size := HZ6.out
                  obtain ⟨hm1', m0', m1', m2', m3'⟩ := HM6.out
                  have hown0 : w6.ownsRow (H + 1 + 1 + 1 + 1) 65 2 (.slice l2 N2 c2) N2 (flatP (tr ++ rest)) := by have h := HO6.out; unfold OwnP at h; rw [HN2.out] at h; exact h
                  have HOW := Lib.hid hown0
                  have hmin : min (a : Int) (b : Int) = ((min a b : Nat) : Int) := by omega
                  have hmax : max (a : Int) (b : Int) = ((max a b : Nat) : Int) := by omega
                  clear hown0
                  go_wp2_with (at_builtin; refine wpList_app _ rfl _ _ 22 rfl (H + 1 + 1 + 1 + 1) 65 i0 (.agg #[.int .i64 0, .int .i64 0]) 2 16 Try.underlying22 HI0.out HZI0.out HZI1.out HZI2.out rfl (by decide) _ _ _ rfl (HOW.out.alloc _) ⟨w6.heap.size, 0, none⟩ 1 1 [.int .i64 ((min a b : Nat) : Int), .int .i64 ((max a b : Nat) : Int)] rfl (by decide) rfl ?c1 ?c2 ?c3 ?c4 ?c5 ?_)
                  case c1 => first | exact World.news_of_block (cs := #[.int .i64 ((min a b : Nat) : Int), .int .i64 ((max a b : Nat) : Int)]) (t := 65) (fr := (0, 0)) (heap_alloc_new _ _) | (rw [← hmin, ← hmax]; exact World.news_of_block (cs := #[.int .i64 (min (a : Int) (b : Int)), .int .i64 (max (a : Int) (b : Int))]) (t := 65) (fr := (0, 0)) (heap_alloc_new _ _))
                  case c2 => intro u hu; simp at hu; rcases hu with rfl | rfl <;> rfl
                  case c3 => exact maxL (by omega)
                  case c4 => omega
                  case c5 => simp; omega
                  · intro v' w7 hown' hgrow _
                    have hBel : RowKit.Below (H + 1 + 1 + 1 + 1) w6 w7 := (RowKit.Below.alloc (RowKit.Below.refl _ _) hzw _).grown hgrow (by simp; omega) (fun i hi => (HOW.out.lt i hi).1)
                    have HO7 : Hid (OwnP w7 (H + 1 + 1 + 1 + 1) v' (tr ++ (rest ++ [(((min a b : Nat) : Int), ((max a b : Nat) : Int))]))) := Lib.hid (by rw [← List.append_assoc]; unfold OwnP; rw [flatP_app, List.length_append, HN2.out]; exact hown')
                    have HB7 := Lib.hid (HB6.out.belowB (by omega) hBel)
                    have HR7 := Lib.hid (HR6.out.belowB (by omega) hBel)
                    have hM7 := HM6.out.belowB (by omega) hBel
                    have HD7 := Lib.hid (HD6.out.belowB (by omega) hBel)
                    have HF7 : Hid (Fut w w7) := Lib.hid (HF6.out.trans' hBel (by have := HH.out; omega))
                    have HZ7 := Lib.hid (Nat.le_trans hzw (RowKit.Below.size hBel))
                    have HM7 := Lib.hid hM7
                    obtain ⟨n0, n1, n2, n3, n4⟩ := hM7
                    have hblw : RowKit.Below (H + 1 + 1) w7 (w7.setCell ⟨H + 1 + 1, 1, none⟩ v') := (RowKit.Below.refl _ w7).setCell (p := ⟨H + 1 + 1, 1, none⟩) (Nat.le_refl _) _
                    have HO8 : Hid (OwnP (w7.setCell ⟨H + 1 + 1, 1, none⟩ v') (H + 1 + 1 + 1 + 1) v' (tr ++ (rest ++ [(((min a b : Nat) : Int), ((max a b : Nat) : Int))]))) := Lib.hid (ownsRow_setCell_below HO7.out (a := ⟨H + 1 + 1, 1, none⟩) (by show H + 1 + 1 < _; omega) _)
                    have HB8 := Lib.hid (HB7.out.belowB (by omega) hblw)
                    have HR8 := Lib.hid (HR7.out.belowB (by omega) hblw)
                    have HM8 := Lib.hid (HM7.out.set v')
                    have HD8 : Hid (Owns (w7.setCell ⟨H + 1 + 1, 1, none⟩ v') (H + 1 + 1 + 1) (.slice (some ⟨H + 1 + 1 + 1, 0, none⟩) n n) ds) := Lib.hid (ownsRow_setCell_below HD7.out (a := ⟨H + 1 + 1, 1, none⟩) (by show H + 1 + 1 < _; omega) _)
                    have HF8 : Hid (Fut w (w7.setCell ⟨H + 1 + 1, 1, none⟩ v')) := Lib.hid (HF7.out.trans' hblw (by have := HH.out; omega))
                    have HZ8 : Hid (H + 1 + 1 + 1 + 1 ≤ (w7.setCell ⟨H + 1 + 1, 1, none⟩ v').heap.size) := Lib.hid (by simpa using HZ7.out)
                    have HRP2 : Hid (∀ p ∈ rest ++ [(((min a b : Nat) : Int), ((max a b : Nat) : Int))], 0 ≤ p.1 ∧ p.1 < p.2 ∧ p.2 < (n : Int)) := Lib.hid (fun p hp => by
                      rcases List.mem_append.1 hp with h | h
                      · exact HRP.out p h
                      · rw [List.mem_singleton.1 h]; refine ⟨by omega, by omega, by omega⟩)
                    have HRL2 : Hid ((tr ++ (rest ++ [(((min a b : Nat) : Int), ((max a b : Nat) : Int))])).length ≤ most) := Lib.hid (by rw [← List.append_assoc, List.length_append, HN2.out]; simp only [List.length_cons, List.length_nil]; omega)
                    obtain ⟨l', n', c', hv'⟩ : ∃ l' n' c', v' = .slice l' n' c' := by obtain ⟨a', c', e, _⟩ := HO7.out.str; exact ⟨_, _, _, e⟩
                    subst hv'
                    clear hown' hgrow hBel hblw HB7 HR7 HD7 HF7 HZ7 HO7 m0' m1' m2' m3' hm1'
                    go_wp2
                    go_roundw
                    case rel => exact ⟨j + 1, rest ++ [(((min a b : Nat) : Int), ((max a b : Nat) : Int))], .slice l' n' c', by omega, by go_num, HRP2, HRL2, HO8, HB8, HR8, HM8, HD8, HF8, HZ8⟩
                    case measure => simp [intOf]; omega
              · have hev' : ((q2 : Int) % 2 == 1) = false := by rw [beq_eq_false_iff_ne]; exact hev
                go_wp2_with fail
                go_quiet (fail)
                have HFQ : Fut w5 (w5.drewN nq) := Fut.drewN _ _
                have HB6 := Lib.hid (HB5.out.fut HFQ)
                have HR6 := Lib.hid (HR5.out.fut HFQ)
                have HM6 := Lib.hid (HM5.out.fut HFQ)
                have HD6 := Lib.hid (HD5.out.fut HFQ)
                have HO6 : Hid (OwnP (w5.drewN nq) (H + 1 + 1 + 1 + 1) (.slice l2 N2 c2) (tr ++ rest)) := Lib.hid (OwnP.fut HO5.out HFQ)
                have HF6 := Lib.hid (HF5.out.trans HFQ)
                have HZ6 : Hid (H + 1 + 1 + 1 + 1 ≤ (w5.drewN nq).heap.size) := Lib.hid HZ5.out
                generalize w5.drewN nq = w6 at *
                clear HFQ m0 m1 m2 m3 hm1 d0 d1 d2 e0 e1 e2 f2
                have hzw : H + 1 + 1 + 1 + 1 ≤ w6.heap.size := HZ6.out
                obtain ⟨hm1', m0', m1', m2', m3'⟩ := HM6.out
                have hown0 : w6.ownsRow (H + 1 + 1 + 1 + 1) 65 2 (.slice l2 N2 c2) N2 (flatP (tr ++ rest)) := by have h := HO6.out; unfold OwnP at h; rw [HN2.out] at h; exact h
                have HOW := Lib.hid hown0
                have hmin : min (a : Int) (b : Int) = ((min a b : Nat) : Int) := by omega
                have hmax : max (a : Int) (b : Int) = ((max a b : Nat) : Int) := by omega
                clear hown0
                go_wp2_with (at_builtin; refine wpList_app _ rfl _ _ 22 rfl (H + 1 + 1 + 1 + 1) 65 i0 (.agg #[.int .i64 0, .int .i64 0]) 2 16 Try.underlying22 HI0.out HZI0.out HZI1.out HZI2.out rfl (by decide) _ _ _ rfl (HOW.out.alloc _) ⟨w6.heap.size, 0, none⟩ 1 1 [.int .i64 ((min a b : Nat) : Int), .int .i64 ((max a b : Nat) : Int)] rfl (by decide) rfl ?c1 ?c2 ?c3 ?c4 ?c5 ?_)
                case c1 => first | exact World.news_of_block (cs := #[.int .i64 ((min a b : Nat) : Int), .int .i64 ((max a b : Nat) : Int)]) (t := 65) (fr := (0, 0)) (heap_alloc_new _ _) | (rw [← hmin, ← hmax]; exact World.news_of_block (cs := #[.int .i64 (min (a : Int) (b : Int)), .int .i64 (max (a : Int) (b : Int))]) (t := 65) (fr := (0, 0)) (heap_alloc_new _ _))
                case c2 => intro u hu; simp at hu; rcases hu with rfl | rfl <;> rfl
                case c3 => exact maxL (by omega)
                case c4 => omega
                case c5 => simp; omega
                · intro v' w7 hown' hgrow _
                  have hBel : RowKit.Below (H + 1 + 1 + 1 + 1) w6 w7 := (RowKit.Below.alloc (RowKit.Below.refl _ _) hzw _).grown hgrow (by simp; omega) (fun i hi => (HOW.out.lt i hi).1)
                  have HO7 : Hid (OwnP w7 (H + 1 + 1 + 1 + 1) v' (tr ++ (rest ++ [(((min a b : Nat) : Int), ((max a b : Nat) : Int))]))) := Lib.hid (by rw [← List.append_assoc]; unfold OwnP; rw [flatP_app, List.length_append, HN2.out]; exact hown')
                  have HB7 := Lib.hid (HB6.out.belowB (by omega) hBel)
                  have HR7 := Lib.hid (HR6.out.belowB (by omega) hBel)
                  have hM7 := HM6.out.belowB (by omega) hBel
                  have HD7 := Lib.hid (HD6.out.belowB (by omega) hBel)
                  have HF7 : Hid (Fut w w7) := Lib.hid (HF6.out.trans' hBel (by have := HH.out; omega))
                  have HZ7 := Lib.hid (Nat.le_trans hzw (RowKit.Below.size hBel))
                  have HM7 := Lib.hid hM7
                  obtain ⟨n0, n1, n2, n3, n4⟩ := hM7
                  have hblw : RowKit.Below (H + 1 + 1) w7 (w7.setCell ⟨H + 1 + 1, 1, none⟩ v') := (RowKit.Below.refl _ w7).setCell (p := ⟨H + 1 + 1, 1, none⟩) (Nat.le_refl _) _
                  have HO8 : Hid (OwnP (w7.setCell ⟨H + 1 + 1, 1, none⟩ v') (H + 1 + 1 + 1 + 1) v' (tr ++ (rest ++ [(((min a b : Nat) : Int), ((max a b : Nat) : Int))]))) := Lib.hid (ownsRow_setCell_below HO7.out (a := ⟨H + 1 + 1, 1, none⟩) (by show H + 1 + 1 < _; omega) _)
                  have HB8 := Lib.hid (HB7.out.belowB (by omega) hblw)
                  have HR8 := Lib.hid (HR7.out.belowB (by omega) hblw)
                  have HM8 := Lib.hid (HM7.out.set v')
                  have HD8 : Hid (Owns (w7.setCell ⟨H + 1 + 1, 1, none⟩ v') (H + 1 + 1 + 1) (.slice (some ⟨H + 1 + 1 + 1, 0, none⟩) n n) ds) := Lib.hid (ownsRow_setCell_below HD7.out (a := ⟨H + 1 + 1, 1, none⟩) (by show H + 1 + 1 < _; omega) _)
                  have HF8 : Hid (Fut w (w7.setCell ⟨H + 1 + 1, 1, none⟩ v')) := Lib.hid (HF7.out.trans' hblw (by have := HH.out; omega))
                  have HZ8 : Hid (H + 1 + 1 + 1 + 1 ≤ (w7.setCell ⟨H + 1 + 1, 1, none⟩ v').heap.size) := Lib.hid (by simpa using HZ7.out)
                  have HRP2 : Hid (∀ p ∈ rest ++ [(((min a b : Nat) : Int), ((max a b : Nat) : Int))], 0 ≤ p.1 ∧ p.1 < p.2 ∧ p.2 < (n : Int)) := Lib.hid (fun p hp => by
                    rcases List.mem_append.1 hp with h | h
                    · exact HRP.out p h
                    · rw [List.mem_singleton.1 h]; refine ⟨by omega, by omega, by omega⟩)
                  have HRL2 : Hid ((tr ++ (rest ++ [(((min a b : Nat) : Int), ((max a b : Nat) : Int))])).length ≤ most) := Lib.hid (by rw [← List.append_assoc, List.length_append, HN2.out]; simp only [List.length_cons, List.length_nil]; omega)
                  obtain ⟨l', n', c', hv'⟩ : ∃ l' n' c', v' = .slice l' n' c' := by obtain ⟨a', c', e, _⟩ := HO7.out.str; exact ⟨_, _, _, e⟩
                  subst hv'
                  clear hown' hgrow hBel hblw HB7 HR7 HD7 HF7 HZ7 HO7 m0' m1' m2' m3' hm1'
                  go_wp2
                  go_roundw
                  case rel => exact ⟨j + 1, rest ++ [(((min a b : Nat) : Int), ((max a b : Nat) : Int))], .slice l' n' c', by omega, by go_num, HRP2, HRL2, HO8, HB8, HR8, HM8, HD8, HF8, HZ8⟩
                  case measure => simp [intOf]; omega
        · obtain rfl : j = m' := by omega
          obtain ⟨l2, c2, hv2, hst⟩ := HOP.out.str
          subst hv2
          have HST := Lib.hid hst
          obtain ⟨r0, r1, r2, r3, r4⟩ := HBR.out
          obtain ⟨hm1, m0, m1, m2, m3⟩ := HBM.out
          have hjj : ¬ (j : Int) < j := by omega
          generalize hSS : tr ++ rest = SS at *
          have HSS := Lib.hid hSS
          clear hst hSS
          go_wp2
          refine bodyPost_ret (v := mapV n l2 SS.length c2) (by simp [results, Try.results39, go_sem, *]) rfl ?_
          have hbw : RowKit.Below (H + 1) wr ((wr.setCell ⟨H + 1, 0, none⟩ (.int .i64 n)).setCell ⟨H + 1, 1, none⟩ (.slice l2 SS.length c2)) :=
            ((RowKit.Below.refl (H + 1) wr).setCell (p := ⟨H + 1, 0, none⟩) (Nat.le_refl _) _).setCell (p := ⟨H + 1, 1, none⟩) (Nat.le_refl _) _
          have HO3 : OwnP ((wr.setCell ⟨H + 1, 0, none⟩ (.int .i64 n)).setCell ⟨H + 1, 1, none⟩ (.slice l2 SS.length c2)) (H + 1 + 1 + 1 + 1) (.slice l2 SS.length c2) SS :=
            ownsRow_setCell_below (ownsRow_setCell_below HOP.out (a := ⟨H + 1, 0, none⟩) (by show H + 1 < _; omega) _) (a := ⟨H + 1, 1, none⟩) (by show H + 1 < _; omega) _
          obtain ⟨l3, c3, e3, hs3⟩ := HO3.str
          obtain ⟨rfl, rfl⟩ : l2 = l3 ∧ c2 = c3 := by simpa using e3
          refine ⟨n, SS, l2, ⟨c2, rfl⟩, hs3, HF.out.trans' hbw (by have := HH.out; omega), hn1, hn6, ⟨tr, rest, HSS.out.symm, ?_, HRP.out⟩, HRL.out⟩
          rw [← hN, Nat.add_sub_cancel]
          exact HTR.out
end Go.Proofs.Ytimddkofcejijaa
