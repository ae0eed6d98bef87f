/- Layer 2: the map that numbers draw, for the laws across layers. -/
import Derived.Test.YtimddkofcejijaaSG
namespace Go.Proofs.Ytimddkofcejijaa
open Go.RowKit Go.Sort
abbrev fC (f : Nat → Int) : Array Value := #[.int .u8 (f 0), .int .u8 (f 1), .int .u8 (f 2), .int .u8 (f 3), .int .u8 (f 4), .int .u8 (f 5), .int .u8 (f 6), .int .u8 (f 7)]
abbrev gC (g : Nat → Int) : Array Value := #[.int .u8 (g 0), .int .u8 (g 1), .int .u8 (g 2), .int .u8 (g 3), .int .u8 (g 4), .int .u8 (g 5), .int .u8 (g 6), .int .u8 (g 7), .int .u8 (g 8), .int .u8 (g 9), .int .u8 (g 10), .int .u8 (g 11), .int .u8 (g 12), .int .u8 (g 13), .int .u8 (g 14), .int .u8 (g 15)]
/-- the block b holds these bytes. -/
def BoxU (w : World) (b k : Nat) (t : Nat → Int) : Prop := b < w.heap.size ∧ ∀ i, i < k → w.cell? ⟨b, i, none⟩ = some (.int .u8 (t i))
theorem BoxU.belowB {w w' : World} {b k B : Nat} {t : Nat → Int} (h : BoxU w b k t) (hB : b < B) (F : RowKit.Below B w w') : BoxU w' b k t :=
  ⟨Nat.lt_of_lt_of_le h.1 (RowKit.Below.size F), fun i hi => (RowKit.Below.cell F (p := ⟨b, i, none⟩) hB).trans (h.2 i hi)⟩
theorem BoxU.fut {w w' : World} {b k : Nat} {t : Nat → Int} (h : BoxU w b k t) (F : Fut w w') : BoxU w' b k t := h.belowB h.1 F
theorem fC_get (f : Nat → Int) (i : Nat) (h : i < 8) : (fC f)[i]? = some (.int .u8 (f i)) := by
  match i, h with
  | 0, _ => rfl | 1, _ => rfl | 2, _ => rfl | 3, _ => rfl | 4, _ => rfl | 5, _ => rfl | 6, _ => rfl | 7, _ => rfl
  | i + 8, h => omega
theorem gC_get (f : Nat → Int) (i : Nat) (h : i < 16) : (gC f)[i]? = some (.int .u8 (f i)) := by
  match i, h with
  | 0, _ => rfl | 1, _ => rfl | 2, _ => rfl | 3, _ => rfl | 4, _ => rfl | 5, _ => rfl | 6, _ => rfl | 7, _ => rfl
  | 8, _ => rfl | 9, _ => rfl | 10, _ => rfl | 11, _ => rfl | 12, _ => rfl | 13, _ => rfl | 14, _ => rfl | 15, _ => rfl
  | i + 16, h => omega
theorem BoxU.newF (w : World) (f : Nat → Int) : BoxU (w.alloc (.cells (fC f) 74)) w.heap.size 8 f := by
  refine ⟨by simp, fun i hi => ?_⟩
  rw [World.cell?_alloc_at _ _ _ _ rfl]
  exact fC_get f i hi
theorem BoxU.newG (w : World) (g : Nat → Int) : BoxU (w.alloc (.cells (gC g) 75)) w.heap.size 16 g := by
  refine ⟨by simp, fun i hi => ?_⟩
  rw [World.cell?_alloc_at _ _ _ _ rfl]
  exact gC_get g i hi
theorem slice8 (k : Nat) (hk : k ≤ 8) (B : Nat) (w : World) : (Instr.sliceAt 75 (.pointer (some ⟨B, 0, none⟩)) none (some (.int .i64 k)) none).run Try.prog w = .ok (.slice (some ⟨B, 0, none⟩) k 8) w := by
  have h0 : ∀ B w, (Instr.sliceAt 75 (.pointer (some ⟨B, 0, none⟩)) none (some (.int .i64 0)) none).run Try.prog w = .ok (.slice (some ⟨B, 0, none⟩) 0 8) w := fun _ _ => by kernel_rfl
  have h1 : ∀ B w, (Instr.sliceAt 75 (.pointer (some ⟨B, 0, none⟩)) none (some (.int .i64 1)) none).run Try.prog w = .ok (.slice (some ⟨B, 0, none⟩) 1 8) w := fun _ _ => by kernel_rfl
  have h2 : ∀ B w, (Instr.sliceAt 75 (.pointer (some ⟨B, 0, none⟩)) none (some (.int .i64 2)) none).run Try.prog w = .ok (.slice (some ⟨B, 0, none⟩) 2 8) w := fun _ _ => by kernel_rfl
  have h3 : ∀ B w, (Instr.sliceAt 75 (.pointer (some ⟨B, 0, none⟩)) none (some (.int .i64 3)) none).run Try.prog w = .ok (.slice (some ⟨B, 0, none⟩) 3 8) w := fun _ _ => by kernel_rfl
  have h4 : ∀ B w, (Instr.sliceAt 75 (.pointer (some ⟨B, 0, none⟩)) none (some (.int .i64 4)) none).run Try.prog w = .ok (.slice (some ⟨B, 0, none⟩) 4 8) w := fun _ _ => by kernel_rfl
  have h5 : ∀ B w, (Instr.sliceAt 75 (.pointer (some ⟨B, 0, none⟩)) none (some (.int .i64 5)) none).run Try.prog w = .ok (.slice (some ⟨B, 0, none⟩) 5 8) w := fun _ _ => by kernel_rfl
  have h6 : ∀ B w, (Instr.sliceAt 75 (.pointer (some ⟨B, 0, none⟩)) none (some (.int .i64 6)) none).run Try.prog w = .ok (.slice (some ⟨B, 0, none⟩) 6 8) w := fun _ _ => by kernel_rfl
  have h7 : ∀ B w, (Instr.sliceAt 75 (.pointer (some ⟨B, 0, none⟩)) none (some (.int .i64 7)) none).run Try.prog w = .ok (.slice (some ⟨B, 0, none⟩) 7 8) w := fun _ _ => by kernel_rfl
  have h8 : ∀ B w, (Instr.sliceAt 75 (.pointer (some ⟨B, 0, none⟩)) none (some (.int .i64 8)) none).run Try.prog w = .ok (.slice (some ⟨B, 0, none⟩) 8 8) w := fun _ _ => by kernel_rfl
  match k, hk with
  | 0, _ => exact h0 B w
  | 1, _ => exact h1 B w
  | 2, _ => exact h2 B w
  | 3, _ => exact h3 B w
  | 4, _ => exact h4 B w
  | 5, _ => exact h5 B w
  | 6, _ => exact h6 B w
  | 7, _ => exact h7 B w
  | 8, _ => exact h8 B w
  | k + 9, h => exact absurd h (by omega)
set_option maxRecDepth 100000 in
set_option maxHeartbeats 8000000 in
/-- the map that numbers draw. -/
theorem mapped_any (n q1 most : Nat) (f g : Nat → Int) (w : World) (hf : ∀ i, 0 ≤ f i ∧ f i ≤ 255) (hg : ∀ i, 0 ≤ g i ∧ g i ≤ 255) (hn : 2 ≤ n ∧ n ≤ 5) (hq : q1 ≤ 255) (hm : 5 ≤ most ∧ most ≤ 9) :
    Calls Try.prog 49 #[.int .i64 n, .int .i64 q1, .int .i64 most, .agg (fC f), .agg (gC g)] w fun e w' => ∃ (ss : List (Int × Int)) (l : Option Addr) (lc : Nat), e = .returned (mapV n l ss.length lc) ∧ StrAt w' l ss ∧ Fut w w' ∧ MadeP n ss ∧ ss.length ≤ most := by
  obtain ⟨i0, hi0, hz0, hz1, hz2⟩ := info_parts info65
  have HFB := Lib.hid hf
  have HGB := Lib.hid hg
  obtain ⟨hn2, hn5⟩ := hn
  have hnx : (n : Int) ≤ 5 := by omega
  have hnx1 : (2 : Int) ≤ n := by omega
  have hmx : (most : Int) ≤ 9 := by omega
  have hqx : (q1 : Int) ≤ 255 := by omega
  clear hf hg
  go_enter Try.func49, Try.ntmps49
  go_wp2_with fail
  have hB0 := BoxU.newF w f
  have hF1 : Fut w (w.alloc (.cells (fC f) 74)) := Fut.alloc _ _
  have hs1 : (w.alloc (.cells (fC f) 74)).heap.size = w.heap.size + 1 := by simp
  generalize w.alloc (.cells (fC f) 74) = W1 at *
  have hG0 := BoxU.newG W1 g
  have hF2 : Fut W1 (W1.alloc (.cells (gC g) 75)) := Fut.alloc _ _
  have hs2 : (W1.alloc (.cells (gC g) 75)).heap.size = W1.heap.size + 1 := by simp
  generalize W1.alloc (.cells (gC g) 75) = W2 at *
  have hR0 := BoxW.new W2 (.int .i64 0) (.slice none 0 0) 24
  have hF3 : Fut W2 (W2.alloc (.cells #[.int .i64 0, .slice none 0 0] 24)) := Fut.alloc _ _
  have hs3 : (W2.alloc (.cells #[.int .i64 0, .slice none 0 0] 24)).heap.size = W2.heap.size + 1 := by simp
  generalize W2.alloc (.cells #[.int .i64 0, .slice none 0 0] 24) = W3 at *
  have hM0 := BoxW.new W3 (.int .i64 n) (.slice none 0 0) 24
  have hF4 : Fut W3 (W3.alloc (.cells #[.int .i64 n, .slice none 0 0] 24)) := Fut.alloc _ _
  have hs4 : (W3.alloc (.cells #[.int .i64 n, .slice none 0 0] 24)).heap.size = W3.heap.size + 1 := by simp
  generalize W3.alloc (.cells #[.int .i64 n, .slice none 0 0] 24) = W4 at *
  rw [hs1] at hs2 hG0
  rw [hs2] at hs3 hR0
  rw [hs3] at hs4 hM0
  generalize hHH : w.heap.size = H at *
  have HH := Lib.hid (Nat.le_of_eq hHH)
  have HB0 := Lib.hid (((hB0.fut hF2).fut hF3).fut hF4)
  have HG0 := Lib.hid ((hG0.fut hF3).fut hF4)
  have HR0 := Lib.hid (hR0.fut hF4)
  have HM0 := Lib.hid hM0
  have HF0 := Lib.hid (((hF1.trans hF2).trans hF3).trans hF4)
  have HZ0 : Hid (H + 1 + 1 + 1 + 1 ≤ W4.heap.size) := Lib.hid (by omega)
  clear hB0 hF1 hs1 hR0 hF2 hs2 hM0 hF3 hs3 hG0 hF4 hs4 hHH
  go_loopw [12] (fun cv wr => ∃ (k : Nat) (tr : List (Int × Int)) (v : Value), k + 1 ≤ n ∧ cv = .int .i64 ((k + 1 : Nat) : Int) ∧ Hid (TreeL k tr) ∧ Hid (OwnP wr (H + 1 + 1 + 1 + 1) v tr) ∧ Hid (BoxU wr H 8 f) ∧ Hid (BoxU wr (H + 1) 16 g) ∧ Hid (BoxW wr (H + 1 + 1) (.int .i64 0) (.slice none 0 0)) ∧ Hid (BoxW wr (H + 1 + 1 + 1) (.int .i64 n) v) ∧ Hid (Fut w wr) ∧ Hid (H + 1 + 1 + 1 + 1 ≤ wr.heap.size)) (fun cv _ => n - (intOf cv).toNat)
  case atStart => exact ⟨0, [], .slice none 0 0, by omega, rfl, Lib.hid TreeL.nil, Lib.hid (World.ownsRow_nil _ _ _ _), HB0, HG0, HR0, HM0, HF0, HZ0⟩
  case round =>
    obtain ⟨k, tr, v, hk, rfl, HTR, HOP, HBF, HBG, HBR, HBM, HF, HZ⟩ := hrel
    by_cases hlt : k + 1 < n
    · have hkx : ((k + 1 : Nat) : Int) < n := by omega
      have c0 := HBF.out.2 (k + 1) (by omega)
      have h0 := HFB.out (k + 1)
      obtain ⟨x, hx⟩ := Int.eq_ofNat_of_zero_le h0.1
      rw [hx] at c0
      have hx255 : (x : Int) ≤ 255 := by omega
      obtain ⟨b, hb⟩ : ∃ b, b = x % (k + 1) := ⟨_, rfl⟩
      have hbk : b ≤ k := by have := Nat.mod_lt x (show 0 < k + 1 by omega); omega
      have hwb : (x : Int) % ((k + 1 : Nat) : Int) = (b : Int) := by rw [hb]; simp
      obtain ⟨hm1, m0, m1, m2, m3⟩ := HBM.out
      have hbt := HBF.out.1
      generalize hK : k + 1 = K at *
      have hK8 : (K : Int) < 8 := by omega
      have hKne : ((K : Int) == 0) = false := by rw [beq_eq_false_iff_ne]; omega
      have hK1 : (1 : Int) ≤ K := by omega
      have hwx : IntKind.i64.wrap ((x : Int) % (K : Int)) = (b : Int) := by rw [hwb]; exact IntWalk.i64_in _ ⟨by omega, by omega⟩
      have hwm : Int.tmod (x : Int) (K : Int) = (b : Int) := by rw [Int.tmod_eq_emod_of_nonneg (by omega)]; exact hwb
      have hwt : IntKind.i64.wrap (Int.tmod (x : Int) (K : Int)) = (b : Int) := by rw [hwm]; exact IntWalk.i64_in _ ⟨by omega, by omega⟩
      have hwz : (IntKind.i64.wrap (x : Int)).tmod (K : Int) = (b : Int) := by rw [IntWalk.i64_in _ ⟨by omega, by omega⟩]; exact hwm
      have hwb2 : IntKind.i64.wrap (b : Int) = (b : Int) := IntWalk.i64_in _ ⟨by omega, by omega⟩
      have hwxx : IntKind.i64.wrap (x : Int) = (x : Int) := IntWalk.i64_in _ ⟨by omega, by omega⟩
      have hKn0 : ¬ (K : Int) = 0 := by omega
      have hKn1 : K ≠ 0 := by omega
      clear hx h0 hb
      have htl : tr.length ≤ 1000 := by have := HTR.out.1; omega
      have hown0 : wr.ownsRow (H + 1 + 1 + 1 + 1) 65 2 v tr.length (flatP tr) := HOP.out
      have HOW := Lib.hid hown0
      have hHs : H + 1 + 1 + 1 + 1 ≤ wr.heap.size := HZ.out
      have HNE : Hid (∀ kk, v.ownBlock = some kk → H + 1 + 1 + 1 + 1 ≤ kk) := Lib.hid (fun kk h => (HOW.out.lt kk h).1)
      clear hown0
      go_upto_region 5 with fail
      go_region_law (first
          | (refine step_append_lies _ (by rfl) _ _ _ (by rfl) (H + 1 + 1 + 1 + 1) 65 i0 (.agg #[.int .i64 0, .int .i64 0]) 2 16 Try.underlying22 hi0 hz0 hz1 hz2 rfl (by omega) v tr.length (flatP tr) (by rfl) (HOW.out.alloc _) ⟨wr.heap.size, 0, none⟩ 1 1 [.int .i64 (b : Int), .int .i64 (K : Int)] (by rfl) (by rfl) (World.news_of_block (cs := #[.int .i64 (b : Int), .int .i64 (K : Int)]) (t := 65) (fr := (0, 0)) (heap_alloc_new wr _)) (by simp [Value.oneCell']) (by omega) (by unfold maxLen; omega) (by omega) (by simp; omega) _ (by rfl) ?_; intro gg gc w1 hown1 hgrow hlie hgl; have hbel : RowKit.Below (H + 1 + 1 + 1 + 1) wr w1 := (below_drewN (RowKit.Below.alloc (RowKit.Below.refl _ _) hHs (.cells #[.int .i64 (b : Int), .int .i64 (K : Int)] 65)) 1).grown hgrow (by simp; omega) (fun kk hkk => HNE.out kk hkk); obtain ⟨q0, q1', q2, q3, q4⟩ := HBM.out.belowB (by omega) hbel))
      all_goals
        have HMW := Lib.hid (HBM.out.belowB (by omega) hbel)
        have HRW := Lib.hid (HBR.out.belowB (by omega) hbel)
        have HBW := Lib.hid (HBF.out.belowB (by omega) hbel)
        have HGW := Lib.hid (HBG.out.belowB (by omega) hbel)
        have HFW : Hid (Fut w w1) := Lib.hid (HF.out.trans' hbel (by have := HH.out; omega))
        have HZW := Lib.hid (Nat.le_trans hHs (RowKit.Below.size hbel))
        have HO1 : Hid (OwnP w1 (H + 1 + 1 + 1 + 1) (.slice (some ⟨gg, 0, none⟩) (tr.length + 1) gc) (tr ++ [((b : Int), (K : Int))])) := Lib.hid (by unfold OwnP; rw [flatP_app, List.length_append]; exact hown1)
        have hbw : RowKit.Below (H + 1 + 1 + 1) w1 (w1.setCell ⟨H + 1 + 1 + 1, 1, none⟩ (.slice (some ⟨gg, 0, none⟩) (tr.length + 1) gc)) := (RowKit.Below.refl (H + 1 + 1 + 1) w1).setCell (p := ⟨H + 1 + 1 + 1, 1, none⟩) (Nat.le_refl _) _
        have HM2 := Lib.hid (HMW.out.set (.slice (some ⟨gg, 0, none⟩) (tr.length + 1) gc))
        have HR2 := Lib.hid (HRW.out.belowB (by omega) hbw)
        have HB2 := Lib.hid (HBW.out.belowB (by omega) hbw)
        have HG2 := Lib.hid (HGW.out.belowB (by omega) hbw)
        have HF2 : Hid (Fut w (w1.setCell ⟨H + 1 + 1 + 1, 1, none⟩ (.slice (some ⟨gg, 0, none⟩) (tr.length + 1) gc))) := Lib.hid (HFW.out.trans' hbw (by have := HH.out; omega))
        have HZ2 : Hid (H + 1 + 1 + 1 + 1 ≤ (w1.setCell ⟨H + 1 + 1 + 1, 1, none⟩ (.slice (some ⟨gg, 0, none⟩) (tr.length + 1) gc)).heap.size) := Lib.hid (by simpa using HZW.out)
        have HO2 : Hid (OwnP (w1.setCell ⟨H + 1 + 1 + 1, 1, none⟩ (.slice (some ⟨gg, 0, none⟩) (tr.length + 1) gc)) (H + 1 + 1 + 1 + 1) (.slice (some ⟨gg, 0, none⟩) (tr.length + 1) gc) (tr ++ [((b : Int), (K : Int))])) := Lib.hid (ownsRow_setCell_below HO1.out (a := ⟨H + 1 + 1 + 1, 1, none⟩) (by show H + 1 + 1 + 1 < H + 1 + 1 + 1 + 1; omega) _)
        have HTR2 : Hid (TreeL (k + 1) (tr ++ [((b : Int), (K : Int))])) := Lib.hid (by rw [← hK]; exact HTR.out.snoc (by omega) (by omega))
        generalize w1.setCell ⟨H + 1 + 1 + 1, 1, none⟩ (.slice (some ⟨gg, 0, none⟩) (tr.length + 1) gc) = w2 at *
        clear hown1 hgrow hlie hgl hbel q0 q1' q2 q3 q4 hbw HMW HRW HFW HZW HO1 HBW HGW c0 hwx hwm hwt hwz hwb2 hwxx hwb
        go_wp2
        go_roundw
        case rel => exact ⟨k + 1, _, (.slice (some ⟨gg, 0, none⟩) (tr.length + 1) gc), by omega, by rw [← hK]; go_num, HTR2, HO2, HB2, HG2, HR2, HM2, HF2, HZ2⟩
        case measure => simp [intOf]; omega
    · obtain rfl : n = k + 1 := by omega
      obtain ⟨m', hm'⟩ : ∃ m', m' = q1 % 9 := ⟨_, rfl⟩
      have hm8 : m' ≤ 8 := by omega
      have hwm : (q1 : Int) % 9 = (m' : Int) := by rw [hm']; simp
      have hsl := fun W => slice8 m' hm8 (H + 1) W
      have hbt := HBG.out.1
      have hkn : ¬ ((k + 1 : Nat) : Int) < ((k + 1 : Nat) : Int) := by omega
      generalize hN : k + 1 = n at *
      have htn : tr.length ≤ most := by have := HTR.out.1; omega
      clear hm'
      go_upto_region 6 with fail
      go_wp2_with fail
      have hmx8 : (m' : Int) ≤ 8 := by omega
      have hkk : k ≤ 5 := by omega
      have HI0 := Lib.hid hi0
      have HZI0 := Lib.hid hz0
      have HZI1 := Lib.hid hz1
      have HZI2 := Lib.hid hz2
      clear hwm hsl hbt hkn hz0 hz1 hz2 hi0
      go_loopw [41] (fun iv wr => ∃ (j : Nat) (rest : List (Int × Int)) (v2 : Value), j ≤ m' ∧ iv = .int .i64 j ∧ Hid (∀ p ∈ rest, 0 ≤ p.1 ∧ p.1 < p.2 ∧ p.2 < (n : Int)) ∧ Hid ((tr ++ rest).length ≤ most) ∧ Hid (OwnP wr (H + 1 + 1 + 1 + 1) v2 (tr ++ rest)) ∧ Hid (BoxU wr (H + 1) 16 g) ∧ Hid (BoxW wr (H + 1 + 1) (.int .i64 0) (.slice none 0 0)) ∧ Hid (BoxW wr (H + 1 + 1 + 1) (.int .i64 n) v2) ∧ Hid (Fut w wr) ∧ Hid (H + 1 + 1 + 1 + 1 ≤ wr.heap.size)) (fun iv _ => m' - (intOf iv).toNat)
      case atStart => exact ⟨0, [], v, Nat.zero_le _, rfl, Lib.hid (fun p hp => by cases hp), Lib.hid (by simpa using htn), Lib.hid (by simpa using HOP.out), HBG, HBR, HBM, HF, HZ⟩
      case round =>
        clear HBF HBG HBR HBM HF HZ HOP
        obtain ⟨j, rest, v2, hj, rfl, HRP, HRL, HOP, HBG, HBR, HBM, HF, HZ⟩ := hrel
        by_cases hjt : j < m'
        · have hjx : (j : Int) < m' := by omega
          have c3 := HBG.out.2 (j * 2) (by omega)
          have c4 := HBG.out.2 (j * 2 + 1) (by omega)
          have h3 := HGB.out (j * 2)
          have h4 := HGB.out (j * 2 + 1)
          obtain ⟨x, hx⟩ := Int.eq_ofNat_of_zero_le h3.1
          obtain ⟨y, hy⟩ := Int.eq_ofNat_of_zero_le h4.1
          rw [hx] at c3
          rw [hy] at c4
          have hx255 : (x : Int) ≤ 255 := by omega
          have hy255 : (y : Int) ≤ 255 := by omega
          have hbt := HBG.out.1
          obtain ⟨a, ha⟩ : ∃ a, a = x % n := ⟨_, rfl⟩
          obtain ⟨b, hb⟩ : ∃ b, b = y % n := ⟨_, rfl⟩
          have han : a < n := by rw [ha]; exact Nat.mod_lt _ (by omega)
          have hbn : b < n := by rw [hb]; exact Nat.mod_lt _ (by omega)
          have HWA : Hid ((x : Int) % (n : Int) = (a : Int)) := Lib.hid (by rw [ha]; simp)
          have HWB : Hid ((y : Int) % (n : Int) = (b : Int)) := Lib.hid (by rw [hb]; simp)
          have hn0 : ((n : Int) == 0) = false := by rw [beq_eq_false_iff_ne]; omega
          clear hx hy h3 h4 ha hb
          go_upto_region 9 with fail
          go_quiet (fail)
          have hF5 : Fut wr ((wr.alloc (.cells #[.int .u8 (x : Int), .int .u8 (y : Int)] 57)).drewN nq) := (Fut.alloc _ _).trans (Fut.drewN _ _)
          rw [HWA.out, HWB.out]
          generalize (wr.alloc (.cells #[.int .u8 (x : Int), .int .u8 (y : Int)] 57)).drewN nq = w5 at *
          obtain ⟨l2, c2, hv2, _⟩ := HOP.out.str
          subst hv2
          have HNL : Hid ((tr ++ rest).length ≤ most) := HRL
          generalize hN2 : (tr ++ rest).length = N2 at *
          have hNL : N2 ≤ most := HNL.out
          have HN2 := Lib.hid hN2
          have HRL0 : Hid ((tr ++ rest).length ≤ most) := Lib.hid (by rw [HN2.out]; exact hNL)
          clear hN2
          have HG5 := Lib.hid (HBG.out.fut hF5)
          have HR5 := Lib.hid (HBR.out.fut hF5)
          have HM5 := Lib.hid (HBM.out.fut hF5)
          have HO5 : Hid (OwnP w5 (H + 1 + 1 + 1 + 1) (.slice l2 N2 c2) (tr ++ rest)) := Lib.hid (OwnP.fut HOP.out hF5)
          have HF5 := Lib.hid (HF.out.trans hF5)
          have HZ5 : Hid (H + 1 + 1 + 1 + 1 ≤ w5.heap.size) := Lib.hid (Nat.le_trans HZ.out (RowKit.Below.size hF5))
          obtain ⟨hm1, m0, m1, m2, m3⟩ := HM5.out
          have hax : (a : Int) < n := by omega
          have hbx : (b : Int) < n := by omega
          clear hF5 HBG HBR HBM HOP HF HZ c3 c4 hbt
          by_cases hab : a = b
          · have hab' : ((a : Int) != (b : Int)) = false := by rw [hab]; simp
            go_wp2_with fail
            go_roundw
            case rel => exact ⟨j + 1, rest, .slice l2 N2 c2, by omega, by go_num, HRP, HRL0, HO5, HG5, HR5, HM5, HF5, HZ5⟩
            case measure => simp [intOf]; omega
          · have hab' : ((a : Int) != (b : Int)) = true := by rw [bne_iff_ne]; omega
            by_cases hge : most ≤ N2
            · have hge' : ¬ (N2 : Int) < (most : Int) := by omega
              go_wp2_with fail
              go_roundw
              case rel => exact ⟨j + 1, rest, .slice l2 N2 c2, by omega, by go_num, HRP, HRL0, HO5, HG5, HR5, HM5, HF5, HZ5⟩
              case measure => simp [intOf]; omega
            · have hge' : (N2 : Int) < (most : Int) := by omega
              have hzw : H + 1 + 1 + 1 + 1 ≤ w5.heap.size := HZ5.out
              have hown0 : w5.ownsRow (H + 1 + 1 + 1 + 1) 65 2 (.slice l2 N2 c2) N2 (flatP (tr ++ rest)) := by have h := HO5.out; unfold OwnP at h; rw [HN2.out] at h; exact h
              have HOW := Lib.hid hown0
              have hmin : min (a : Int) (b : Int) = ((min a b : Nat) : Int) := by omega
              have hmax : max (a : Int) (b : Int) = ((max a b : Nat) : Int) := by omega
              clear hown0
              go_wp2_with (at_builtin; refine wpList_app _ rfl _ _ 22 rfl (H + 1 + 1 + 1 + 1) 65 i0 (.agg #[.int .i64 0, .int .i64 0]) 2 16 Try.underlying22 HI0.out HZI0.out HZI1.out HZI2.out rfl (by decide) _ _ _ rfl (HOW.out.alloc _) ⟨w5.heap.size, 0, none⟩ 1 1 [.int .i64 ((min a b : Nat) : Int), .int .i64 ((max a b : Nat) : Int)] rfl (by decide) rfl ?c1 ?c2 ?c3 ?c4 ?c5 ?_)
              case c1 => first | exact World.news_of_block (cs := #[.int .i64 ((min a b : Nat) : Int), .int .i64 ((max a b : Nat) : Int)]) (t := 65) (fr := (0, 0)) (heap_alloc_new _ _) | (rw [← hmin, ← hmax]; exact World.news_of_block (cs := #[.int .i64 (min (a : Int) (b : Int)), .int .i64 (max (a : Int) (b : Int))]) (t := 65) (fr := (0, 0)) (heap_alloc_new _ _))
              case c2 => intro u hu; simp at hu; rcases hu with rfl | rfl <;> rfl
              case c3 => exact maxL (by omega)
              case c4 => omega
              case c5 => simp; omega
              · intro v' w7 hown' hgrow _
                have hBel : RowKit.Below (H + 1 + 1 + 1 + 1) w5 w7 := (RowKit.Below.alloc (RowKit.Below.refl _ _) hzw _).grown hgrow (by simp; omega) (fun i hi => (HOW.out.lt i hi).1)
                have HO7 : Hid (OwnP w7 (H + 1 + 1 + 1 + 1) v' (tr ++ (rest ++ [(((min a b : Nat) : Int), ((max a b : Nat) : Int))]))) := Lib.hid (by rw [← List.append_assoc]; unfold OwnP; rw [flatP_app, List.length_append, HN2.out]; exact hown')
                have HG7 := Lib.hid (HG5.out.belowB (by omega) hBel)
                have HR7 := Lib.hid (HR5.out.belowB (by omega) hBel)
                have hM7 := HM5.out.belowB (by omega) hBel
                have HF7 : Hid (Fut w w7) := Lib.hid (HF5.out.trans' hBel (by have := HH.out; omega))
                have HZ7 := Lib.hid (Nat.le_trans hzw (RowKit.Below.size hBel))
                have HM7 := Lib.hid hM7
                obtain ⟨n0, n1, n2, n3, n4⟩ := hM7
                have hblw : RowKit.Below (H + 1 + 1 + 1) w7 (w7.setCell ⟨H + 1 + 1 + 1, 1, none⟩ v') := (RowKit.Below.refl _ w7).setCell (p := ⟨H + 1 + 1 + 1, 1, none⟩) (Nat.le_refl _) _
                have HO8 : Hid (OwnP (w7.setCell ⟨H + 1 + 1 + 1, 1, none⟩ v') (H + 1 + 1 + 1 + 1) v' (tr ++ (rest ++ [(((min a b : Nat) : Int), ((max a b : Nat) : Int))]))) := Lib.hid (ownsRow_setCell_below HO7.out (a := ⟨H + 1 + 1 + 1, 1, none⟩) (by show H + 1 + 1 + 1 < _; omega) _)
                have HG8 := Lib.hid (HG7.out.belowB (by omega) hblw)
                have HR8 := Lib.hid (HR7.out.belowB (by omega) hblw)
                have HM8 := Lib.hid (HM7.out.set v')
                have HF8 : Hid (Fut w (w7.setCell ⟨H + 1 + 1 + 1, 1, none⟩ v')) := Lib.hid (HF7.out.trans' hblw (by have := HH.out; omega))
                have HZ8 : Hid (H + 1 + 1 + 1 + 1 ≤ (w7.setCell ⟨H + 1 + 1 + 1, 1, none⟩ v').heap.size) := Lib.hid (by simpa using HZ7.out)
                have HRP2 : Hid (∀ p ∈ rest ++ [(((min a b : Nat) : Int), ((max a b : Nat) : Int))], 0 ≤ p.1 ∧ p.1 < p.2 ∧ p.2 < (n : Int)) := Lib.hid (fun p hp => by
                  rcases List.mem_append.1 hp with h | h
                  · exact HRP.out p h
                  · rw [List.mem_singleton.1 h]; refine ⟨by omega, by omega, by omega⟩)
                have HRL2 : Hid ((tr ++ (rest ++ [(((min a b : Nat) : Int), ((max a b : Nat) : Int))])).length ≤ most) := Lib.hid (by rw [← List.append_assoc, List.length_append, HN2.out]; simp only [List.length_cons, List.length_nil]; omega)
                obtain ⟨l', n', c', hv'⟩ : ∃ l' n' c', v' = .slice l' n' c' := by obtain ⟨a', c', e, _⟩ := HO7.out.str; exact ⟨_, _, _, e⟩
                subst hv'
                clear hown' hgrow hBel hblw HG7 HR7 HF7 HZ7 HO7 m0 m1 m2 m3 hm1
                go_wp2
                go_roundw
                case rel => exact ⟨j + 1, rest ++ [(((min a b : Nat) : Int), ((max a b : Nat) : Int))], .slice l' n' c', by omega, by go_num, HRP2, HRL2, HO8, HG8, HR8, HM8, HF8, HZ8⟩
                case measure => simp [intOf]; omega
        · obtain rfl : j = m' := by omega
          obtain ⟨l2, c2, hv2, hst⟩ := HOP.out.str
          subst hv2
          obtain ⟨r0, r1, r2, r3, r4⟩ := HBR.out
          obtain ⟨hm1, m0, m1, m2, m3⟩ := HBM.out
          have hjj : ¬ (j : Int) < j := by omega
          generalize hSS : tr ++ rest = SS at *
          have HSS := Lib.hid hSS
          clear hst hSS
          go_wp2
          refine bodyPost_ret (v := mapV n l2 SS.length c2) (by simp [results, Try.results49, go_sem, *]) rfl ?_
          have hbw : RowKit.Below (H + 1 + 1) wr ((wr.setCell ⟨H + 1 + 1, 0, none⟩ (.int .i64 n)).setCell ⟨H + 1 + 1, 1, none⟩ (.slice l2 SS.length c2)) :=
            ((RowKit.Below.refl (H + 1 + 1) wr).setCell (p := ⟨H + 1 + 1, 0, none⟩) (Nat.le_refl _) _).setCell (p := ⟨H + 1 + 1, 1, none⟩) (Nat.le_refl _) _
          have HO3 : OwnP ((wr.setCell ⟨H + 1 + 1, 0, none⟩ (.int .i64 n)).setCell ⟨H + 1 + 1, 1, none⟩ (.slice l2 SS.length c2)) (H + 1 + 1 + 1 + 1) (.slice l2 SS.length c2) SS :=
            ownsRow_setCell_below (ownsRow_setCell_below HOP.out (a := ⟨H + 1 + 1, 0, none⟩) (by show H + 1 + 1 < _; omega) _) (a := ⟨H + 1 + 1, 1, none⟩) (by show H + 1 + 1 < _; omega) _
          obtain ⟨l3, c3, e3, hs3⟩ := HO3.str
          obtain ⟨rfl, rfl⟩ : l2 = l3 ∧ c2 = c3 := by simpa using e3
          refine ⟨SS, l2, ⟨c2, rfl⟩, hs3, HF.out.trans' hbw (by have := HH.out; omega), ⟨tr, rest, HSS.out.symm, ?_, HRP.out⟩, HRL.out⟩
          rw [← hN, Nat.add_sub_cancel]
          exact HTR.out
end Go.Proofs.Ytimddkofcejijaa
