/- Layer 2: drawn. -/
import Derived.Test.YtimddkofcejijaaRX
import Derived.Deep.AppendLies
namespace Go.Proofs.Ytimddkofcejijaa
open Go.RowKit Go.Sort
def pairsL : List Int → List (Int × Int)
  | x :: y :: l => (x, y) :: pairsL l
  | _ => []
theorem info65 : (Try.prog.info? 65).map (fun i => (i.zero, i.size, i.bytes)) = some (some (.agg #[.int .i64 0, .int .i64 0]), 2, 16) := by kernel_rfl
def flatP : List (Int × Int) → List Value
  | [] => []
  | p :: l => .int .i64 p.1 :: .int .i64 p.2 :: flatP l
theorem flatP_app : ∀ (l : List (Int × Int)) (p : Int × Int), flatP (l ++ [p]) = flatP l ++ [.int .i64 p.1, .int .i64 p.2]
  | [], _ => rfl
  | q :: l, p => by show _ :: _ :: flatP (l ++ [p]) = _; rw [flatP_app l p]; rfl
theorem flatP_get : ∀ (l : List (Int × Int)) (j : Nat), j < l.length → (flatP l)[j * 2]? = some (.int .i64 (str l j).1) ∧ (flatP l)[j * 2 + 1]? = some (.int .i64 (str l j).2)
  | [], j, h => by simp at h
  | p :: l, 0, _ => ⟨rfl, rfl⟩
  | p :: l, j + 1, h => by
    have := flatP_get l j (by simpa using h)
    have e : str (p :: l) (j + 1) = str l j := by rw [str_eq, str_eq]; simp
    rw [e, show (j + 1) * 2 = j * 2 + 1 + 1 by omega]
    exact this
def OwnP (w : World) (B : Nat) (v : Value) (ss : List (Int × Int)) : Prop := w.ownsRow B 65 2 v ss.length (flatP ss)
theorem OwnP.str {w : World} {B : Nat} {v : Value} {ss : List (Int × Int)} (h : OwnP w B v ss) : ∃ a cap, v = .slice a ss.length cap ∧ StrAt w a ss := by
  rcases h.2 with ⟨rfl, h0⟩ | ⟨g, cap, cur, rfl, hb, hg, _⟩
  · exact ⟨none, 0, by rw [h0], fun j hj => by omega⟩
  · refine ⟨_, cap, rfl, fun j hj => ⟨g, 0, rfl, (Array.getElem?_eq_some_iff.1 hg).1, ?_, ?_⟩⟩
    · rw [Nat.zero_add, World.ownsRow.cellAt h _ (by omega)]; exact (flatP_get ss j hj).1
    · rw [Nat.zero_add, World.ownsRow.cellAt h _ (by omega)]; exact (flatP_get ss j hj).2
theorem pairs_take : ∀ (zs : List Int) (k : Nat), k * 2 + 1 < zs.length → pairsL (zs.take ((k + 1) * 2)) = pairsL (zs.take (k * 2)) ++ [(nth zs (k * 2), nth zs (k * 2 + 1))]
  | [], _, h => by simp at h
  | [_], _, h => by simp at h
  | x :: y :: l, 0, _ => by simp [pairsL, nth_eq]
  | x :: y :: l, k + 1, h => by
    have := pairs_take l k (by simp at h; omega)
    rw [show (k + 1 + 1) * 2 = (k + 1) * 2 + 1 + 1 by omega, show (k + 1) * 2 = k * 2 + 1 + 1 by omega] at *
    simp only [List.take_succ_cons, pairsL, List.cons_append]
    rw [show nth (x :: y :: l) (k * 2 + 1 + 1) = nth l (k * 2) by rw [nth_eq, nth_eq]; simp, show nth (x :: y :: l) (k * 2 + 1 + 1 + 1) = nth l (k * 2 + 1) by rw [nth_eq, nth_eq]; simp]
    congr 1
theorem pairs_end : ∀ (zs : List Int) (k : Nat), k * 2 ≤ zs.length → zs.length ≤ k * 2 + 1 → pairsL (zs.take (k * 2)) = pairsL zs
  | [], _, _, _ => by simp
  | [_], 0, _, _ => by simp [pairsL]
  | [_], _ + 1, h, _ => by simp at h; omega
  | x :: y :: l, 0, _, h => by simp at h
  | x :: y :: l, k + 1, h, h' => by
    have := pairs_end l k (by simp at h; omega) (by simp at h'; omega)
    rw [show (k + 1) * 2 = k * 2 + 1 + 1 by omega]
    simp only [List.take_succ_cons, pairsL]
    rw [this]
theorem pairs_len : ∀ (zs : List Int), (pairsL zs).length ≤ zs.length
  | [] => by simp [pairsL]
  | [_] => by simp [pairsL]
  | _ :: _ :: l => by have := pairs_len l; simp [pairsL]; omega
theorem OwnP.base {w : World} {B : Nat} {l : Option Addr} {n lc : Nat} {ss : List (Int × Int)} (h : OwnP w B (.slice l n lc) ss) : ∀ b off, l = some ⟨b, off, none⟩ → B ≤ b := fun b off e => by
  rcases h.2 with ⟨hv, _⟩ | ⟨g, cap, cur, hv, hb, _⟩
  · simp at hv; rw [hv.1] at e; cases e
  · simp at hv; rw [hv.1] at e; simp at e; omega
theorem StrAt.far {w : World} {a : Option Addr} {ss : List (Int × Int)} (h : StrAt w a ss) {g k : Nat} (hne : ∀ b off, a = some ⟨b, off, none⟩ → b ≠ g) (v : Value) : StrAt (w.setCell ⟨g, k, none⟩ v) a ss := fun j hj => by
  obtain ⟨b, off, rfl, h1, h2, h3⟩ := h j hj
  have hb := hne b off rfl
  refine ⟨b, off, rfl, by simpa using h1, ?_, ?_⟩
  · rw [World.cell?_setCell_other _ _ _ _ (fun e => hb (by simpa using congrArg Addr.block e.symm))]; exact h2
  · rw [World.cell?_setCell_other _ _ _ _ (fun e => hb (by simpa using congrArg Addr.block e.symm))]; exact h3
/-- the block b holds a map, and may be written. -/
def BoxW (w : World) (b : Nat) (x y : Value) : Prop := b < w.heap.size ∧ w.cell? ⟨b, 0, none⟩ = some x ∧ w.cell? ⟨b, 1, none⟩ = some y ∧ w.frozen? ⟨b, 0, none⟩ = false ∧ w.frozen? ⟨b, 1, none⟩ = false
theorem BoxW.new (w : World) (x y : Value) (t : TypeId) : BoxW (w.alloc (.cells #[x, y] t)) w.heap.size x y := by
  refine ⟨by simp, ?_, ?_, ?_, ?_⟩ <;> simp [go_sem]
theorem BoxW.belowB {w w' : World} {b B : Nat} {x y : Value} (h : BoxW w b x y) (hB : b < B) (F : RowKit.Below B w w') : BoxW w' b x y :=
  ⟨Nat.lt_of_lt_of_le h.1 (RowKit.Below.size F), (RowKit.Below.cell F (p := ⟨b, 0, none⟩) hB).trans h.2.1, (RowKit.Below.cell F (p := ⟨b, 1, none⟩) hB).trans h.2.2.1, (RowKit.Below.frozen F (p := ⟨b, 0, none⟩) hB).trans h.2.2.2.1, (RowKit.Below.frozen F (p := ⟨b, 1, none⟩) hB).trans h.2.2.2.2⟩
theorem BoxW.fut {w w' : World} {b : Nat} {x y : Value} (h : BoxW w b x y) (F : Fut w w') : BoxW w' b x y := h.belowB h.1 F
theorem BoxW.set {w : World} {b : Nat} {x y : Value} (h : BoxW w b x y) (y' : Value) : BoxW (w.setCell ⟨b, 1, none⟩ y') b x y' := by
  obtain ⟨h0, h1, h2, h3, h4⟩ := h
  refine ⟨by simpa using h0, ?_, ?_, ?_, ?_⟩ <;> simp [go_sem, *]
set_option maxRecDepth 100000 in
set_option maxHeartbeats 4000000 in
theorem drawn_any (c : Int) (a : Option Addr) (cap : Nat) (zs : List Int) (w : World) (hA : IntsAt w a zs) (hl : zs.length ≤ 1000) :
    Calls Try.prog 48 #[.int .i64 c, .slice a zs.length cap] w fun e w' => ∃ l lc, e = .returned (mapV c l (pairsL zs).length lc) ∧ StrAt w' l (pairsL zs) ∧ Fut w w' ∧ (∀ b off, l = some ⟨b, off, none⟩ → w.heap.size ≤ b) := by
  obtain ⟨i0, hi0, hz0, hz1, hz2⟩ := info_parts info65
  have HA := Lib.hid hA
  have hlx : (zs.length : Int) ≤ 1000 := by omega
  clear hA
  go_enter Try.func48, Try.ntmps48
  go_wp2_with fail
  have hR := (BoxW.new w (.int .i64 0) (.slice none 0 0) 24)
  have hF1 : Fut w (w.alloc (.cells #[.int .i64 0, .slice none 0 0] 24)) := Fut.alloc _ _
  have hz : (w.alloc (.cells #[.int .i64 0, .slice none 0 0] 24)).heap.size = w.heap.size + 1 := by simp
  generalize w.alloc (.cells #[.int .i64 0, .slice none 0 0] 24) = W1 at *
  have hM := BoxW.new W1 (.int .i64 c) (.slice none 0 0) 24
  have hF2 : Fut W1 (W1.alloc (.cells #[.int .i64 c, .slice none 0 0] 24)) := Fut.alloc _ _
  have hz2' : (W1.alloc (.cells #[.int .i64 c, .slice none 0 0] 24)).heap.size = W1.heap.size + 1 := by simp
  generalize W1.alloc (.cells #[.int .i64 c, .slice none 0 0] 24) = W2 at *
  rw [hz] at hM hz2'
  generalize hHH : w.heap.size = H at *
  have HH := Lib.hid (Nat.le_of_eq hHH)
  have HR0 := Lib.hid (hR.fut hF2)
  have HM0 := Lib.hid hM
  have HF0 := Lib.hid (hF1.trans hF2)
  have HZ0 := Lib.hid (Nat.le_of_eq hz2'.symm)
  clear hR hF1 hz hM hF2 hz2' hHH
  go_loopw [6] (fun iv wr => ∃ (k : Nat) (v : Value), k * 2 ≤ zs.length ∧ iv = .int .i64 ((k * 2 : Nat) : Int) ∧ Hid (OwnP wr (H + 2) v (pairsL (zs.take (k * 2)))) ∧ Hid (BoxW wr H (.int .i64 0) (.slice none 0 0)) ∧ Hid (BoxW wr (H + 1) (.int .i64 c) v) ∧ Hid (Fut w wr) ∧ Hid (H + 2 ≤ wr.heap.size)) (fun iv _ => zs.length - (intOf iv).toNat)
  case atStart => exact ⟨0, .slice none 0 0, Nat.zero_le _, rfl, Lib.hid (World.ownsRow_nil _ _ _ _), HR0, HM0, HF0, HZ0⟩
  case round =>
    obtain ⟨k, v, hk, rfl, HO, HR, HM, HF, HZ⟩ := hrel
    obtain ⟨hm, m0, m1, m2, m3⟩ := HM.out
    by_cases hlt : k * 2 + 1 < zs.length
    · have HAR := Lib.hid (HA.out.fut HF.out)
      obtain ⟨b, off, ea, hb, c1⟩ := HAR.out (k * 2) (by omega)
      obtain ⟨b', off', ea', _, c2⟩ := HAR.out (k * 2 + 1) hlt
      subst ea
      obtain ⟨rfl, rfl⟩ : b = b' ∧ off = off' := by simpa using ea'
      have hpt := pairs_take zs k hlt
      have HPT := Lib.hid hpt
      have hpl := pairs_len (zs.take (k * 2))
      have hpl2 : (zs.take (k * 2)).length ≤ 1000 := by simp; omega
      generalize nth zs (k * 2) = x at *
      generalize nth zs (k * 2 + 1) = y at *
      generalize pairsL (zs.take (k * 2)) = P at *
      generalize hK : k * 2 = K at *
      have hKx : (K : Int) + 1 < zs.length := by omega
      clear hpt ea'
      go_wp2_with fail
      have hown0 : wr.ownsRow (H + 2) 65 2 v P.length (flatP P) := HO.out
      have HOW := Lib.hid hown0
      have hbnd : P.length ≤ 1000 := by omega
      have hHs : H + 2 ≤ wr.heap.size := HZ.out
      have HNE : Hid (∀ kk, v.ownBlock = some kk → H + 2 ≤ kk) := Lib.hid (fun kk h => (HOW.out.lt kk h).1)
      have hbH : b < H := by
        obtain ⟨b2, off2, e2, h2, _⟩ := HA.out K (by omega)
        have := HH.out
        simp at e2
        omega
      clear hown0
      have hK0 : K < zs.length := by omega
      have h01 : (0 : Int) ≤ (K : Int) + 1 := by omega
      have hK1 : K + 1 < zs.length := hlt
      have hwr : IntKind.i64.wrap ((K : Int) + 1) = (K : Int) + 1 := IntWalk.i64_in _ ⟨by omega, by omega⟩
      go_region_law (first
          | (refine step_append_lies _ (by rfl) _ _ _ (by rfl) (H + 2) 65 i0 (.agg #[.int .i64 0, .int .i64 0]) 2 16 Try.underlying22 hi0 hz0 hz1 hz2 rfl (by omega) v P.length (flatP P) (by rfl) (HOW.out.alloc _) ⟨wr.heap.size, 0, none⟩ 1 1 [.int .i64 x, .int .i64 y] (by rfl) (by rfl) (World.news_of_block (cs := #[.int .i64 x, .int .i64 y]) (t := 65) (fr := (0, 0)) (heap_alloc_new wr _)) (by simp [Value.oneCell']) (by omega) (by unfold maxLen; omega) (by omega) (by simp; omega) _ (by rfl) ?_; intro g gc w1 hown1 hgrow hlie hgl; have hbel : RowKit.Below (H + 2) wr w1 := (below_drewN (RowKit.Below.alloc (RowKit.Below.refl _ _) hHs (.cells #[.int .i64 x, .int .i64 y] 65)) 1).grown hgrow (by simp; omega) (fun kk hkk => HNE.out kk hkk); obtain ⟨q0, q1, q2, q3, q4⟩ := HM.out.belowB (by omega) hbel))
      all_goals
        have HMW := Lib.hid (HM.out.belowB (by omega) hbel)
        have HRW := Lib.hid (HR.out.belowB (by omega) hbel)
        have HFW : Hid (Fut w w1) := Lib.hid (HF.out.trans' hbel (by have := HH.out; omega))
        have HZW := Lib.hid (Nat.le_trans hHs (RowKit.Below.size hbel))
        have HO1 : Hid (OwnP w1 (H + 2) (.slice (some ⟨g, 0, none⟩) (P.length + 1) gc) (P ++ [(x, y)])) := Lib.hid (by unfold OwnP; rw [flatP_app, List.length_append]; exact hown1)
        have hbw : RowKit.Below (H + 1) w1 (w1.setCell ⟨H + 1, 1, none⟩ (.slice (some ⟨g, 0, none⟩) (P.length + 1) gc)) := (RowKit.Below.refl (H + 1) w1).setCell (p := ⟨H + 1, 1, none⟩) (Nat.le_refl _) _
        have HM2 := Lib.hid (HMW.out.set (.slice (some ⟨g, 0, none⟩) (P.length + 1) gc))
        have HR2 := Lib.hid (HRW.out.belowB (by omega) hbw)
        have HF2 : Hid (Fut w (w1.setCell ⟨H + 1, 1, none⟩ (.slice (some ⟨g, 0, none⟩) (P.length + 1) gc))) := Lib.hid (HFW.out.trans' hbw (by have := HH.out; omega))
        have HZ2 : Hid (H + 2 ≤ (w1.setCell ⟨H + 1, 1, none⟩ (.slice (some ⟨g, 0, none⟩) (P.length + 1) gc)).heap.size) := Lib.hid (by simpa using HZW.out)
        have HO2 : Hid (OwnP (w1.setCell ⟨H + 1, 1, none⟩ (.slice (some ⟨g, 0, none⟩) (P.length + 1) gc)) (H + 2) (.slice (some ⟨g, 0, none⟩) (P.length + 1) gc) (pairsL (zs.take ((k + 1) * 2)))) := Lib.hid (by rw [HPT.out]; exact ownsRow_setCell_below HO1.out (a := ⟨H + 1, 1, none⟩) (by show H + 1 < H + 2; omega) _)
        generalize w1.setCell ⟨H + 1, 1, none⟩ (.slice (some ⟨g, 0, none⟩) (P.length + 1) gc) = w2 at *
        clear hown1 hgrow hlie hgl hbel q0 q1 q2 q3 q4 hbw HMW HRW HFW HZW HO1
        go_wp2
        go_roundw
        case rel => exact ⟨k + 1, .slice (some ⟨g, 0, none⟩) (P.length + 1) gc, by omega, by go_num, HO2, HR2, HM2, HF2, HZ2⟩
        case measure => simp [intOf]; omega
    · have hpe := pairs_end zs k hk (by omega)
      rw [hpe] at HO
      obtain ⟨l, lc, hv, hst⟩ := HO.out.str
      subst hv
      have HST := Lib.hid hst
      have hR := HR.out
      obtain ⟨r0, r1, r2, r3, r4⟩ := hR
      have hkx : ¬ ((k * 2 : Nat) : Int) + 1 < zs.length := by omega
      generalize hK : k * 2 = K at *
      have hKn : ¬ K + 1 < zs.length := by omega
      have HHW := Lib.hid HH.out
      clear hst hpe
      go_wp2
      refine bodyPost_ret (v := mapV c l (pairsL zs).length lc) (by simp [results, Try.results48, go_sem, *]) rfl ?_
      have hbw : RowKit.Below H wr ((wr.setCell ⟨H, 0, none⟩ (.int .i64 c)).setCell ⟨H, 1, none⟩ (.slice l (pairsL zs).length lc)) :=
        ((RowKit.Below.refl H wr).setCell (p := ⟨H, 0, none⟩) (Nat.le_refl _) _).setCell (p := ⟨H, 1, none⟩) (Nat.le_refl _) _
      have HO3 : OwnP ((wr.setCell ⟨H, 0, none⟩ (.int .i64 c)).setCell ⟨H, 1, none⟩ (.slice l (pairsL zs).length lc)) (H + 2) (.slice l (pairsL zs).length lc) (pairsL zs) :=
        ownsRow_setCell_below (ownsRow_setCell_below HO.out (a := ⟨H, 0, none⟩) (by show H < H + 2; omega) _) (a := ⟨H, 1, none⟩) (by show H < H + 2; omega) _
      obtain ⟨l2, lc2, e2, hs2⟩ := HO3.str
      obtain ⟨rfl, rfl⟩ : l = l2 ∧ lc = lc2 := by simpa using e2
      exact ⟨l, ⟨lc, rfl⟩, hs2, HF.out.trans' hbw HHW.out, fun b off e => by have := OwnP.base HO3 b off e; have := HHW.out; omega⟩
end Go.Proofs.Ytimddkofcejijaa
