/- Layer 2: more streets. -/
import Derived.Test.YtimddkofcejijaaSK
import Derived.Deep.RegionHeld3
namespace Go.Proofs.Ytimddkofcejijaa
open Go.RowKit Go.Sort
theorem Fut.drew' (w : World) : Fut w w.drew := (RowKit.Below.refl _ w).drew
/-- the block G holds a map of n corners whose streets the call owns, apart from G. -/
def WideP (w2 wx : World) (G : Nat) (n : Int) (v : Value) (P : List (Int × Int)) : Prop :=
  BoxW wx G (.int .i64 n) v ∧ OwnP wx w2.heap.size v P ∧ v.ownBlock ≠ some G ∧ w2.heap.size ≤ G ∧ Fut w2 wx
theorem OwnP.low {w : World} {B B' : Nat} {v : Value} {P : List (Int × Int)} (h : OwnP w B v P) (hb : B' ≤ B) : OwnP w B' v P :=
  ⟨h.1, h.2.imp id fun ⟨g, cap, cur, hv, hg, r⟩ => ⟨g, cap, cur, hv, Nat.le_trans hb hg, r⟩⟩
theorem own_far {w : World} {base : Nat} {e : TypeId} {size : Nat} {v : Value} {n : Nat} {xs : List Value} (h : w.ownsRow base e size v n xs) {a : Addr} (ha : v.ownBlock ≠ some a.block) (u : Value) : (w.setCell a u).ownsRow base e size v n xs := by
  obtain ⟨h1, h2⟩ := h
  refine ⟨by simpa using h1, ?_⟩
  rcases h2 with h2 | ⟨g, cap, cur, rfl, hg, hh, r⟩
  · exact Or.inl h2
  · have hne : g ≠ a.block := fun e => ha (by rw [← e]; rfl)
    exact Or.inr ⟨g, cap, cur, rfl, hg, by rw [RowKit.Below.heap_setCell _ _ _ _ (by omega)]; exact hh, r⟩
theorem wide_new {w2 w3 : World} {n : Int} {v : Value} {P : List (Int × Int)} (hO : OwnP w3 w2.heap.size v P) (F : Fut w2 w3) : WideP w2 (w3.alloc (.cells #[.int .i64 n, v] 24)) w3.heap.size n v P :=
  ⟨BoxW.new _ _ _ _, OwnP.fut hO (Fut.alloc _ _), fun e => by have := (World.ownsRow.lt hO _ e).2; omega, RowKit.Below.size F, F.trans (Fut.alloc _ _)⟩
theorem BoxW.set0 {w : World} {b : Nat} {x y : Value} (h : BoxW w b x y) (x' : Value) : BoxW (w.setCell ⟨b, 0, none⟩ x') b x' y := by
  obtain ⟨h0, h1, h2, h3, h4⟩ := h
  refine ⟨by simpa using h0, ?_, ?_, ?_, ?_⟩ <;> simp [go_sem, *]
theorem wide_set {w2 w3 : World} {n : Int} {v x y : Value} {P : List (Int × Int)} {G base : Nat} (hB : BoxW w3 G x y) (hO : OwnP w3 base v P) (hb : G < base) (hG : w2.heap.size ≤ G) (F : Fut w2 w3) : WideP w2 ((w3.setCell ⟨G, 0, none⟩ (.int .i64 n)).setCell ⟨G, 1, none⟩ v) G n v P := by
  have hO2 : OwnP ((w3.setCell ⟨G, 0, none⟩ (.int .i64 n)).setCell ⟨G, 1, none⟩ v) base v P := ownsRow_setCell_below (ownsRow_setCell_below hO (a := ⟨G, 0, none⟩) hb _) (a := ⟨G, 1, none⟩) hb _
  refine ⟨(hB.set0 _).set _, hO2.low (by omega), fun e => by have := (World.ownsRow.lt hO _ e).1; omega, hG, ?_⟩
  exact F.trans' (((RowKit.Below.refl G w3).setCell (p := ⟨G, 0, none⟩) (Nat.le_refl _) _).setCell (p := ⟨G, 1, none⟩) (Nat.le_refl _) _) hG
theorem wide_box {w2 wr wi w1 : World} {G : Nat} {n : Int} {v : Value} {P : List (Int × Int)} (hW : WideP w2 wr G n v P) (F : Fut wr wi) (hg : wi.grownBy w1 v.ownBlock) : BoxW w1 G (.int .i64 n) v := by
  obtain ⟨hB, _, hne, _, _⟩ := hW
  obtain ⟨h0, h1, h2, h3, h4⟩ := hB.fut F
  have hn : some G ≠ v.ownBlock := fun e => hne e.symm
  exact ⟨Nat.lt_of_lt_of_le h0 hg.size, (hg.cell_far ⟨G, 0, none⟩ h0 hn).trans h1, (hg.cell_far ⟨G, 1, none⟩ h0 hn).trans h2, (hg.frozen_far ⟨G, 0, none⟩ h0 hn).trans h3, (hg.frozen_far ⟨G, 1, none⟩ h0 hn).trans h4⟩
theorem wide_app {w2 wr wi w1 : World} {G : Nat} {n : Int} {v : Value} {P : List (Int × Int)} (hW : WideP w2 wr G n v P) (F : Fut wr wi) (hg : wi.grownBy w1 v.ownBlock) {g gc : Nat} {p : Int × Int}
    (hown : w1.ownsRow w2.heap.size 65 2 (.slice (some ⟨g, 0, none⟩) (P.length + 1) gc) (P.length + 1) (flatP P ++ [.int .i64 p.1, .int .i64 p.2])) (hl : v.ownBlock = some g ∨ g = wi.heap.size) :
    WideP w2 (w1.setCell ⟨G, 1, none⟩ (.slice (some ⟨g, 0, none⟩) (P.length + 1) gc)) G n (.slice (some ⟨g, 0, none⟩) (P.length + 1) gc) (P ++ [p]) := by
  have hB := wide_box hW F hg
  have hGi : G < wi.heap.size := (hW.1.fut F).1
  obtain ⟨_, hO, hne, hG, F2⟩ := hW
  have hgG : g ≠ G := by
    rcases hl with h | h
    · intro e; exact hne (by rw [h, e])
    · omega
  have hO1 : OwnP w1 w2.heap.size (.slice (some ⟨g, 0, none⟩) (P.length + 1) gc) (P ++ [p]) := by unfold OwnP; rw [flatP_app, List.length_append]; exact hown
  have hnb : (Value.slice (some ⟨g, 0, none⟩) (P.length + 1) gc).ownBlock ≠ some G := fun e => hgG (by simpa [Value.ownBlock] using e)
  refine ⟨hB.set _, own_far hO1 (a := ⟨G, 1, none⟩) hnb _, hnb, hG, ?_⟩
  have F3 : Fut w2 wi := F2.trans F
  have F4 : Fut w2 w1 := RowKit.Below.grown F3 hg (RowKit.Below.size F3) fun k hk => (World.ownsRow.lt hO k hk).1
  exact F4.trans' ((RowKit.Below.refl G w1).setCell (p := ⟨G, 1, none⟩) (Nat.le_refl _) _) hG
theorem news2 {w : World} {L : Nat} {x y : Value} (h0 : w.cell? ⟨L, 0, none⟩ = some x) (h1 : w.cell? ⟨L, 1, none⟩ = some y) : ∀ j u, [x, y][j]? = some u → w.cell? ((⟨L, 0, none⟩ : Addr).add j) = some u := fun j u hj => by
  rw [Addr.add_lit, Nat.zero_add]
  match j, hj with
  | 0, hj => rw [h0]; simpa using hj
  | 1, hj => rw [h1]; simpa using hj
  | j + 2, hj => simp at hj
theorem box_grow {w w1 : World} {A : Nat} {x y v : Value} (hB : BoxW w A x y) (hne : v.ownBlock ≠ some A) (hg : w.grownBy w1 v.ownBlock) : BoxW w1 A x y := by
  obtain ⟨h0, h1, h2, h3, h4⟩ := hB
  have hn : some A ≠ v.ownBlock := fun e => hne e.symm
  exact ⟨Nat.lt_of_lt_of_le h0 hg.size, (hg.cell_far ⟨A, 0, none⟩ h0 hn).trans h1, (hg.cell_far ⟨A, 1, none⟩ h0 hn).trans h2, (hg.frozen_far ⟨A, 0, none⟩ h0 hn).trans h3, (hg.frozen_far ⟨A, 1, none⟩ h0 hn).trans h4⟩
theorem ne_lo {w : World} {base A n size : Nat} {e : TypeId} {v : Value} {xs : List Value} (h : w.ownsRow base e size v n xs) (hA : A < base) : v.ownBlock ≠ some A := fun e => by have := (h.lt _ e).1; omega
theorem ne_hi {w : World} {base A n size : Nat} {e : TypeId} {v : Value} {xs : List Value} (h : w.ownsRow base e size v n xs) (hA : w.heap.size ≤ A) : v.ownBlock ≠ some A := fun e => by have := (h.lt _ e).2; omega
theorem BoxW.new2 (w : World) (o : Obj) (x y : Value) (t : TypeId) : BoxW ((w.alloc o).alloc (.cells #[x, y] t)) (w.heap.size + 1) x y := by
  have h := BoxW.new (w.alloc o) x y t
  rwa [World.size_alloc] at h
theorem set_far {w : World} {B A k : Nat} {x u u' : Value} (h : w.cell? ⟨B, k, none⟩ = some x) (hne : B ≠ A) : ((w.setCell ⟨A, 0, none⟩ u).setCell ⟨A, 1, none⟩ u').cell? ⟨B, k, none⟩ = some x := by
  rw [World.cell?_setCell_other _ _ _ _ (fun e => hne (by simpa using congrArg Addr.block e.symm)), World.cell?_setCell_other _ _ _ _ (fun e => hne (by simpa using congrArg Addr.block e.symm))]
  exact h
theorem flatP_app2 (l : List (Int × Int)) (p q : Int × Int) : flatP (l ++ [p, q]) = flatP l ++ [.int .i64 p.1, .int .i64 p.2, .int .i64 q.1, .int .i64 q.2] := by
  rw [show l ++ [p, q] = (l ++ [p]) ++ [q] by simp, flatP_app, flatP_app, List.append_assoc]; rfl
theorem news4 {w : World} {L : Nat} {x y z u : Value} (h0 : w.cell? ⟨L, 0, none⟩ = some x) (h1 : w.cell? ⟨L, 1, none⟩ = some y) (h2 : w.cell? ⟨L, 2, none⟩ = some z) (h3 : w.cell? ⟨L, 3, none⟩ = some u) : ∀ j v, [x, y, z, u][j]? = some v → w.cell? ((⟨L, 0, none⟩ : Addr).add j) = some v := fun j v hj => by
  rw [Addr.add_lit, Nat.zero_add]
  match j, hj with
  | 0, hj => rw [h0]; simpa using hj
  | 1, hj => rw [h1]; simpa using hj
  | 2, hj => rw [h2]; simpa using hj
  | 3, hj => rw [h3]; simpa using hj
  | j + 4, hj => simp at hj
theorem OwnP.strs {w : World} {B : Nat} {a : Option Addr} {m c : Nat} {ss : List (Int × Int)} (h : OwnP w B (.slice a m c) ss) : StrAt w a ss := by
  obtain ⟨a', c', e, hs⟩ := h.str
  simp only [Value.slice.injEq] at e
  rw [e.1]; exact hs
theorem end_alloc {w6 wz : World} {n : Int} {m gn gc : Nat} {l2 : List (Int × Int)} (h : OwnP wz w6.heap.size (.slice (some ⟨gn, 0, none⟩) m gc) l2) (F : Fut w6 wz) :
    ∃ A l' lc', Value.pointer (some ⟨wz.heap.size, 0, none⟩) = .pointer (some ⟨A, 0, none⟩) ∧ BoxM (wz.alloc (.cells #[.int .i64 n, .slice (some ⟨gn, 0, none⟩) m gc] 24)) A n l' m lc' ∧ StrAt (wz.alloc (.cells #[.int .i64 n, .slice (some ⟨gn, 0, none⟩) m gc] 24)) l' l2 ∧ Fut w6 (wz.alloc (.cells #[.int .i64 n, .slice (some ⟨gn, 0, none⟩) m gc] 24)) :=
  ⟨_, _, _, rfl, BoxM.new _ _ _ _ _ _, h.strs.fut (Fut.alloc _ _), F.trans (Fut.alloc _ _)⟩
theorem end_set {w6 wz : World} {A : Nat} {n : Int} {m gn gc : Nat} {x y : Value} {l2 : List (Int × Int)} (h : OwnP wz w6.heap.size (.slice (some ⟨gn, 0, none⟩) m gc) l2) (F : Fut w6 wz) (hB : BoxW wz A x y) (hA : w6.heap.size ≤ A) (hne : gn ≠ A) :
    ∃ A' l' lc', Value.pointer (some ⟨A, 0, none⟩) = .pointer (some ⟨A', 0, none⟩) ∧ BoxM ((wz.setCell ⟨A, 0, none⟩ (.int .i64 n)).setCell ⟨A, 1, none⟩ (.slice (some ⟨gn, 0, none⟩) m gc)) A' n l' m lc' ∧ StrAt ((wz.setCell ⟨A, 0, none⟩ (.int .i64 n)).setCell ⟨A, 1, none⟩ (.slice (some ⟨gn, 0, none⟩) m gc)) l' l2 ∧ Fut w6 ((wz.setCell ⟨A, 0, none⟩ (.int .i64 n)).setCell ⟨A, 1, none⟩ (.slice (some ⟨gn, 0, none⟩) m gc)) := by
  have hn : ∀ b off, (some ⟨gn, 0, none⟩ : Option Addr) = some ⟨b, off, none⟩ → b ≠ A := fun b off e => by
    simp at e; omega
  have hS := (hB.set0 (.int .i64 n)).set (.slice (some ⟨gn, 0, none⟩) m gc)
  obtain ⟨h0, h1, h2, _⟩ := hS
  exact ⟨_, _, _, rfl, ⟨h0, h1, h2⟩, (h.strs.far hn _).far hn _, F.trans' (((RowKit.Below.refl A wz).setCell (p := ⟨A, 0, none⟩) (Nat.le_refl _) _).setCell (p := ⟨A, 1, none⟩) (Nat.le_refl _) _) hA⟩
set_option maxRecDepth 100000 in
set_option maxHeartbeats 40000000 in
theorem more_any (t : Nat → Int) (one two : Int) (w : World) (ht : tOk t) (h1 : 0 ≤ one ∧ one ≤ 255) (h2 : 0 ≤ two ∧ two ≤ 255) : Calls Try.prog 9 #[tV t, .int .u8 one, .int .u8 two] w fun e w' => e = .returned (.bool true) ∧ Fut w w' := by
  obtain ⟨q1, rfl⟩ := Int.eq_ofNat_of_zero_le h1.1
  obtain ⟨q2, rfl⟩ := Int.eq_ofNat_of_zero_le h2.1
  go_enter Try.func9, Try.ntmps9
  go_upto_region 1 with fail
  have hF : Fut w (w.alloc (.cells (tC t) 60)) := Fut.alloc _ _
  have hB : (w.alloc (.cells (tC t) 60)).heap[w.heap.size]? = some (.cells (tC t) 60 (0, 0)) := heap_alloc_new _ _
  generalize w.alloc (.cells (tC t) 60) = W1 at *
  refine wp_region_lit ?_
  refine wpList_load_row rfl 60 (.tmp 3) rfl w.heap.size rfl 60 (tC t) (0, 0) _ hB Try.underlying60 rfl (by kernel_rfl) ?_
  go_wp2_with fail
  refine (made_any t 5 7 W1 ht (by decide) (by decide)).mono ?_
  rintro _ w1 ⟨n, ss, l, lc, rfl, hS, F, hn1, hn5, hM, h7⟩
  have HF1 := Lib.hid (hF.trans F)
  clear hF F hB ht
  clear W1
  go_upto_region 2 with fail
  generalize tC t = TC at *
  generalize (⟨w.heap.size, 0, none⟩ : Addr) = BA at *
  have hchk := made_chk hn1 (by omega) hM (by omega)
  have hmem := made_mem hn1 hM
  have hp := (chk_good hchk).2.2.2.1
  have hR1 : fewR n ss = fewM ss := by unfold fewR; rw [if_pos hchk]
  have hFW := fun (W : World) (F : Fut w1 W) => fewest_any n l lc ss W (hS.fut F)
  obtain ⟨S, hSl, hSe, hSB, hSm⟩ := few_set ss
  rw [hR1, hchk, hSe] at hFW
  have hOD := fun (W : World) (F : Fut w1 W) => oddf_ok n l lc ss W (hS.fut F) hchk
  have HFW := Lib.hid hFW
  have HOD := Lib.hid hOD
  have HS := Lib.hid hS
  have HM := Lib.hid hM
  have HMEM := Lib.hid hmem
  have HSB := Lib.hid hSB
  have HSL := Lib.hid hSl
  have hshort := list_short (by omega) hSl
  clear hchk hp hR1 hFW hOD hS hM hmem hSB hSl hSe hSm
  have hB := BoxM.new w1 n l ss.length lc 24
  have hF : Fut w1 (w1.alloc (.cells #[.int .i64 n, .slice l ss.length lc] 24)) := Fut.alloc _ _
  generalize w1.alloc (.cells #[.int .i64 n, .slice l ss.length lc] 24) = W2 at *
  generalize w1.heap.size = B at *
  have HB := Lib.hid hB
  have HF := Lib.hid hF
  obtain ⟨hb, b0, b1⟩ := hB
  clear hF
  go_wp2_with fail
  refine (HFW.out _ HF.out).mono ?_
  rintro _ w2 ⟨la, lac, rfl, hI, F⟩
  have HI := Lib.hid hI
  have HF2 := Lib.hid (HF.out.trans F)
  have HB2 := Lib.hid (HB.out.fut F)
  clear hb b0 b1 F hI
  obtain ⟨hb, b0, b1⟩ := HB2.out
  have HNT := Lib.hid (nth_list S)
  have hMl := list_le S
  generalize hMM : listM S = M at *
  have HMS := Lib.hid hMM
  have hmx : (M.length : Int) ≤ 16 := by omega
  have hsx : (ss.length : Int) ≤ 7 := by omega
  have hMS : (M.length : Int) ≤ ss.length := by omega
  have hMS2 : ¬ ss.length < M.length := by omega
  clear hMM
  go_upto_region 5 with fail
  have HCL := Lib.hid (fun (W : World) (F : Fut w2 W) => (clone_any l lc ss W ((HS.out.fut HF2.out).fut F) (by omega)).mono fun e w' (h : ∃ v, e = .returned v ∧ OwnP w' W.heap.size v ss ∧ Fut W w') => (by
    obtain ⟨v, h1, h2, h3⟩ := h
    obtain ⟨_, c0, c1⟩ := HB2.out.fut (F.trans h3)
    exact (⟨v, h1, h2, h3, F.trans h3, c0, c1⟩ : ∃ v, e = .returned v ∧ OwnP w' W.heap.size v ss ∧ Fut W w' ∧ Fut w2 w' ∧ w'.cell? ⟨B, 0, none⟩ = some (.int .i64 n) ∧ w'.cell? ⟨B, 1, none⟩ = some (.slice l ss.length lc))))
  go_cut [10] from 42 to 47 (fun s10 wx => ∃ G v, s10 = .pointer (some ⟨G, 0, none⟩) ∧ WideP w2 wx G n v ss)
  case first =>
    go_region_held3 (fun w' => w'.cell? ⟨B, 0, none⟩ = some (.int .i64 n) ∧ w'.cell? ⟨B, 1, none⟩ = some (.slice l ss.length lc)) (first | exact ⟨Lib.cell?_alloc_some _ (by assumption), Lib.cell?_alloc_some _ (by assumption)⟩ | exact ⟨by assumption, by assumption⟩ | simp [go_sem, *]) (first
      | (go_at_call 43; refine (HCL.out _ ((Fut.alloc w2 (.cells #[.int .i64 0, .slice none 0 0] 24)).trans (Fut.drew' _))).mono ?_; rintro r w3 ⟨v, rfl, hO3, F3, F23, b03, b13⟩; obtain ⟨va, vc, rfl, _⟩ := hO3.str; obtain ⟨g0, g1, g2, g3, g4⟩ := ((BoxW.new w2 (.int .i64 0) (.slice none 0 0) 24).fut (Fut.drew' _)).fut F3)
      | (go_at_call 43; refine (HCL.out _ (Fut.drew' _)).mono ?_; rintro r w3 ⟨v, rfl, hO3, F3, F23, b03, b13⟩; obtain ⟨va, vc, rfl, _⟩ := hO3.str))
    all_goals (go_wp2_with fail; go_meet)
    · exact ⟨_, _, rfl, wide_new hO3 F23⟩
    · exact ⟨_, _, rfl, wide_set ⟨g0, g1, g2, g3, g4⟩ hO3 (by simp) (Nat.le_refl _) F23⟩
  case rest =>
    obtain ⟨G, v, rfl, hW⟩ := hcut
    have HW0 := Lib.hid hW
    have HO0 : Hid (ss ++ addS ss (M.take 0) = ss) := Lib.hid (by rw [List.take_zero]; exact List.append_nil ss)
    obtain ⟨i0, hi0, hz0, hz1, hz2⟩ := info_parts info65
    clear hb b0 b1 hW HB HF
    go_wp2_with fail
    go_loopw [50] (fun iv wr => ∃ (k : Nat) (v : Value), k ≤ M.length ∧ iv = .int .i64 k ∧ Hid (WideP w2 wr G n v (ss ++ addS ss (M.take k)))) (fun iv _ => M.length - (intOf iv).toNat)
    case atStart => exact ⟨0, v, Nat.zero_le _, rfl, Lib.hid (by rw [HO0.out]; exact HW0.out)⟩
    case round =>
      clear HW0 HO0
      obtain ⟨k, v, hk, rfl, HW⟩ := hrel
      have HR := Lib.hid HW.out.2.2.2.2
      obtain ⟨hb, b0, b1⟩ := HB2.out.fut HR.out
      obtain ⟨hg, g0, g1, g2, g3⟩ := HW.out.1
      by_cases hlt : k < M.length
      · have hkx : (k : Int) < M.length := by omega
        obtain ⟨bb, off, ea, hbb, d1⟩ := (HI.out.fut HR.out) k hlt
        subst ea
        obtain ⟨i, hi, _, hbit, hget⟩ := HNT.out k hlt
        have hil : i < ss.length := by
          rcases Nat.lt_or_ge i ss.length with h | h
          · exact h
          · rw [Nat.testBit_lt_two_pow (Nat.lt_of_lt_of_le HSL.out (Nat.pow_le_pow_right (by decide) h))] at hbit; cases hbit
        have hilx : (i : Int) < ss.length := by omega
        obtain ⟨sb, soff, ea, hsb, s1, s2⟩ := ((HS.out.fut HF2.out).fut HR.out) i hil
        subst ea
        have HTS : Hid (ss ++ addS ss (M.take (k + 1)) = (ss ++ addS ss (M.take k)) ++ [str ss i]) := Lib.hid (by
          have h1 : M.take (k + 1) = M.take k ++ [nth M k] := by rw [List.take_add_one, nth_eq, List.getElem?_eq_getElem hlt]; rfl
          rw [h1, hi]
          unfold addS
          rw [List.map_append, List.append_assoc]
          rfl)
        have hPl : (ss ++ addS ss (M.take k)).length ≤ 30 := by
          unfold addS
          rw [List.length_append, List.length_map, List.length_take]
          omega
        rw [hi] at d1
        generalize ss ++ addS ss (M.take k) = P at *
        generalize hstr : str ss i = p at *
        obtain ⟨x, y⟩ := p
        dsimp only at s1 s2
        have HOW := Lib.hid HW.out.2.1
        have hown0 : wr.ownsRow w2.heap.size 65 2 v P.length (flatP P) := HW.out.2.1
        have HOW0 := Lib.hid hown0
        have hws : w2.heap.size ≤ wr.heap.size := RowKit.Below.size HR.out
        clear hown0 hi hbit hget hstr
        go_wp2_with fail
        go_region_law (first
          | (refine step_append_lies _ (by rfl) _ _ _ (by rfl) w2.heap.size 65 i0 (.agg #[.int .i64 0, .int .i64 0]) 2 16 Try.underlying22 hi0 hz0 hz1 hz2 rfl (by omega) v P.length (flatP P) (by rfl) (HOW0.out.alloc _) ⟨wr.heap.size, 0, none⟩ 1 1 [.int .i64 x, .int .i64 y] (by rfl) (by rfl) (World.news_of_block (cs := #[.int .i64 x, .int .i64 y]) (t := 65) (fr := (0, 0)) (heap_alloc_new wr _)) (by simp [Value.oneCell']) (by omega) (by unfold maxLen; omega) (by omega) (by simp; omega) _ (by rfl) ?_; intro gn gc wz hown1 hgrow hlie hgl; obtain ⟨q0, q1, q2, q3, q4⟩ := wide_box HW.out ((Fut.alloc wr (.cells #[.int .i64 x, .int .i64 y] 65)).trans (Fut.drewN _ 1)) hgrow))
        all_goals
          have HW2 := Lib.hid (wide_app (p := (x, y)) HW.out ((Fut.alloc wr (.cells #[.int .i64 x, .int .i64 y] 65)).trans (Fut.drewN _ 1)) hgrow hown1 hlie)
          generalize wz.setCell ⟨G, 1, none⟩ (.slice (some ⟨gn, 0, none⟩) (P.length + 1) gc) = w5 at *
          have HW3 : Hid (WideP w2 w5 G n (.slice (some ⟨gn, 0, none⟩) (P.length + 1) gc) (ss ++ addS ss (M.take (k + 1)))) := Lib.hid (by rw [HTS.out]; exact HW2.out)
          clear hown1 hgrow hlie hgl q0 q1 q2 q3 q4 HW2
          go_wp2
          go_roundw
          case rel => exact ⟨k + 1, _, by omega, by go_num, HW3⟩
          case measure => simp [intOf]; omega
      · obtain rfl : k = M.length := by omega
        rw [List.take_length] at HW
        obtain ⟨va, vc, hv, hst⟩ := OwnP.str HW.out.2.1
        subst hv
        have HST := Lib.hid hst
        have hMmem : ∀ z ∈ M, 0 ≤ z ∧ z < ss.length := fun z hz => by
          obtain ⟨j, hj, rfl⟩ := List.getElem_of_mem hz
          obtain ⟨i, hi, _, hbit, _⟩ := HNT.out j hj
          have hil : i < ss.length := by
            rcases Nat.lt_or_ge i ss.length with h | h
            · exact h
            · rw [Nat.testBit_lt_two_pow (Nat.lt_of_lt_of_le HSL.out (Nat.pow_le_pow_right (by decide) h))] at hbit; cases hbit
          rw [nth_eq, List.getElem?_eq_getElem hj] at hi
          have : M[j] = (i : Int) := hi
          omega
        have hmw : MadeP n (ss ++ addS ss M) := made_more HM.out fun p hp => HMEM.out p (addS_mem hMmem p hp)
        have how : oddM (ss ++ addS ss M) (2 ^ (ss ++ addS ss M).length - 1) = 0 := by
          have := odd_wide (by omega) HSL.out HSB.out
          rw [HMS.out] at this
          exact this
        have HCW : Hid ((ss ++ addS ss M).length ≤ 9 → ∀ W, Fut wr W → Calls Try.prog 15 #[mapV n va (ss ++ addS ss M).length vc] W (TupL 0 [] W)) := Lib.hid (fun h9 W F => by
          have := oddf_ok n va vc _ W (hst.fut F) (made_chk hn1 (by omega) hmw h9)
          rw [how, listM_zero] at this
          exact this)
        have HEW : Hid ((ss ++ addS ss M).length ≤ 9 → ∀ W, Fut wr W → Calls Try.prog 20 #[mapV n va (ss ++ addS ss M).length vc, .slice none 0 0] W (PostC 0 W)) := Lib.hid (fun h9 W F => by
          have := enough_any n va vc _ none 0 [] W (hst.fut F) (nil_ints _ _) (by simp)
          rw [enough_nil (made_chk hn1 (by omega) hmw h9) how] at this
          exact this)
        clear hst hmw how hMmem HST
        generalize (ss ++ addS ss M).length = N at *
        go_upto_if 77 with fail
        go_cut [13, 14] from 77 to 94 (fun s13 s14 wx => Fut wr wx)
        case first =>
          by_cases h9 : N ≤ 9
          · have hNx : (N : Int) ≤ 9 := by omega
            go_wp2_with fail
            refine (HCW.out h9 _ Fut.rfl).mono ?_
            rintro _ w5 ⟨lo, loc, rfl, _, F5⟩
            obtain ⟨hg', g0', g1', g2', g3'⟩ := HW.out.1.fut F5
            have HF5 := Lib.hid F5
            clear hb b0 b1 hg g0 g1 g2 g3 F5
            go_wp2_with fail
            refine (HEW.out h9 _ HF5.out).mono ?_
            rintro _ w6 ⟨rfl, F6⟩
            have HF6 := Lib.hid (HF5.out.trans F6)
            clear hg' g0' g1' g2' g3' F6
            go_wp2_with fail
            go_meet
            exact HF6.out
          · have hNx : ¬ (N : Int) ≤ 9 := by omega
            go_wp2_with fail
            go_meet
            exact Fut.rfl
        case rest =>
          have HRC := Lib.hid (HR.out.trans hcut)
          clear hb b0 b1 hg g0 g1 g2 g3 hcut HCW HEW HW
          have HFC := Lib.hid (HF2.out.trans HRC.out)
          obtain ⟨hb, b0, b1⟩ := HB2.out.fut HRC.out
          by_cases hone : n = 1
          · subst hone
            have HWW := Lib.hid (HF1.out.trans HFC.out)
            go_wp2_with fail
            refine (works_any _).mono ?_
            rintro _ w7 ⟨rfl, F⟩
            have HW7 := Lib.hid (HWW.out.trans F)
            clear hb b0 b1 F
            go_wp2
            go_ret
            exact ⟨rfl, HW7.out⟩
          · have hn2 : 2 ≤ n := by omega
            have hnb : ((n : Int) == 1) = false := by rw [beq_eq_false_iff_ne]; omega
            have hnx5 : (n : Int) ≤ 5 := by omega
            have hnx2 : (2 : Int) ≤ n := by omega
            have hq1x : (q1 : Int) ≤ 255 := by omega
            have hq2x : (q2 : Int) ≤ 255 := by omega
            have hn0 : ((n : Int) == 0) = false := by rw [beq_eq_false_iff_ne]; omega
            go_upto_region 20 with fail
            obtain ⟨a, ha⟩ : ∃ a, a = q1 % n := ⟨_, rfl⟩
            obtain ⟨d, hd⟩ : ∃ d, d = q2 % (n - 1) := ⟨_, rfl⟩
            obtain ⟨b, hbb⟩ : ∃ b, b = (a + 1 + d) % n := ⟨_, rfl⟩
            have han : a < n := by rw [ha]; exact Nat.mod_lt _ (by omega)
            have hdn : d < n - 1 := by rw [hd]; exact Nat.mod_lt _ (by omega)
            have hbn : b < n := by rw [hbb]; exact Nat.mod_lt _ (by omega)
            have hab : a ≠ b := by
              rcases Nat.lt_or_ge (a + 1 + d) n with h | h
              · rw [Nat.mod_eq_of_lt h] at hbb; omega
              · rw [Nat.mod_eq_sub_mod h, Nat.mod_eq_of_lt (by omega)] at hbb; omega
            have hA : (q1 : Int) % (n : Int) = (a : Int) := by rw [ha]; simp
            have hD : (q2 : Int) % ((n : Int) - 1) = (d : Int) := by
              have e : ((n : Int) - 1) = ((n - 1 : Nat) : Int) := by omega
              rw [hd, e]; simp
            have hBB : ((a : Int) + 1 + (d : Int)) % (n : Int) = (b : Int) := by
              have e : ((a : Int) + 1 + (d : Int)) = ((a + 1 + d : Nat) : Int) := by omega
              rw [hbb, e]; simp
            have HD := Lib.hid hD
            have HBB := Lib.hid hBB
            rw [hA]
            have hax : (a : Int) ≤ 5 := by omega
            have hdx : (d : Int) ≤ 5 := by omega
            have hw1 : IntKind.i64.wrap ((n : Int) - 1) = (n : Int) - 1 := IntWalk.i64_in _ ⟨by omega, by omega⟩
            have hn10 : ((n : Int) - 1 == 0) = false := by rw [beq_eq_false_iff_ne]; omega
            clear ha hd hbb hA
            go_quiet (fail)
            rw [HBB.out]
            have HR5 := Lib.hid (HRC.out.trans (Fut.drewN wc nq))
            generalize wc.drewN nq = w5 at *
            clear hb b0 b1 hD hBB HFC HRC hw1 hn10 hdx hdn
            have hmin : min (a : Int) (b : Int) = ((min a b : Nat) : Int) := by omega
            have hmax : max (a : Int) (b : Int) = ((max a b : Nat) : Int) := by omega
            have hlo : min a b < max a b := by omega
            have hhi : max a b < n := by omega
            obtain ⟨lo, hlod⟩ : ∃ lo, lo = min a b := ⟨_, rfl⟩
            obtain ⟨hi, hhid⟩ : ∃ hi, hi = max a b := ⟨_, rfl⟩
            rw [← hlod] at hmin hlo
            rw [← hhid] at hmax hlo hhi
            clear hlod hhid
            go_upto_region 22 with fail
            have hR6 : Fut w5 (w5.alloc (.cells #[.int .i64 lo, .int .i64 hi] 65)) := Fut.alloc _ _
            have hE := BoxW.new w5 (.int .i64 lo) (.int .i64 hi) 65
            generalize w5.alloc (.cells #[.int .i64 lo, .int .i64 hi] 65) = w6 at *
            generalize w5.heap.size = E at *
            have HR6 := Lib.hid (HR5.out.trans hR6)
            have HE6 := Lib.hid hE
            have HB6 := Lib.hid (HB2.out.fut HR6.out)
            clear hR6 hE hmin hmax
            obtain ⟨hb, b0, b1⟩ := HB6.out
            obtain ⟨he, e0, e1, e2, e3⟩ := HE6.out
            obtain ⟨i0, hi0, hz0, hz1, hz2⟩ := info_parts info65
            have HCL6 := Lib.hid (fun (W : World) (F : Fut w6 W) => (clone_any l lc ss W (((HS.out.fut HF2.out).fut HR6.out).fut F) (by omega)).mono fun e w' (h : ∃ v, e = .returned v ∧ OwnP w' W.heap.size v ss ∧ Fut W w') => (by
              obtain ⟨v, h1, h2, h3⟩ := h
              obtain ⟨_, c0, c1⟩ := HB6.out.fut (F.trans h3)
              obtain ⟨_, c2, c3, _⟩ := HE6.out.fut (F.trans h3)
              exact (⟨v, h1, h2, h3, F.trans h3, c0, c1, c2, c3⟩ : ∃ v, e = .returned v ∧ OwnP w' W.heap.size v ss ∧ Fut W w' ∧ Fut w6 w' ∧ w'.cell? ⟨B, 0, none⟩ = some (.int .i64 n) ∧ w'.cell? ⟨B, 1, none⟩ = some (.slice l ss.length lc) ∧ w'.cell? ⟨E, 0, none⟩ = some (.int .i64 lo) ∧ w'.cell? ⟨E, 1, none⟩ = some (.int .i64 hi))))
            clear e2 e3
            go_cut [18] from 123 to 131 (fun s18 wx => ∃ A l' lc', s18 = .pointer (some ⟨A, 0, none⟩) ∧ BoxM wx A n l' (ss.length + 1) lc' ∧ StrAt wx l' (ss ++ [((lo : Int), (hi : Int))]) ∧ Fut w6 wx)
            case first =>
              go_region_held3 (fun w' => w'.cell? ⟨B, 0, none⟩ = some (.int .i64 n) ∧ w'.cell? ⟨B, 1, none⟩ = some (.slice l ss.length lc) ∧ w'.cell? ⟨E, 0, none⟩ = some (.int .i64 lo) ∧ w'.cell? ⟨E, 1, none⟩ = some (.int .i64 hi)) (first | exact ⟨by assumption, by assumption, by assumption, by assumption⟩ | exact ⟨Lib.cell?_alloc_some _ (by assumption), Lib.cell?_alloc_some _ (by assumption), Lib.cell?_alloc_some _ (by assumption), Lib.cell?_alloc_some _ (by assumption)⟩ | exact ⟨Lib.cell?_alloc_some _ (Lib.cell?_alloc_some _ (by assumption)), Lib.cell?_alloc_some _ (Lib.cell?_alloc_some _ (by assumption)), Lib.cell?_alloc_some _ (Lib.cell?_alloc_some _ (by assumption)), Lib.cell?_alloc_some _ (Lib.cell?_alloc_some _ (by assumption))⟩ | exact ⟨set_far (by assumption) (by omega), set_far (by assumption) (by omega), set_far (by assumption) (by omega), set_far (by assumption) (by omega)⟩ | (simp [go_sem, *]; done)) (first
                | (go_at_call 43; refine (HCL6.out _ (by first | exact Fut.drew' _ | exact (Fut.alloc _ _).trans (Fut.drew' _) | exact ((Fut.alloc _ _).trans (Fut.alloc _ _)).trans (Fut.drew' _))).mono ?_; rintro r w3 ⟨v, rfl, hO3, F3, F63, k0, k1, k2, k3⟩; obtain ⟨va, vc, rfl, _⟩ := hO3.str; have hOL : w3.ownsRow w6.heap.size 65 2 (.slice va ss.length vc) ss.length (flatP ss) := hO3.low (by first | (simp; done) | (simp; omega)); have hz63 := RowKit.Below.size F63; (first | (guard_hyp F3 : Fut (w6.drew) w3) | (guard_hyp F3 : Fut ((w6.alloc (.cells #[.int .i64 0, .slice none 0 0] 24)).drew) w3; have hA : BoxW w3 w6.heap.size (.int .i64 0) (.slice none 0 0) := ((BoxW.new w6 (.int .i64 0) (.slice none 0 0) 24).fut (Fut.drew' _)).fut F3) | (guard_hyp F3 : Fut ((w6.alloc (.cells #[.int .i64 lo, .int .i64 hi] 65)).drew) w3; have hL0 : w3.cell? ⟨w6.heap.size, 0, none⟩ = some (.int .i64 lo) := (by exact (RowKit.Below.cell F3 (p := ⟨w6.heap.size, 0, none⟩) (by first | (simp; done) | (simp; omega))).trans (by simp [go_sem])); have hL1 : w3.cell? ⟨w6.heap.size, 1, none⟩ = some (.int .i64 hi) := (by exact (RowKit.Below.cell F3 (p := ⟨w6.heap.size, 1, none⟩) (by first | (simp; done) | (simp; omega))).trans (by simp [go_sem]))) | (guard_hyp F3 : Fut (((w6.alloc (.cells #[.int .i64 0, .slice none 0 0] 24)).alloc (.cells #[.int .i64 lo, .int .i64 hi] 65)).drew) w3; have hA : BoxW w3 w6.heap.size (.int .i64 0) (.slice none 0 0) := (((BoxW.new w6 (.int .i64 0) (.slice none 0 0) 24).fut (Fut.alloc _ (.cells #[.int .i64 lo, .int .i64 hi] 65))).fut (Fut.drew' _)).fut F3; have hL0 : w3.cell? ⟨w6.heap.size + 1, 0, none⟩ = some (.int .i64 lo) := (by exact (RowKit.Below.cell F3 (p := ⟨w6.heap.size + 1, 0, none⟩) (by first | (simp; done) | (simp; omega))).trans (by simp [go_sem])); have hL1 : w3.cell? ⟨w6.heap.size + 1, 1, none⟩ = some (.int .i64 hi) := (by exact (RowKit.Below.cell F3 (p := ⟨w6.heap.size + 1, 1, none⟩) (by first | (simp; done) | (simp; omega))).trans (by simp [go_sem]))) | (guard_hyp F3 : Fut (((w6.alloc (.cells #[.int .i64 lo, .int .i64 hi] 65)).alloc (.cells #[.int .i64 0, .slice none 0 0] 24)).drew) w3; have hA : BoxW w3 (w6.heap.size + 1) (.int .i64 0) (.slice none 0 0) := ((BoxW.new2 w6 (.cells #[.int .i64 lo, .int .i64 hi] 65) (.int .i64 0) (.slice none 0 0) 24).fut (Fut.drew' _)).fut F3; have hL0 : w3.cell? ⟨w6.heap.size, 0, none⟩ = some (.int .i64 lo) := (by exact (RowKit.Below.cell F3 (p := ⟨w6.heap.size, 0, none⟩) (by first | (simp; done) | (simp; omega))).trans (by simp [go_sem])); have hL1 : w3.cell? ⟨w6.heap.size, 1, none⟩ = some (.int .i64 hi) := (by exact (RowKit.Below.cell F3 (p := ⟨w6.heap.size, 1, none⟩) (by first | (simp; done) | (simp; omega))).trans (by simp [go_sem])))))
                | (refine step_append_lies _ (by rfl) _ _ _ (by rfl) w6.heap.size 65 i0 (.agg #[.int .i64 0, .int .i64 0]) 2 16 Try.underlying22 hi0 hz0 hz1 hz2 rfl (by omega) (.slice va ss.length vc) ss.length (flatP ss) (by rfl) (by first | exact hOL.alloc _ | exact (hOL.alloc _).alloc _) ⟨w3.heap.size, 0, none⟩ 1 1 [.int .i64 lo, .int .i64 hi] (by rfl) (by rfl) (news2 (by simp [go_sem]) (by simp [go_sem])) (by simp [Value.oneCell']) (by omega) (by unfold maxLen; omega) (by omega) (by first | exact hz63 | (simp; omega)) _ (by rfl) ?_; intro gn gc wz hown1 hgrow hlie hgl; have F6z : Fut w6 wz := RowKit.Below.grown (by first | exact F63 | exact F63.trans (Fut.alloc _ _) | exact (F63.trans (Fut.alloc _ _)).trans (Fut.alloc _ _)) hgrow (by first | exact hz63 | (simp; omega)) (fun kk hk => (World.ownsRow.lt hOL kk hk).1); have hbz := HB6.out.fut F6z; obtain ⟨_, y0, y1⟩ := hbz; have hez := HE6.out.fut F6z; obtain ⟨_, y2, y3, _⟩ := hez; (first | (have hq := box_grow (hA.fut (Fut.alloc w3 _)) (ne_lo hO3 (by first | (simp; done) | (simp; omega))) hgrow; obtain ⟨z0, z1, z2, z3, z4⟩ := hq) | (have hq : BoxW wz (w3.heap.size + 1) (.int .i64 0) (.slice none 0 0) := box_grow (BoxW.new2 w3 (.cells #[.int .i64 lo, .int .i64 hi] 65) (.int .i64 0) (.slice none 0 0) 24) (ne_hi hOL (Nat.le_succ _)) hgrow; obtain ⟨z0, z1, z2, z3, z4⟩ := hq) | skip))
                | (refine step_append_lies _ (by rfl) _ _ _ (by rfl) w6.heap.size 65 i0 (.agg #[.int .i64 0, .int .i64 0]) 2 16 Try.underlying22 hi0 hz0 hz1 hz2 rfl (by omega) (.slice va ss.length vc) ss.length (flatP ss) (by rfl) (by first | exact (hOL.alloc _).alloc _) ⟨w3.heap.size + 1, 0, none⟩ 1 1 [.int .i64 lo, .int .i64 hi] (by rfl) (by rfl) (news2 (by simp [go_sem]) (by simp [go_sem])) (by simp [Value.oneCell']) (by omega) (by unfold maxLen; omega) (by omega) (by first | exact hz63 | (simp; omega)) _ (by rfl) ?_; intro gn gc wz hown1 hgrow hlie hgl; have F6z : Fut w6 wz := RowKit.Below.grown (by first | exact F63 | exact F63.trans (Fut.alloc _ _) | exact (F63.trans (Fut.alloc _ _)).trans (Fut.alloc _ _)) hgrow (by first | exact hz63 | (simp; omega)) (fun kk hk => (World.ownsRow.lt hOL kk hk).1); have hbz := HB6.out.fut F6z; obtain ⟨_, y0, y1⟩ := hbz; have hez := HE6.out.fut F6z; obtain ⟨_, y2, y3, _⟩ := hez; (first | (have hq : BoxW wz w3.heap.size (.int .i64 0) (.slice none 0 0) := box_grow ((BoxW.new w3 (.int .i64 0) (.slice none 0 0) 24).fut (Fut.alloc _ (.cells #[.int .i64 lo, .int .i64 hi] 65))) (ne_hi hOL (Nat.le_refl _)) hgrow; obtain ⟨z0, z1, z2, z3, z4⟩ := hq) | skip))
                | (refine step_append_lies _ (by rfl) _ _ _ (by rfl) w6.heap.size 65 i0 (.agg #[.int .i64 0, .int .i64 0]) 2 16 Try.underlying22 hi0 hz0 hz1 hz2 rfl (by omega) (.slice va ss.length vc) ss.length (flatP ss) (by rfl) (by first | exact hOL | exact hOL.alloc _) ⟨w6.heap.size, 0, none⟩ 1 1 [.int .i64 lo, .int .i64 hi] (by rfl) (by rfl) (news2 (by first | exact hL0 | exact Lib.cell?_alloc_some _ hL0) (by first | exact hL1 | exact Lib.cell?_alloc_some _ hL1)) (by simp [Value.oneCell']) (by omega) (by unfold maxLen; omega) (by omega) (by first | exact hz63 | (simp; omega)) _ (by rfl) ?_; intro gn gc wz hown1 hgrow hlie hgl; have F6z : Fut w6 wz := RowKit.Below.grown (by first | exact F63 | exact F63.trans (Fut.alloc _ _) | exact (F63.trans (Fut.alloc _ _)).trans (Fut.alloc _ _)) hgrow (by first | exact hz63 | (simp; omega)) (fun kk hk => (World.ownsRow.lt hOL kk hk).1); have hbz := HB6.out.fut F6z; obtain ⟨_, y0, y1⟩ := hbz; have hez := HE6.out.fut F6z; obtain ⟨_, y2, y3, _⟩ := hez; (first | (have hq := box_grow hA (ne_lo hO3 (by first | (simp; done) | (simp; omega))) hgrow; obtain ⟨z0, z1, z2, z3, z4⟩ := hq) | (have hq : BoxW wz w3.heap.size (.int .i64 0) (.slice none 0 0) := box_grow (BoxW.new w3 (.int .i64 0) (.slice none 0 0) 24) (ne_hi hOL (Nat.le_refl _)) hgrow; obtain ⟨z0, z1, z2, z3, z4⟩ := hq) | skip))
                | (refine step_append_lies _ (by rfl) _ _ _ (by rfl) w6.heap.size 65 i0 (.agg #[.int .i64 0, .int .i64 0]) 2 16 Try.underlying22 hi0 hz0 hz1 hz2 rfl (by omega) (.slice va ss.length vc) ss.length (flatP ss) (by rfl) (by first | exact hOL | exact hOL.alloc _) ⟨w6.heap.size + 1, 0, none⟩ 1 1 [.int .i64 lo, .int .i64 hi] (by rfl) (by rfl) (news2 (by first | exact hL0 | exact Lib.cell?_alloc_some _ hL0) (by first | exact hL1 | exact Lib.cell?_alloc_some _ hL1)) (by simp [Value.oneCell']) (by omega) (by unfold maxLen; omega) (by omega) (by first | exact hz63 | (simp; omega)) _ (by rfl) ?_; intro gn gc wz hown1 hgrow hlie hgl; have F6z : Fut w6 wz := RowKit.Below.grown (by first | exact F63 | exact F63.trans (Fut.alloc _ _) | exact (F63.trans (Fut.alloc _ _)).trans (Fut.alloc _ _)) hgrow (by first | exact hz63 | (simp; omega)) (fun kk hk => (World.ownsRow.lt hOL kk hk).1); have hbz := HB6.out.fut F6z; obtain ⟨_, y0, y1⟩ := hbz; have hez := HE6.out.fut F6z; obtain ⟨_, y2, y3, _⟩ := hez; (first | (have hq := box_grow hA (ne_lo hO3 (by first | (simp; done) | (simp; omega))) hgrow; obtain ⟨z0, z1, z2, z3, z4⟩ := hq) | (have hq : BoxW wz w3.heap.size (.int .i64 0) (.slice none 0 0) := box_grow (BoxW.new w3 (.int .i64 0) (.slice none 0 0) 24) (ne_hi hOL (Nat.le_refl _)) hgrow; obtain ⟨z0, z1, z2, z3, z4⟩ := hq) | skip)))
              all_goals (go_wp2_with fail; go_meet)
              all_goals (have hOQ : OwnP wz w6.heap.size (.slice (some ⟨gn, 0, none⟩) (ss.length + 1) gc) (ss ++ [((lo : Int), (hi : Int))]) := by unfold OwnP; rw [flatP_app, List.length_append]; exact hown1)
              all_goals first
                | exact end_alloc hOQ F6z
                | (refine end_set hOQ F6z ⟨z0, z1, z2, z3, z4⟩ (by first | exact Nat.le_refl _ | exact Nat.le_succ _ | omega) ?_
                   rcases hlie with h | h
                   · intro e
                     subst e
                     first
                       | exact ne_lo hO3 (by first | (simp; done) | (simp; omega)) h
                       | exact ne_hi hOL (by omega) h
                   · first
                       | (have hA0 := hA.1; simp only [World.size_alloc] at h; omega)
                       | (simp only [World.size_alloc] at h; omega)
                       | (have hA0 := hA.1; omega)
                       | omega)
            case rest =>
              obtain ⟨A, l1, lc1, rfl, hA1, hS1, F67⟩ := hcut
              obtain ⟨w7, hw7⟩ : ∃ w7, w7 = wc := ⟨_, rfl⟩
              subst hw7
              have HR7 := Lib.hid (HR6.out.trans F67)
              have HE7 := Lib.hid (HE6.out.fut F67)
              have HB7 := Lib.hid (HB6.out.fut F67)
              have HA7 := Lib.hid hA1
              have HS7 := Lib.hid hS1
              clear hb b0 b1 he e0 e1 hA1 hS1 F67 HCL6 HB6 HE6
              obtain ⟨hb, b0, b1⟩ := HB7.out
              obtain ⟨he, e0, e1, e2, e3⟩ := HE7.out
              have HCL7 := Lib.hid (fun (W : World) (F : Fut w7 W) => (clone_any l lc ss W (((HS.out.fut HF2.out).fut HR7.out).fut F) (by omega)).mono fun e w' (h : ∃ v, e = .returned v ∧ OwnP w' W.heap.size v ss ∧ Fut W w') => (by
                obtain ⟨v, h1, h2, h3⟩ := h
                obtain ⟨_, c0, c1⟩ := HB7.out.fut (F.trans h3)
                obtain ⟨_, c2, c3, _⟩ := HE7.out.fut (F.trans h3)
                exact (⟨v, h1, h2, h3, F.trans h3, c0, c1, c2, c3⟩ : ∃ v, e = .returned v ∧ OwnP w' W.heap.size v ss ∧ Fut W w' ∧ Fut w7 w' ∧ w'.cell? ⟨B, 0, none⟩ = some (.int .i64 n) ∧ w'.cell? ⟨B, 1, none⟩ = some (.slice l ss.length lc) ∧ w'.cell? ⟨E, 0, none⟩ = some (.int .i64 lo) ∧ w'.cell? ⟨E, 1, none⟩ = some (.int .i64 hi))))
              clear e2 e3
              go_upto_region 23 with fail
              go_cut [19] from 132 to 141 (fun s19 wx => ∃ A2 l' lc', s19 = .pointer (some ⟨A2, 0, none⟩) ∧ BoxM wx A2 n l' (ss.length + 2) lc' ∧ StrAt wx l' (ss ++ [((lo : Int), (hi : Int)), ((lo : Int), (hi : Int))]) ∧ Fut w7 wx)
              case first =>
                go_region_held3 (fun w' => w'.cell? ⟨B, 0, none⟩ = some (.int .i64 n) ∧ w'.cell? ⟨B, 1, none⟩ = some (.slice l ss.length lc) ∧ w'.cell? ⟨E, 0, none⟩ = some (.int .i64 lo) ∧ w'.cell? ⟨E, 1, none⟩ = some (.int .i64 hi)) (first | exact ⟨by assumption, by assumption, by assumption, by assumption⟩ | exact ⟨Lib.cell?_alloc_some _ (by assumption), Lib.cell?_alloc_some _ (by assumption), Lib.cell?_alloc_some _ (by assumption), Lib.cell?_alloc_some _ (by assumption)⟩ | exact ⟨Lib.cell?_alloc_some _ (Lib.cell?_alloc_some _ (by assumption)), Lib.cell?_alloc_some _ (Lib.cell?_alloc_some _ (by assumption)), Lib.cell?_alloc_some _ (Lib.cell?_alloc_some _ (by assumption)), Lib.cell?_alloc_some _ (Lib.cell?_alloc_some _ (by assumption))⟩ | exact ⟨set_far (by assumption) (by omega), set_far (by assumption) (by omega), set_far (by assumption) (by omega), set_far (by assumption) (by omega)⟩ | (simp [go_sem, *]; done)) (first
                  | (go_at_call 43; refine (HCL7.out _ (by first | exact Fut.drew' _ | exact (Fut.alloc _ _).trans (Fut.drew' _) | exact ((Fut.alloc _ _).trans (Fut.alloc _ _)).trans (Fut.drew' _))).mono ?_; rintro r w3 ⟨v, rfl, hO3, F3, F63, k0, k1, k2, k3⟩; obtain ⟨va, vc, rfl, _⟩ := hO3.str; have hOL : w3.ownsRow w7.heap.size 65 2 (.slice va ss.length vc) ss.length (flatP ss) := hO3.low (by first | (simp; done) | (simp; omega)); have hz63 := RowKit.Below.size F63; (first | (guard_hyp F3 : Fut (w7.drew) w3) | (guard_hyp F3 : Fut ((w7.alloc (.cells #[.int .i64 0, .slice none 0 0] 24)).drew) w3; have hA : BoxW w3 w7.heap.size (.int .i64 0) (.slice none 0 0) := ((BoxW.new w7 (.int .i64 0) (.slice none 0 0) 24).fut (Fut.drew' _)).fut F3) | (guard_hyp F3 : Fut ((w7.alloc (.cells #[.int .i64 lo, .int .i64 hi, .int .i64 lo, .int .i64 hi] 65)).drew) w3; have hL0 : w3.cell? ⟨w7.heap.size, 0, none⟩ = some (.int .i64 lo) := (by exact (RowKit.Below.cell F3 (p := ⟨w7.heap.size, 0, none⟩) (by first | (simp; done) | (simp; omega))).trans (by simp [go_sem])); have hL1 : w3.cell? ⟨w7.heap.size, 1, none⟩ = some (.int .i64 hi) := (by exact (RowKit.Below.cell F3 (p := ⟨w7.heap.size, 1, none⟩) (by first | (simp; done) | (simp; omega))).trans (by simp [go_sem])); have hL2 : w3.cell? ⟨w7.heap.size, 2, none⟩ = some (.int .i64 lo) := (by exact (RowKit.Below.cell F3 (p := ⟨w7.heap.size, 2, none⟩) (by first | (simp; done) | (simp; omega))).trans (by simp [go_sem])); have hL3 : w3.cell? ⟨w7.heap.size, 3, none⟩ = some (.int .i64 hi) := (by exact (RowKit.Below.cell F3 (p := ⟨w7.heap.size, 3, none⟩) (by first | (simp; done) | (simp; omega))).trans (by simp [go_sem]))) | (guard_hyp F3 : Fut (((w7.alloc (.cells #[.int .i64 0, .slice none 0 0] 24)).alloc (.cells #[.int .i64 lo, .int .i64 hi, .int .i64 lo, .int .i64 hi] 65)).drew) w3; have hA : BoxW w3 w7.heap.size (.int .i64 0) (.slice none 0 0) := (((BoxW.new w7 (.int .i64 0) (.slice none 0 0) 24).fut (Fut.alloc _ (.cells #[.int .i64 lo, .int .i64 hi, .int .i64 lo, .int .i64 hi] 65))).fut (Fut.drew' _)).fut F3; have hL0 : w3.cell? ⟨w7.heap.size + 1, 0, none⟩ = some (.int .i64 lo) := (by exact (RowKit.Below.cell F3 (p := ⟨w7.heap.size + 1, 0, none⟩) (by first | (simp; done) | (simp; omega))).trans (by simp [go_sem])); have hL1 : w3.cell? ⟨w7.heap.size + 1, 1, none⟩ = some (.int .i64 hi) := (by exact (RowKit.Below.cell F3 (p := ⟨w7.heap.size + 1, 1, none⟩) (by first | (simp; done) | (simp; omega))).trans (by simp [go_sem])); have hL2 : w3.cell? ⟨w7.heap.size + 1, 2, none⟩ = some (.int .i64 lo) := (by exact (RowKit.Below.cell F3 (p := ⟨w7.heap.size + 1, 2, none⟩) (by first | (simp; done) | (simp; omega))).trans (by simp [go_sem])); have hL3 : w3.cell? ⟨w7.heap.size + 1, 3, none⟩ = some (.int .i64 hi) := (by exact (RowKit.Below.cell F3 (p := ⟨w7.heap.size + 1, 3, none⟩) (by first | (simp; done) | (simp; omega))).trans (by simp [go_sem]))) | (guard_hyp F3 : Fut (((w7.alloc (.cells #[.int .i64 lo, .int .i64 hi, .int .i64 lo, .int .i64 hi] 65)).alloc (.cells #[.int .i64 0, .slice none 0 0] 24)).drew) w3; have hA : BoxW w3 (w7.heap.size + 1) (.int .i64 0) (.slice none 0 0) := ((BoxW.new2 w7 (.cells #[.int .i64 lo, .int .i64 hi, .int .i64 lo, .int .i64 hi] 65) (.int .i64 0) (.slice none 0 0) 24).fut (Fut.drew' _)).fut F3; have hL0 : w3.cell? ⟨w7.heap.size, 0, none⟩ = some (.int .i64 lo) := (by exact (RowKit.Below.cell F3 (p := ⟨w7.heap.size, 0, none⟩) (by first | (simp; done) | (simp; omega))).trans (by simp [go_sem])); have hL1 : w3.cell? ⟨w7.heap.size, 1, none⟩ = some (.int .i64 hi) := (by exact (RowKit.Below.cell F3 (p := ⟨w7.heap.size, 1, none⟩) (by first | (simp; done) | (simp; omega))).trans (by simp [go_sem])); have hL2 : w3.cell? ⟨w7.heap.size, 2, none⟩ = some (.int .i64 lo) := (by exact (RowKit.Below.cell F3 (p := ⟨w7.heap.size, 2, none⟩) (by first | (simp; done) | (simp; omega))).trans (by simp [go_sem])); have hL3 : w3.cell? ⟨w7.heap.size, 3, none⟩ = some (.int .i64 hi) := (by exact (RowKit.Below.cell F3 (p := ⟨w7.heap.size, 3, none⟩) (by first | (simp; done) | (simp; omega))).trans (by simp [go_sem])))))
                  | (refine step_append_lies _ (by rfl) _ _ _ (by rfl) w7.heap.size 65 i0 (.agg #[.int .i64 0, .int .i64 0]) 2 16 Try.underlying22 hi0 hz0 hz1 hz2 rfl (by omega) (.slice va ss.length vc) ss.length (flatP ss) (by rfl) (by first | exact hOL.alloc _ | exact (hOL.alloc _).alloc _) ⟨w3.heap.size, 0, none⟩ 2 2 [.int .i64 lo, .int .i64 hi, .int .i64 lo, .int .i64 hi] (by rfl) (by rfl) (news4 (by simp [go_sem]) (by simp [go_sem]) (by simp [go_sem]) (by simp [go_sem])) (by simp [Value.oneCell']) (by omega) (by unfold maxLen; omega) (by omega) (by first | exact hz63 | (simp; omega)) _ (by rfl) ?_; intro gn gc wz hown1 hgrow hlie hgl; have F6z : Fut w7 wz := RowKit.Below.grown (by first | exact F63 | exact F63.trans (Fut.alloc _ _) | exact (F63.trans (Fut.alloc _ _)).trans (Fut.alloc _ _)) hgrow (by first | exact hz63 | (simp; omega)) (fun kk hk => (World.ownsRow.lt hOL kk hk).1); have hbz := HB7.out.fut F6z; obtain ⟨_, y0, y1⟩ := hbz; have hez := HE7.out.fut F6z; obtain ⟨_, y2, y3, _⟩ := hez; (first | (have hq := box_grow (hA.fut (Fut.alloc w3 _)) (ne_lo hO3 (by first | (simp; done) | (simp; omega))) hgrow; obtain ⟨z0, z1, z2, z3, z4⟩ := hq) | (have hq : BoxW wz (w3.heap.size + 1) (.int .i64 0) (.slice none 0 0) := box_grow (BoxW.new2 w3 (.cells #[.int .i64 lo, .int .i64 hi, .int .i64 lo, .int .i64 hi] 65) (.int .i64 0) (.slice none 0 0) 24) (ne_hi hOL (Nat.le_succ _)) hgrow; obtain ⟨z0, z1, z2, z3, z4⟩ := hq) | skip))
                  | (refine step_append_lies _ (by rfl) _ _ _ (by rfl) w7.heap.size 65 i0 (.agg #[.int .i64 0, .int .i64 0]) 2 16 Try.underlying22 hi0 hz0 hz1 hz2 rfl (by omega) (.slice va ss.length vc) ss.length (flatP ss) (by rfl) (by first | exact (hOL.alloc _).alloc _) ⟨w3.heap.size + 1, 0, none⟩ 2 2 [.int .i64 lo, .int .i64 hi, .int .i64 lo, .int .i64 hi] (by rfl) (by rfl) (news4 (by simp [go_sem]) (by simp [go_sem]) (by simp [go_sem]) (by simp [go_sem])) (by simp [Value.oneCell']) (by omega) (by unfold maxLen; omega) (by omega) (by first | exact hz63 | (simp; omega)) _ (by rfl) ?_; intro gn gc wz hown1 hgrow hlie hgl; have F6z : Fut w7 wz := RowKit.Below.grown (by first | exact F63 | exact F63.trans (Fut.alloc _ _) | exact (F63.trans (Fut.alloc _ _)).trans (Fut.alloc _ _)) hgrow (by first | exact hz63 | (simp; omega)) (fun kk hk => (World.ownsRow.lt hOL kk hk).1); have hbz := HB7.out.fut F6z; obtain ⟨_, y0, y1⟩ := hbz; have hez := HE7.out.fut F6z; obtain ⟨_, y2, y3, _⟩ := hez; (first | (have hq : BoxW wz w3.heap.size (.int .i64 0) (.slice none 0 0) := box_grow ((BoxW.new w3 (.int .i64 0) (.slice none 0 0) 24).fut (Fut.alloc _ (.cells #[.int .i64 lo, .int .i64 hi, .int .i64 lo, .int .i64 hi] 65))) (ne_hi hOL (Nat.le_refl _)) hgrow; obtain ⟨z0, z1, z2, z3, z4⟩ := hq) | skip))
                  | (refine step_append_lies _ (by rfl) _ _ _ (by rfl) w7.heap.size 65 i0 (.agg #[.int .i64 0, .int .i64 0]) 2 16 Try.underlying22 hi0 hz0 hz1 hz2 rfl (by omega) (.slice va ss.length vc) ss.length (flatP ss) (by rfl) (by first | exact hOL | exact hOL.alloc _) ⟨w7.heap.size, 0, none⟩ 2 2 [.int .i64 lo, .int .i64 hi, .int .i64 lo, .int .i64 hi] (by rfl) (by rfl) (news4 (by first | exact hL0 | exact Lib.cell?_alloc_some _ hL0) (by first | exact hL1 | exact Lib.cell?_alloc_some _ hL1) (by first | exact hL2 | exact Lib.cell?_alloc_some _ hL2) (by first | exact hL3 | exact Lib.cell?_alloc_some _ hL3)) (by simp [Value.oneCell']) (by omega) (by unfold maxLen; omega) (by omega) (by first | exact hz63 | (simp; omega)) _ (by rfl) ?_; intro gn gc wz hown1 hgrow hlie hgl; have F6z : Fut w7 wz := RowKit.Below.grown (by first | exact F63 | exact F63.trans (Fut.alloc _ _) | exact (F63.trans (Fut.alloc _ _)).trans (Fut.alloc _ _)) hgrow (by first | exact hz63 | (simp; omega)) (fun kk hk => (World.ownsRow.lt hOL kk hk).1); have hbz := HB7.out.fut F6z; obtain ⟨_, y0, y1⟩ := hbz; have hez := HE7.out.fut F6z; obtain ⟨_, y2, y3, _⟩ := hez; (first | (have hq := box_grow hA (ne_lo hO3 (by first | (simp; done) | (simp; omega))) hgrow; obtain ⟨z0, z1, z2, z3, z4⟩ := hq) | (have hq : BoxW wz w3.heap.size (.int .i64 0) (.slice none 0 0) := box_grow (BoxW.new w3 (.int .i64 0) (.slice none 0 0) 24) (ne_hi hOL (Nat.le_refl _)) hgrow; obtain ⟨z0, z1, z2, z3, z4⟩ := hq) | skip))
                  | (refine step_append_lies _ (by rfl) _ _ _ (by rfl) w7.heap.size 65 i0 (.agg #[.int .i64 0, .int .i64 0]) 2 16 Try.underlying22 hi0 hz0 hz1 hz2 rfl (by omega) (.slice va ss.length vc) ss.length (flatP ss) (by rfl) (by first | exact hOL | exact hOL.alloc _) ⟨w7.heap.size + 1, 0, none⟩ 2 2 [.int .i64 lo, .int .i64 hi, .int .i64 lo, .int .i64 hi] (by rfl) (by rfl) (news4 (by first | exact hL0 | exact Lib.cell?_alloc_some _ hL0) (by first | exact hL1 | exact Lib.cell?_alloc_some _ hL1) (by first | exact hL2 | exact Lib.cell?_alloc_some _ hL2) (by first | exact hL3 | exact Lib.cell?_alloc_some _ hL3)) (by simp [Value.oneCell']) (by omega) (by unfold maxLen; omega) (by omega) (by first | exact hz63 | (simp; omega)) _ (by rfl) ?_; intro gn gc wz hown1 hgrow hlie hgl; have F6z : Fut w7 wz := RowKit.Below.grown (by first | exact F63 | exact F63.trans (Fut.alloc _ _) | exact (F63.trans (Fut.alloc _ _)).trans (Fut.alloc _ _)) hgrow (by first | exact hz63 | (simp; omega)) (fun kk hk => (World.ownsRow.lt hOL kk hk).1); have hbz := HB7.out.fut F6z; obtain ⟨_, y0, y1⟩ := hbz; have hez := HE7.out.fut F6z; obtain ⟨_, y2, y3, _⟩ := hez; (first | (have hq := box_grow hA (ne_lo hO3 (by first | (simp; done) | (simp; omega))) hgrow; obtain ⟨z0, z1, z2, z3, z4⟩ := hq) | (have hq : BoxW wz w3.heap.size (.int .i64 0) (.slice none 0 0) := box_grow (BoxW.new w3 (.int .i64 0) (.slice none 0 0) 24) (ne_hi hOL (Nat.le_refl _)) hgrow; obtain ⟨z0, z1, z2, z3, z4⟩ := hq) | skip)))
                all_goals (go_wp2_with fail; go_meet)
                all_goals (have hOQ : OwnP wz w7.heap.size (.slice (some ⟨gn, 0, none⟩) (ss.length + 2) gc) (ss ++ [((lo : Int), (hi : Int)), ((lo : Int), (hi : Int))]) := by unfold OwnP; rw [flatP_app2, List.length_append]; exact hown1)
                all_goals first
                  | exact end_alloc hOQ F6z
                  | (refine end_set hOQ F6z ⟨z0, z1, z2, z3, z4⟩ (by first | exact Nat.le_refl _ | exact Nat.le_succ _ | omega) ?_
                     rcases hlie with h | h
                     · intro e
                       subst e
                       first
                         | exact ne_lo hO3 (by first | (simp; done) | (simp; omega)) h
                         | exact ne_hi hOL (by omega) h
                     · first
                         | (have hA0 := hA.1; simp only [World.size_alloc] at h; omega)
                         | (simp only [World.size_alloc] at h; omega)
                         | (have hA0 := hA.1; omega)
                         | omega)
              case rest =>
                obtain ⟨A2, l2, lc2, rfl, hA2, hS2, F78⟩ := hcut
                obtain ⟨w8, hw8⟩ : ∃ w8, w8 = wc := ⟨_, rfl⟩
                subst hw8
                have HR8 := Lib.hid (HR7.out.trans F78)
                have HB8 := Lib.hid (HB7.out.fut F78)
                have HA8 := Lib.hid (HA7.out.fut F78)
                have HD8 := Lib.hid hA2
                have hS1 := HS7.out.fut F78
                clear hb b0 b1 he e0 e1 hA2 F78 HCL7 HB7 HE7 HA7 HS7
                have hpr : ∀ r ∈ [((lo : Int), (hi : Int))], 0 ≤ r.1 ∧ r.1 < r.2 ∧ r.2 < (n : Int) := fun r hr => by simp at hr; subst hr; dsimp only; omega
                have hpr2 : ∀ r ∈ [((lo : Int), (hi : Int)), ((lo : Int), (hi : Int))], 0 ≤ r.1 ∧ r.1 < r.2 ∧ r.2 < (n : Int) := fun r hr => by simp at hr; subst hr; dsimp only; omega
                have hk1 := made_chk hn1 (by omega) (made_more HM.out hpr) (by simp; omega)
                have hk2 := made_chk hn1 (by omega) (made_more HM.out hpr2) (by simp; omega)
                have HFM := Lib.hid (few_more HSL.out HSB.out ((lo : Int), (hi : Int)))
                have hFR : fewR n (ss ++ [((lo : Int), (hi : Int))]) = fewM (ss ++ [((lo : Int), (hi : Int))]) := by unfold fewR; rw [if_pos hk1]
                have HK : Hid (∀ W, Fut w8 W → Calls Try.prog 22 #[mapV n l1 (ss.length + 1) lc1] W (TupL 0 (fewM (ss ++ [((lo : Int), (hi : Int))])) W)) := Lib.hid (fun W F => by
                  have h := fewest_any n l1 lc1 (ss ++ [((lo : Int), (hi : Int))]) W (hS1.fut F)
                  rw [hk1, hFR, List.length_append] at h
                  exact h)
                have HO1 : Hid (∀ W, Fut w8 W → Calls Try.prog 15 #[mapV n l ss.length lc] W (TupL 0 (listM (oddM ss (2 ^ ss.length - 1))) W)) := Lib.hid (fun W F => HOD.out W ((HF2.out.trans HR8.out).trans F))
                have HO2 : Hid (∀ W, Fut w8 W → Calls Try.prog 15 #[mapV n l2 (ss.length + 2) lc2] W (TupL 0 (listM (oddM ss (2 ^ ss.length - 1))) W)) := Lib.hid (fun W F => by
                  have h := oddf_ok n l2 lc2 (ss ++ [((lo : Int), (hi : Int)), ((lo : Int), (hi : Int))]) W (hS2.fut F) hk2
                  rw [odd_twice, List.length_append] at h
                  exact h)
                have hol := list_le (oddM ss (2 ^ ss.length - 1))
                have HML : Hid ((fewM (ss ++ [((lo : Int), (hi : Int))])).length ≤ M.length + 1) := Lib.hid (by rw [← HMS.out]; exact HFM.out)
                clear hpr hpr2 hk1 hk2 HFM hFR hS1 hS2
                generalize fewM (ss ++ [((lo : Int), (hi : Int))]) = K at *
                generalize listM (oddM ss (2 ^ ss.length - 1)) = O at *
                have hKx : (K.length : Int) ≤ (M.length : Int) + 1 := by have := HML.out; omega
                obtain ⟨ha, a0, a1⟩ := HA8.out
                go_wp2_with fail
                refine (HK.out _ Fut.rfl).mono ?_
                rintro _ w9 ⟨k1, kc1, rfl, _, F9⟩
                obtain ⟨hb', b0', b1'⟩ := HB8.out.fut F9
                have HF9 := Lib.hid F9
                clear ha a0 a1 F9
                go_wp2_with fail
                refine (HO1.out _ HF9.out).mono ?_
                rintro _ w10 ⟨o1, oc1, rfl, hI1, F10⟩
                have HF10 := Lib.hid (HF9.out.trans F10)
                obtain ⟨hd, d0, d1⟩ := HD8.out.fut HF10.out
                have HI1 := Lib.hid hI1
                clear hb' b0' b1' hI1 F10
                go_wp2_with fail
                refine (HO2.out _ HF10.out).mono ?_
                rintro _ w11 ⟨o2, oc2, rfl, hI2, F11⟩
                have HF11 := Lib.hid (HF10.out.trans F11)
                have HI1' := Lib.hid (HI1.out.fut F11)
                have HI2 := Lib.hid hI2
                clear hd d0 d1 hI2 F11 HI1
                have HSA := Lib.hid ((same_any o1 o2 oc1 oc2 O O w11 (by omega) (by omega) HI1'.out HI2.out).mono fun e w' (h : e = .returned (.bool (sameB O O)) ∧ ∃ q, w' = w11.drewN q) => (⟨by rw [h.1]; unfold sameB; rw [decide_eq_true rfl], by obtain ⟨q, hq⟩ := h.2; rw [hq]; exact Fut.drewN _ _⟩ : e = .returned (.bool true) ∧ Fut w11 w'))
                go_wp2_with fail
                refine HSA.out.mono ?_
                rintro _ w12 ⟨rfl, F12⟩
                have HF12 := Lib.hid (HF11.out.trans F12)
                clear F12 HSA HI1' HI2
                go_wp2_with fail
                refine (works_any _).mono ?_
                rintro _ w13 ⟨rfl, F13⟩
                have HWW := Lib.hid ((((HF1.out.trans HF2.out).trans HR8.out).trans HF12.out).trans F13)
                clear F13
                go_wp2
                go_ret
                exact ⟨rfl, HWW.out⟩
end Go.Proofs.Ytimddkofcejijaa
