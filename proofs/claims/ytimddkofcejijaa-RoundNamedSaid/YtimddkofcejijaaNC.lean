/- Layer 2: RoundNamed walks. -/
import Derived.Test.YtimddkofcejijaaNB
import Derived.Test.YtimddkofcejijaaSI
import Derived.Test.YtimddkofcejijaaSB
import Derived.Deep.AppendLies
namespace Go.Proofs.Ytimddkofcejijaa
open Go.RowKit Go.Sort
namespace Nm
theorem Fut.drewX (w : World) : Fut w w.drew := (RowKit.Below.refl _ w).drew
theorem cell_one {w : World} {b : Nat} {x : Value} (h : w.cell? ⟨b, 0, none⟩ = some x) : ∀ j u, [x][j]? = some u → w.cell? ((⟨b, 0, none⟩ : Addr).add j) = some u := fun j u hj => by
  match j, hj with
  | 0, hj =>
    simp at hj
    subst hj
    rw [Addr.add_lit]; exact h
/-- the block G holds a map of n corners whose streets the call owns, apart from G. -/
def WideP (w2 wx : World) (G : Nat) (n : Int) (v : Value) (P : List (Int × Int)) : Prop :=
  BoxW wx G (.int .i64 n) v ∧ OwnP wx w2.heap.size v P ∧ v.ownBlock ≠ some G ∧ w2.heap.size ≤ G ∧ Fut w2 wx
theorem own_far {w : World} {base : Nat} {e : TypeId} {size : Nat} {v : Value} {n : Nat} {xs : List Value} (h : w.ownsRow base e size v n xs) {a : Addr} (ha : v.ownBlock ≠ some a.block) (u : Value) : (w.setCell a u).ownsRow base e size v n xs := by
  obtain ⟨h1, h2⟩ := h
  refine ⟨by simpa using h1, ?_⟩
  rcases h2 with h2 | ⟨g, cap, cur, rfl, hg, hh, r⟩
  · exact Or.inl h2
  · have hne : g ≠ a.block := fun e => ha (by rw [← e]; rfl)
    exact Or.inr ⟨g, cap, cur, rfl, hg, by rw [RowKit.Below.heap_setCell _ _ _ _ (by omega)]; exact hh, r⟩
theorem wide_new {w2 w3 : World} {n : Int} {v : Value} {P : List (Int × Int)} (hO : OwnP w3 w2.heap.size v P) (F : Fut w2 w3) : WideP w2 (w3.alloc (.cells #[.int .i64 n, v] 24)) w3.heap.size n v P :=
  ⟨BoxW.new _ _ _ _, OwnP.fut hO (Fut.alloc _ _), fun e => by have := (World.ownsRow.lt hO _ e).2; omega, RowKit.Below.size F, F.trans (Fut.alloc _ _)⟩
theorem wide_box {w2 wr wi w1 : World} {G : Nat} {n : Int} {v : Value} {P : List (Int × Int)} (hW : WideP w2 wr G n v P) (F : Fut wr wi) (hg : wi.grownBy w1 v.ownBlock) : BoxW w1 G (.int .i64 n) v := by
  obtain ⟨hB, _, hne, _, _⟩ := hW
  obtain ⟨h0, h1, h2, h3, h4⟩ := hB.fut F
  have hn : some G ≠ v.ownBlock := fun e => hne e.symm
  exact ⟨Nat.lt_of_lt_of_le h0 hg.size, (hg.cell_far ⟨G, 0, none⟩ h0 hn).trans h1, (hg.cell_far ⟨G, 1, none⟩ h0 hn).trans h2, (hg.frozen_far ⟨G, 0, none⟩ h0 hn).trans h3, (hg.frozen_far ⟨G, 1, none⟩ h0 hn).trans h4⟩
theorem wide_app {w2 wr wi w1 : World} {G : Nat} {n : Int} {v : Value} {P : List (Int × Int)} (hW : WideP w2 wr G n v P) (F : Fut wr wi) (hg : wi.grownBy w1 v.ownBlock) {g gc : Nat} {p : Int × Int}
    (hown : w1.ownsRow w2.heap.size 65 2 (.slice (some ⟨g, 0, none⟩) (P.length + 1) gc) (P.length + 1) (flatP P ++ [.int .i64 p.1, .int .i64 p.2])) (hl : v.ownBlock = some g ∨ g = wi.heap.size) :
    WideP w2 (w1.setCell ⟨G, 1, none⟩ (.slice (some ⟨g, 0, none⟩) (P.length + 1) gc)) G n (.slice (some ⟨g, 0, none⟩) (P.length + 1) gc) (P ++ [p]) := by
  have hB := wide_box hW F hg
  have hGi : G < wi.heap.size := (hW.1.fut F).1
  obtain ⟨_, hO, hne, hG, F2⟩ := hW
  have hgG : g ≠ G := by
    rcases hl with h | h
    · intro e; exact hne (by rw [h, e])
    · omega
  have hO1 : OwnP w1 w2.heap.size (.slice (some ⟨g, 0, none⟩) (P.length + 1) gc) (P ++ [p]) := by unfold OwnP; rw [flatP_app, List.length_append]; exact hown
  have hnb : (Value.slice (some ⟨g, 0, none⟩) (P.length + 1) gc).ownBlock ≠ some G := fun e => hgG (by simpa [Value.ownBlock] using e)
  refine ⟨hB.set _, own_far hO1 (a := ⟨G, 1, none⟩) hnb _, hnb, hG, ?_⟩
  have F3 : Fut w2 wi := F2.trans F
  have F4 : Fut w2 w1 := RowKit.Below.grown F3 hg (RowKit.Below.size F3) fun k hk => (World.ownsRow.lt hO k hk).1
  exact F4.trans' ((RowKit.Below.refl G w1).setCell (p := ⟨G, 1, none⟩) (Nat.le_refl _) _) hG
theorem news2 {w : World} {L : Nat} {x y : Value} (h0 : w.cell? ⟨L, 0, none⟩ = some x) (h1 : w.cell? ⟨L, 1, none⟩ = some y) : ∀ j u, [x, y][j]? = some u → w.cell? ((⟨L, 0, none⟩ : Addr).add j) = some u := fun j u hj => by
  rw [Addr.add_lit, Nat.zero_add]
  match j, hj with
  | 0, hj => rw [h0]; simpa using hj
  | 1, hj => rw [h1]; simpa using hj
  | j + 2, hj => simp at hj
theorem own_strs {w : World} {B : Nat} {a : Option Addr} {m c : Nat} {ss : List (Int × Int)} (h : OwnP w B (.slice a m c) ss) : StrAt w a ss := by
  obtain ⟨a', c', e, hs⟩ := h.str
  simp only [Value.slice.injEq] at e
  rw [e.1]; exact hs
set_option maxRecDepth 100000 in
set_option maxHeartbeats 20000000 in
theorem named_any (t b : Nat → Int) (tn : Int) (w : World) (ht : tOk t) (hbb : ∀ j, 0 ≤ b j ∧ b j ≤ 255) (htn : 0 ≤ tn ∧ tn ≤ 255) : Calls Try.prog 8 #[tV t, .agg #[.int .u8 (b 0), .int .u8 (b 1), .int .u8 (b 2), .int .u8 (b 3), .int .u8 (b 4), .int .u8 (b 5)], .int .u8 tn] w fun e w' => e = .returned (.bool true) ∧ Fut w w' := by
  obtain ⟨tn, rfl⟩ := Int.eq_ofNat_of_zero_le htn.1
  obtain ⟨i0, hi0, hz0, hz1, hz2⟩ := info_parts info3
  obtain ⟨i1, hi1, hy0, hy1, hy2⟩ := info_parts info65
  go_enter Try.func8, Try.ntmps8
  go_upto_region 1 with fail
  have hF : Fut w ((w.alloc (.cells (tC t) 60)).alloc (.cells #[.int .u8 (b 0), .int .u8 (b 1), .int .u8 (b 2), .int .u8 (b 3), .int .u8 (b 4), .int .u8 (b 5)] 56)) := (Fut.alloc _ _).trans (Fut.alloc _ _)
  have hB : ((w.alloc (.cells (tC t) 60)).alloc (.cells #[.int .u8 (b 0), .int .u8 (b 1), .int .u8 (b 2), .int .u8 (b 3), .int .u8 (b 4), .int .u8 (b 5)] 56)).heap[w.heap.size]? = some (.cells (tC t) 60 (0, 0)) := ((Fut.alloc (w.alloc (.cells (tC t) 60)) _).block _ (by simp)).trans (heap_alloc_new _ _)
  have hY : ∀ c, c < 6 → ((w.alloc (.cells (tC t) 60)).alloc (.cells #[.int .u8 (b 0), .int .u8 (b 1), .int .u8 (b 2), .int .u8 (b 3), .int .u8 (b 4), .int .u8 (b 5)] 56)).cell? ⟨w.heap.size + 1, c, none⟩ = some (.int .u8 (b c)) := fun c hc => by
    match c, hc with
    | 0, _ => simp [go_sem]
    | 1, _ => simp [go_sem]
    | 2, _ => simp [go_sem]
    | 3, _ => simp [go_sem]
    | 4, _ => simp [go_sem]
    | 5, _ => simp [go_sem]
  have hYs : w.heap.size + 1 < ((w.alloc (.cells (tC t) 60)).alloc (.cells #[.int .u8 (b 0), .int .u8 (b 1), .int .u8 (b 2), .int .u8 (b 3), .int .u8 (b 4), .int .u8 (b 5)] 56)).heap.size := by simp
  generalize (w.alloc (.cells (tC t) 60)).alloc (.cells #[.int .u8 (b 0), .int .u8 (b 1), .int .u8 (b 2), .int .u8 (b 3), .int .u8 (b 4), .int .u8 (b 5)] 56) = W1 at *
  have HY : Hid (∀ W, Fut W1 W → ∀ c, c < 6 → W.cell? ⟨w.heap.size + 1, c, none⟩ = some (.int .u8 (b c))) := Lib.hid (fun W F c hc => (RowKit.Below.cell F (p := ⟨w.heap.size + 1, c, none⟩) hYs).trans (hY c hc))
  have HBB := Lib.hid hbb
  clear hY hYs hbb
  refine wp_region_lit ?_
  refine wpList_load_row rfl 60 (.tmp 3) rfl w.heap.size rfl 60 (tC t) (0, 0) _ hB Try.underlying60 rfl (by kernel_rfl) ?_
  go_wp2_with fail
  refine (made_any t 6 8 W1 ht (by decide) (by decide)).mono ?_
  rintro _ w1 ⟨n, ss, l, lc, rfl, hS, F, hn1, hn6, hM, h8⟩
  have HF1 := Lib.hid (hF.trans F)
  have HY1 : Hid (∀ W, Fut w1 W → ∀ c, c < 6 → W.cell? ⟨w.heap.size + 1, c, none⟩ = some (.int .u8 (b c))) := Lib.hid (fun W F2 c hc => HY.out W (F.trans F2) c hc)
  clear hF F hB ht HY
  clear W1
  go_upto_region 2 with fail
  generalize tC t = TC at *
  generalize w.heap.size + 1 = Y at *
  generalize (⟨w.heap.size, 0, none⟩ : Addr) = BA at *
  have hchk := made_chk hn1 (by omega) hM (by omega)
  have hmem := made_mem hn1 hM
  have HS := Lib.hid hS
  have HCHK := Lib.hid hchk
  have HMEM := Lib.hid hmem
  clear hchk hmem hS hM
  have hB := BoxM.new w1 n l ss.length lc 24
  have hF : Fut w1 (w1.alloc (.cells #[.int .i64 n, .slice l ss.length lc] 24)) := Fut.alloc _ _
  generalize w1.alloc (.cells #[.int .i64 n, .slice l ss.length lc] 24) = w2 at *
  generalize w1.heap.size = B at *
  have HB := Lib.hid hB
  have HF := Lib.hid hF
  obtain ⟨hb, b0, b1⟩ := hB
  clear hF
  have hnx : (n : Int) ≤ 6 := by omega
  have hsx : (ss.length : Int) ≤ 8 := by omega
  go_wp2_with fail
  go_loopw [8, 10, 34] (fun v8 _ iv wx => ∃ (k : Nat), k ≤ n ∧ iv = .int .i64 k ∧ Hid (wx.ownsRow w2.heap.size 3 1 v8 k ((ints k).map (Value.int .i64))) ∧ Hid (Fut w2 wx)) (fun _ _ iv _ => n - (intOf iv).toNat)
  case atStart => exact ⟨0, Nat.zero_le _, rfl, Lib.hid (World.ownsRow_nil _ _ _ _), Lib.hid Fut.rfl⟩
  case round =>
    clear hb b0 b1
    obtain ⟨k, hk, rfl, HO, HR⟩ := hrel
    by_cases hlt : k < n
    · have hkx : (k : Int) < n := by omega
      obtain ⟨va, vc, rfl⟩ := row_form HO.out
      have hrow1 := World.ownsRow.alloc HO.out (.cells #[.int .i64 (k : Int)] 3)
      have HFA : Hid (Fut w2 (wr.alloc (.cells #[.int .i64 (k : Int)] 3))) := Lib.hid (HR.out.trans (Fut.alloc _ _))
      have HIS := Lib.hid (ints_succ k)
      generalize (ints k).map (Value.int .i64) = vals at *
      go_wp2_with (at_builtin; refine wpList_append_lies _ rfl _ _ 25 rfl w2.heap.size 3 i0 (.int .i64 0) 1 8 Try.underlying25 hi0 hz0 hz1 hz2 rfl (by decide) _ k vals rfl hrow1 ⟨wr.heap.size, 0, none⟩ 1 1 [.int .i64 (k : Int)] rfl rfl (cell_one (by simp [go_sem])) (by simp [Value.oneCell']) (by omega) (by unfold maxLen; omega) (by omega) (RowKit.Below.size HFA.out) _ rfl ?_)
      intro g5 c5 w5 hown5 hgrow5 _ _
      have HO5 : Hid (w5.ownsRow w2.heap.size 3 1 (.slice (some ⟨g5, 0, none⟩) (k + 1) c5) (k + 1) ((ints (k + 1)).map (Value.int .i64))) := Lib.hid (by rw [HIS.out]; exact hown5)
      have HF5 : Hid (Fut w2 w5) := Lib.hid (RowKit.Below.grown HFA.out hgrow5 (RowKit.Below.size HFA.out) fun q hq => (World.ownsRow.lt hrow1 q hq).1)
      clear hown5 hgrow5 hrow1 HFA HO HR
      go_wp2
      go_roundw
      case rel => first | exact ⟨k + 1, by omega, by go_num, HO5, HF5⟩ | ((repeat apply Exists.intro); refine ⟨⟨k + 1, by omega, ?_, HO5, HF5⟩, rfl⟩; go_num)
      case measure => simp [intOf]; omega
    · obtain rfl : k = n := by omega
      obtain ⟨g, cap, rfl, hgB, hgs, hRN, hnc, hcm⟩ := row_ints HO.out (ints_len k) (by omega)
      have HRN := Lib.hid hRN
      obtain ⟨hb, b0, b1⟩ := HB.out.fut HR.out
      clear hRN HO
      go_wp2_with fail
      generalize hB2 : wr.heap.size = B2 at *
      have HB2 := Lib.hid hB2
      clear hB2
      go_loopw [8, 9, 11, 12, 44] (fun v8 v9 _ _ iv wx => ∃ (c m : Nat) (L tl : List Int), c + m = k ∧ iv = .int .i64 c ∧ v8 = .slice (some ⟨g, 0, none⟩) m cap ∧ Hid (L.length = m) ∧ Hid (RowN wx g L) ∧ Hid (wx.ownsRow B2 3 1 v9 c (tl.map (Value.int .i64))) ∧ Hid (tl.length = c) ∧ Hid ((tl ++ L).Perm (ints k)) ∧ Hid (Fut w2 wx) ∧ Hid (B2 ≤ wx.heap.size)) (fun _ _ _ _ iv _ => k - (intOf iv).toNat)
      case atStart => exact ⟨0, k, ints k, [], by omega, rfl, rfl, Lib.hid (ints_len k), HRN, Lib.hid (World.ownsRow_nil _ _ _ _), Lib.hid rfl, Lib.hid (List.Perm.refl _), HR, Lib.hid (by rw [HB2.out]; exact Nat.le_refl _)⟩
      case round =>
        clear HRN HR hb b0 b1
        obtain ⟨c, m, L, tl, hcm2, rfl, rfl, HLL, HRN, HOT, HTL, HPM, HR, HBS⟩ := hrel
        by_cases hlt2 : c < k
        · have hcx : (c : Int) < k := by omega
          have hc6 : (c : Int) < 6 := by omega
          obtain ⟨m, rfl⟩ : ∃ m', m = m' + 1 := ⟨m - 1, by omega⟩
          have f2 := HY1.out wr (HF.out.trans HR.out) c (by omega)
          have hbc := HBB.out c
          obtain ⟨q, hq⟩ := Int.eq_ofNat_of_zero_le hbc.1
          rw [hq] at f2
          have hq255 : (q : Int) ≤ 255 := by omega
          obtain ⟨kk, hkk⟩ : ∃ kk, kk = q % (m + 1) := ⟨_, rfl⟩
          have hkm : kk < m + 1 := by rw [hkk]; exact Nat.mod_lt _ (by omega)
          have HW : Hid ((q : Int) % ((m : Int) + 1) = (kk : Int)) := Lib.hid (by rw [hkk]; simp)
          have hn0 : ((m : Int) + 1 == 0) = false := by rw [beq_eq_false_iff_ne]; omega
          clear hkk hq hbc
          go_upto_region 12 with fail
          rw [HW.out]
          have hcell := HRN.out.1 kk (by rw [HLL.out]; omega)
          have hkx1 : (kk : Int) < (m : Int) + 1 := by omega
          have hkx2 : (kk : Int) ≤ 6 := by omega
          have hmx6 : (m : Int) ≤ 6 := by omega
          have hgw : g < wr.heap.size := by have := HBS.out; have := HB2.out; omega
          obtain ⟨ta, tc, rfl⟩ := row_form HOT.out
          have HPM2 := Lib.hid ((perm_out tl L kk (by rw [HLL.out]; omega)).trans HPM.out)
          generalize hz : nth L kk = z at *
          have hrow1 := World.ownsRow.alloc HOT.out (.cells #[.int .i64 z] 3)
          have HIS : Hid ((tl ++ [z]).map (Value.int .i64) = tl.map (Value.int .i64) ++ [.int .i64 z]) := Lib.hid (by rw [List.map_append]; rfl)
          have HBel : Hid (RowKit.Below B2 wr (wr.alloc (.cells #[.int .i64 z] 3))) := Lib.hid (RowKit.Below.alloc (RowKit.Below.refl _ _) HBS.out _)
          have HTL2 : Hid ((tl ++ [z]).length = c + 1) := Lib.hid (by rw [List.length_append, HTL.out]; rfl)
          clear hz f2
          generalize tl.map (Value.int .i64) = vals at *
          go_wp2_with (at_builtin; refine wpList_append_lies _ rfl _ _ 25 rfl B2 3 i0 (.int .i64 0) 1 8 Try.underlying25 hi0 hz0 hz1 hz2 rfl (by decide) _ c vals rfl hrow1 ⟨wr.heap.size, 0, none⟩ 1 1 [.int .i64 z] rfl rfl (cell_one (by simp [go_sem])) (by simp [Value.oneCell']) (by omega) (by unfold maxLen; omega) (by omega) (Nat.le_trans HBS.out (RowKit.Below.size HBel.out)) _ rfl ?_)
          intro g5 c5 w5 hown5 hgrow5 _ _
          have hbel5 : RowKit.Below B2 wr w5 := HBel.out.grown hgrow5 (Nat.le_trans HBS.out (RowKit.Below.size HBel.out)) fun q hq => (World.ownsRow.lt hrow1 q hq).1
          have hRN5 := HRN.out.below hbel5 (by have := HB2.out; omega)
          have hF5 : Fut w2 w5 := HR.out.trans' hbel5 (by have := HB2.out; have := RowKit.Below.size HR.out; omega)
          have hd := del_any g cap kk L w5 hRN5 (by rw [HLL.out]; omega) hcm (by rw [HLL.out]; omega)
          rw [HLL.out, Nat.add_sub_cancel] at hd
          have HD := Lib.hid hd
          have HOWN5 : Hid (w5.ownsRow B2 3 1 (.slice (some ⟨g5, 0, none⟩) (c + 1) c5) (c + 1) ((tl ++ [z]).map (Value.int .i64))) := Lib.hid (by rw [HIS.out]; exact hown5)
          have HF5 := Lib.hid hF5
          have HB5 := Lib.hid (Nat.le_trans HBS.out hbel5.size)
          have HLL2 : Hid ((L.take kk ++ L.drop (kk + 1)).length = m) := Lib.hid (by have := HLL.out; rw [List.length_append, List.length_take, List.length_drop]; omega)
          clear hown5 hgrow5 hbel5 hRN5 hF5 hd hrow1 HBel hcell HRN HOT HR HPM HIS HLL
          go_wp2_with fail
          refine HD.out.mono ?_
          rintro _ w6 ⟨rfl, hRN6, hBel6, hsz6, hown6⟩
          have HRN6 := Lib.hid hRN6
          have HOT6 := Lib.hid (hown6 B2 _ _ _ HOWN5.out (by have := HB2.out; omega))
          have HF6 := Lib.hid (HF5.out.trans' (hBel6 g (Nat.le_refl _)) hgB)
          have HB6 := Lib.hid (Nat.le_trans HB5.out hsz6)
          clear hRN6 hBel6 hsz6 hown6 HD HOWN5 HF5 HB5
          go_wp2
          go_roundw
          case rel => first | exact ⟨c + 1, m, _, tl ++ [z], by omega, by go_num, rfl, HLL2, HRN6, HOT6, HTL2, HPM2, HF6, HB6⟩ | ((repeat apply Exists.intro); refine ⟨⟨c + 1, m, _, tl ++ [z], by omega, ?_, rfl, HLL2, HRN6, HOT6, HTL2, HPM2, HF6, HB6⟩, rfl⟩; go_num)
          case measure => simp [intOf]; omega
        · obtain rfl : c = k := by omega
          obtain rfl : m = 0 := by omega
          have hL0 : L = [] := List.length_eq_zero_iff.1 HLL.out
          subst hL0
          rw [List.append_nil] at HPM
          obtain ⟨tg, tcap, rfl, htB, hts, hTN, _, _⟩ := row_ints HOT.out HTL.out (by omega)
          have HFQ := Lib.hid (HF.out.trans HR.out)
          have HTI : Hid (∀ W, Fut wr W → ∀ j, j < c → W.cell? ⟨tg, j, none⟩ = some (.int .i64 (nth tl j))) := Lib.hid (fun W F j hj => (RowKit.Below.cell F (p := ⟨tg, j, none⟩) hts).trans (hTN.1 j (by rw [HTL.out]; exact hj)))
          have HIS := Lib.hid (named_iso HPM.out tn HMEM.out)
          have HBQ := Lib.hid (HB.out.fut HR.out)
          have HPI := Lib.hid (perm_iso HPM.out)
          obtain ⟨hb, b0, b1⟩ := HBQ.out
          clear hTN htB hts HRN HOT HLL HR HBS HB
          generalize wr = wq at *
          have HNSU := Lib.hid (fun i => nmL_succ tl ss tn i)
          have HSM := Lib.hid (fun i (h : i < ss.length) => str_mem ss i h)
          have HSA : Hid (∀ W, Fut w1 W → ∀ i, i < ss.length → ∃ b off, l = some ⟨b, off, none⟩ ∧ b < W.heap.size ∧ W.cell? ⟨b, off + i * 2, none⟩ = some (.int .i64 (str ss i).1) ∧ W.cell? ⟨b, off + i * 2 + 1, none⟩ = some (.int .i64 (str ss i).2)) := Lib.hid (fun W F i hi => (HS.out.fut F) i hi)
          generalize hLs : ss.length = Ls at *
          have HLs := Lib.hid hLs
          clear hLs
          go_upto_region 16 with fail
          have hW0 : WideP wq (wq.alloc (.cells #[.int .i64 c, .slice none 0 0] 24)) wq.heap.size c (.slice none 0 0) (nmL tl ss tn 0) := wide_new (w2 := wq) (w3 := wq) (World.ownsRow_nil _ _ _ _) Fut.rfl
          generalize wq.alloc (.cells #[.int .i64 c, .slice none 0 0] 24) = w5 at *
          generalize wq.heap.size = G at *
          have HW0 := Lib.hid hW0
          obtain ⟨hb5, b05, b15⟩ := HBQ.out.fut hW0.2.2.2.2
          clear hW0 hb b0 b1
          have htnx : (tn : Int) ≤ 255 := by omega
          go_wp2_with fail
          go_loopw [14, 15, 16, 17, 73] (fun _ _ _ _ iv wx => ∃ (i : Nat) (v : Value), i ≤ Ls ∧ iv = .int .i64 i ∧ Hid (WideP wq wx G c v (nmL tl ss tn i))) (fun _ _ _ _ iv _ => Ls - (intOf iv).toNat)
          case atStart => exact ⟨0, _, Nat.zero_le _, rfl, HW0⟩
          case round =>
            clear HW0 hb5 b05 b15
            obtain ⟨i, v, hi, rfl, HW⟩ := hrel
            have HR := Lib.hid HW.out.2.2.2.2
            obtain ⟨hb, b0, b1⟩ := HBQ.out.fut HR.out
            by_cases hlt3 : i < Ls
            · have hix : (i : Int) < Ls := by omega
              have hix8 : (i : Int) ≤ 8 := by omega
              obtain ⟨j, hj⟩ : ∃ j, j = (i + tn) % Ls := ⟨_, rfl⟩
              have hjl : j < Ls := by rw [hj]; exact Nat.mod_lt _ (by omega)
              have hjx : (j : Int) < Ls := by omega
              obtain ⟨sb, soff, ea, hsb, s1, s2⟩ := HSA.out _ (HFQ.out.trans HR.out) j hjl
              subst ea
              have hm := HMEM.out _ (HSM.out j hjl)
              have HNS : Hid (nmL tl ss tn (i + 1) = nmL tl ss tn i ++ [nmP tl (str ss j)]) := Lib.hid (by rw [hj]; exact HNSU.out i)
              have htm : ((i : Int) + tn).tmod (Ls : Int) = (j : Int) := by rw [hj, Int.tmod_eq_emod_of_nonneg (by omega)]; simp
              have hwr1 : IntKind.i64.wrap ((i : Int) + tn) = (i : Int) + tn := IntWalk.i64_in _ ⟨by omega, by omega⟩
              have hl0 : ¬ Ls = 0 := by omega
              have hwr0 : IntKind.i64.wrap (tn : Int) = tn := IntWalk.i64_in _ ⟨by omega, by omega⟩
              have hjj : 0 ≤ (j : Int) := by omega
              clear hj
              generalize str ss j = p at *
              obtain ⟨x, y⟩ := p
              dsimp only at hm s1 s2
              obtain ⟨x, rfl⟩ := Int.eq_ofNat_of_zero_le hm.1
              obtain ⟨y, rfl⟩ := Int.eq_ofNat_of_zero_le (show 0 ≤ y by omega)
              have hxc : x < c := by omega
              have hyc : y < c := by omega
              go_upto_region 19 with fail
              go_region_held3 (fun w' => w'.cell? ⟨B, 0, none⟩ = some (.int .i64 c) ∧ w'.cell? ⟨B, 1, none⟩ = some (.slice (some ⟨sb, soff, none⟩) Ls lc) ∧ w'.cell? ⟨sb, soff + j * 2, none⟩ = some (.int .i64 x) ∧ w'.cell? ⟨sb, soff + j * 2 + 1, none⟩ = some (.int .i64 y)) (first | exact ⟨by assumption, by assumption, by assumption, by assumption⟩ | exact ⟨Lib.cell?_alloc_some _ (by assumption), Lib.cell?_alloc_some _ (by assumption), Lib.cell?_alloc_some _ (by assumption), Lib.cell?_alloc_some _ (by assumption)⟩ | simp [go_sem, *]) (fail)
              have hF6 : Fut wr (wr.alloc (.cells #[.int .i64 (x : Int), .int .i64 (y : Int)] 65)).drew := (Fut.alloc _ _).trans (Fut.drewN _ 1)
              have hx0 : (wr.alloc (.cells #[.int .i64 (x : Int), .int .i64 (y : Int)] 65)).drew.cell? ⟨wr.heap.size, 0, none⟩ = some (.int .i64 x) := by simp [go_sem]
              have hx1 : (wr.alloc (.cells #[.int .i64 (x : Int), .int .i64 (y : Int)] 65)).drew.cell? ⟨wr.heap.size, 1, none⟩ = some (.int .i64 y) := by simp [go_sem]
              have hxt := HTI.out _ (HR.out.trans hF6) x hxc
              have hyt := HTI.out _ (HR.out.trans hF6) y hyc
              have hXb := HPI.out
              have HF6 := Lib.hid hF6
              clear hb b0 b1 s1 s2 hsb htm hwr1 hwr0 hl0 hF6
              generalize (wr.alloc (.cells #[.int .i64 (x : Int), .int .i64 (y : Int)] 65)).drew = w6 at *
              generalize wr.heap.size = Z at *
              have HNP : Hid (nmP tl ((x : Int), (y : Int)) = (min (nth tl x) (nth tl y), max (nth tl x) (nth tl y))) := Lib.hid rfl
              rw [HNP.out] at HNS
              clear HNP hXb
              generalize nth tl x = P1 at *
              generalize nth tl y = P2 at *
              have HPL := Lib.hid (nmL_len tl ss tn i)
              generalize nmL tl ss tn i = PP at *
              go_wp2_with fail
              go_quiet (fail)
              have hF7 : Fut wr (w6.drewN nq) := HF6.out.trans (Fut.drewN _ _)
              generalize w6.drewN nq = w7 at *
              have hown0 : w7.ownsRow wq.heap.size 65 2 v i (flatP PP) := by
                have h : OwnP w7 wq.heap.size v PP := OwnP.fut HW.out.2.1 hF7
                unfold OwnP at h
                rw [HPL.out] at h
                exact h
              obtain ⟨va, vc, rfl⟩ := row_form hown0
              obtain ⟨hg, g0, g1, g2, g3⟩ := HW.out.1.fut hF7
              have HF7 := Lib.hid hF7
              have HFA : Hid (Fut wr (w7.alloc (.cells #[.int .i64 (min P1 P2), .int .i64 (max P1 P2)] 65))) := Lib.hid (hF7.trans (Fut.alloc _ _))
              have hrow1 := World.ownsRow.alloc hown0 (.cells #[.int .i64 (min P1 P2), .int .i64 (max P1 P2)] 65)
              have hbs : wq.heap.size ≤ (w7.alloc (.cells #[.int .i64 (min P1 P2), .int .i64 (max P1 P2)] 65)).heap.size := RowKit.Below.size (HR.out.trans HFA.out)
              clear hx0 hx1 hxt hyt hF7 hown0
              go_wp2_with (at_builtin; refine wpList_append_lies _ rfl _ _ 22 rfl wq.heap.size 65 i1 (.agg #[.int .i64 0, .int .i64 0]) 2 16 Try.underlying22 hi1 hy0 hy1 hy2 rfl (by decide) _ i (flatP PP) rfl hrow1 ⟨w7.heap.size, 0, none⟩ 1 1 [.int .i64 (min P1 P2), .int .i64 (max P1 P2)] rfl rfl (World.news_of_block (cs := #[.int .i64 (min P1 P2), .int .i64 (max P1 P2)]) (t := 65) (fr := (0, 0)) (heap_alloc_new w7 _)) (by simp [Value.oneCell']) (by omega) (by unfold maxLen; omega) (by omega) hbs _ rfl ?_)
              intro gn gc w8 hown8 hgrow8 hlie8 _
              have hbx := wide_box HW.out HFA.out hgrow8
              have hw8 : WideP wq (w8.setCell ⟨G, 1, none⟩ (.slice (some ⟨gn, 0, none⟩) (i + 1) gc)) G c (.slice (some ⟨gn, 0, none⟩) (i + 1) gc) (PP ++ [(min P1 P2, max P1 P2)]) := by
                have h := wide_app (p := (min P1 P2, max P1 P2)) (g := gn) (gc := gc) HW.out HFA.out hgrow8 (by rw [HPL.out]; exact hown8) (by rw [World.size_alloc]; exact hlie8)
                rw [HPL.out] at h
                exact h
              have HW9 : Hid (WideP wq (w8.setCell ⟨G, 1, none⟩ (.slice (some ⟨gn, 0, none⟩) (i + 1) gc)) G c (.slice (some ⟨gn, 0, none⟩) (i + 1) gc) (nmL tl ss tn (i + 1))) := Lib.hid (by rw [HNS.out]; exact hw8)
              obtain ⟨hg8, g80, g81, g82, g83⟩ := hbx
              clear hown8 hgrow8 hlie8 hw8 hrow1 hbs HFA HF7 hg g0 g1 g2 g3 HW
              go_wp2
              go_roundw
              case rel => first | exact ⟨i + 1, _, by omega, by go_num, HW9⟩ | ((repeat apply Exists.intro); refine ⟨⟨i + 1, _, by omega, ?_, HW9⟩, rfl⟩; go_num)
              case measure => simp [intOf]; omega
            · obtain rfl : i = Ls := by omega
              have HR2 := Lib.hid HR.out
              obtain ⟨⟨T, U, σ, τ, hI⟩, hg'⟩ := HIS.out
              have hI' := hI.symm HMEM.out
              have hls : ss.length ≤ 8 := by rw [HLs.out]; omega
              have hpl : (nmL tl ss tn i).length = i := nmL_len _ _ _ _
              have hpl' : (nmL tl ss tn i).length ≤ 8 := by omega
              have hck := HCHK.out
              have hck' := hI.chk hck hg'
              have hfew : (fewM (nmL tl ss tn i)).length = (fewM ss).length := Nat.le_antisymm (hI.few (by omega) (by omega) HMEM.out hg') (hI'.few (by omega) (by omega) hg' HMEM.out)
              have hcnt : cntM (nmL tl ss tn i) (2 ^ (nmL tl ss tn i).length) = cntM ss (2 ^ ss.length) := Nat.le_antisymm (hI'.cnt (by omega) (by omega) hg' HMEM.out) (hI.cnt (by omega) (by omega) HMEM.out hg')
              have hcut : (cutsR c (nmL tl ss tn i)).length = (cutsR c ss).length := Nat.le_antisymm (hI'.cuts hck' hck) (hI.cuts hck hck')
              have hev : evenR c (nmL tl ss tn i) = evenR c ss := by
                unfold evenR
                rw [hck, hck']
                have e : evenB c (nmL tl ss tn i) = evenB c ss := by
                  rw [Bool.eq_iff_iff]
                  exact ⟨hI'.even (by omega) (by omega) hg' HMEM.out, hI.even (by omega) (by omega) HMEM.out hg'⟩
                rw [e]
              obtain ⟨oa, oc, hv⟩ := row_form HW.out.2.1
              subst hv
              rw [hpl] at HW
              have hos : StrAt wr oa (nmL tl ss tn i) := own_strs HW.out.2.1
              have hms : StrAt wr (l) ss := HS.out.fut (HFQ.out.trans HR.out)
              have HBM := Lib.hid (HBQ.out.fut HR.out)
              have HBO : Hid (BoxM wr G c oa i oc) := Lib.hid ⟨HW.out.1.1, HW.out.1.2.1, HW.out.1.2.2.1⟩
              have hf1 : fewR c ss = fewM ss := by unfold fewR; rw [if_pos hck]
              have hf2 : fewR c (nmL tl ss tn i) = fewM (nmL tl ss tn i) := by unfold fewR; rw [if_pos hck']
              have HFM : Hid (∀ W, Fut wr W → Calls Try.prog 22 #[mapV c l i lc] W fun e w' => ∃ a ac, e = .returned (.tuple #[.slice a (fewM ss).length ac, .int .i64 0]) ∧ Fut W w') := Lib.hid (fun W F => by
                have h := fewest_any c l lc ss W (hms.fut F)
                rw [hck, hf1, HLs.out] at h
                exact h.mono fun e w' ⟨a, ac, h1, _, h3⟩ => ⟨a, ac, h1, h3⟩)
              have HFO : Hid (∀ W, Fut wr W → Calls Try.prog 22 #[mapV c oa i oc] W fun e w' => ∃ a ac, e = .returned (.tuple #[.slice a (fewM ss).length ac, .int .i64 0]) ∧ Fut W w') := Lib.hid (fun W F => by
                have h := fewest_any c oa oc (nmL tl ss tn i) W (hos.fut F)
                rw [hck', hf2, hpl] at h
                exact h.mono fun e w' ⟨a, ac, h1, _, h3⟩ => ⟨a, ac, by rw [← hfew]; exact h1, h3⟩)
              have hc1 : countR c ss = (cntM ss (2 ^ ss.length) : Int) := by unfold countR; rw [if_pos hck]
              have hc2 : countR c (nmL tl ss tn i) = (cntM ss (2 ^ ss.length) : Int) := by unfold countR; rw [if_pos hck', hcnt]
              have HCM : Hid (∀ W, Fut wr W → Calls Try.prog 24 #[mapV c l i lc] W fun e w' => e = .returned (.tuple #[.int .i64 (cntM ss (2 ^ ss.length) : Int), .int .i64 0]) ∧ Fut W w') := Lib.hid (fun W F => by
                have h := count_any c l lc ss W (hms.fut F)
                rw [hck, hc1, HLs.out] at h
                rw [HLs.out]
                exact h)
              have HCO : Hid (∀ W, Fut wr W → Calls Try.prog 24 #[mapV c oa i oc] W fun e w' => e = .returned (.tuple #[.int .i64 (cntM ss (2 ^ ss.length) : Int), .int .i64 0]) ∧ Fut W w') := Lib.hid (fun W F => by
                have h := count_any c oa oc (nmL tl ss tn i) W (hos.fut F)
                rw [hck', hc2, hpl] at h
                exact h)
              have HUM : Hid (∀ W, Fut wr W → Calls Try.prog 32 #[mapV c l i lc] W fun e w' => ∃ a ac, e = .returned (.tuple #[.slice a (cutsR c ss).length ac, .int .i64 0]) ∧ Fut W w') := Lib.hid (fun W F => by
                have h := cutsf_any c l lc ss W (hms.fut F)
                rw [hck, HLs.out] at h
                exact h.mono fun e w' ⟨a, ac, h1, _, h3⟩ => ⟨a, ac, h1, h3⟩)
              have HUO : Hid (∀ W, Fut wr W → Calls Try.prog 32 #[mapV c oa i oc] W fun e w' => ∃ a ac, e = .returned (.tuple #[.slice a (cutsR c ss).length ac, .int .i64 0]) ∧ Fut W w') := Lib.hid (fun W F => by
                have h := cutsf_any c oa oc (nmL tl ss tn i) W (hos.fut F)
                rw [hck', hpl] at h
                exact h.mono fun e w' ⟨a, ac, h1, _, h3⟩ => ⟨a, ac, by rw [← hcut]; exact h1, h3⟩)
              have HEM : Hid (∀ W, Fut wr W → Calls Try.prog 34 #[mapV c l i lc] W fun e w' => e = .returned (.tuple #[.bool (evenR c ss), .int .i64 0]) ∧ Fut W w') := Lib.hid (fun W F => by
                have h := even_any c l lc ss W (hms.fut F)
                rw [hck, HLs.out] at h
                exact h)
              have HEO : Hid (∀ W, Fut wr W → Calls Try.prog 34 #[mapV c oa i oc] W fun e w' => e = .returned (.tuple #[.bool (evenR c ss), .int .i64 0]) ∧ Fut W w') := Lib.hid (fun W F => by
                have h := even_any c oa oc (nmL tl ss tn i) W (hos.fut F)
                rw [hck', hev, hpl] at h
                exact h)
              clear hc1 hc2 hf1 hf2 hms hos hev hcut hcnt hfew hck hck' hpl hpl' hls hI hI' hg' HW HIS HPI HTI HNSU HSM HSA HLs HMEM HCHK HS HY1 HPM HTL HB2 HBB HF HR b0 b1 hb
              clear T U σ τ
              generalize (fewM ss).length = fa at *
              generalize (cntM ss (2 ^ ss.length) : Int) = kn at *
              generalize (cutsR c ss).length = cu at *
              generalize evenR c ss = ev at *
              have HW0 : Hid (Fut wr wr) := Lib.hid Fut.rfl
              go_upto_region 23 with fail
              obtain ⟨hq0, hq00, hq01⟩ := HBM.out.fut HW0.out
              go_wp2_with fail
              refine (HFM.out _ HW0.out).mono ?_
              rintro _ z0 ⟨a0, ac0, rfl, Fz0⟩
              have HW1 := Lib.hid (HW0.out.trans Fz0)
              clear hq0 hq00 hq01 Fz0
              obtain ⟨hq1, hq10, hq11⟩ := HBO.out.fut HW1.out
              go_wp2_with fail
              refine (HFO.out _ HW1.out).mono ?_
              rintro _ z1 ⟨a1, ac1, rfl, Fz1⟩
              have HW2 := Lib.hid (HW1.out.trans Fz1)
              clear hq1 hq10 hq11 Fz1
              obtain ⟨hq2, hq20, hq21⟩ := HBM.out.fut HW2.out
              go_wp2_with fail
              refine (HCM.out _ HW2.out).mono ?_
              rintro _ z2 ⟨rfl, Fz2⟩
              have HW3 := Lib.hid (HW2.out.trans Fz2)
              clear hq2 hq20 hq21 Fz2
              obtain ⟨hq3, hq30, hq31⟩ := HBO.out.fut HW3.out
              go_wp2_with fail
              refine (HCO.out _ HW3.out).mono ?_
              rintro _ z3 ⟨rfl, Fz3⟩
              have HW4 := Lib.hid (HW3.out.trans Fz3)
              clear hq3 hq30 hq31 Fz3
              obtain ⟨hq4, hq40, hq41⟩ := HBM.out.fut HW4.out
              go_wp2_with fail
              refine (HUM.out _ HW4.out).mono ?_
              rintro _ z4 ⟨a4, ac4, rfl, Fz4⟩
              have HW5 := Lib.hid (HW4.out.trans Fz4)
              clear hq4 hq40 hq41 Fz4
              obtain ⟨hq5, hq50, hq51⟩ := HBO.out.fut HW5.out
              go_wp2_with fail
              refine (HUO.out _ HW5.out).mono ?_
              rintro _ z5 ⟨a5, ac5, rfl, Fz5⟩
              have HW6 := Lib.hid (HW5.out.trans Fz5)
              clear hq5 hq50 hq51 Fz5
              obtain ⟨hq6, hq60, hq61⟩ := HBM.out.fut HW6.out
              go_wp2_with fail
              refine (HEM.out _ HW6.out).mono ?_
              rintro _ z6 ⟨rfl, Fz6⟩
              have HW7 := Lib.hid (HW6.out.trans Fz6)
              clear hq6 hq60 hq61 Fz6
              obtain ⟨hq7, hq70, hq71⟩ := HBO.out.fut HW7.out
              go_wp2_with fail
              refine (HEO.out _ HW7.out).mono ?_
              rintro _ z7 ⟨rfl, Fz7⟩
              have HW8 := Lib.hid (HW7.out.trans Fz7)
              clear hq7 hq70 hq71 Fz7
              have HEND := Lib.hid (HF1.out.trans (HFQ.out.trans (HR2.out.trans HW8.out)))
              go_wp2_with fail
              refine (works_any _).mono ?_
              rintro _ z9 ⟨rfl, Fz9⟩
              have HFIN := Lib.hid (HEND.out.trans Fz9)
              clear Fz9
              go_wp2
              go_ret
              exact ⟨rfl, HFIN.out⟩
end Nm
end Go.Proofs.Ytimddkofcejijaa
