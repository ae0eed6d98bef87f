/- TopTolls walks. -/
import Derived.Test.YtimddkofcejijaaWA
import Derived.Test.YtimddkofcejijaaWB
import Derived.Test.YtimddkofcejijaaWC
namespace Go.Proofs.Ytimddkofcejijaa
open Go.RowKit Go.Sort
theorem cell_oneT {w : World} {b : Nat} {x : Value} (h : w.cell? ⟨b, 0, none⟩ = some x) : ∀ j u, [x][j]? = some u → w.cell? ((⟨b, 0, none⟩ : Addr).add j) = some u := fun j u hj => by
  match j, hj with
  | 0, hj =>
    simp at hj
    subst hj
    rw [Addr.add_lit]; exact h
set_option maxRecDepth 100000 in
set_option maxHeartbeats 8000000 in
/-- TopTolls walks. -/
theorem tolls_any (c0 q1 : Nat) (f g : Nat → Int) (w : World) (hc0 : c0 ≤ 255) (hq : q1 ≤ 255) (hf : ∀ i, 0 ≤ f i ∧ f i ≤ 255) (hg : ∀ i, 0 ≤ g i ∧ g i ≤ 255) :
    Calls Try.prog 11 #[.int .u8 c0, .int .u8 q1, .agg (fC f), .agg (gC g)] w fun e w' => e = .returned (.bool true) ∧ Fut w w' := by
  obtain ⟨n, hn⟩ : ∃ n, n = 2 + c0 % 4 := ⟨_, rfl⟩
  have hn2 : 2 ≤ n := by omega
  have hn5 : n ≤ 5 := by omega
  have hwn : (2 : Int) + (c0 : Int) % 4 = (n : Int) := by rw [hn]; simp
  have hc0x : (c0 : Int) ≤ 255 := by omega
  have hqx : (q1 : Int) ≤ 255 := by omega
  have HMP := Lib.hid (fun W => mapped_any n q1 9 f g W hf hg ⟨hn2, hn5⟩ hq (by decide))
  clear hf hg hn
  go_enter Try.func11, Try.ntmps11
  go_upto_region 1 with fail
  have hF : Fut w ((w.alloc (.cells (fC f) 74)).alloc (.cells (gC g) 75)) := (Fut.alloc _ _).trans (Fut.alloc _ _)
  have hA : BoxU ((w.alloc (.cells (fC f) 74)).alloc (.cells (gC g) 75)) w.heap.size 8 f := (BoxU.newF w f).fut (Fut.alloc _ _)
  have hG : BoxU ((w.alloc (.cells (fC f) 74)).alloc (.cells (gC g) 75)) (w.heap.size + 1) 16 g := by
    have := BoxU.newG (w.alloc (.cells (fC f) 74)) g
    simpa using this
  have hG1 := hG.1
  generalize (w.alloc (.cells (fC f) 74)).alloc (.cells (gC g) 75) = W1 at *
  have a0 : W1.cell? ⟨w.heap.size, 0, none⟩ = some (.int .u8 (f 0)) := hA.2 0 (by decide)
  have a1 : W1.cell? ⟨w.heap.size, 1, none⟩ = some (.int .u8 (f 1)) := hA.2 1 (by decide)
  have a2 : W1.cell? ⟨w.heap.size, 2, none⟩ = some (.int .u8 (f 2)) := hA.2 2 (by decide)
  have a3 : W1.cell? ⟨w.heap.size, 3, none⟩ = some (.int .u8 (f 3)) := hA.2 3 (by decide)
  have a4 : W1.cell? ⟨w.heap.size, 4, none⟩ = some (.int .u8 (f 4)) := hA.2 4 (by decide)
  have a5 : W1.cell? ⟨w.heap.size, 5, none⟩ = some (.int .u8 (f 5)) := hA.2 5 (by decide)
  have a6 : W1.cell? ⟨w.heap.size, 6, none⟩ = some (.int .u8 (f 6)) := hA.2 6 (by decide)
  have a7 : W1.cell? ⟨w.heap.size, 7, none⟩ = some (.int .u8 (f 7)) := hA.2 7 (by decide)
  have b0 : W1.cell? ⟨w.heap.size + 1, 0, none⟩ = some (.int .u8 (g 0)) := hG.2 0 (by decide)
  have b1 : W1.cell? ⟨w.heap.size + 1, 1, none⟩ = some (.int .u8 (g 1)) := hG.2 1 (by decide)
  have b2 : W1.cell? ⟨w.heap.size + 1, 2, none⟩ = some (.int .u8 (g 2)) := hG.2 2 (by decide)
  have b3 : W1.cell? ⟨w.heap.size + 1, 3, none⟩ = some (.int .u8 (g 3)) := hG.2 3 (by decide)
  have b4 : W1.cell? ⟨w.heap.size + 1, 4, none⟩ = some (.int .u8 (g 4)) := hG.2 4 (by decide)
  have b5 : W1.cell? ⟨w.heap.size + 1, 5, none⟩ = some (.int .u8 (g 5)) := hG.2 5 (by decide)
  have b6 : W1.cell? ⟨w.heap.size + 1, 6, none⟩ = some (.int .u8 (g 6)) := hG.2 6 (by decide)
  have b7 : W1.cell? ⟨w.heap.size + 1, 7, none⟩ = some (.int .u8 (g 7)) := hG.2 7 (by decide)
  have b8 : W1.cell? ⟨w.heap.size + 1, 8, none⟩ = some (.int .u8 (g 8)) := hG.2 8 (by decide)
  have b9 : W1.cell? ⟨w.heap.size + 1, 9, none⟩ = some (.int .u8 (g 9)) := hG.2 9 (by decide)
  have b10 : W1.cell? ⟨w.heap.size + 1, 10, none⟩ = some (.int .u8 (g 10)) := hG.2 10 (by decide)
  have b11 : W1.cell? ⟨w.heap.size + 1, 11, none⟩ = some (.int .u8 (g 11)) := hG.2 11 (by decide)
  have b12 : W1.cell? ⟨w.heap.size + 1, 12, none⟩ = some (.int .u8 (g 12)) := hG.2 12 (by decide)
  have b13 : W1.cell? ⟨w.heap.size + 1, 13, none⟩ = some (.int .u8 (g 13)) := hG.2 13 (by decide)
  have b14 : W1.cell? ⟨w.heap.size + 1, 14, none⟩ = some (.int .u8 (g 14)) := hG.2 14 (by decide)
  have b15 : W1.cell? ⟨w.heap.size + 1, 15, none⟩ = some (.int .u8 (g 15)) := hG.2 15 (by decide)
  have hs0 : w.heap.size < W1.heap.size := hA.1
  have HF := Lib.hid hF
  clear hA hG hF
  go_upto_region 2 with (go_at_call 49; refine (HMP.out _).mono ?_; rintro _ w1 ⟨ss, l, lc, rfl, hS, F, hM, h9⟩; have HS := Lib.hid hS; have HF1 := Lib.hid (HF.out.trans F); clear hS F)
  have hmem := made_mem (by omega) hM
  have HCHK := Lib.hid (made_chk (by omega) (by omega) hM h9)
  have HMEM := Lib.hid hmem
  have HCC := Lib.hid (Tl.chk_clm hn2 hn5 hM h9 hmem)
  have HSUM := Lib.hid (Tl.clm_sum ss hmem)
  have HOL := Lib.hid (Tl.odd_list (by omega : n ≤ 16) hmem)
  have HOB := Lib.hid (Tl.odd_bit hmem)
  have hnx : (n : Int) ≤ 5 := by omega
  have hnx2 : (2 : Int) ≤ n := by omega
  have hsx : (ss.length : Int) ≤ 9 := by omega
  have hmk := run_make_row' (P := Try.prog) 25 3 (.int .i64 0) 8 Try.underlying25 info3 rfl .i64 .i64 n (by omega) (by omega)
  clear hM hmem HMP
  clear a0 a1 a2 a3 a4 a5 a6 a7 b0 b1 b2 b3 b4 b5 b6 b7 b8 b9 b10 b11 b12 b13 b14 b15 hG1 hs0
  have hB := BoxM.new w1 n l ss.length lc 24
  have hFB : Fut w1 (w1.alloc (.cells #[.int .i64 n, .slice l ss.length lc] 24)) := Fut.alloc _ _
  generalize w1.alloc (.cells #[.int .i64 n, .slice l ss.length lc] 24) = w2 at *
  generalize w1.heap.size = B at *
  have HB := Lib.hid hB
  have HF2 := Lib.hid (HF1.out.trans hFB)
  have HS2 := Lib.hid (HS.out.fut hFB)
  clear hFB
  obtain ⟨hb, b0, b1⟩ := hB
  go_upto_region 3 with fail
  have hgs : Owns (w2.alloc (.cells (madeCells #[Value.int .i64 0] n) 3)) w2.heap.size (.slice (some ⟨w2.heap.size, 0, none⟩) n n) (oftL n []) := made_own w2 n (by omega)
  rw [Tl.clm_nil] at hgs
  have hF3 : Fut w2 (w2.alloc (.cells (madeCells #[Value.int .i64 0] n) 3)) := Fut.alloc _ _
  generalize w2.alloc (.cells (madeCells #[Value.int .i64 0] n) 3) = w3 at *
  have hB3 := HB.out.fut hF3
  have HB3 := Lib.hid hB3
  have HS3 := Lib.hid (HS2.out.fut hF3)
  have HF3 := Lib.hid (HF2.out.trans hF3)
  have HBG : Hid (B < w2.heap.size) := Lib.hid hb
  have HWG : Hid (w.heap.size ≤ w2.heap.size) := Lib.hid (RowKit.Below.size HF2.out)
  have HSL : Hid (∀ b off, l = some ⟨b, off, none⟩ → 0 < ss.length → b < w2.heap.size) := Lib.hid (fun b off e h0 => by
    obtain ⟨b', off', e', h1, _, _⟩ := HS2.out 0 h0
    rw [e] at e'; simp at e'; omega)
  generalize w2.heap.size = G at *
  have HO3 := Lib.hid hgs
  clear hb b0 b1 hmk hgs hF3
  obtain ⟨hb, b0, b1⟩ := hB3
  go_wp2_with fail
  clear hb b0 b1
  go_loopw [12, 35] (fun _ iv wr => ∃ (k : Nat), k ≤ ss.length ∧ iv = .int .i64 k ∧ Hid (Owns wr G (.slice (some ⟨G, 0, none⟩) n n) (Tl.clmL n (ss.take k))) ∧ Hid (RowKit.Below G w3 wr)) (fun _ iv _ => ss.length - (intOf iv).toNat)
  case atStart => exact ⟨0, Nat.zero_le _, rfl, HO3, Lib.hid (RowKit.Below.refl _ _)⟩
  case round =>
    obtain ⟨k, hk, rfl, HOW, HR⟩ := hrel
    by_cases hlt : k < ss.length
    · have hkx : (k : Int) < ss.length := by omega
      obtain ⟨sb, soff, ea, hsb, s1, s2⟩ := HS3.out k hlt
      have hsg := HSL.out sb soff ea (by omega)
      subst ea
      rw [← RowKit.Below.cell HR.out (p := ⟨sb, soff + k * 2, none⟩) hsg] at s1
      rw [← RowKit.Below.cell HR.out (p := ⟨sb, soff + k * 2 + 1, none⟩) hsg] at s2
      have hm := HMEM.out _ (by rw [str_eq, List.getElem?_eq_getElem hlt]; exact List.getElem_mem hlt : str ss k ∈ ss)
      obtain ⟨x, hx⟩ := Int.eq_ofNat_of_zero_le hm.1
      obtain ⟨y, hy⟩ := Int.eq_ofNat_of_zero_le (show 0 ≤ (str ss k).2 by omega)
      have hst : str ss k = ((x : Int), (y : Int)) := by rw [← hx, ← hy]
      have hts : ss.take (k + 1) = ss.take k ++ [((x : Int), (y : Int))] := by rw [List.take_add_one, ← hst, str_eq, List.getElem?_eq_getElem hlt]; rfl
      rw [hx] at s1
      rw [hy] at s2
      have hxn : x < n := by omega
      have hyn : y < n := by omega
      have hxy : x ≠ y := by omega
      have hstep := Tl.clm_step (n := n) (ss := ss.take k) (x := x) (y := y)
      rw [← hts] at hstep
      have hlen := Tl.clm_len n (ss.take k)
      obtain ⟨o1, o2, o3⟩ := own_at HOW.out hlen x hxn
      have hnx1 := Tl.clm_nth (ss := ss.take k) hxn
      have hny1 := Tl.clm_nth (ss := ss.take k) hyn
      rw [hnx1] at o1
      have hdx := Tl.deg_le (ss.take k) x
      have hdy := Tl.deg_le (ss.take k) y
      rw [List.length_take] at hdx hdy
      have HST := Lib.hid hstep
      have HNY := Lib.hid hny1
      have HNX := Lib.hid hnx1
      generalize Tl.degI (ss.take k) x = dx at *
      generalize Tl.degI (ss.take k) y = dy at *
      have hdxx : (dx : Int) ≤ 9 := by omega
      have hdyx : (dy : Int) ≤ 9 := by omega
      have hxx : (x : Int) < n := by omega
      have hyx : (y : Int) < n := by omega
      clear hstep hts hst hx hy hm hnx1 hny1
      have hgw : G < wr.heap.size := o3
      go_upto_region 6 with fail
      have hFa : RowKit.Below G wr (wr.alloc (.cells #[.int .i64 (x : Int), .int .i64 (y : Int)] 65)) := RowKit.Below.alloc (RowKit.Below.refl _ _) (by omega) _
      have HOa : Hid (Owns (wr.alloc (.cells #[.int .i64 (x : Int), .int .i64 (y : Int)] 65)) G (.slice (some ⟨G, 0, none⟩) n n) (Tl.clmL n (ss.take k))) := Lib.hid (HOW.out.fut (Fut.alloc _ _))
      have z0 : (wr.alloc (.cells #[.int .i64 (x : Int), .int .i64 (y : Int)] 65)).cell? ⟨wr.heap.size, 0, none⟩ = some (.int .i64 (x : Int)) := by simp [go_sem]
      have z1 : (wr.alloc (.cells #[.int .i64 (x : Int), .int .i64 (y : Int)] 65)).cell? ⟨wr.heap.size, 1, none⟩ = some (.int .i64 (y : Int)) := by simp [go_sem]
      generalize wr.alloc (.cells #[.int .i64 (x : Int), .int .i64 (y : Int)] 65) = wa at *
      generalize wr.heap.size = S at *
      have HFa := Lib.hid (HR.out.trans hFa)
      clear s1 s2 o1 o2 o3 hFa HR HOW
      obtain ⟨o1, o2, o3⟩ := own_at HOa.out hlen x hxn
      rw [HNX.out] at o1
      have hSG : S ≠ G := by omega
      have hOb := own_set HOa.out hlen x ((dx : Int) + 1)
      have hFb : RowKit.Below G wa (wa.setCell ⟨G, x, none⟩ (.int .i64 ((dx : Int) + 1))) := (RowKit.Below.refl G wa).setCell (p := ⟨G, x, none⟩) (Nat.le_refl _) _
      have y1 : (wa.setCell ⟨G, x, none⟩ (.int .i64 ((dx : Int) + 1))).cell? ⟨S, 1, none⟩ = some (.int .i64 (y : Int)) := (World.cell?_setCell_other _ _ _ _ (by intro e; have := congrArg Addr.block e; simp at this; omega)).trans z1
      go_upto_region 7 with fail
      generalize wa.setCell ⟨G, x, none⟩ (.int .i64 ((dx : Int) + 1)) = wb at *
      have HOb := Lib.hid hOb
      have HFb := Lib.hid (HFa.out.trans hFb)
      clear o1 o2 o3 z0 z1 hOb hFb
      have hlen2 : ((Tl.clmL n (ss.take k)).set x ((dx : Int) + 1)).length = n := by rw [List.length_set]; exact hlen
      obtain ⟨o1, o2, o3⟩ := own_at HOb.out hlen2 y hyn
      have hny2 : nth ((Tl.clmL n (ss.take k)).set x ((dx : Int) + 1)) y = (dy : Int) := by
        rw [← HNY.out, nth_eq, nth_eq, List.getElem?_set, if_neg hxy]
      rw [hny2] at o1
      have hOc := own_set HOb.out hlen2 y ((dy : Int) + 1)
      have hFc : RowKit.Below G wb (wb.setCell ⟨G, y, none⟩ (.int .i64 ((dy : Int) + 1))) := (RowKit.Below.refl G wb).setCell (p := ⟨G, y, none⟩) (Nat.le_refl _) _
      rw [← HST.out] at hOc
      have HOc := Lib.hid hOc
      have HFc := Lib.hid (HFb.out.trans hFc)
      clear hOc hFc hlen hlen2 hny2
      go_wp2
      go_roundw
      case rel => exact ⟨k + 1, by omega, by go_num, HOc, HFc⟩
      case measure => simp [intOf]; omega
    · obtain rfl : k = ss.length := by omega
      rw [List.take_length] at HOW
      have hlen := Tl.clm_len n ss
      have HFW : Hid (Fut w wr) := Lib.hid (HF3.out.trans' HR.out HWG.out)
      have HBW := Lib.hid (HB3.out.belowB HBG.out HR.out)
      have HSW : Hid (StrAt wr l ss) := Lib.hid (fun j hj => by
        obtain ⟨b, off, e, h1, h2, h3⟩ := HS3.out j hj
        have hbg := HSL.out b off e (by omega)
        exact ⟨b, off, e, Nat.lt_of_lt_of_le h1 (RowKit.Below.size HR.out), (RowKit.Below.cell HR.out (p := ⟨b, off + j * 2, none⟩) hbg).trans h2, (RowKit.Below.cell HR.out (p := ⟨b, off + j * 2 + 1, none⟩) hbg).trans h3⟩)
      have hIA := own_ints HOW.out hlen
      have hDV := Cl.divide_half (ss.length : Int) (some ⟨G, 0, none⟩) n (Tl.clmL n ss) wr hIA HCC.out HSUM.out
      rw [hlen] at hDV
      have HDV := Lib.hid hDV
      have HODD := Lib.hid (fun W (F : Fut wr W) => oddf_ok n l lc ss W (HSW.out.fut F) HCHK.out)
      obtain ⟨hb, b0, b1⟩ := HBW.out
      clear hIA hDV hlt hk
      go_upto_region 11 with (first
        | (go_at_call 50; refine (HDV.out).mono ?_; rintro _ w4 ⟨v, rfl, hO4, hB4⟩; have HO4 : Hid (Owns w4 wr.heap.size v ((Tl.clmL n ss).map fun z => 60 * z)) := Lib.hid hO4; have HB4 : Hid (Fut wr w4) := Lib.hid hB4; have HBX := Lib.hid (HBW.out.fut HB4.out); clear hb b0 b1 hO4 hB4; obtain ⟨hb, b0, b1⟩ := HBX.out)
        | (go_at_call 15; refine (HODD.out _ HB4.out).mono ?_; rintro _ w5 ⟨al, ac, rfl, hI5, F5⟩; have HI5 := Lib.hid hI5; have HF5 := Lib.hid (HB4.out.trans F5); have HO5 := Lib.hid (HO4.out.fut F5); have HBY := Lib.hid (HBX.out.fut F5); clear hb b0 b1 hI5 F5; obtain ⟨hb, b0, b1⟩ := HBY.out))
      have hlm : ((Tl.clmL n ss).map fun z => 60 * z).length = n := by rw [List.length_map]; exact hlen
      obtain ⟨la, lca, hv, hID⟩ := HO5.out.ints
      rw [hlm] at hv
      subst hv
      have HID := Lib.hid hID
      have HOW5 := Lib.hid (HOW.out.fut HF5.out)
      have HNM : Hid (∀ k, k < n → nth ((Tl.clmL n ss).map fun z => 60 * z) k = 60 * ((Tl.degI ss k : Nat) : Int)) := Lib.hid (fun k hk => by
        rw [nth_eq, List.getElem?_map]
        have := Tl.clm_nth (ss := ss) hk
        rw [nth_eq] at this
        rw [List.getElem?_eq_getElem (by rw [hlen]; exact hk)] at this ⊢
        simp only [Option.getD_some] at this
        rw [Option.map_some, Option.getD_some, this])
      have HFW5 := Lib.hid (HFW.out.trans HF5.out)
      rw [HOL.out] at HI5
      have hol : (listM (oddM ss (2 ^ ss.length - 1))).length = (preM (oddM ss (2 ^ ss.length - 1)) n).length := by rw [HOL.out]
      have hpl := preM_len (oddM ss (2 ^ ss.length - 1)) n
      rw [hol]
      generalize oddM ss (2 ^ ss.length - 1) = O at *
      obtain ⟨i0, hi0, hz0, hz1, hz2⟩ := info_parts info3
      clear hol hID HODD HDV
      go_upto_region 14 with fail
      go_wp2_with fail
      clear hb b0 b1
      go_loopw [17, 18, 19, 82] (fun v17 _ _ iv wx => ∃ (k : Nat), k ≤ n ∧ iv = .int .i64 k ∧ Hid (Owns wx w5.heap.size v17 (preM O k)) ∧ Hid (Fut w5 wx)) (fun _ _ _ iv _ => n - (intOf iv).toNat)
      case atStart => exact ⟨0, Nat.zero_le _, rfl, Lib.hid (World.ownsRow_nil _ _ _ _), Lib.hid Fut.rfl⟩
      case round =>
        obtain ⟨k, hk, rfl, HOV, HR5⟩ := hrel
        by_cases hlt : k < n
        · have hkx : (k : Int) < n := by omega
          obtain ⟨o1, _, _⟩ := own_at (HOW5.out.fut HR5.out) hlen k hlt
          rw [Tl.clm_nth hlt] at o1
          obtain ⟨bl, ol, ea, hbl, d1⟩ := (HID.out.fut HR5.out) k (by rw [hlm]; exact hlt)
          subst ea
          rw [HNM.out k hlt] at d1
          have hdl := Tl.deg_le ss k
          have hOB := HOB.out k
          have hps := preM_succ O k
          rw [hOB] at hps
          generalize Tl.degI ss k = d at *
          have hdx : (d : Int) ≤ 9 := by omega
          have hpk := preM_len O k
          obtain ⟨va, vc, hv17, _⟩ := HOV.out.ints
          subst hv17
          by_cases h2 : d % 2 = 1
          · have h2x : ((d : Int) % 2 == 1) = true := by rw [beq_iff_eq]; omega
            rw [decide_eq_true h2, if_pos rfl] at hps
            have HPS := Lib.hid hps
            have hrow1 := World.ownsRow.alloc (show wr.ownsRow w5.heap.size 3 1 (.slice va (preM O k).length vc) (preM O k).length ((preM O k).map (Value.int .i64)) from HOV.out) (.cells #[.int .i64 (k : Int)] 3)
            have HFA : Hid (Fut w5 (wr.alloc (.cells #[.int .i64 (k : Int)] 3))) := Lib.hid (HR5.out.trans (Fut.alloc _ _))
            have HIS : Hid ((preM O k ++ [(k : Int)]).map (Value.int .i64) = (preM O k).map (Value.int .i64) ++ [.int .i64 (k : Int)]) := Lib.hid (by rw [List.map_append]; rfl)
            have HIL : Hid ((preM O k ++ [(k : Int)]).length = (preM O k).length + 1) := Lib.hid (by rw [List.length_append]; rfl)
            generalize (preM O k).map (Value.int .i64) = vals at *
            generalize (preM O k).length = pn at *
            clear h2 hps HOV
            go_wp2_with (at_builtin; refine wpList_append_lies _ rfl _ _ 25 rfl w5.heap.size 3 i0 (.int .i64 0) 1 8 Try.underlying25 hi0 hz0 hz1 hz2 rfl (by decide) _ pn vals rfl hrow1 ⟨wr.heap.size, 0, none⟩ 1 1 [.int .i64 (k : Int)] rfl rfl (cell_oneT (by simp [go_sem])) (by simp [Value.oneCell']) (by omega) (by unfold maxLen; omega) (by omega) (RowKit.Below.size HFA.out) _ rfl ?_)
            intro g5 c5 w6 hown5 hgrow5 _ _
            have HO6 : Hid (Owns w6 w5.heap.size (.slice (some ⟨g5, 0, none⟩) (pn + 1) c5) (preM O (k + 1))) := Lib.hid (by rw [HPS.out]; unfold Owns; rw [HIS.out, HIL.out]; exact hown5)
            have HF6 : Hid (Fut w5 w6) := Lib.hid (RowKit.Below.grown HFA.out hgrow5 (RowKit.Below.size HFA.out) fun q hq => (World.ownsRow.lt hrow1 q hq).1)
            clear hown5 hgrow5 hrow1 HFA o1 d1
            go_wp2
            go_roundw
            case rel => exact ⟨k + 1, by omega, by go_num, HO6, HF6⟩
            case measure => simp [intOf]; omega
          · have h2x : ((d : Int) % 2 == 1) = false := by rw [beq_eq_false_iff_ne]; omega
            rw [decide_eq_false h2, if_neg (by decide), List.append_nil] at hps
            have HOV2 : Hid (Owns wr w5.heap.size (.slice va (preM O k).length vc) (preM O (k + 1))) := Lib.hid (by rw [hps]; exact HOV.out)
            clear h2 hps
            go_wp2_with fail
            go_roundw
            case rel => exact ⟨k + 1, by omega, by go_num, HOV2, HR5⟩
            case measure => simp [intOf]; omega
        · obtain rfl : k = n := by omega
          obtain ⟨va, vc, hv17, hIV⟩ := HOV.out.ints
          subst hv17
          have HIO := Lib.hid (HI5.out.fut HR5.out)
          have hss : sameB (preM O k) (preM O k) = true := by simp [sameB]
          have hkk : ¬ (k : Int) < k := by omega
          have HSA := Lib.hid (sameT_any al va ac vc (preM O k) (preM O k) _ (by omega) (by omega) HIO.out hIV)
          generalize preM O k = PO at *
          have HWF := Lib.hid (HFW5.out.trans HR5.out)
          clear hIV
          go_wp2_with (first
            | (go_at_call 51; (with_reducible refine HSA.out.mono ?_); rintro _ _ ⟨rfl, q9, rfl⟩; have HFd := Lib.hid (HWF.out.trans (Fut.drewN _ q9)))
            | (go_at_call 52; (with_reducible refine (worksT_any _).mono ?_); rintro _ w9 ⟨rfl, F9⟩; have HFe := Lib.hid (HFd.out.trans F9); clear F9))
          go_ret
          exact ⟨rfl, HFe.out⟩
end Go.Proofs.Ytimddkofcejijaa
