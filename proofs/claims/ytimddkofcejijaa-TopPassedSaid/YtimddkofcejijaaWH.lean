/- TopPassed walks. -/
import Derived.Test.YtimddkofcejijaaWG
import Derived.Test.YtimddkofcejijaaWA
import Derived.Test.YtimddkofcejijaaWB
import Derived.Test.YtimddkofcejijaaWC
import Derived.Test.YtimddkofcejijaaWD
namespace Go.Proofs.Ytimddkofcejijaa
open Go.RowKit Go.Sort
set_option maxRecDepth 100000 in
set_option maxHeartbeats 8000000 in
/-- TopPassed walks. -/
theorem passed_any (c0 q1 : Nat) (f g : Nat → Int) (w : World) (hc0 : c0 ≤ 255) (hq : q1 ≤ 255) (hf : ∀ i, 0 ≤ f i ∧ f i ≤ 255) (hg : ∀ i, 0 ≤ g i ∧ g i ≤ 255) :
    Calls Try.prog 12 #[.int .u8 c0, .int .u8 q1, .agg (fC f), .agg (gC g)] w fun e w' => e = .returned (.bool true) ∧ Fut w w' := by
  obtain ⟨n, hn⟩ : ∃ n, n = 2 + c0 % 4 := ⟨_, rfl⟩
  have hn2 : 2 ≤ n := by omega
  have hn5 : n ≤ 5 := by omega
  have hwn : (2 : Int) + (c0 : Int) % 4 = (n : Int) := by rw [hn]; simp
  have hc0x : (c0 : Int) ≤ 255 := by omega
  have hqx : (q1 : Int) ≤ 255 := by omega
  have HMP := Lib.hid (fun W => mapped_any n q1 8 f g W hf hg ⟨hn2, hn5⟩ hq (by decide))
  clear hf hg hn
  go_enter Try.func12, Try.ntmps12
  go_upto_region 1 with fail
  have hF : Fut w ((w.alloc (.cells (fC f) 74)).alloc (.cells (gC g) 75)) := (Fut.alloc _ _).trans (Fut.alloc _ _)
  have hA : BoxU ((w.alloc (.cells (fC f) 74)).alloc (.cells (gC g) 75)) w.heap.size 8 f := (BoxU.newF w f).fut (Fut.alloc _ _)
  have hG : BoxU ((w.alloc (.cells (fC f) 74)).alloc (.cells (gC g) 75)) (w.heap.size + 1) 16 g := by
    have := BoxU.newG (w.alloc (.cells (fC f) 74)) g
    simpa using this
  have hG1 := hG.1
  generalize (w.alloc (.cells (fC f) 74)).alloc (.cells (gC g) 75) = W1 at *
  have a0 : W1.cell? ⟨w.heap.size, 0, none⟩ = some (.int .u8 (f 0)) := hA.2 0 (by decide)
  have a1 : W1.cell? ⟨w.heap.size, 1, none⟩ = some (.int .u8 (f 1)) := hA.2 1 (by decide)
  have a2 : W1.cell? ⟨w.heap.size, 2, none⟩ = some (.int .u8 (f 2)) := hA.2 2 (by decide)
  have a3 : W1.cell? ⟨w.heap.size, 3, none⟩ = some (.int .u8 (f 3)) := hA.2 3 (by decide)
  have a4 : W1.cell? ⟨w.heap.size, 4, none⟩ = some (.int .u8 (f 4)) := hA.2 4 (by decide)
  have a5 : W1.cell? ⟨w.heap.size, 5, none⟩ = some (.int .u8 (f 5)) := hA.2 5 (by decide)
  have a6 : W1.cell? ⟨w.heap.size, 6, none⟩ = some (.int .u8 (f 6)) := hA.2 6 (by decide)
  have a7 : W1.cell? ⟨w.heap.size, 7, none⟩ = some (.int .u8 (f 7)) := hA.2 7 (by decide)
  have b0 : W1.cell? ⟨w.heap.size + 1, 0, none⟩ = some (.int .u8 (g 0)) := hG.2 0 (by decide)
  have b1 : W1.cell? ⟨w.heap.size + 1, 1, none⟩ = some (.int .u8 (g 1)) := hG.2 1 (by decide)
  have b2 : W1.cell? ⟨w.heap.size + 1, 2, none⟩ = some (.int .u8 (g 2)) := hG.2 2 (by decide)
  have b3 : W1.cell? ⟨w.heap.size + 1, 3, none⟩ = some (.int .u8 (g 3)) := hG.2 3 (by decide)
  have b4 : W1.cell? ⟨w.heap.size + 1, 4, none⟩ = some (.int .u8 (g 4)) := hG.2 4 (by decide)
  have b5 : W1.cell? ⟨w.heap.size + 1, 5, none⟩ = some (.int .u8 (g 5)) := hG.2 5 (by decide)
  have b6 : W1.cell? ⟨w.heap.size + 1, 6, none⟩ = some (.int .u8 (g 6)) := hG.2 6 (by decide)
  have b7 : W1.cell? ⟨w.heap.size + 1, 7, none⟩ = some (.int .u8 (g 7)) := hG.2 7 (by decide)
  have b8 : W1.cell? ⟨w.heap.size + 1, 8, none⟩ = some (.int .u8 (g 8)) := hG.2 8 (by decide)
  have b9 : W1.cell? ⟨w.heap.size + 1, 9, none⟩ = some (.int .u8 (g 9)) := hG.2 9 (by decide)
  have b10 : W1.cell? ⟨w.heap.size + 1, 10, none⟩ = some (.int .u8 (g 10)) := hG.2 10 (by decide)
  have b11 : W1.cell? ⟨w.heap.size + 1, 11, none⟩ = some (.int .u8 (g 11)) := hG.2 11 (by decide)
  have b12 : W1.cell? ⟨w.heap.size + 1, 12, none⟩ = some (.int .u8 (g 12)) := hG.2 12 (by decide)
  have b13 : W1.cell? ⟨w.heap.size + 1, 13, none⟩ = some (.int .u8 (g 13)) := hG.2 13 (by decide)
  have b14 : W1.cell? ⟨w.heap.size + 1, 14, none⟩ = some (.int .u8 (g 14)) := hG.2 14 (by decide)
  have b15 : W1.cell? ⟨w.heap.size + 1, 15, none⟩ = some (.int .u8 (g 15)) := hG.2 15 (by decide)
  have hs0 : w.heap.size < W1.heap.size := hA.1
  have HF := Lib.hid hF
  clear hA hG hF
  go_upto_region 2 with (go_at_call 49; refine (HMP.out _).mono ?_; rintro _ w1 ⟨ss, l, lc, rfl, hS, F, hM, h9⟩; have HS := Lib.hid hS; have HF1 := Lib.hid (HF.out.trans F); clear hS F)
  have hmem := made_mem (by omega) hM
  have HCHK := Lib.hid (made_chk (by omega) (by omega) hM (by omega))
  have HMEM := Lib.hid hmem
  obtain ⟨r, K, htw, hro, hwk, hrm, hrl, hK, hgE, hgR, hcl, hck, hsum⟩ := Tp.round_facts hn2 hn5 h9 hM HCHK.out
  have hfr : fewR n ss = fewM ss := by unfold fewR; rw [if_pos HCHK.out]
  have HG : Hid (GoodS ss n) := Lib.hid hmem
  have hnx : (n : Int) ≤ 5 := by omega
  have hnx2 : (2 : Int) ≤ n := by omega
  have hsx : (ss.length : Int) ≤ 8 := by omega
  have hmk := run_make_row' (P := Try.prog) 25 3 (.int .i64 0) 8 Try.underlying25 info3 rfl .i64 .i64 n (by omega) (by omega)
  clear hM hmem HMP
  clear a0 a1 a2 a3 a4 a5 a6 a7 b0 b1 b2 b3 b4 b5 b6 b7 b8 b9 b10 b11 b12 b13 b14 b15 hG1 hs0
  have hB := BoxM.new w1 n l ss.length lc 24
  have hFB : Fut w1 (w1.alloc (.cells #[.int .i64 n, .slice l ss.length lc] 24)) := Fut.alloc _ _
  generalize w1.alloc (.cells #[.int .i64 n, .slice l ss.length lc] 24) = w2 at *
  generalize w1.heap.size = B at *
  have HB := Lib.hid hB
  have HF2 := Lib.hid (HF1.out.trans hFB)
  have HS2 := Lib.hid (HS.out.fut hFB)
  clear hFB
  obtain ⟨hb, b0, b1⟩ := hB
  have HFEW := Lib.hid (fun W (F : Fut w2 W) => fewest_any n l lc ss W (HS2.out.fut F))
  rw [HCHK.out, hfr] at HFEW
  have hfl : (fewM ss).length ≤ 1000 := by
    obtain ⟨S, _, e, _, _⟩ := few_set ss
    rw [e]
    have := list_le S
    omega
  have HROU := Lib.hid (fun (d : Option Addr) (dap : Nat) W (F : Fut w2 W) (hI : IntsAt W d (fewM ss)) => round_any n l lc ss d dap (fewM ss) W (HS2.out.fut F) hI hfl)
  rw [htw, hro] at HROU
  have HGO := Lib.hid (fun (d : Option Addr) (dap : Nat) W (F : Fut w2 W) (hI : IntsAt W d (Tp.ints' r)) => goesf_any n l lc ss d dap (Tp.ints' r) W (HS2.out.fut F) hI (by rw [List.length_map]; omega))
  rw [hgE, hgR] at HGO
  have hRl : (Tp.ints' r).length = r.length := List.length_map ..
  have hOl : (Tp.kL K ss.length).length = ss.length := Tp.kL_len _ _
  have HRN : Hid (∀ k (h : k < r.length), nth (Tp.ints' r) k = ((r[k] : Nat) : Int)) := Lib.hid (fun k h => by rw [nth_eq]; simp [h])
  have HON : Hid (∀ k, k < ss.length → nth (Tp.kL K ss.length) k = ((K k : Nat) : Int)) := Lib.hid (fun k h => Tp.kL_nth h)
  generalize fewM ss = FW at *
  generalize Tp.ints' r = R at *
  generalize Tp.kL K ss.length = OF at *
  have hrx : (R.length : Int) ≤ 16 := by omega
  have hgt : ¬ (2 * (ss.length : Int) < (R.length : Int)) := by omega
  have hofe : ((OF.length : Int) != (ss.length : Int)) = false := by rw [hOl]; simp
  have HWK := Lib.hid hwk
  have HRM := Lib.hid hrm
  have HRL := Lib.hid hRl
  have HOL := Lib.hid hOl
  have HKB := Lib.hid hK
  have HCLE := Lib.hid hcl
  have HCK := Lib.hid hck
  have HSUM := Lib.hid hsum
  clear hwk hrm hOl hK hcl hck hsum htw hro hgE hgR hfr hfl hRl
  go_upto_region 11 with (first
    | (go_at_call 22; refine (HFEW.out _ Fut.rfl).mono ?_; rintro _ w3 ⟨fa, fc, rfl, hI, F⟩; have HI3 := Lib.hid hI; have HF3 := Lib.hid F; have HB3 := Lib.hid (HB.out.fut F); clear hb b0 b1 hI F; obtain ⟨hb, b0, b1⟩ := HB3.out)
    | (go_at_call 26; refine (HROU.out _ _ _ HF3.out HI3.out).mono ?_; rintro _ w4 ⟨ra, rc, rfl, hI, F⟩; have HI4 := Lib.hid hI; have HF4 := Lib.hid (HF3.out.trans F); have HB4 := Lib.hid (HB3.out.fut F); clear hb b0 b1 hI F; obtain ⟨hb, b0, b1⟩ := HB4.out)
    | (go_at_call 28; refine (HGO.out _ _ _ HF4.out HI4.out).mono ?_; rintro _ w5 ⟨oa, oc, rfl, hI, F⟩; have HI5 := Lib.hid hI; have HR5 := Lib.hid (HI4.out.fut F); have HF5 := Lib.hid (HF4.out.trans F); have HB5 := Lib.hid (HB4.out.fut F); clear hb b0 b1 hI F; obtain ⟨hb, b0, b1⟩ := HB5.out))
  have hmk := run_make_row' (P := Try.prog) 25 3 (.int .i64 0) 8 Try.underlying25 info3 rfl .i64 .i64 n (by omega) (by omega)
  have HMK := Lib.hid hmk
  go_upto_region 12 with fail
  have hgs : Owns (w5.alloc (.cells (madeCells #[Value.int .i64 0] n) 3)) w5.heap.size (.slice (some ⟨w5.heap.size, 0, none⟩) n n) (oftL n []) := made_own w5 n (by omega)
  have hz0 : oftL n [] = Tp.kL (Tp.pas (en1 ss) (en2 ss) 0 (r.take 0)) n := by
    rw [List.take_zero]; unfold oftL Tp.kL Tp.pas; simp
  rw [hz0] at hgs
  have hF6 : Fut w5 (w5.alloc (.cells (madeCells #[Value.int .i64 0] n) 3)) := Fut.alloc _ _
  generalize w5.alloc (.cells (madeCells #[Value.int .i64 0] n) 3) = w6 at *
  have HO6 := Lib.hid hgs
  have HF6 := Lib.hid hF6
  have HS5 := Lib.hid (HS2.out.fut HF5.out)
  obtain ⟨G1, hG1⟩ : ∃ G1, G1 = w5.heap.size := ⟨_, rfl⟩
  rw [← hG1] at HO6
  rw [← hG1]
  have HG1 := Lib.hid hG1
  have HW0 : Hid (wk (en1 ss) (en2 ss) 0 (r.take 0) = some 0) := Lib.hid rfl
  have HW1 : Hid (wk (en1 ss) (en2 ss) 0 (r.drop 0) = some 0) := Lib.hid HWK.out
  clear hb b0 b1 hmk hgs hz0 hF6 hG1
  go_upto_region 13 with fail
  go_wp2_with fail
  go_loopw [15, 17, 78] (fun v15 _ iv wr => ∃ (k x : Nat), k ≤ R.length ∧ iv = .int .i64 k ∧ v15 = .int .i64 x ∧ x < n ∧ Hid (wk (en1 ss) (en2 ss) 0 (r.take k) = some x) ∧ Hid (wk (en1 ss) (en2 ss) x (r.drop k) = some 0) ∧ Hid (Owns wr G1 (.slice (some ⟨G1, 0, none⟩) n n) (Tp.kL (Tp.pas (en1 ss) (en2 ss) 0 (r.take k)) n)) ∧ Hid (Fut w5 wr)) (fun _ _ iv _ => R.length - (intOf iv).toNat)
  case atStart => exact ⟨0, 0, Nat.zero_le _, rfl, rfl, by omega, HW0, HW1, HO6, HF6⟩
  case round =>
    obtain ⟨k, x, hk, rfl, rfl, hx, HWA, HWB, HOW, HR⟩ := hrel
    by_cases hlt : k < R.length
    · have hkx : (k : Int) < R.length := by omega
      have hkr : k < r.length := by rw [← HRL.out]; exact hlt
      obtain ⟨rb, roff, ea, hrb, c0'⟩ := (HR5.out.fut HR.out) k hlt
      subst ea
      rw [HRN.out k hkr] at c0'
      have hwb := HWB.out
      rw [List.drop_eq_getElem_cons hkr] at hwb
      have htk : r.take (k + 1) = r.take k ++ [r[k]] := by rw [List.take_add_one, List.getElem?_eq_getElem hkr]; rfl
      have him := HRM.out r[k] (List.getElem_mem hkr)
      generalize r[k] = i at *
      have ht : touches (en1 ss) (en2 ss) i x := by
        unfold wk at hwb
        by_cases ht : touches (en1 ss) (en2 ss) i x
        · exact ht
        · rw [if_neg ht] at hwb; cases hwb
      have hwb2 : wk (en1 ss) (en2 ss) (oth (en1 ss) (en2 ss) i x) (r.drop (k + 1)) = some 0 := by
        unfold wk at hwb
        rw [if_pos ht] at hwb; exact hwb
      have hwa2 : wk (en1 ss) (en2 ss) 0 (r.take (k + 1)) = some (oth (en1 ss) (en2 ss) i x) := by
        rw [htk, wk_app, HWA.out]
        show (if touches (en1 ss) (en2 ss) i x then wk (en1 ss) (en2 ss) (oth (en1 ss) (en2 ss) i x) [] else none) = _
        rw [if_pos ht]; rfl
      have hps : ∀ v, Tp.pas (en1 ss) (en2 ss) 0 (r.take (k + 1)) v = Tp.pas (en1 ss) (en2 ss) 0 (r.take k) v + ind (oth (en1 ss) (en2 ss) i x) v := fun v => by
        rw [htk]; exact Tp.pas_app v _ 0 x i HWA.out
      have hxo := Tp.oth_lt HG.out him ht
      have hsum2 := Tp.oth_sum ht
      have hgs2 := good_str HG.out him
      obtain ⟨sb, soff, ea, hsb, s1, s2⟩ := (HS5.out.fut HR.out) i him
      subst ea
      rw [hgs2.2.2.1] at s1
      rw [hgs2.2.2.2] at s2
      have hlen := Tp.kL_len (Tp.pas (en1 ss) (en2 ss) 0 (r.take k)) n
      have hple := Tp.pas_le (e1 := en1 ss) (e2 := en2 ss) (oth (en1 ss) (en2 ss) i x) (r.take k) 0
      rw [List.length_take] at hple
      have hnv := Tp.kL_nth (K := Tp.pas (en1 ss) (en2 ss) 0 (r.take k)) hxo.1
      have hset : (Tp.kL (Tp.pas (en1 ss) (en2 ss) 0 (r.take k)) n).set (oth (en1 ss) (en2 ss) i x) (((Tp.pas (en1 ss) (en2 ss) 0 (r.take k) (oth (en1 ss) (en2 ss) i x) : Nat) : Int) + 1) = Tp.kL (Tp.pas (en1 ss) (en2 ss) 0 (r.take (k + 1))) n := by
        refine Tp.kL_set ?_ fun v _ hv => ?_
        · rw [hps]; unfold ind; rw [if_pos rfl]; omega
        · rw [hps]; unfold ind; rw [if_neg fun e => hv e.symm]; omega
      have HWA2 := Lib.hid hwa2
      have HWB2 := Lib.hid hwb2
      have HSET := Lib.hid hset
      have HNV := Lib.hid hnv
      have HLEN := Lib.hid hlen
      have hxo2 := hxo.1
      generalize Tp.pas (en1 ss) (en2 ss) 0 (r.take k) (oth (en1 ss) (en2 ss) i x) = pv at *
      generalize Tp.kL (Tp.pas (en1 ss) (en2 ss) 0 (r.take k)) n = PL at *
      generalize oth (en1 ss) (en2 ss) i x = xo at *
      unfold touches at ht
      obtain ⟨hyz, hzn, _, _⟩ := hgs2
      generalize en1 ss i = y at *
      generalize en2 ss i = z at *
      have hix : (i : Int) < ss.length := by omega
      have hi0 : ¬ (i : Int) < 0 := by omega
      have hig : ¬ (ss.length : Int) ≤ (i : Int) := by omega
      have hyx : (y : Int) < n := by omega
      have hzx : (z : Int) < n := by omega
      have hxx : (x : Int) < n := by omega
      obtain ⟨hb, b0, b1⟩ := HB5.out.fut HR.out
      clear hps hset hnv hlen hwa2 hwb2 hwb htk HWA HWB hxo
      go_upto_region 16 with fail
      go_cut [110] from 82 to 110 (fun s110 wx => s110 = .bool false ∧ wx = wr)
      case first =>
        by_cases h1 : y = x
        · have h1x : ((y : Int) != (x : Int)) = false := by rw [h1]; simp
          clear ht h1
          go_wp2_with fail
          go_meet
          exact ⟨rfl, rfl⟩
        · have h1x : ((y : Int) != (x : Int)) = true := by rw [bne_iff_ne]; omega
          have h2x : ((z : Int) != (x : Int)) = false := by
            rcases ht with h | h
            · exact absurd h h1
            · rw [h]; simp
          clear ht h1
          go_wp2_with fail
          go_meet
          exact ⟨rfl, rfl⟩
      case rest =>
        obtain ⟨rfl, rfl⟩ := hcut
        clear ht
        have hwa : IntKind.i64.wrap ((y : Int) + z) = (y : Int) + z := IntWalk.i64_in _ ⟨by omega, by omega⟩
        have hwb : IntKind.i64.wrap ((y : Int) + z - x) = (y : Int) + z - x := IntWalk.i64_in _ ⟨by omega, by omega⟩
        go_upto_region 18 with fail
        go_quiet (fail)
        rw [← hsum2]
        have HOq := Lib.hid (HOW.out.fut (Fut.drewN wc nq))
        have HRq := Lib.hid (HR.out.trans (Fut.drewN wc nq))
        generalize wc.drewN nq = wq at *
        clear hb b0 b1 s1 s2 hwa hwb c0'
        obtain ⟨o1, o2, o3⟩ := own_at HOq.out HLEN.out xo hxo2
        rw [HNV.out] at o1
        have hOb := own_set HOq.out HLEN.out xo ((pv : Int) + 1)
        rw [HSET.out] at hOb
        have hFb := HRq.out.setCell (p := ⟨G1, xo, none⟩) (Nat.le_of_eq HG1.out.symm) (.int .i64 ((pv : Int) + 1))
        have HOb := Lib.hid hOb
        have HFb := Lib.hid hFb
        have hpvx : (pv : Int) ≤ 16 := by omega
        have hxox : (xo : Int) < n := by omega
        clear hOb hFb hsum2
        go_wp2
        go_roundw
        case rel => exact ⟨k + 1, xo, by omega, by go_num, rfl, hxo2, HWA2, HWB2, HOb, HFb⟩
        case measure => simp [intOf]; omega
    · obtain rfl : k = R.length := by omega
      have hx0 : x = 0 := by
        have h := HWA.out
        rw [HRL.out, List.take_length, HWK.out] at h
        simpa using h.symm
      subst hx0
      have HOP : Hid (Owns wr G1 (.slice (some ⟨G1, 0, none⟩) n n) (Tp.kL (Tp.pas (en1 ss) (en2 ss) 0 r) n)) := Lib.hid (by
        have h := HOW.out
        rw [HRL.out, List.take_length] at h; exact h)
      have HS7 := Lib.hid (HS5.out.fut HR.out)
      have HB7 := Lib.hid (HB5.out.fut HR.out)
      have HI7 := Lib.hid (HI5.out.fut HR.out)
      obtain ⟨w7, hw7⟩ : ∃ w7, w7 = wr := ⟨_, rfl⟩
      subst hw7
      obtain ⟨hb, b0, b1⟩ := HB7.out
      have hmk := HMK.out
      go_upto_region 22 with fail
      have hgs : Owns (w7.alloc (.cells (madeCells #[Value.int .i64 0] n) 3)) w7.heap.size (.slice (some ⟨w7.heap.size, 0, none⟩) n n) (oftL n []) := made_own w7 n (by omega)
      have hz0 : oftL n [] = Tp.kL (Tp.cl ss K 0) n := by
        unfold oftL Tp.kL Tp.cl sm; simp
      rw [hz0] at hgs
      have hF8 : Fut w7 (w7.alloc (.cells (madeCells #[Value.int .i64 0] n) 3)) := Fut.alloc _ _
      generalize w7.alloc (.cells (madeCells #[Value.int .i64 0] n) 3) = w8 at *
      have HO8 := Lib.hid hgs
      have HF8 := Lib.hid hF8
      obtain ⟨G2, hG2⟩ : ∃ G2, G2 = w7.heap.size := ⟨_, rfl⟩
      rw [← hG2] at HO8
      rw [← hG2]
      have HG2 := Lib.hid hG2
      clear hb b0 b1 hmk hgs hz0 hF8 hG2 hlt hk
      go_wp2_with fail
      go_loopw [19, 20, 138] (fun _ _ iv wr => ∃ (k : Nat), k ≤ OF.length ∧ iv = .int .i64 k ∧ Hid (Owns wr G2 (.slice (some ⟨G2, 0, none⟩) n n) (Tp.kL (Tp.cl ss K k) n)) ∧ Hid (Fut w7 wr)) (fun _ _ iv _ => OF.length - (intOf iv).toNat)
      case atStart => exact ⟨0, Nat.zero_le _, rfl, HO8, HF8⟩
      case round =>
        obtain ⟨k, hk, rfl, HOW2, HR2⟩ := hrel
        by_cases hlt : k < OF.length
        · have hkx : (k : Int) < OF.length := by omega
          have hks : k < ss.length := by rw [← HOL.out]; exact hlt
          obtain ⟨ob, ooff, ea, hob, c0'⟩ := (HI7.out.fut HR2.out) k hlt
          subst ea
          rw [HON.out k hks] at c0'
          obtain ⟨sb, soff, ea, hsb, s1, s2⟩ := (HS7.out.fut HR2.out) k hks
          subst ea
          have hgs2 := good_str HG.out hks
          rw [hgs2.2.2.1] at s1
          rw [hgs2.2.2.2] at s2
          have hKK := HKB.out k hks
          have hcs := Tp.cl_succ ss K k
          have hc1 := Tp.cl_le (v := en1 ss k) (fun i hi => (HKB.out i hi).2) k (by omega)
          have hc2 := Tp.cl_le (v := en2 ss k) (fun i hi => (HKB.out i hi).2) k (by omega)
          have hlen := Tp.kL_len (Tp.cl ss K k) n
          have hn1 := Tp.kL_nth (K := Tp.cl ss K k) (m := n) (i := en1 ss k) (by omega)
          have hn2' := Tp.kL_nth (K := Tp.cl ss K k) (m := n) (i := en2 ss k) (by omega)
          have hset : ((Tp.kL (Tp.cl ss K k) n).set (en1 ss k) (((Tp.cl ss K k (en1 ss k) : Nat) : Int) + ((K k : Nat) : Int))).set (en2 ss k) (((Tp.cl ss K k (en2 ss k) : Nat) : Int) + ((K k : Nat) : Int)) = Tp.kL (Tp.cl ss K (k + 1)) n := by
            have h1 : (Tp.kL (Tp.cl ss K k) n).set (en1 ss k) (((Tp.cl ss K k (en1 ss k) : Nat) : Int) + ((K k : Nat) : Int)) = Tp.kL (fun v => Tp.cl ss K k v + K k * ind (en1 ss k) v) n := by
              refine Tp.kL_set ?_ fun v _ hv => ?_
              · unfold ind; rw [if_pos rfl]; omega
              · unfold ind; rw [if_neg fun e => hv e.symm]; omega
            rw [h1]
            refine Tp.kL_set ?_ fun v _ hv => ?_
            · rw [hcs]; unfold ind; rw [if_neg (by omega), if_pos rfl]; omega
            · rw [hcs]
              have : ind (en2 ss k) v = 0 := by unfold ind; rw [if_neg fun e => hv e.symm]
              rw [this, Nat.add_zero]
          have HST2 := Lib.hid hgs2.2.2.2
          have HSET := Lib.hid hset
          have HN1 := Lib.hid hn1
          have HN2 := Lib.hid hn2'
          have HLEN := Lib.hid hlen
          obtain ⟨hyz, hzn, _, _⟩ := hgs2
          generalize Tp.cl ss K k (en1 ss k) = u1 at *
          generalize Tp.cl ss K k (en2 ss k) = u2 at *
          generalize Tp.kL (Tp.cl ss K k) n = PL at *
          generalize en1 ss k = y at *
          generalize en2 ss k = z at *
          generalize K k = kk at *
          have hkk1 : (1 : Int) ≤ kk := by omega
          have hkk2 : (kk : Int) ≤ 2 := by omega
          have hkk3 : ¬ (kk : Int) < 1 := by omega
          have hkk4 : ¬ (2 : Int) < kk := by omega
          have hu1 : (u1 : Int) ≤ 32 := by omega
          have hu2 : (u2 : Int) ≤ 32 := by omega
          have hyx : (y : Int) < n := by omega
          have hzx : (z : Int) < n := by omega
          have hksx : (k : Int) < ss.length := by omega
          obtain ⟨hb, b0, b1⟩ := HB7.out.fut HR2.out
          clear hset hn1 hn2' hlen hcs
          obtain ⟨o1, o2, o3⟩ := own_at HOW2.out HLEN.out y (by omega)
          rw [HN1.out] at o1
          go_upto_region 28 with fail
          have hOb := own_set HOW2.out HLEN.out y ((u1 : Int) + kk)
          have hFb := HR2.out.setCell (p := ⟨G2, y, none⟩) (Nat.le_of_eq HG2.out.symm) (.int .i64 ((u1 : Int) + kk))
          generalize wr.setCell ⟨G2, y, none⟩ (.int .i64 ((u1 : Int) + kk)) = wb at *
          have HOb := Lib.hid hOb
          have HFb := Lib.hid hFb
          clear o1 o2 o3 hOb hFb hb b0 b1 s1 s2 c0'
          obtain ⟨hb, b0, b1⟩ := HB7.out.fut HFb.out
          obtain ⟨sb2, soff2, ea, hsb2, s1, s2⟩ := (HS7.out.fut HFb.out) k hks
          simp only [Option.some.injEq, Addr.mk.injEq, and_true] at ea
          obtain ⟨rfl, rfl⟩ := ea
          rw [HST2.out] at s2
          clear s1
          have hlen2 : (PL.set y ((u1 : Int) + kk)).length = n := by rw [List.length_set]; exact HLEN.out
          obtain ⟨o1, o2, o3⟩ := own_at HOb.out hlen2 z (by omega)
          have hny2 : nth (PL.set y ((u1 : Int) + kk)) z = (u2 : Int) := by
            rw [← HN2.out, nth_eq, nth_eq, List.getElem?_set, if_neg (show ¬ y = z by omega)]
          rw [hny2] at o1
          have hOc := own_set HOb.out hlen2 z ((u2 : Int) + kk)
          have hFc := HFb.out.setCell (p := ⟨G2, z, none⟩) (Nat.le_of_eq HG2.out.symm) (.int .i64 ((u2 : Int) + kk))
          rw [HSET.out] at hOc
          have HOc := Lib.hid hOc
          have HFc := Lib.hid hFc
          clear hOc hFc hlen2 hny2
          go_wp2
          go_roundw
          case rel => exact ⟨k + 1, by omega, by go_num, HOc, HFc⟩
          case measure => simp [intOf]; omega
        · obtain rfl : k = OF.length := by omega
          rw [HOL.out] at HOW2
          have hlen := Tp.kL_len (Tp.cl ss K ss.length) n
          have hIA := own_ints HOW2.out hlen
          have hDV := Cl.divide_half (r.length : Int) (some ⟨G2, 0, none⟩) n (Tp.kL (Tp.cl ss K ss.length) n) wr hIA HCK.out HSUM.out
          rw [hlen, ← HRL.out] at hDV
          have HDV := Lib.hid hDV
          have HBW := Lib.hid (HB7.out.fut HR2.out)
          obtain ⟨hb, b0, b1⟩ := HBW.out
          have hkk : ¬ (OF.length : Int) < (OF.length : Int) := by omega
          clear hIA hDV hlt hk
          go_upto_region 31 with (first
            | (go_at_call 50; refine (HDV.out).mono ?_; rintro _ w9 ⟨v, rfl, hO9, hB9⟩; have HO9 : Hid (Owns w9 wr.heap.size v ((Tp.kL (Tp.cl ss K ss.length) n).map fun z => 60 * z)) := Lib.hid hO9; have HB9 : Hid (Fut wr w9) := Lib.hid hB9; have HBX := Lib.hid (HBW.out.fut HB9.out); clear hb b0 b1 hO9 hB9; obtain ⟨hb, b0, b1⟩ := HBX.out))
          have hlm : ((Tp.kL (Tp.cl ss K ss.length) n).map fun z => 60 * z).length = n := by rw [List.length_map]; exact hlen
          obtain ⟨la, lca, hv, hID⟩ := HO9.out.ints
          rw [hlm] at hv
          subst hv
          have HID := Lib.hid hID
          have HNM : Hid (∀ k, k < n → nth ((Tp.kL (Tp.cl ss K ss.length) n).map fun z => 60 * z) k = 120 * ((Tp.pas (en1 ss) (en2 ss) 0 r k : Nat) : Int)) := Lib.hid (fun k hk => by
            have := Tp.kL_nth (K := Tp.cl ss K ss.length) hk
            rw [nth_eq, List.getElem?_eq_getElem (by rw [hlen]; exact hk)] at this
            simp only [Option.getD_some] at this
            rw [nth_eq, List.getElem?_map, List.getElem?_eq_getElem (by rw [hlen]; exact hk), Option.map_some, Option.getD_some, this, HCLE.out]
            omega)
          have HNC : Hid (∀ k, k < n → nth (Tp.kL (Tp.cl ss K ss.length) n) k = 2 * ((Tp.pas (en1 ss) (en2 ss) 0 r k : Nat) : Int)) := Lib.hid (fun k hk => by
            rw [Tp.kL_nth hk, HCLE.out]; omega)
          have hlenP := Tp.kL_len (Tp.pas (en1 ss) (en2 ss) 0 r) n
          have HNP : Hid (∀ k, k < n → nth (Tp.kL (Tp.pas (en1 ss) (en2 ss) 0 r) n) k = ((Tp.pas (en1 ss) (en2 ss) 0 r k : Nat) : Int)) := Lib.hid (fun k hk => Tp.kL_nth hk)
          have HPL : Hid (∀ k, Tp.pas (en1 ss) (en2 ss) 0 r k ≤ 16) := Lib.hid (fun k => by
            have := Tp.pas_le (e1 := en1 ss) (e2 := en2 ss) k r 0
            omega)
          have HOP9 := Lib.hid (HOP.out.fut (HR2.out.trans HB9.out))
          have HOC9 := Lib.hid (HOW2.out.fut HB9.out)
          have HLM := Lib.hid hlm
          have HLP := Lib.hid hlenP
          have HLC := Lib.hid hlen
          have HFZ := Lib.hid (((HF2.out.trans HF5.out).trans HR.out).trans (HR2.out.trans HB9.out))
          generalize ((Tp.kL (Tp.cl ss K ss.length) n).map fun z => 60 * z) = DL at *
          generalize Tp.kL (Tp.cl ss K ss.length) n = CL at *
          generalize Tp.kL (Tp.pas (en1 ss) (en2 ss) 0 r) n = QL at *
          clear hID hlm hlen hlenP
          go_upto_region 33 with fail
          go_wp2_with fail
          clear hb b0 b1
          go_loopw [22, 23, 192] (fun _ _ iv wx => ∃ (k : Nat), k ≤ n ∧ iv = .int .i64 k ∧ wx = w9) (fun _ _ iv _ => n - (intOf iv).toNat)
          case atStart => exact ⟨0, Nat.zero_le _, rfl, rfl⟩
          case round =>
            obtain ⟨k, hk, rfl, rfl⟩ := hrel
            by_cases hlt : k < n
            · have hkx : (k : Int) < n := by omega
              obtain ⟨o1, _, _⟩ := own_at HOP9.out HLP.out k hlt
              obtain ⟨p1, _, _⟩ := own_at HOC9.out HLC.out k hlt
              obtain ⟨bl, ol, ea, hbl, d1⟩ := HID.out k (by rw [HLM.out]; exact hlt)
              subst ea
              rw [HNP.out k hlt] at o1
              rw [HNC.out k hlt] at p1
              rw [HNM.out k hlt] at d1
              have hpp := HPL.out k
              generalize Tp.pas (en1 ss) (en2 ss) 0 r k = pp at *
              have hppx : (pp : Int) ≤ 16 := by omega
              go_wp2_with fail
              go_roundw
              case rel => exact ⟨k + 1, by omega, by go_num, trivial⟩
              case measure => simp [intOf]; omega
            · obtain rfl : k = n := by omega
              have hkk2 : ¬ (k : Int) < (k : Int) := by omega
              go_wp2_with (first
                | (go_at_call 52; (with_reducible refine (worksT_any _).mono ?_); rintro _ wz ⟨rfl, Fz⟩; have HFe := Lib.hid (HFZ.out.trans Fz); clear Fz))
              go_ret
              exact ⟨rfl, HFe.out⟩
end Go.Proofs.Ytimddkofcejijaa
