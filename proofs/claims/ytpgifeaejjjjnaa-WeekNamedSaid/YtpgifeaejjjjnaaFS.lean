/- law 11: law11_int -/
import Derived.Test.YtpgifeaejjjjnaaFR
import Derived.Test.YtpgifeaejjjjnaaOF
import Derived.Test.YtpgifeaejjjjnaaCU
import Derived.Test.YtpgifeaejjjjnaaCY
import Derived.Deep.DeepCutAuto
namespace Go.Proofs.Ytpgifeaejjjjnaa
open Go.RowKit Go.Sort
/-- a square of numbers of one's own, its rows in any order. -/
structure Sq (w : World) (g n : Nat) (bl : Nat → Nat) (f : Nat → Nat → Int) : Prop where
  outer : w.rowIs g 28 n (fun i => .slice (some ⟨bl i, 0, none⟩) n n)
  above : ∀ i, i < n → g < bl i
  inner : ∀ i, i < n → w.rowIs (bl i) 3 n (fun j => .int .i64 (f i j))
  ne : ∀ i j, i < n → j < n → i ≠ j → bl i ≠ bl j
theorem Grid.sq {w : World} {B g n : Nat} {bl : Nat → Nat} {f : Nat → Nat → Int} (h : Grid w B g n n bl n f) : Sq w g n bl f :=
  ⟨h.outer.congr fun i hi => by rw [if_pos hi], h.above, h.inner, fun _ _ hi hj hne => h.ne hi hj hne⟩
theorem Sq.fut {w w' : World} {g n : Nat} {bl : Nat → Nat} {f : Nat → Nat → Int} (h : Sq w g n bl f) (F : Fut w w') : Sq w' g n bl f where
  outer := h.outer.of_block (RowKit.Below.block F _ h.outer.lt)
  above := h.above
  inner := fun i hi => (h.inner i hi).of_block (RowKit.Below.block F _ (h.inner i hi).lt)
  ne := h.ne
theorem Sq.congr {w : World} {g n : Nat} {bl : Nat → Nat} {f f' : Nat → Nat → Int} (h : Sq w g n bl f) (e : ∀ i j, i < n → j < n → f i j = f' i j) : Sq w g n bl f' :=
  ⟨h.outer, h.above, fun i hi => (h.inner i hi).congr fun j hj => by rw [e i j hi hj], h.ne⟩
theorem Sq.cell {w : World} {g n : Nat} {bl : Nat → Nat} {f : Nat → Nat → Int} (h : Sq w g n bl f) {i : Nat} (hi : i < n) : w.cell? ⟨g, i, none⟩ = some (.slice (some ⟨bl i, 0, none⟩) n n) := h.outer.cell hi
theorem Sq.at {w : World} {g n : Nat} {bl : Nat → Nat} {f : Nat → Nat → Int} (h : Sq w g n bl f) {i j : Nat} (hi : i < n) (hj : j < n) : w.cell? ⟨bl i, j, none⟩ = some (.int .i64 (f i j)) := (h.inner i hi).cell hj
theorem Sq.rows {w : World} {g n : Nat} {bl : Nat → Nat} {f : Nat → Nat → Int} (h : Sq w g n bl f) {i k : Nat} (hi : i < n) (hk : k < n) :
    Sq ((w.setCell ⟨g, i, none⟩ (.slice (some ⟨bl k, 0, none⟩) n n)).setCell ⟨g, k, none⟩ (.slice (some ⟨bl i, 0, none⟩) n n)) g n (fun a => bl (sw i k a)) (fun a b => f (sw i k a) b) where
  outer := ((h.outer.set i _).set k _).congr fun a _ => by
    unfold sw
    by_cases h1 : a = k
    · rw [if_pos h1, if_pos h1]
    · rw [if_neg h1, if_neg h1]
      by_cases h2 : a = i
      · rw [if_pos h2, if_pos h2]
      · rw [if_neg h2, if_neg h2]
  above := fun a ha => h.above _ (sw_lt hi hk ha)
  inner := fun a ha => ((h.inner _ (sw_lt hi hk ha)).setOther (a := ⟨g, i, none⟩) (by have := h.above _ (sw_lt hi hk ha); show bl _ ≠ g; omega) _).setOther (a := ⟨g, k, none⟩) (by have := h.above _ (sw_lt hi hk ha); show bl _ ≠ g; omega) _
  ne := fun _ _ ha hb hne => h.ne _ _ (sw_lt hi hk ha) (sw_lt hi hk hb) fun e => hne (sw_inj e)
theorem Sq.put {w : World} {g n : Nat} {bl : Nat → Nat} {f : Nat → Nat → Int} (h : Sq w g n bl f) {i : Nat} (hi : i < n) (j : Nat) (x : Int) :
    Sq (w.setCell ⟨bl i, j, none⟩ (.int .i64 x)) g n bl (fun a b => if a = i ∧ b = j then x else f a b) where
  outer := h.outer.setOther (by have := h.above i hi; show g ≠ bl i; omega) _
  above := h.above
  inner := fun a ha => by
    by_cases e : a = i
    · subst e
      refine ((h.inner a ha).set j _).congr fun b _ => ?_
      by_cases e2 : b = j
      · rw [if_pos e2, if_pos ⟨rfl, e2⟩]
      · rw [if_neg e2, if_neg (fun q => e2 q.2)]
    · refine ((h.inner a ha).setOther (a := ⟨bl i, j, none⟩) (h.ne a i ha hi e) _).congr fun b _ => ?_
      rw [if_neg (fun q => e q.1)]
  ne := h.ne
/-- the first rows with two days changed. -/
def cf (f : Nat → Nat → Int) (i k r : Nat) : Nat → Nat → Int := fun a b => if a < r then f a (sw i k b) else f a b
theorem Sq.cols {w : World} {g n : Nat} {bl : Nat → Nat} {f : Nat → Nat → Int} {i k r : Nat} (h : Sq w g n bl (cf f i k r)) (hr : r < n) :
    Sq ((w.setCell ⟨bl r, i, none⟩ (.int .i64 (f r k))).setCell ⟨bl r, k, none⟩ (.int .i64 (f r i))) g n bl (cf f i k (r + 1)) :=
  ((h.put hr i (f r k)).put hr k (f r i)).congr fun a b _ _ => by
    unfold cf sw
    by_cases ea : a = r
    · subst ea
      by_cases h1 : b = k
      · rw [if_pos ⟨rfl, h1⟩, if_pos (Nat.lt_succ_self a), if_pos h1]
      · rw [if_neg (fun q => h1 q.2), if_pos (Nat.lt_succ_self a), if_neg h1]
        by_cases h2 : b = i
        · rw [if_pos ⟨rfl, h2⟩, if_pos h2]
        · rw [if_neg (fun q => h2 q.2), if_neg (Nat.lt_irrefl a), if_neg h2]
    · rw [if_neg (fun q => ea q.1), if_neg (fun q => ea q.1)]
      by_cases h3 : a < r
      · rw [if_pos h3, if_pos (show a < r + 1 by omega)]
      · rw [if_neg h3, if_neg (show ¬ a < r + 1 by omega)]
theorem Sq.lists {w : World} {g n : Nat} {bl : Nat → Nat} {f : Nat → Nat → Int} (h : Sq w g n bl f) (hn : n ≤ 1000) : LstC w (some ⟨g, 0, none⟩) (gridL n n f) := fun i hi => by
  rw [gridL_len] at hi
  have e := gridL_lth n n f i hi
  have el : (lth (gridL n n f) i).length = n := by rw [e]; simp
  refine ⟨g, 0, some ⟨bl i, 0, none⟩, n, rfl, h.outer.lt, ?_, by omega, by omega, fun j hj => ⟨bl i, 0, rfl, (h.inner i hi).lt, ?_⟩⟩
  · rw [Nat.zero_add, h.cell hi, el]
  · rw [el] at hj
    rw [Nat.zero_add, h.at hi hj, e, nth_eq, List.getElem?_map, List.getElem?_range hj]; rfl
set_option maxRecDepth 100000 in
set_option maxHeartbeats 8000000 in
theorem law11_any (st : Nat) (hst : st < 256) (cb db : Nat → Int) (hcb : ∀ i, i < 5 → 0 ≤ cb i ∧ cb i < 256) (hdb : ∀ i, i < 5 → 0 ≤ db i ∧ db i < 256) (w : World) :
    Calls Try.prog 11 #[.int .u8 st, fiveV cb, fiveV db] w fun e w' => e = .returned (.bool true) ∧ Fut w w' := by
  have hN1 : 1 + st % 5 ≤ 5 := by have := Nat.mod_lt st (show 0 < 5 by omega); omega
  have hNd : 1 ≤ 1 + st % 5 := by omega
  have hw1 : IntKind.i64.wrap (1 + (st : Int) % 5) = ((1 + st % 5 : Nat) : Int) := by rw [IntWalk.i64_in _ ⟨by omega, by omega⟩]; omega
  have hw2 : IntKind.i64.wrap (1 + (st : Int).tmod 5) = ((1 + st % 5 : Nat) : Int) := by rw [Int.tmod_eq_emod_of_nonneg (by omega)]; exact hw1
  generalize 1 + st % 5 = N at *
  have hnx : (N : Int) ≤ 5 := by omega
  have HPF := Lib.hid (rnd_PF hNd hN1)
  have HCN := Lib.hid (rnd_count hNd hN1)
  have HCY := Lib.hid hcb
  have HDY := Lib.hid hdb
  have HC0 := Lib.hid (BoxFv.new w cb)
  have hD0 := BoxFv.new (w.alloc (.cells #[.int .u8 (cb 0), .int .u8 (cb 1), .int .u8 (cb 2), .int .u8 (cb 3), .int .u8 (cb 4)] 40)) db
  rw [World.size_alloc] at hD0
  have HDX := Lib.hid hD0
  have HCX := Lib.hid (HC0.out.fut (Fut.alloc _ (.cells #[.int .u8 (db 0), .int .u8 (db 1), .int .u8 (db 2), .int .u8 (db 3), .int .u8 (db 4)] 40)))
  have HF1 : Hid (Fut w ((w.alloc (.cells #[.int .u8 (cb 0), .int .u8 (cb 1), .int .u8 (cb 2), .int .u8 (cb 3), .int .u8 (cb 4)] 40)).alloc (.cells #[.int .u8 (db 0), .int .u8 (db 1), .int .u8 (db 2), .int .u8 (db 3), .int .u8 (db 4)] 40))) := Lib.hid ((Fut.alloc _ _).trans (Fut.alloc _ _))
  have HRN := Lib.hid (fun W => round_any N hNd hN1 W)
  have HLR := Lib.hid (fun W => lawR_any N hNd hN1 W)
  have HR5 := Lib.hid (fun W => round_no ((N : Int) + 5) (by unfold sizeE; rw [if_pos (by omega)]; decide) W)
  have hs5 : sizeE ((N : Int) + 5) 0 = 1 := by unfold sizeE; rw [if_pos (by omega)]
  rw [hs5] at HR5
  clear hcb hdb hD0 HC0 hs5
  go_enter Try.func11, Try.ntmps11
  go_wp2_with fail
  refine (HRN.out _).mono ?_
  rintro _ w2 ⟨v, rfl, hG, F⟩
  generalize (w.alloc (.cells #[.int .u8 (cb 0), .int .u8 (cb 1), .int .u8 (cb 2), .int .u8 (cb 3), .int .u8 (cb 4)] 40)).alloc (.cells #[.int .u8 (db 0), .int .u8 (db 1), .int .u8 (db 2), .int .u8 (db 3), .int .u8 (db 4)] 40) = w1 at *
  obtain ⟨g, bl0, rfl, hGr⟩ := hG
  have HBG := Lib.hid hGr.base
  have HSQ := Lib.hid hGr.sq
  have HF2 := Lib.hid F
  clear hGr F HRN hw1 hw2
  go_wp2_with fail
  refine (HLR.out _).mono ?_
  rintro _ w3 ⟨lr, lrc, rfl, _, _, hLR, F⟩
  have HF3 := Lib.hid (HF2.out.trans F)
  have HSQ3 := Lib.hid (HSQ.out.fut F)
  have HLR3 := Lib.hid hLR
  clear F hLR HLR HSQ HF2
  have hself : Calls Try.prog 22 #[.slice (some ⟨g, 0, none⟩) N N, .slice lr N lrc] w3 fun e w' => e = .returned (.bool true) ∧ Fut w3 w' := by
    have h := lists_self (a := some ⟨g, 0, none⟩) (c := lr) (cap := N) (dap := lrc) (gridL N N (rndF N)) w3 (HSQ3.out.lists (by omega)) HLR3.out (by rw [gridL_len]; omega)
    rwa [gridL_len] at h
  have HSF := Lib.hid hself
  clear hself
  go_wp2_with fail
  refine HSF.out.mono ?_
  rintro _ w4 ⟨rfl, F⟩
  have HF4 := Lib.hid (HF3.out.trans F)
  have HSQ4 := Lib.hid (HSQ3.out.fut F)
  clear F HF3 HSQ3 HSF HLR3
  go_wp2_with fail
  go_loopw [38] (fun iv wx => ∃ (i : Nat) (bl : Nat → Nat) (f : Nat → Nat → Int), i ≤ N ∧ iv = .int .i64 i ∧ Hid (Sq wx g N bl f) ∧ Hid (PF N f) ∧ Hid (((crsL N (gridL N N f)).length : Int) = nth [0, 1, 0, 3, 0, 15] N) ∧ Hid (Fut w1 wx)) (fun iv _ => N - (intOf iv).toNat)
  case atStart => exact ⟨0, bl0, rndF N, Nat.zero_le _, rfl, HSQ4, HPF, HCN, HF4⟩
  case round =>
    obtain ⟨i, bl, f, hiN, rfl, HSQi, HPFi, HCNi, HFW⟩ := hrel
    clear HSQ4 HF4 HPF HCN
    by_cases hil : i < N
    · have hix : (i : Int) < N := by omega
      obtain ⟨b, hb⟩ := Int.eq_ofNat_of_zero_le (HCY.out i (by omega)).1
      have hb256 := (HCY.out i (by omega)).2
      have hbc := (HCX.out.fut HFW.out).b i (by omega)
      rw [hb] at hbc hb256
      have hjl := Nat.mod_lt b (show 0 < i + 1 by omega)
      have hw2 : wrap64 ((i : Int) + 1) = (i : Int) + 1 := w64_in (by omega) (by omega)
      have hw2' : IntKind.i64.wrap ((i : Int) + 1) = (i : Int) + 1 := IntWalk.i64_in _ ⟨by omega, by omega⟩
      have hrm : (b : Int) % ((i : Int) + 1) = ((b % (i + 1) : Nat) : Int) := by exact_mod_cast rfl
      have hrt : (b : Int).tmod ((i : Int) + 1) = ((b % (i + 1) : Nat) : Int) := by rw [Int.tmod_eq_emod_of_nonneg (by omega)]; exact hrm
      have hfz : ¬ (i : Int) + 1 = 0 := by omega
      have hwb : IntKind.i64.wrap (b : Int) = b := IntWalk.i64_in _ ⟨by omega, by omega⟩
      have hi5 : (i : Int) < 5 := by omega
      generalize b % (i + 1) = j at *
      have hjn : j < N := by omega
      have hjx : (j : Int) < N := by omega
      clear hb
      have e1 := HSQi.out.cell hil
      have e2 := HSQi.out.cell hjn
      have f1 := HSQi.out.outer.frozen i
      have f2 := HSQi.out.outer.frozen j
      have HPF2 := Lib.hid (HPFi.out.row hil hjn)
      have HCN2 : Hid (((crsL N (gridL N N (fun a b => f (sw i j a) b))).length : Int) = nth [0, 1, 0, 3, 0, 15] N) := Lib.hid (by rw [count_row hil hjn]; exact HCNi.out)
      have HSQ2 := Lib.hid (HSQi.out.rows hil hjn)
      have HFW2 : Hid (Fut w1 ((wr.setCell ⟨g, i, none⟩ (.slice (some ⟨bl j, 0, none⟩) N N)).setCell ⟨g, j, none⟩ (.slice (some ⟨bl i, 0, none⟩) N N))) := Lib.hid ((HFW.out.setCell (p := ⟨g, i, none⟩) HBG.out _).setCell (p := ⟨g, j, none⟩) HBG.out _)
      go_wp2_with fail
      by_cases hij : i = j
      · subst hij
        go_region
        all_goals
          go_wp2_with fail
          go_roundw
        all_goals first
          | exact ⟨i + 1, _, _, by omega, by go_num, Lib.hid (HSQ2.out.fut (Fut.drewN _ 1)), HPF2, HCN2, Lib.hid (below_drewN HFW2.out 1)⟩
          | (simp [intOf]; omega)
      · have hji : ¬ j = i := fun q => hij q.symm
        go_region
        all_goals
          go_wp2_with fail
          go_roundw
        all_goals first
          | exact ⟨i + 1, _, _, by omega, by go_num, Lib.hid (HSQ2.out.fut (Fut.drewN _ 1)), HPF2, HCN2, Lib.hid (below_drewN HFW2.out 1)⟩
          | (simp [intOf]; omega)
    · obtain rfl : i = N := by omega
      have HDX2 := HDX
      go_wp2_with fail
      go_loopw [64] (fun iv wx => ∃ (d : Nat) (f : Nat → Nat → Int), d ≤ i ∧ iv = .int .i64 d ∧ Hid (Sq wx g i bl f) ∧ Hid (PF i f) ∧ Hid (((crsL i (gridL i i f)).length : Int) = nth [0, 1, 0, 3, 0, 15] i) ∧ Hid (Fut w1 wx)) (fun iv _ => i - (intOf iv).toNat)
      case atStart => exact ⟨0, f, Nat.zero_le _, rfl, HSQi, HPFi, HCNi, HFW⟩
      case round =>
        clear HSQi HPFi HCNi HFW
        obtain ⟨d, f, hdN, rfl, HSQi, HPFi, HCNi, HFW⟩ := hrel
        by_cases hdl : d < i
        · have hdx : (d : Int) < i := by omega
          obtain ⟨b, hb⟩ := Int.eq_ofNat_of_zero_le (HDY.out d (by omega)).1
          have hb256 := (HDY.out d (by omega)).2
          have hbc := (HDX.out.fut HFW.out).b d (by omega)
          rw [hb] at hbc hb256
          have hjl := Nat.mod_lt b (show 0 < d + 1 by omega)
          have hw2 : wrap64 ((d : Int) + 1) = (d : Int) + 1 := w64_in (by omega) (by omega)
          have hw2' : IntKind.i64.wrap ((d : Int) + 1) = (d : Int) + 1 := IntWalk.i64_in _ ⟨by omega, by omega⟩
          have hrm : (b : Int) % ((d : Int) + 1) = ((b % (d + 1) : Nat) : Int) := by exact_mod_cast rfl
          have hrt : (b : Int).tmod ((d : Int) + 1) = ((b % (d + 1) : Nat) : Int) := by rw [Int.tmod_eq_emod_of_nonneg (by omega)]; exact hrm
          have hfz : ¬ (d : Int) + 1 = 0 := by omega
          have hwb : IntKind.i64.wrap (b : Int) = b := IntWalk.i64_in _ ⟨by omega, by omega⟩
          have hi5 : (d : Int) < 5 := by omega
          generalize b % (d + 1) = j at *
          have hjn : j < i := by omega
          have hjx : (j : Int) < i := by omega
          clear hb
          have HPF2 := Lib.hid (HPFi.out.col hdl hjn)
          have HCN2 : Hid (((crsL i (gridL i i (fun a b => f a (sw d j b)))).length : Int) = nth [0, 1, 0, 3, 0, 15] i) := Lib.hid (by rw [count_col hdl hjn]; exact HCNi.out)
          have HCF0 : Hid (Sq wr g i bl (cf f d j 0)) := Lib.hid (HSQi.out.congr fun a b _ _ => by unfold cf; rw [if_neg (Nat.not_lt_zero a)])
          go_wp2_with fail
          go_loopw [76] (fun rv wx => ∃ r : Nat, r ≤ i ∧ rv = .int .i64 r ∧ Hid (Sq wx g i bl (cf f d j r)) ∧ Hid (Fut w1 wx)) (fun rv _ => i - (intOf rv).toNat)
          case atStart => exact ⟨0, Nat.zero_le _, rfl, HCF0, HFW⟩
          case round =>
            clear HFW hbc
            obtain ⟨r, hrN, rfl, HSQr, HFW⟩ := hrel
            by_cases hrl : r < i
            · have hrx : (r : Int) < i := by omega
              have e0 := HSQr.out.cell hrl
              have e1 := HSQr.out.at hrl hdl
              have e2 := HSQr.out.at hrl hjn
              have hcf : ∀ b, cf f d j r r b = f r b := fun b => by unfold cf; rw [if_neg (Nat.lt_irrefl r)]
              rw [hcf] at e1 e2
              have f1 := (HSQr.out.inner r hrl).frozen d
              have f2 := (HSQr.out.inner r hrl).frozen j
              have HSQ2 := Lib.hid (HSQr.out.cols hrl)
              have hbg : w1.heap.size ≤ bl r := Nat.le_of_lt (Nat.lt_of_le_of_lt HBG.out (HSQr.out.above r hrl))
              have HFW2 : Hid (Fut w1 ((wr.setCell ⟨bl r, d, none⟩ (.int .i64 (f r j))).setCell ⟨bl r, j, none⟩ (.int .i64 (f r d)))) := Lib.hid ((HFW.out.setCell (p := ⟨bl r, d, none⟩) hbg _).setCell (p := ⟨bl r, j, none⟩) hbg _)
              clear hcf
              by_cases hij : d = j
              · subst hij
                generalize f r d = x1 at *
                generalize bl r = br at *
                go_wp2_with fail
                go_region
                all_goals
                  go_wp2_with fail
                  go_roundw
                all_goals first
                  | exact ⟨r + 1, by omega, by go_num, Lib.hid (HSQ2.out.fut (Fut.drewN _ 1)), Lib.hid (below_drewN HFW2.out 1)⟩
                  | (simp [intOf]; omega)
              · have hji : ¬ j = d := fun q => hij q.symm
                generalize f r j = x2 at *
                generalize f r d = x1 at *
                generalize bl r = br at *
                go_wp2_with fail
                go_region
                all_goals
                  go_wp2_with fail
                  go_roundw
                all_goals first
                  | exact ⟨r + 1, by omega, by go_num, Lib.hid (HSQ2.out.fut (Fut.drewN _ 1)), Lib.hid (below_drewN HFW2.out 1)⟩
                  | (simp [intOf]; omega)
            · obtain rfl : r = i := by omega
              have HSQe : Hid (Sq wr g r bl (fun a b => f a (sw d j b))) := Lib.hid (HSQr.out.congr fun a b ha _ => by unfold cf; rw [if_pos ha])
              go_wp2
              go_roundw
              case rel => exact ⟨d + 1, _, by omega, by go_num, HSQe, HPF2, HCN2, HFW⟩
              case measure => simp [intOf]; omega
        · obtain rfl : d = i := by omega
          have hfu : fulE d (gridL d d f) = 0 := by
            unfold fulE
            rw [if_pos (chk_plan hNd hN1 HPFi.out.plan), if_neg (by rw [gridL_len]; omega)]
          have HC36 : Hid (Calls Try.prog 36 #[.int .i64 d, .slice (some ⟨g, 0, none⟩) d d] wr (TupN 0 (nth [0, 1, 0, 3, 0, 15] d) wr)) := Lib.hid (by
            have h := crosses_any d (some ⟨g, 0, none⟩) d (gridL d d f) wr (HSQi.out.lists (by omega)) (by rw [gridL_len]; exact Nat.le_refl _) (by omega)
            unfold crsN at h
            rw [if_pos hfu, hfu, Int.toNat_natCast, gridL_len, HCNi.out] at h
            exact h)
          have HFZ := Lib.hid (HF1.out.trans HFW.out)
          clear hfu HPFi HCNi HSQi HCX HDX HDX2 HCY HDY HF1 HFW HBG
          go_wp2_with fail
          refine HC36.out.mono ?_
          rintro _ w5 ⟨rfl, F5⟩
          have HF5 := Lib.hid (HFZ.out.trans F5)
          clear F5 HFZ HC36
          go_wp2_with fail
          refine (HR5.out _).mono ?_
          rintro _ _ ⟨rfl, rfl⟩
          clear HR5
          rcases (by omega : d = 1 ∨ d = 2 ∨ d = 3 ∨ d = 4 ∨ d = 5) with rfl | rfl | rfl | rfl | rfl
          all_goals
            simp only [nth_eq, List.getElem?_cons_zero, List.getElem?_cons_succ, Option.getD_some]
            go_wp2_with fail
            refine (list_id _ _).mono ?_
            rintro _ _ ⟨rfl, rfl⟩
            go_wp2_with fail
            refine (works_any _).mono ?_
            rintro _ w7 ⟨rfl, F7⟩
            have HF7 : Hid (Fut w w7) := Lib.hid ((HF5.out.trans (Fut.alloc _ _)).trans F7)
            clear F7
            go_wp2
            go_ret
            exact ⟨rfl, HF7.out⟩
theorem law11_int (x : Int) (h0 : 0 ≤ x) (h1 : x < 256) (cb db : Nat → Int) (hcb : ∀ i, i < 5 → 0 ≤ cb i ∧ cb i < 256) (hdb : ∀ i, i < 5 → 0 ≤ db i ∧ db i < 256) (w : World) :
    Calls Try.prog 11 #[.int .u8 x, fiveV cb, fiveV db] w fun e w' => e = .returned (.bool true) ∧ Fut w w' := by
  obtain ⟨st, rfl⟩ := Int.eq_ofNat_of_zero_le h0
  exact law11_any st (by omega) cb db hcb hdb w
end Go.Proofs.Ytpgifeaejjjjnaa
