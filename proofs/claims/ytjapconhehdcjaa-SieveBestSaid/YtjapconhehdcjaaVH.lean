/- SieveTurned 14 -/
import Derived.Test.YtjapconhehdcjaaVC
import Derived.Test.YtjapconhehdcjaaVE
import Derived.Test.YtjapconhehdcjaaVF
import Derived.Test.YtjapconhehdcjaaVG
import Derived.Deep.DeepCutAuto
import Derived.Deep.AppendLies
namespace Go.Proofs.Ytjapconhehdcjaa
open Go.RowKit Go.Sort
theorem dotI_bd : ∀ (zs : List Int) (ds : List Nat), (∀ z ∈ zs, 0 ≤ z ∧ z ≤ 100) → (∀ d ∈ ds, d ≤ 8) → 0 ≤ Sv.dotI zs ds ∧ Sv.dotI zs ds ≤ 800 * (ds.length : Int)
  | [], ds, _, _ => by cases ds <;> simp [Sv.dotI]; omega
  | z :: zs, [], _, _ => by simp [Sv.dotI]
  | z :: zs, d :: ds, h1, h2 => by
    have ih := dotI_bd zs ds (fun x hx => h1 x (by simp [hx])) (fun x hx => h2 x (by simp [hx]))
    have a := h1 z (by simp)
    have b := h2 d (by simp)
    have p := Int.mul_nonneg a.1 (show (0 : Int) ≤ (d : Int) by omega)
    have q := Int.mul_le_mul a.2 (show (d : Int) ≤ 8 by omega) (by omega) (by omega)
    rw [Sv.dotI, List.length_cons]
    omega
theorem qsB {zs : List Int} (hc : chkL zs = 0) : 0 ≤ leastE zs ∧ leastE zs ≤ 100000 := by
  obtain ⟨h1, h8, hb⟩ := chkL_zero hc
  obtain ⟨e, _, _, t, _, hs, hq, _⟩ := good_vals hc
  rw [e, ← hq]
  unfold Sv.qst
  have := dotI_bd zs t.dep (fun z hz => by have := hb z hz; omega) (fun d hd => by have := Sv.dep_lt t d hd; omega)
  rw [Sv.dep_len] at this
  omega
def m3 (zs : List Int) (i : Nat) : List Int := (zs.take i).map (3 * ·) ++ zs.drop i
theorem m3_len (zs : List Int) (i : Nat) : (m3 zs i).length = zs.length := by
  unfold m3
  rw [List.length_append, List.length_map, List.length_take, List.length_drop]; omega
theorem m3_step (zs : List Int) (i : Nat) (h : i < zs.length) : nth (m3 zs i) i = nth zs i ∧ (m3 zs i).set i (3 * nth zs i) = m3 zs (i + 1) := by
  have hl : ((zs.take i).map (3 * ·)).length = i := by rw [List.length_map, List.length_take]; omega
  have hd := nth_drop zs i h
  constructor
  · unfold m3
    rw [nth_eq, List.getElem?_append_right (by omega), hl, Nat.sub_self, hd]; rfl
  · unfold m3
    rw [hd, List.set_append, if_neg (by omega), hl, Nat.sub_self, List.set_cons_zero]
    have ht : zs.take (i + 1) = zs.take i ++ [nth zs i] := by rw [List.take_succ_eq_append_getElem h, nth_eq, List.getElem?_eq_getElem h]; rfl
    rw [ht, List.map_append, List.append_assoc]; rfl
theorem m3_zero (zs : List Int) : m3 zs 0 = zs := by unfold m3; simp
theorem m3_end (zs : List Int) : m3 zs zs.length = zs.map (3 * ·) := by unfold m3; simp
/-- Least, Count, Best, Any of a row of n good loads. -/
theorem least_call (n : Nat) (zs : List Int) (hn : zs.length = n) (h8 : n ≤ 8) (hc : chkL zs = 0) (v : Int) (hv : leastE zs = v) (W : World) (a : Option Addr) (c : Nat) (h1 : n ≤ c) (h : IntsAt W a zs) : Calls Try.prog 20 #[.slice a n c] W fun e w' => e = .returned (.tuple #[.int .i64 v, .int .i64 0]) ∧ Fut W w' := by
  subst hn
  exact ex_2 (least_any a c zs W h h1 (by omega)) v 0 hv hc
theorem count_call (n : Nat) (zs : List Int) (hn : zs.length = n) (h8 : n ≤ 8) (hc : chkL zs = 0) (v : Int) (hv : countE zs = v) (W : World) (a : Option Addr) (c : Nat) (h1 : n ≤ c) (h : IntsAt W a zs) : Calls Try.prog 22 #[.slice a n c] W fun e w' => e = .returned (.tuple #[.int .i64 v, .int .i64 0]) ∧ Fut W w' := by
  subst hn
  exact ex_2 (count_any a c zs W h h1 (by omega)) v 0 hv hc
theorem anyo_call (n : Nat) (zs : List Int) (hn : zs.length = n) (h8 : n ≤ 8) (hc : chkL zs = 0) (v : Int) (hv : anyE zs = v) (W : World) (a : Option Addr) (c : Nat) (h : IntsAt W a zs) : Calls Try.prog 29 #[.slice a n c] W fun e w' => e = .returned (.tuple #[.int .i64 v, .int .i64 0]) ∧ Fut W w' := by
  subst hn
  exact ex_2 (any_any a c zs W h (by omega)) v 0 hv hc
theorem best_call2 (n : Nat) (zs : List Int) (hn : zs.length = n) (h8 : n ≤ 8) (hc : chkL zs = 0) (L : List Int) (m : Nat) (hL : bestE zs = L) (hm : L.length = m) (W : World) (a : Option Addr) (c : Nat) (h1 : n ≤ c) (h : IntsAt W a zs) : Calls Try.prog 18 #[.slice a n c] W fun e w' => ∃ l c', e = .returned (.tuple #[.slice l m c', .int .i64 0]) ∧ m ≤ c' ∧ IntsAt w' l L ∧ Fut W w' := by
  subst hn; subst hm
  exact ex_K (best18W a c zs W h h1 (by omega)) 0 L hc hL
theorem same_call (n : Nat) (L : List Int) (hn : L.length = n) (hl : n ≤ 1000) (W : World) (a b : Option Addr) (c d : Nat) (h : IntsAt W a L) (h2 : IntsAt W b L) : Calls Try.prog 24 #[.slice a n c, .slice b n d] W fun e w' => e = .returned (.bool true) ∧ Fut W w' := by
  subst hn
  exact ex_same L L h h2 ⟨hl, hl⟩ true (by unfold sameB; simp)
set_option maxRecDepth 100000 in
set_option maxHeartbeats 8000000 in
theorem law14_any (k0 : Nat) (b : Nat → Nat) (hk : k0 ≤ 255) (hb : ∀ j, b j ≤ 255) (w : World) :
    Calls Try.prog 14 #[dustV k0 b] w fun e w' => e = .returned (.bool true) ∧ Fut w w' := by
  obtain ⟨n, zs, hl, hn, hc, hin, hmd⟩ := dmade_call k0 b hk hb 33 (by omega)
  have hm : chkL (zs.map (3 * ·)) = 0 := chk_of (m := 99) (by rw [List.length_map]; omega) (by rw [List.length_map]; omega) (by omega) fun z hz => by
    obtain ⟨x, hx, rfl⟩ := List.mem_map.1 hz
    have := hin x hx
    omega
  obtain ⟨hr, t1, t2, t3, t4, t5, t6⟩ := turned_vals hc (c := 3) (by omega) hm
  obtain ⟨g1, _, _, t, _, g5, _, g7⟩ := good_vals hc
  have hlb := (qsB hc)
  obtain ⟨A, hA⟩ : ∃ A, leastE zs = A := ⟨_, rfl⟩
  obtain ⟨C, hC⟩ : ∃ C, countE zs = C := ⟨_, rfl⟩
  obtain ⟨O, hO⟩ : ∃ O, anyE zs = O := ⟨_, rfl⟩
  obtain ⟨L, hL⟩ : ∃ L, bestE zs = L := ⟨_, rfl⟩
  obtain ⟨m, hLm⟩ : ∃ m, L.length = m := ⟨_, rfl⟩
  have hm8 : m ≤ 8 := by rw [← hLm, ← hL, g7, lst_len']; omega
  rw [hA] at t1 t2 hlb
  rw [hC] at t3 t4
  rw [hL] at t5
  rw [hO] at t6
  have HLE := Lib.hid (fun W => least_call n zs hl hn.2 hc A hA W)
  have HLB := Lib.hid (fun W => least_call n zs.reverse (by rw [List.length_reverse, hl]) hn.2 hr A t1 W)
  obtain ⟨A3, hA3⟩ : ∃ A3, 3 * A = A3 := ⟨_, rfl⟩
  have HLM := Lib.hid (fun W => least_call n (zs.map (3 * ·)) (by rw [List.length_map, hl]) hn.2 hm A3 (by rw [t2, hA3]) W)
  have HCE := Lib.hid (fun W => count_call n zs hl hn.2 hc C hC W)
  have HCB := Lib.hid (fun W => count_call n zs.reverse (by rw [List.length_reverse, hl]) hn.2 hr C t3 W)
  have HCM := Lib.hid (fun W => count_call n (zs.map (3 * ·)) (by rw [List.length_map, hl]) hn.2 hm C t4 W)
  have HBE := Lib.hid (fun W => best_call2 n zs hl hn.2 hc L m hL hLm W)
  have HBM := Lib.hid (fun W => best_call2 n (zs.map (3 * ·)) (by rw [List.length_map, hl]) hn.2 hm L m t5 hLm W)
  have HAE := Lib.hid (fun W => anyo_call n zs hl hn.2 hc O hO W)
  have HAB := Lib.hid (fun W => anyo_call n zs.reverse (by rw [List.length_reverse, hl]) hn.2 hr O t6 W)
  have HSA := Lib.hid (fun W => same_call m L hLm (by omega) W)
  have HCL := Lib.hid (fun W a c => clone_call a n c zs hl (by omega) (by omega) W)
  have HRV := Lib.hid (fun W g c => rev_call g n c zs hl (by omega) W)
  have HZ := Lib.hid (fun i (hi : i < n) => hin (nth zs i) (nth_mem (by omega)))
  have HST := Lib.hid (fun i (hi : i < n) => m3_step zs i (by omega))
  have HM0 := Lib.hid (m3_zero zs)
  have HME : Hid (m3 zs n = zs.map (3 * ·)) := Lib.hid (by rw [← hl]; exact m3_end zs)
  have HMl : Hid (∀ i, (m3 zs i).length = n) := Lib.hid (fun i => by rw [m3_len, hl])
  unfold dustV at hmd ⊢
  have HMD := Lib.hid hmd
  have HL := Lib.hid hl
  obtain ⟨W0, hW0⟩ : ∃ W0, W0 = w.alloc (.cells #[.int .u8 (k0 : Nat), .int .u8 (b 0 : Nat), .int .u8 (b 1 : Nat), .int .u8 (b 2 : Nat), .int .u8 (b 3 : Nat), .int .u8 (b 4 : Nat), .int .u8 (b 5 : Nat), .int .u8 (b 6 : Nat), .int .u8 (b 7 : Nat)] 44) := ⟨_, rfl⟩
  have HW := Lib.hid hW0
  have HF0 : Hid (Fut w W0) := Lib.hid (by rw [hW0]; exact Fut.alloc _ _)
  have hn0 : 0 < n := by omega
  have hnx : (n : Int) ≤ 8 := by omega
  have hn00 : (0 : Int) < n := by omega
  have hw3 : IntKind.i64.wrap (3 * A) = A3 := by rw [hA3]; exact IntWalk.i64_in _ ⟨by omega, by omega⟩
  clear hmd hb hW0 hc hm hr hin t1 t2 t3 t4 t5 t6 g1 g5 g7 hA hC hO hL hLm hl
  go_enter Try.func14, Try.ntmps14
  go_wp2_with fail
  rw [← HW.out]
  refine (HMD.out W0).mono ?_
  rintro _ w1 ⟨g1, c1, rfl, hc1, _, hO1, F1⟩
  obtain ⟨_, e1, q1, q2, hR1, _⟩ := hO1.row HL.out hn0
  cases e1
  have HF1 := Lib.hid (HF0.out.trans F1)
  have HR1 := Lib.hid hR1
  have HG1 := Lib.hid q2
  have HC1 := Lib.hid hc1
  have HGW : Hid (w.heap.size ≤ g1) := Lib.hid (Nat.le_trans (RowKit.Below.size HF0.out) q1)
  clear hO1 F1 hR1 q1 q2 hc1
  go_wp2_with fail
  refine (HCL.out w1 _ c1 (HR1.out.ints HG1.out)).mono ?_
  rintro _ w2 ⟨g2, c2, rfl, p1, p2, p3, p4, F2⟩
  have HF2 := Lib.hid (HF1.out.trans F2)
  have HR12 := Lib.hid (HR1.out.fut F2 HG1.out)
  have HG12 : Hid (g1 < w2.heap.size ∧ g1 < g2) := Lib.hid (by have := HG1.out; have := RowKit.Below.size F2; omega)
  have HR2 := Lib.hid p3
  have HG2 := Lib.hid p2
  have HC2 := Lib.hid p4
  clear p1 p2 p3 p4 F2
  go_wp2_with fail
  refine (HCL.out w2 _ c1 (HR12.out.ints HG12.out.1)).mono ?_
  rintro _ w3 ⟨g3, c3, rfl, p1, p2, p3, p4, F3⟩
  have HF3 := Lib.hid (HF2.out.trans F3)
  have HR13 := Lib.hid (HR12.out.fut F3 HG12.out.1)
  have HR23 := Lib.hid (HR2.out.fut F3 HG2.out)
  have HGS : Hid (w.heap.size ≤ g1 ∧ g1 < g2 ∧ g2 < g3 ∧ g3 < w3.heap.size) := Lib.hid (by have := HG12.out; have := HG2.out; have := HGW.out; omega)
  have HR3 := Lib.hid p3
  have HC3 := Lib.hid p4
  clear p1 p2 p3 p4 F3 HR12 HR2 HR1 HG12 HG2 HG1
  go_wp2_with fail
  refine (HRV.out w3 g2 c2 HR23.out).mono ?_
  rintro _ w4 ⟨rfl, r1, O4⟩
  have HRB := Lib.hid r1
  have HRA : Hid (RowN w4 g1 zs) := Lib.hid (HR13.out.other O4 (by have := HGS.out; omega) (by have := HGS.out; omega))
  have HRM : Hid (RowN w4 g3 (m3 zs 0)) := Lib.hid (by rw [HM0.out]; exact HR3.out.other O4 (by have := HGS.out; omega) (by have := HGS.out; omega))
  have HF4 : Hid (Fut w w4) := Lib.hid (Only.fut HF3.out O4 (by have := HGS.out; omega))
  have HG4 : Hid (w.heap.size ≤ g1 ∧ g1 < g2 ∧ g2 < g3 ∧ g3 < w4.heap.size) := Lib.hid (by have := HGS.out; have := O4.1; omega)
  clear r1 O4 HR13 HR23 HR3 HGS
  go_wp2_with fail
  go_loopw [34] (fun iv wr => ∃ (i : Nat), i ≤ n ∧ iv = .int .i64 (i : Nat) ∧ Hid (RowN wr g1 zs) ∧ Hid (RowN wr g2 zs.reverse) ∧ Hid (RowN wr g3 (m3 zs i)) ∧ Hid (Fut w wr) ∧ Hid (w.heap.size ≤ g1 ∧ g1 < g2 ∧ g2 < g3 ∧ g3 < wr.heap.size)) (fun iv _ => n - (intOf iv).toNat)
  case atStart => exact ⟨0, by omega, rfl, HRA, HRB, HRM, HF4, HG4⟩
  case round =>
    clear HRA HRB HRM HF4 HG4
    obtain ⟨i, hi, rfl, HRA, HRB, HRM, HF4, HG4⟩ := hrel
    by_cases hil : i < n
    · have hix : (i : Int) < n := by omega
      have hz := HZ.out i hil
      have hst := HST.out i hil
      have c0 := HRM.out.1 i (by rw [HMl.out]; exact hil)
      have f0 := HRM.out.2 i
      rw [hst.1] at c0
      obtain ⟨y, hy⟩ : ∃ y, 3 * nth zs i = y := ⟨_, rfl⟩
      have HRM2 : Hid (RowN (wr.setCell ⟨g3, i, none⟩ (.int .i64 y)) g3 (m3 zs (i + 1))) := Lib.hid (by rw [← hst.2, hy]; exact HRM.out.set i y (by rw [HMl.out]; exact hil))
      have hO := only_set wr g3 i (.int .i64 y)
      have HRA2 : Hid (RowN (wr.setCell ⟨g3, i, none⟩ (.int .i64 y)) g1 zs) := Lib.hid (HRA.out.other hO (by have := HG4.out; omega) (by have := HG4.out; omega))
      have HRB2 : Hid (RowN (wr.setCell ⟨g3, i, none⟩ (.int .i64 y)) g2 zs.reverse) := Lib.hid (HRB.out.other hO (by have := HG4.out; omega) (by have := HG4.out; omega))
      have HF5 : Hid (Fut w (wr.setCell ⟨g3, i, none⟩ (.int .i64 y))) := Lib.hid (Only.fut HF4.out hO (by have := HG4.out; omega))
      have HG5 : Hid (w.heap.size ≤ g1 ∧ g1 < g2 ∧ g2 < g3 ∧ g3 < (wr.setCell ⟨g3, i, none⟩ (.int .i64 y)).heap.size) := Lib.hid (by have := HG4.out; have := hO.1; omega)
      generalize nth zs i = x at *
      have hwy : IntKind.i64.wrap (x * 3) = y := by rw [← hy, Int.mul_comm]; exact IntWalk.i64_in _ ⟨by omega, by omega⟩
      have hwi : IntKind.i64.wrap ((i : Int) + 1) = ((i + 1 : Nat) : Int) := by rw [IntWalk.i64_in _ ⟨by omega, by omega⟩]; omega
      clear hz hst hy hO HRM HRA HRB HF4 HG4
      go_wp2_with fail
      go_roundw
      case rel => first
        | exact ⟨i + 1, by omega, rfl, HRA2, HRB2, HRM2, HF5, HG5⟩
        | ((repeat apply Exists.intro); exact ⟨⟨i + 1, by omega, rfl, HRA2, HRB2, HRM2, HF5, HG5⟩, rfl⟩)
      case measure => simp [intOf]; omega
    · obtain rfl : i = n := by omega
      have HIA : Hid (IntsAt wr (some ⟨g1, 0, none⟩) zs) := Lib.hid (HRA.out.ints (by have := HG4.out; omega))
      have HIB : Hid (IntsAt wr (some ⟨g2, 0, none⟩) zs.reverse) := Lib.hid (HRB.out.ints (by have := HG4.out; omega))
      have HIM : Hid (IntsAt wr (some ⟨g3, 0, none⟩) (zs.map (3 * ·))) := Lib.hid (by rw [← HME.out]; exact HRM.out.ints (by have := HG4.out; omega))
      clear HRA HRB HRM HG4
      go_wp2_with fail
      refine (HLE.out wr _ c1 HC1.out HIA.out).mono ?_
      rintro _ x1 ⟨rfl, T1⟩
      have S1 := Lib.hid T1
      clear T1
      go_wp2_with fail
      refine (HLB.out x1 _ c2 HC2.out (HIB.out.fut S1.out)).mono ?_
      rintro _ x2 ⟨rfl, T2⟩
      have S2 := Lib.hid (S1.out.trans T2)
      clear T2
      go_wp2_with fail
      refine (HLM.out x2 _ c3 HC3.out (HIM.out.fut S2.out)).mono ?_
      rintro _ x3 ⟨rfl, T3⟩
      have S3 := Lib.hid (S2.out.trans T3)
      clear T3
      go_wp2_with fail
      refine (HCE.out x3 _ c1 HC1.out (HIA.out.fut S3.out)).mono ?_
      rintro _ x4 ⟨rfl, T4⟩
      have S4 := Lib.hid (S3.out.trans T4)
      clear T4
      go_wp2_with fail
      refine (HCB.out x4 _ c2 HC2.out (HIB.out.fut S4.out)).mono ?_
      rintro _ x5 ⟨rfl, T5⟩
      have S5 := Lib.hid (S4.out.trans T5)
      clear T5
      go_wp2_with fail
      refine (HCM.out x5 _ c3 HC3.out (HIM.out.fut S5.out)).mono ?_
      rintro _ x6 ⟨rfl, T6⟩
      have S6 := Lib.hid (S5.out.trans T6)
      clear T6
      go_wp2_with fail
      refine (HBE.out x6 _ c1 HC1.out (HIA.out.fut S6.out)).mono ?_
      rintro _ x7 ⟨l7, d7, rfl, _, I7, T7⟩
      have S7 := Lib.hid (S6.out.trans T7)
      have J7 := Lib.hid I7
      clear T7 I7
      go_wp2_with fail
      refine (HBM.out x7 _ c3 HC3.out (HIM.out.fut S7.out)).mono ?_
      rintro _ x8 ⟨l8, d8, rfl, _, I8, T8⟩
      have S8 := Lib.hid (S7.out.trans T8)
      have J8 := Lib.hid I8
      have K8 := Lib.hid (J7.out.fut T8)
      clear T8 I8
      go_wp2_with fail
      refine (HAE.out x8 _ c1 (HIA.out.fut S8.out)).mono ?_
      rintro _ x9 ⟨rfl, T9⟩
      have S9 := Lib.hid (S8.out.trans T9)
      have J9 := Lib.hid (J8.out.fut T9)
      have K9 := Lib.hid (K8.out.fut T9)
      clear T9
      go_wp2_with fail
      refine (HAB.out x9 _ c2 (HIB.out.fut S9.out)).mono ?_
      rintro _ x10 ⟨rfl, T10⟩
      have S10 := Lib.hid (S9.out.trans T10)
      have J10 := Lib.hid (J9.out.fut T10)
      have K10 := Lib.hid (K9.out.fut T10)
      clear T10
      go_wp2_with fail
      refine (HSA.out x10 _ _ d7 d8 K10.out J10.out).mono ?_
      rintro _ x11 ⟨rfl, T11⟩
      have HWK := Lib.hid (works_any x11)
      have S11 := Lib.hid (S10.out.trans T11)
      clear T11
      go_wp2_with fail
      refine HWK.out.mono ?_
      rintro _ x12 ⟨rfl, T12⟩
      go_wp2_with fail
      go_ret
      exact ⟨rfl, HF4.out.trans (S11.out.trans T12)⟩
end Go.Proofs.Ytjapconhehdcjaa
