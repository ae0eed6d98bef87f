/- SieveMore 15 -/
import Derived.Test.YtjapconhehdcjaaVO
import Derived.Test.YtjapconhehdcjaaVP
import Derived.Test.YtjapconhehdcjaaVQ
import Derived.Deep.DeepCutAuto
import Derived.Deep.AppendLies
namespace Go.Proofs.Ytjapconhehdcjaa
open Go.RowKit Go.Sort
set_option maxRecDepth 100000 in
set_option maxHeartbeats 8000000 in
theorem law15_any (k0 : Nat) (b : Nat → Nat) (hk : k0 ≤ 255) (hb : ∀ j, b j ≤ 255) (x1 : Nat) (hx1 : x1 ≤ 255) (w : World) :
    Calls Try.prog 15 #[dustV k0 b, .int .u8 (x1 : Nat)] w fun e w' => e = .returned (.bool true) ∧ Fut w w' := by
  obtain ⟨n, zs, hl, hn, hc, hin, hmd⟩ := dmade_call k0 b hk hb 99 (by omega)
  obtain ⟨k, hk1⟩ : ∃ k : Nat, (x1 : Int) % (n : Int) = (k : Int) := ⟨x1 % n, by simp⟩
  have hkn : k < n := by
    have := Int.emod_lt_of_pos (x1 : Int) (show (0 : Int) < n by omega)
    omega
  obtain ⟨z, hz⟩ : ∃ z, nth zs k = z := ⟨_, rfl⟩
  obtain ⟨z0, hz0⟩ : ∃ z0, nth zs 0 = z0 := ⟨_, rfl⟩
  have hzb := hin (nth zs k) (nth_mem (by omega))
  have hzb0 := hin (nth zs 0) (nth_mem (by omega))
  rw [hz] at hzb
  rw [hz0] at hzb0
  obtain ⟨hm, t, u, ts, us, tb, ub, y1, y2⟩ := more_vals (k := k) (by omega) (by omega) hc hin
  obtain ⟨hr, v, vs, vb, v1⟩ := flat_vals hn.1 hn.2 hzb0
  rw [hz] at hm ub y1 y2
  rw [hl] at ts us
  have hlb := qsB hc
  have hlm := qsB hm
  obtain ⟨A, hA⟩ : ∃ A, leastE zs = A := ⟨_, rfl⟩
  obtain ⟨B, hB⟩ : ∃ B, leastE (zs.set k (z + 1)) = B := ⟨_, rfl⟩
  obtain ⟨m, hm1⟩ : ∃ m : Nat, n = m + 1 := ⟨n - 1, by omega⟩
  rw [hA] at y1 y2 hlb
  rw [hB] at y1 y2 hlm
  have hLT : (t.lst 0).length = m := by rw [lst_len']; omega
  have hLU : (u.lst 0).length = m := by rw [lst_len']; omega
  have hLV : (v.lst 0).length = m := by rw [lst_len']; omega
  have dT : (castL t.dep).length = n := by rw [castL_len, Sv.dep_len, ts]
  have dU : (castL u.dep).length = n := by rw [castL_len, Sv.dep_len, us]
  have dV : (castL v.dep).length = n := by rw [castL_len, Sv.dep_len, vs]
  have eT := depths_tree t (by omega)
  have eU := depths_tree u (by omega)
  have eV := depths_tree v (by omega)
  have oT := valid_tree t (by omega)
  have oU := valid_tree u (by omega)
  have oV := valid_tree v (by omega)
  rw [ts] at eT oT
  rw [us] at eU oU
  rw [vs] at eV oV
  have bV : ∀ x ∈ castL v.dep, 0 ≤ x ∧ x ≤ 7 := fun x hx => by
    obtain ⟨d, hd, rfl⟩ := Sv.castL_mem hx
    have := Sv.dep_lt v d hd
    omega
  have hne : castL v.dep ≠ [] := by
    intro e
    rw [e] at dV
    simp at dV; omega
  have m1 := bV _ (Sv.max_spec hne).1
  have m2 := bV _ (Sv.min_spec hne).1
  obtain ⟨mx, hmx⟩ : ∃ x, Lib.maxOf (castL v.dep) = x := ⟨_, rfl⟩
  obtain ⟨mn, hmn⟩ : ∃ x, Lib.minOf (castL v.dep) = x := ⟨_, rfl⟩
  have HMX := Lib.hid (fun g c W h => max_call g 0 n c (castL v.dep) dV (by omega) (by omega) W h)
  have HMN := Lib.hid (fun g c W h => min_call g 0 n c (castL v.dep) dV (by omega) (by omega) W h)
  rw [hmx] at m1 HMX v1
  rw [hmn] at m2 HMN v1
  have HDT := Lib.hid (fun W l cc (h1 : (t.lst 0).length ≤ cc) h2 => dep_call n l cc _ _ W h2 h1 (by omega) oT eT dT (by omega))
  have HDU := Lib.hid (fun W l cc (h1 : (u.lst 0).length ≤ cc) h2 => dep_call n l cc _ _ W h2 h1 (by omega) oU eU dU (by omega))
  have HDV := Lib.hid (fun W l cc (h1 : (v.lst 0).length ≤ cc) h2 => dep_call n l cc _ _ W h2 h1 (by omega) oV eV dV (by omega))
  have HBT := Lib.hid (fun W => best_call2 n zs hl hn.2 hc _ m tb hLT W)
  have HBU := Lib.hid (fun W => best_call2 n (zs.set k (z + 1)) (by rw [List.length_set, hl]) hn.2 hm _ m ub hLU W)
  have HBV := Lib.hid (fun W => best_call2 n (List.replicate n z0) (by simp) hn.2 hr _ m vb hLV W)
  have HLA := Lib.hid (fun W => least_call n zs hl hn.2 hc A hA W)
  have HLB := Lib.hid (fun W => least_call n (zs.set k (z + 1)) (by rw [List.length_set, hl]) hn.2 hm B hB W)
  have HCL := Lib.hid (fun W a c => clone_call a n c zs hl (by omega) (by omega) W)
  have HRP := Lib.hid (fun W bb oo c => repeat_one n c z0 hn.1 (by omega) bb oo W)
  obtain ⟨pk, hpk⟩ : ∃ pk, nth (castL t.dep) k = pk := ⟨_, rfl⟩
  obtain ⟨qk, hqk⟩ : ∃ qk, nth (castL u.dep) k = qk := ⟨_, rfl⟩
  rw [hpk] at y1
  rw [hqk] at y2
  obtain ⟨TD, hTD⟩ : ∃ x, castL t.dep = x := ⟨_, rfl⟩
  obtain ⟨UD, hUD⟩ : ∃ x, castL u.dep = x := ⟨_, rfl⟩
  obtain ⟨VD, hVD⟩ : ∃ x, castL v.dep = x := ⟨_, rfl⟩
  obtain ⟨TL, hTL⟩ : ∃ x, t.lst 0 = x := ⟨_, rfl⟩
  obtain ⟨UL, hUL⟩ : ∃ x, u.lst 0 = x := ⟨_, rfl⟩
  obtain ⟨VL, hVL⟩ : ∃ x, v.lst 0 = x := ⟨_, rfl⟩
  rw [hTD] at hpk dT HDT
  rw [hUD] at hqk dU HDU
  rw [hVD] at dV HDV HMX HMN
  rw [hTL] at hLT HBT HDT
  rw [hUL] at hLU HBU HDU
  rw [hVL] at hLV HBV HDV
  rw [hLT] at HDT
  rw [hLU] at HDU
  rw [hLV] at HDV
  have HPK := Lib.hid hpk
  have HQK := Lib.hid hqk
  have HTD := Lib.hid dT
  have HUD := Lib.hid dU
  have HZ := Lib.hid hz
  have HZ0 := Lib.hid hz0
  unfold dustV at hmd ⊢
  have HMD := Lib.hid hmd
  have HL := Lib.hid hl
  obtain ⟨W0, hW0⟩ : ∃ W0, W0 = w.alloc (.cells #[.int .u8 (k0 : Nat), .int .u8 (b 0 : Nat), .int .u8 (b 1 : Nat), .int .u8 (b 2 : Nat), .int .u8 (b 3 : Nat), .int .u8 (b 4 : Nat), .int .u8 (b 5 : Nat), .int .u8 (b 6 : Nat), .int .u8 (b 7 : Nat)] 44) := ⟨_, rfl⟩
  have HW := Lib.hid hW0
  have HF0 : Hid (Fut w W0) := Lib.hid (by rw [hW0]; exact Fut.alloc _ _)
  have hn0 : 0 < n := by omega
  have hnx : (n : Int) ≤ 8 := by omega
  have hn00 : (0 : Int) < n := by omega
  have hn01 : ¬ (n : Int) = 0 := by omega
  have hn02 : ¬ n = 0 := by omega
  have hknx : (k : Int) < n := by omega
  have hxx : (x1 : Int) ≤ 255 := by omega
  have hw1 : IntKind.i64.wrap (z + 1) = z + 1 := IntWalk.i64_in _ ⟨by omega, by omega⟩
  obtain ⟨D, hD⟩ : ∃ D, B - A = D := ⟨_, rfl⟩
  rw [hD] at y1 y2
  have hw2 : IntKind.i64.wrap (B - A) = D := by rw [hD]; exact IntWalk.i64_in _ ⟨by omega, by omega⟩
  obtain ⟨E, hE⟩ : ∃ E, mx - mn = E := ⟨_, rfl⟩
  rw [hE] at v1
  have hw3 : IntKind.i64.wrap (mx - mn) = E := by rw [hE]; exact IntWalk.i64_in _ ⟨by omega, by omega⟩
  have hy1 : ¬ pk < D := by omega
  have hy2 : ¬ D < qk := by omega
  clear hmd hb hW0 hc hm hr hin hA hB hl ts us vs tb ub vb hLT hLU hLV dT dU dV eT eU eV oT oU oV bV hne m1 m2 hmx hmn hpk hqk hTD hUD hVD hTL hUL hVL hz hz0 hzb hzb0 hlb hlm hm1 hD hE y1 y2
  go_enter Try.func15, Try.ntmps15
  go_wp2_with fail
  rw [← HW.out]
  refine (HMD.out W0).mono ?_
  rintro _ w1 ⟨g1, c1, rfl, hc1, _, hO1, F1⟩
  obtain ⟨_, e1, q1, q2, hR1, _⟩ := hO1.row HL.out hn0
  cases e1
  have HF1 := Lib.hid (HF0.out.trans F1)
  have HR1 := Lib.hid hR1
  have HG1 := Lib.hid q2
  have HC1 := Lib.hid hc1
  have HGW : Hid (w.heap.size ≤ g1) := Lib.hid (Nat.le_trans (RowKit.Below.size HF0.out) q1)
  clear hO1 F1 hR1 q1 q2 hc1
  go_wp2_with fail
  refine (HCL.out w1 _ c1 (HR1.out.ints HG1.out)).mono ?_
  rintro _ w2 ⟨g2, c2, rfl, p1, p2, p3, p4, F2⟩
  have HF2 := Lib.hid (HF1.out.trans F2)
  have HR12 := Lib.hid (HR1.out.fut F2 HG1.out)
  have HG12 : Hid (g1 < w2.heap.size ∧ g1 < g2) := Lib.hid (by have := HG1.out; have := RowKit.Below.size F2; omega)
  have HR2 := Lib.hid p3
  have HG2 := Lib.hid p2
  have HC2 := Lib.hid p4
  clear p1 p2 p3 p4 F2
  have cc := HR2.out.1 k (by rw [HL.out]; exact hkn)
  rw [HZ.out] at cc
  have ff := HR2.out.2 k
  have hO := only_set w2 g2 k (.int .i64 (z + 1))
  have HR3 := Lib.hid (HR2.out.set k (z + 1) (by rw [HL.out]; exact hkn))
  have HR13 := Lib.hid (HR12.out.other hO HG12.out.1 (by have := HG12.out; omega))
  have HF3 := Lib.hid (Only.fut HF2.out hO (by have := HGW.out; have := HG12.out; omega))
  have HS3 := Lib.hid hO.1
  clear hO
  have HGG : Hid (g1 < (w2.setCell ⟨g2, k, none⟩ (.int .i64 (z + 1))).heap.size ∧ g2 < (w2.setCell ⟨g2, k, none⟩ (.int .i64 (z + 1))).heap.size) := Lib.hid (by have := HS3.out; have := HG12.out; have := HG2.out; omega)
  go_wp2_with fail
  generalize w2.setCell ⟨g2, k, none⟩ (.int .i64 (z + 1)) = w3 at *
  clear cc ff HR12 HG12 HR2 HG2 HF2 HS3
  refine (HBT.out w3 _ c1 HC1.out (HR13.out.ints HGG.out.1)).mono ?_
  rintro _ w4 ⟨l4, d4, rfl, k4, I4, F4⟩
  have HI4 := Lib.hid I4
  have HK4 := Lib.hid k4
  have HF4 := Lib.hid F4
  clear I4 F4 k4
  go_wp2_with fail
  refine (HBU.out w4 _ c2 HC2.out ((HR3.out.ints HGG.out.2).fut HF4.out)).mono ?_
  rintro _ w5 ⟨l5, d5, rfl, k5, I5, F5⟩
  have HI5 := Lib.hid I5
  have HK5 := Lib.hid k5
  have HI45 := Lib.hid (HI4.out.fut F5)
  have HF5 := Lib.hid (HF4.out.trans F5)
  clear I5 F5 HI4 HF4 k5
  go_wp2_with fail
  refine (HLA.out w5 _ c1 HC1.out ((HR13.out.ints HGG.out.1).fut HF5.out)).mono ?_
  rintro _ w6 ⟨rfl, F6⟩
  have HF6 := Lib.hid (HF5.out.trans F6)
  have HI6 := Lib.hid (HI45.out.fut F6)
  have HJ6 := Lib.hid (HI5.out.fut F6)
  clear F6 HF5 HI45 HI5
  go_wp2_with fail
  refine (HLB.out w6 _ c2 HC2.out ((HR3.out.ints HGG.out.2).fut HF6.out)).mono ?_
  rintro _ w7 ⟨rfl, F7⟩
  have HF7 := Lib.hid (HF6.out.trans F7)
  have HI7 := Lib.hid (HI6.out.fut F7)
  have HJ7 := Lib.hid (HJ6.out.fut F7)
  clear F7 HF6 HI6 HJ6
  go_wp2_with fail
  refine (HDT.out w7 _ d4 HK4.out HI7.out).mono ?_
  rintro _ w8 ⟨g8, c8, rfl, _, r2, r3, _, F8⟩
  have HF8 := Lib.hid (HF7.out.trans F8)
  have HJ8 := Lib.hid (HJ7.out.fut F8)
  have HP8 := Lib.hid r3
  have HH8 := Lib.hid r2
  clear F8 r2 r3 HF7 HJ7 HI7
  go_wp2_with fail
  refine (HDU.out w8 _ d5 HK5.out HJ8.out).mono ?_
  rintro _ w9 ⟨g9, c9, rfl, _, r2, r3, _, F9⟩
  have HF9 := Lib.hid (HF8.out.trans F9)
  have HP9 := Lib.hid (HP8.out.fut F9 HH8.out)
  have HH9 : Hid (g8 < w9.heap.size) := Lib.hid (Nat.lt_of_lt_of_le HH8.out (RowKit.Below.size F9))
  have HQ9 := Lib.hid r3
  have HX9 := Lib.hid r2
  have c0 := (HR13.out.fut HF9.out HGG.out.1).1 0 (by rw [HL.out]; exact hn0)
  rw [HZ0.out] at c0
  clear F9 r2 r3 HF8 HJ8 HP8 HH8 HR3
  have hp0 := ints_new w9 [z0]
  have HFA : Hid (Fut w9 (w9.alloc (.cells ([z0].map (Value.int .i64)).toArray 3))) := Lib.hid (Fut.alloc _ _)
  obtain ⟨wa, hwa⟩ : ∃ wa, wa = w9.alloc (.cells ([z0].map (Value.int .i64)).toArray 3) := ⟨_, rfl⟩
  rw [← hwa] at hp0 HFA
  have HIN := Lib.hid hp0
  have HWA : Hid (wa = w9.alloc (.cells #[.int .i64 z0] 3)) := Lib.hid hwa
  clear hwa hp0
  go_wp2_with fail
  rw [← HWA.out]
  refine (list_id _ _).mono ?_
  rintro _ _ ⟨rfl, rfl⟩
  clear c0
  go_wp2_with fail
  refine (HRP.out wa _ _ _ HIN.out).mono ?_
  rintro _ w10 ⟨g10, rfl, _, r2, r3, F10⟩
  have HF10 := Lib.hid (HFA.out.trans F10)
  have HZZ := Lib.hid (r3.ints r2)
  clear F10 r2 r3 HFA HWA HIN
  go_wp2_with fail
  refine (HBV.out w10 _ n (Nat.le_refl _) HZZ.out).mono ?_
  rintro _ w11 ⟨l11, d11, rfl, k11, I11, F11⟩
  have HF11 := Lib.hid (HF10.out.trans F11)
  have HI11 := Lib.hid I11
  have HK11 := Lib.hid k11
  clear k11 I11 F11 HF10 HZZ
  have cp := (HP9.out.fut HF11.out HH9.out).1 k (by rw [HTD.out]; exact hkn)
  have cq := (HQ9.out.fut HF11.out HX9.out).1 k (by rw [HUD.out]; exact hkn)
  rw [HPK.out] at cp
  rw [HQK.out] at cq
  go_wp2_with fail
  clear cp cq
  refine (HDV.out w11 _ d11 HK11.out HI11.out).mono ?_
  rintro _ w12 ⟨g12, c12, rfl, _, r2, r3, _, F12⟩
  have HF12 := Lib.hid (HF11.out.trans F12)
  have HI12 := Lib.hid (r3.ints r2)
  clear r2 r3 F12 HF11
  go_wp2_with fail
  refine (HMX.out _ c12 w12 HI12.out).mono ?_
  rintro _ _ ⟨rfl, rfl⟩
  go_wp2_with fail
  refine (HMN.out _ c12 w12 HI12.out).mono ?_
  rintro _ _ ⟨rfl, rfl⟩
  have HWK := Lib.hid (works_any w12)
  go_wp2_with fail
  refine HWK.out.mono ?_
  rintro _ w13 ⟨rfl, F13⟩
  go_wp2_with fail
  go_ret
  exact ⟨rfl, HF3.out.trans (HF9.out.trans (HF12.out.trans F13))⟩
end Go.Proofs.Ytjapconhehdcjaa
