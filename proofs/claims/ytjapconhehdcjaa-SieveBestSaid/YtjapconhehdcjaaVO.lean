/- SieveKraft 10 -/
import Derived.Test.YtjapconhehdcjaaVJ
import Derived.Test.YtjapconhehdcjaaVA
import Derived.Test.YtjapconhehdcjaaVN
import Derived.Test.YtjapconhehdcjaaVH
import Derived.Test.YtjapconhehdcjaaVK
import Derived.Deep.DeepCutAuto
import Derived.Deep.AppendLies
namespace Go.Proofs.Ytjapconhehdcjaa
open Go.RowKit Go.Sort
/-- depths put in order, either way, have a tree. -/
theorem ordered_made (t : Sv.Tr) (h8 : t.size ≤ 8) (Z : List Int) (hp : Z.Perm (castL t.dep)) (hs : Z.Pairwise (· ≤ ·) ∨ Z.Pairwise (· ≥ ·)) : ∃ u : Sv.Tr, u.size = t.size ∧ Z = castL u.dep ∧ madeC Z = 0 ∧ madeE Z = u.lst 0 ∧ validE t.size (u.lst 0) = 0 ∧ depthsE t.size (u.lst 0) = Z ∧ (u.lst 0).length + 1 = t.size := by
  obtain ⟨ps, h1, h2⟩ := Sv.perm_lift (fun (d : Nat) => (d : Int)) hp.symm rfl
  have hZ : Z = castL ps := h2.symm
  have hP : Sv.PD ps := ⟨t, h1⟩
  have hl : Z.length = t.size := by rw [hp.length_eq, castL_len, Sv.dep_len]
  have hu : ∃ u : Sv.Tr, u.dep = ps := by
    rcases hs with hs | hs
    · refine Sv.rising ps ?_ hP
      rw [hZ] at hs
      unfold castL at hs
      rw [List.pairwise_map] at hs
      exact hs.imp fun h => by omega
    · refine Sv.falling ps.length ps rfl ?_ hP
      rw [hZ] at hs
      unfold castL at hs
      rw [List.pairwise_map] at hs
      exact hs.imp fun h => by omega
  obtain ⟨u, hu⟩ := hu
  have hZu : Z = castL u.dep := by rw [hZ, hu]
  have hus : u.size = t.size := by rw [← hl, hZu, castL_len, Sv.dep_len]
  have hpos := Sv.size_pos u
  obtain ⟨v, v1, v2, v3, v4⟩ := (made_vals (ds := Z) (by omega) (by omega) (fun z hz => by
    rw [hZu] at hz
    obtain ⟨d, hd, rfl⟩ := Sv.castL_mem hz
    have := Sv.dep_lt u d hd
    omega)).1 ⟨u, hZu⟩
  have huv : v = u := Sv.dep_inj (Sv.castL_inj (by rw [← v2, hZu]))
  subst huv
  refine ⟨v, hus, hZu, v3, v4, ?_, ?_, by have := Sv.lst_len 0 v; omega⟩
  · rw [← hus]; exact valid_tree v (by omega)
  · rw [← hus, depths_tree v (by omega), ← hZu]
theorem desc_rev (L : List Int) : (srtI L).reverse.Pairwise (· ≥ ·) := by
  rw [List.pairwise_reverse]
  exact srt_le L
theorem u16_up (x : Nat) (hx : x ≤ 65535) : ∃ y : Nat, IntKind.u16.wrap ((x : Int) + 1) = (y : Int) ∧ y ≤ 65535 := by
  rcases Nat.eq_or_lt_of_le hx with rfl | h
  · exact ⟨0, by decide, by omega⟩
  · exact ⟨x + 1, by rw [IntWalk.u16_in _ ⟨by omega, by omega⟩]; omega, by omega⟩
theorem dep_call (n : Nat) (l : Option Addr) (cc : Nat) (T DD : List Int) (W : World) (h : IntsAt W l T) (h1 : T.length ≤ cc) (hl : T.length ≤ 1000) (hV : validE (n : Nat) T = 0) (hD : depthsE (n : Nat) T = DD) (hN : DD.length = n) (h0 : 0 < n) : Calls Try.prog 37 #[.int .i64 (n : Nat), .slice l T.length cc] W fun e w' => ∃ g c, e = .returned (.tuple #[.slice (some ⟨g, 0, none⟩) n c, .int .i64 0]) ∧ W.heap.size ≤ g ∧ g < w'.heap.size ∧ RowN w' g DD ∧ n ≤ c ∧ Fut W w' := by
  refine (depths37W (n : Nat) l cc T W h h1 hl).mono ?_
  rintro e w' ⟨v, rfl, hO, F⟩
  rw [hV]
  rw [hD] at hO
  obtain ⟨a, c, rfl, _⟩ := hO.ints
  rw [hN] at hO ⊢
  obtain ⟨g, rfl, q1, q2, q3, q4⟩ := hO.row hN h0
  exact ⟨g, c, rfl, q1, q2, q3, q4, F⟩
set_option maxRecDepth 100000 in
set_option maxHeartbeats 8000000 in
theorem law10_any (k0 q0 : Nat) (hk : k0 < 256) (hq : q0 < 65536) (w : World) :
    Calls Try.prog 10 #[.int .u8 (k0 : Nat), .int .u16 (q0 : Nat)] w fun e w' => e = .returned (.bool true) ∧ Fut w w' := by
  obtain ⟨n, hn⟩ : ∃ n : Nat, 1 + (k0 : Int) % 8 = (n : Int) := ⟨1 + k0 % 8, by omega⟩
  have hn1 : 1 ≤ n ∧ n ≤ 8 := by omega
  obtain ⟨c, hc⟩ : ∃ c, catN n = c := ⟨_, rfl⟩
  have hcp := cat_pos n hn1.1 hn1.2
  have hTC := trees_cat n hn1.1 hn1.2
  rw [hc] at hcp hTC
  obtain ⟨q, hq1⟩ : ∃ q : Nat, (q0 : Int) % (c : Int) = (q : Int) := ⟨q0 % c, by simp⟩
  have hqc : q < c := by
    have := Int.emod_lt_of_pos (q0 : Int) (show (0 : Int) < c by omega)
    omega
  obtain ⟨t, _, hts, hC, hE⟩ := tree_num n q hn1.1 hn1.2 (by rw [hc]; exact hqc)
  have hV := valid_tree t (by omega)
  have hD := depths_tree t (by omega)
  rw [hts] at hV hD
  obtain ⟨T, hT⟩ : ∃ T, t.lst 0 = T := ⟨_, rfl⟩
  obtain ⟨m, hm⟩ : ∃ m : Nat, n = m + 1 := ⟨n - 1, by omega⟩
  have hTl : T.length = m := by rw [← hT, lst_len']; omega
  have hdp : ∀ d ∈ t.dep, d ≤ 7 := fun d hd => by have := Sv.dep_lt t d hd; omega
  have hms : Sv.meas 7 t.dep = 128 := Sv.meas_tree t 7 hdp
  have hdl : t.dep.length = n := by rw [Sv.dep_len, hts]
  obtain ⟨v, v1, v2, v3, v4⟩ := (made_vals (ds := castL t.dep) (by rw [castL_len, hdl]; omega) (by rw [castL_len, hdl]; omega) (fun z hz => by
    obtain ⟨d, hd, rfl⟩ := Sv.castL_mem hz
    have := Sv.dep_lt t d hd
    rw [castL_len, hdl]; omega)).1 ⟨t, rfl⟩
  have hvt : v = t := Sv.dep_inj (Sv.castL_inj v2.symm)
  rw [hvt, hT] at v4
  rw [hT] at hE hV hD
  have HOM := Lib.hid (fun Z hp hs => ordered_made t (by omega) Z hp hs)
  obtain ⟨DD, hDD⟩ : ∃ DD, castL t.dep = DD := ⟨_, rfl⟩
  have HDN := Lib.hid (fun i (hi : i < n) => show 0 ≤ nth (castL t.dep) i ∧ nth (castL t.dep) i ≤ 7 by
    obtain ⟨d, hd, e⟩ := Sv.castL_mem (nth_mem (show i < (castL t.dep).length by rw [castL_len, hdl]; exact hi))
    have := hdp d hd
    rw [e]; omega)
  have HME := Lib.hid (fun W a cp (h : IntsAt W a (castL t.dep)) => measured_any a cp n t.dep hdl hn1.2 hdp W h)
  rw [hms] at HME
  rw [hDD] at hD v3 v4 HOM HDN HME
  have hDl : DD.length = n := by rw [← hDD, castL_len, hdl]
  rw [hts] at HOM
  have HTS := Lib.hid (fun W => ex_2 (trees_any (n : Nat) W) (c : Nat) 0 hTC.1 hTC.2)
  have HTR := Lib.hid (fun W => ex_K (treeW (n : Nat) (q : Nat) W) 0 T hC hE)
  have HVA := Lib.hid (fun W l cc (h1 : T.length ≤ cc) h2 => ex_1 (valid_any (n : Nat) l cc T W h2 h1 (by omega)) 0 hV)
  have HDP := Lib.hid (fun W l cc (h1 : T.length ≤ cc) h2 => dep_call n l cc T DD W h2 h1 (by omega) hV hD hDl (by omega))
  have HMD := Lib.hid (fun W a cp (h : IntsAt W a DD) => ex_K (made43_any a cp DD W h (by omega)) 0 T v3 v4)
  rw [hTl] at HTR HVA HDP HMD
  rw [hDl] at HMD
  have HSA := Lib.hid (fun W => same_call m T hTl (by omega) W)
  have HCN : Hid (nth [0, 1, 1, 2, 5, 14, 42, 132, 429] n = (c : Int)) := Lib.hid (by rw [cat_nth n hn1.1 hn1.2, hc])
  have HDl := Lib.hid hDl
  have hc0 : ¬ (c : Int) = 0 := by omega
  have hc00 : ¬ c = 0 := by omega
  have hn9 : (n : Int) < 9 := by omega
  have hnx : (n : Int) ≤ 8 := by omega
  have hkx : (k0 : Int) < 256 := by omega
  have HM := Lib.hid hm
  clear hT hDD hTl hDl hE hC hV hD hts hc hcp hTC v1 v2 v3 v4 hvt v hms hdl hdp hqc hm
  go_enter Try.func10, Try.ntmps10
  go_wp2_with fail
  refine (HTS.out w).mono ?_
  rintro _ w1 ⟨rfl, F1⟩
  have HF1 := Lib.hid F1
  clear F1
  have hp0 := ints_new w1 [0, 1, 1, 2, 5, 14, 42, 132, 429]
  obtain ⟨b, o, e, hb, cc⟩ := hp0 n (by simp; omega)
  simp only [Option.some.injEq, Addr.mk.injEq, and_true] at e
  obtain ⟨rfl, rfl⟩ := e
  rw [HCN.out, Nat.zero_add] at cc
  have FA : Fut w1 (w1.alloc (.cells ([0, 1, 1, 2, 5, 14, 42, 132, 429].map (Value.int .i64)).toArray 3)) := Fut.alloc _ _
  obtain ⟨wa, hwa⟩ : ∃ wa, wa = w1.alloc (.cells ([0, 1, 1, 2, 5, 14, 42, 132, 429].map (Value.int .i64)).toArray 3) := ⟨_, rfl⟩
  rw [← hwa] at cc FA
  have HWA : Hid (wa = w1.alloc (.cells #[.int .i64 0, .int .i64 1, .int .i64 1, .int .i64 2, .int .i64 5, .int .i64 14, .int .i64 42, .int .i64 132, .int .i64 429] 3)) := Lib.hid hwa
  have HF2 := Lib.hid (HF1.out.trans FA)
  clear hwa hp0 hb FA HF1
  go_wp2_with fail
  rw [← HWA.out]
  refine (list_id _ _).mono ?_
  rintro _ _ ⟨rfl, rfl⟩
  go_wp2_with fail
  refine (HTR.out wa).mono ?_
  rintro _ w2 ⟨l, lc, rfl, hlc, hI, F2⟩
  have HI := Lib.hid hI
  have HF3 := Lib.hid (HF2.out.trans F2)
  have HLC := Lib.hid hlc
  clear hI F2 hlc cc HF2 HWA
  go_wp2_with fail
  refine (HVA.out w2 l lc HLC.out HI.out).mono ?_
  rintro _ w3 ⟨rfl, F3⟩
  have HI3 := Lib.hid (HI.out.fut F3)
  have HF4 := Lib.hid (HF3.out.trans F3)
  clear F3 HF3 HI
  go_wp2_with fail
  refine (HDP.out w3 l lc HLC.out HI3.out).mono ?_
  rintro _ w4 ⟨g, gc, rfl, p1, p2, p3, p4, F4⟩
  have HR := Lib.hid p3
  have HG := Lib.hid p2
  have HGW : Hid (w.heap.size ≤ g) := Lib.hid (Nat.le_trans (RowKit.Below.size HF4.out) p1)
  have HI4 := Lib.hid (HI3.out.fut F4)
  have HF5 := Lib.hid (HF4.out.trans F4)
  clear p1 p2 p3 p4 F4 HI3 HF4
  go_wp2_with fail
  go_loopw [69] (fun iv wr => ∃ (i : Nat), i ≤ n ∧ iv = .int .i64 (i : Nat) ∧ w4 = wr) (fun iv _ => n - (intOf iv).toNat)
  case atStart => exact ⟨0, by omega, rfl, rfl⟩
  case round =>
    obtain ⟨i, hi, rfl, rfl⟩ := hrel
    by_cases hil : i < n
    · have hix : (i : Int) < n := by omega
      have c1 := HR.out.1 i (by rw [HDl.out]; exact hil)
      have hdn := HDN.out i hil
      generalize nth DD i = x at *
      have i1 : ¬ x < 0 := by omega
      have i2 : ¬ 7 < x := by omega
      have hwi : IntKind.i64.wrap ((i : Int) + 1) = ((i + 1 : Nat) : Int) := by rw [IntWalk.i64_in _ ⟨by omega, by omega⟩]; omega
      go_wp2_with fail
      go_roundw
      case rel => first
        | exact ⟨i + 1, by omega, rfl, rfl⟩
        | exact ⟨i + 1, by omega, rfl, trivial⟩
      case measure => simp [intOf]; omega
    · obtain rfl : i = n := by omega
      go_wp2_with fail
      refine (HMD.out w4 _ gc (HR.out.ints HG.out)).mono ?_
      rintro _ w5 ⟨l5, c5, rfl, _, I5, F5⟩
      have HI5 := Lib.hid I5
      have HF6 := Lib.hid F5
      clear I5 F5
      go_wp2_with fail
      refine (HSA.out w5 _ _ c5 lc HI5.out (HI4.out.fut HF6.out)).mono ?_
      rintro _ w6 ⟨rfl, F6⟩
      have HF7 := Lib.hid (HF6.out.trans F6)
      clear F6
      go_wp2_with fail
      refine (HME.out w6 _ gc ((HR.out.ints HG.out).fut HF7.out)).mono ?_
      rintro _ _ ⟨rfl, rfl⟩
      have HR7 := Lib.hid (HR.out.fut HF7.out HG.out)
      have HG7 : Hid (g < w6.heap.size) := Lib.hid (Nat.lt_of_lt_of_le HG.out (RowKit.Below.size HF7.out))
      have HF8 := Lib.hid (HF5.out.trans HF7.out)
      clear HR HG HF7 HF6 HI5 HF5
      go_wp2_with fail
      clear HI4
      go_loopw [1, 98] (fun xv jv wr => ∃ (j x : Nat) (L : List Int), j ≤ 2 ∧ jv = .int .i64 (j : Nat) ∧ xv = .int .u16 (x : Nat) ∧ x ≤ 65535 ∧ Hid (L.Perm DD) ∧ Hid (RowN wr g L) ∧ Hid (g < wr.heap.size) ∧ Hid (Fut w wr)) (fun _ jv _ => 2 - (intOf jv).toNat)
      case atStart => exact ⟨0, q0, DD, by omega, rfl, rfl, by omega, Lib.hid (List.Perm.refl _), HR7, HG7, HF8⟩
      case round =>
        clear HR7 HG7 HF8
        obtain ⟨j, x, L, hj, rfl, rfl, hx, HP, HR, HG, HF⟩ := hrel
        by_cases hj2 : j < 2
        · have hjx : (j : Int) < 2 := by omega
          have hwj : IntKind.i64.wrap ((j : Int) + 1) = ((j + 1 : Nat) : Int) := by rw [IntWalk.i64_in _ ⟨by omega, by omega⟩]; omega
          obtain ⟨y, hy, hy2⟩ := u16_up x hx
          have HLl : Hid (L.length = i) := Lib.hid (by rw [HP.out.length_eq, HDl.out])
          have HSO := Lib.hid (sort_call g i gc L HLl.out (by omega) wr HR.out HG.out)
          go_wp2_with fail
          refine HSO.out.mono ?_
          rintro _ z1 ⟨rfl, r1, O1⟩
          have HR1 := Lib.hid r1
          have HS1 : Hid (g < z1.heap.size) := Lib.hid (Nat.lt_of_lt_of_le HG.out O1.1)
          have HF1 := Lib.hid (Only.fut HF.out O1 HGW.out)
          have HP1 : Hid ((srtI L).Perm DD) := Lib.hid ((srt_perm L).trans HP.out)
          clear r1 O1 HSO
          have hx2 : (x : Int) % 2 = 0 ∨ (x : Int) % 2 = 1 := by omega
          rcases hx2 with hx2 | hx2
          · have HPZ := HP1
            have HRZ := HR1
            have HGZ := HS1
            have HFZ := HF1
            have HSZ : Hid ((srtI L).Pairwise (· ≤ ·) ∨ (srtI L).Pairwise (· ≥ ·)) := Lib.hid (.inl (srt_le L))
            have HZl : Hid ((srtI L).length = i) := Lib.hid (by rw [HPZ.out.length_eq, HDl.out])
            obtain ⟨u, _, _, u3, u4, u5, u6, u7⟩ := HOM.out (srtI L) HPZ.out HSZ.out
            obtain ⟨U, hU⟩ : ∃ U, u.lst 0 = U := ⟨_, rfl⟩
            rw [hU] at u4 u5 u6 u7
            have hUl : U.length = m := by have := HM.out; omega
            have HMD2 := Lib.hid (ex_K (made43_any (some ⟨g, 0, none⟩) gc (srtI L) z1 (HRZ.out.ints HGZ.out) (by have := HZl.out; omega)) 0 U u3 u4)
            have HDP2 := Lib.hid (fun W l cc (h1 : U.length ≤ cc) h2 => dep_call i l cc U (srtI L) W h2 h1 (by omega) u5 u6 HZl.out (by omega))
            rw [HZl.out, hUl] at HMD2
            rw [hUl] at HDP2
            have HSA2 := Lib.hid (fun W => same_call i (srtI L) HZl.out (by omega) W)
            clear u3 u4 u5 u6 u7 hU hUl
            go_wp2_with fail
            refine HMD2.out.mono ?_
            rintro _ y1 ⟨l1, c1, rfl, hc1, I1, G1⟩
            have HI1 := Lib.hid I1
            have HC1 := Lib.hid hc1
            have HG1 := Lib.hid G1
            clear I1 hc1 G1
            go_wp2_with fail
            refine (HDP2.out y1 l1 c1 HC1.out HI1.out).mono ?_
            rintro _ y2 ⟨gg, cg, rfl, _, r2, r3, _, G2⟩
            have HI2 := Lib.hid (r3.ints r2)
            have HG2 := Lib.hid (HG1.out.trans G2)
            clear r2 r3 G2
            go_wp2_with fail
            refine (HSA2.out y2 _ _ cg gc HI2.out ((HRZ.out.ints HGZ.out).fut HG2.out)).mono ?_
            rintro _ y3 ⟨rfl, G3⟩
            have HG3 := Lib.hid (HG2.out.trans G3)
            have HR3 := Lib.hid (HRZ.out.fut HG3.out HGZ.out)
            have HS3 : Hid (g < y3.heap.size) := Lib.hid (Nat.lt_of_lt_of_le HGZ.out (RowKit.Below.size HG3.out))
            have HF3 := Lib.hid (HFZ.out.trans HG3.out)
            clear G3
            go_wp2_with fail
            go_roundw
            case rel => first
              | exact ⟨j + 1, y, srtI L, by omega, rfl, rfl, hy2, HPZ, HR3, HS3, HF3⟩
              | ((repeat apply Exists.intro); exact ⟨⟨j + 1, y, srtI L, by omega, rfl, rfl, hy2, HPZ, HR3, HS3, HF3⟩, rfl⟩)
            case measure => simp [intOf]; omega
          · have HRV := Lib.hid (rev_call g i gc (srtI L) (by rw [srt_len, HLl.out]) (by omega) z1 HR1.out)
            go_wp2_with fail
            refine HRV.out.mono ?_
            rintro _ z2 ⟨rfl, r2, O2⟩
            have HRZ := Lib.hid r2
            have HGZ : Hid (g < z2.heap.size) := Lib.hid (Nat.lt_of_lt_of_le HS1.out O2.1)
            have HFZ := Lib.hid (Only.fut HF1.out O2 HGW.out)
            have HPZ : Hid ((srtI L).reverse.Perm DD) := Lib.hid ((List.reverse_perm _).trans HP1.out)
            have HSZ : Hid ((srtI L).reverse.Pairwise (· ≤ ·) ∨ (srtI L).reverse.Pairwise (· ≥ ·)) := Lib.hid (.inr (desc_rev L))
            clear r2 O2 HRV
            have HZl : Hid (((srtI L).reverse).length = i) := Lib.hid (by rw [HPZ.out.length_eq, HDl.out])
            obtain ⟨u, _, _, u3, u4, u5, u6, u7⟩ := HOM.out ((srtI L).reverse) HPZ.out HSZ.out
            obtain ⟨U, hU⟩ : ∃ U, u.lst 0 = U := ⟨_, rfl⟩
            rw [hU] at u4 u5 u6 u7
            have hUl : U.length = m := by have := HM.out; omega
            have HMD2 := Lib.hid (ex_K (made43_any (some ⟨g, 0, none⟩) gc ((srtI L).reverse) z2 (HRZ.out.ints HGZ.out) (by have := HZl.out; omega)) 0 U u3 u4)
            have HDP2 := Lib.hid (fun W l cc (h1 : U.length ≤ cc) h2 => dep_call i l cc U ((srtI L).reverse) W h2 h1 (by omega) u5 u6 HZl.out (by omega))
            rw [HZl.out, hUl] at HMD2
            rw [hUl] at HDP2
            have HSA2 := Lib.hid (fun W => same_call i ((srtI L).reverse) HZl.out (by omega) W)
            clear u3 u4 u5 u6 u7 hU hUl
            go_wp2_with fail
            refine HMD2.out.mono ?_
            rintro _ y1 ⟨l1, c1, rfl, hc1, I1, G1⟩
            have HI1 := Lib.hid I1
            have HC1 := Lib.hid hc1
            have HG1 := Lib.hid G1
            clear I1 hc1 G1
            go_wp2_with fail
            refine (HDP2.out y1 l1 c1 HC1.out HI1.out).mono ?_
            rintro _ y2 ⟨gg, cg, rfl, _, r2, r3, _, G2⟩
            have HI2 := Lib.hid (r3.ints r2)
            have HG2 := Lib.hid (HG1.out.trans G2)
            clear r2 r3 G2
            go_wp2_with fail
            refine (HSA2.out y2 _ _ cg gc HI2.out ((HRZ.out.ints HGZ.out).fut HG2.out)).mono ?_
            rintro _ y3 ⟨rfl, G3⟩
            have HG3 := Lib.hid (HG2.out.trans G3)
            have HR3 := Lib.hid (HRZ.out.fut HG3.out HGZ.out)
            have HS3 : Hid (g < y3.heap.size) := Lib.hid (Nat.lt_of_lt_of_le HGZ.out (RowKit.Below.size HG3.out))
            have HF3 := Lib.hid (HFZ.out.trans HG3.out)
            clear G3
            go_wp2_with fail
            go_roundw
            case rel => first
              | exact ⟨j + 1, y, (srtI L).reverse, by omega, rfl, rfl, hy2, HPZ, HR3, HS3, HF3⟩
              | ((repeat apply Exists.intro); exact ⟨⟨j + 1, y, (srtI L).reverse, by omega, rfl, rfl, hy2, HPZ, HR3, HS3, HF3⟩, rfl⟩)
            case measure => simp [intOf]; omega
        · obtain rfl : j = 2 := by omega
          have HWK := Lib.hid (works_any wr)
          go_wp2_with fail
          refine HWK.out.mono ?_
          rintro _ y9 ⟨rfl, F9⟩
          go_wp2_with fail
          go_ret
          exact ⟨rfl, HF.out.trans F9⟩
      
end Go.Proofs.Ytjapconhehdcjaa
