/- SieveAsked 13 -/
import Derived.Test.YtjapconhehdcjaaUH
import Derived.Test.YtjapconhehdcjaaVA
import Derived.Deep.DeepCutAuto
import Derived.Deep.AppendLies
namespace Go.Proofs.Ytjapconhehdcjaa
open Go.RowKit Go.Sort
theorem ex_N {f : FuncId} {args : Array Value} {w : World} {r : Int} {L : List Int} (h : Calls Try.prog f args w fun e w' => TupL r L w e w') (r0 : Int) (L0 : List Int) (N : Nat) (hr : r = r0) (hL : L = L0) (hN : L0.length = N) : Calls Try.prog f args w fun e w' => ∃ l c, e = .returned (.tuple #[.slice l N c, .int .i64 r0]) ∧ IntsAt w' l L0 ∧ Fut w w' := by
  subst hr; subst hL; subst hN; exact h
theorem pth_cons {low kd : Nat} {u : Sv.Tr} {s : Int} {L : List Int} (h : s :: L = Sv.pth low u kd) (hk : low ≤ kd ∧ kd < low + u.size) : ∃ x y, u = .node x y ∧ s = ((low + x.size - 1 : Nat) : Int) ∧ L = (if kd < low + x.size then Sv.pth low x kd else Sv.pth (low + x.size) y kd) := by
  cases u with
  | leaf => rw [Sv.pth] at h; cases h
  | node x y =>
    rw [Sv.pth] at h
    injection h with h1 h2
    exact ⟨x, y, rfl, h1, h2⟩
theorem pth_nil {low kd : Nat} {u : Sv.Tr} (h : [] = Sv.pth low u kd) : u = .leaf := by
  cases u with
  | leaf => rfl
  | node x y => rw [Sv.pth] at h; cases h
set_option maxRecDepth 100000 in
set_option maxHeartbeats 8000000 in
theorem law13_any (k0 q0 o0 : Nat) (hk : k0 < 256) (hq : q0 < 65536) (ho : o0 < 256) (w : World) :
    Calls Try.prog 13 #[.int .u8 (k0 : Nat), .int .u16 (q0 : Nat), .int .u8 (o0 : Nat)] w fun e w' => e = .returned (.bool true) ∧ Fut w w' := by
  obtain ⟨n, hn⟩ : ∃ n : Nat, 1 + (k0 : Int) % 8 = (n : Int) := ⟨1 + k0 % 8, by omega⟩
  have hn1 : 1 ≤ n ∧ n ≤ 8 := by omega
  obtain ⟨c, hc⟩ : ∃ c, catN n = c := ⟨_, rfl⟩
  have hcp := cat_pos n hn1.1 hn1.2
  rw [hc] at hcp
  obtain ⟨q, hq1⟩ : ∃ q : Nat, (q0 : Int) % (c : Int) = (q : Int) := ⟨q0 % c, by simp⟩
  have hqc : q < c := by
    have := Int.emod_lt_of_pos (q0 : Int) (show (0 : Int) < c by omega)
    omega
  obtain ⟨kd, hkd⟩ : ∃ kd : Nat, (o0 : Int) % (n : Int) = (kd : Int) := ⟨o0 % n, by simp⟩
  have hkn : kd < n := by
    have := Int.emod_lt_of_pos (o0 : Int) (show (0 : Int) < n by omega)
    omega
  obtain ⟨t, _, hts, hC, hE⟩ := tree_num n q hn1.1 hn1.2 (by rw [hc]; exact hqc)
  have hA1 := asked_tree t (by omega) kd (by omega)
  have hA2 := asked_out t (by omega)
  have hV := valid_tree t (by omega)
  have hD := depths_tree t (by omega)
  have hpl := Sv.pth_len t 0 kd (by omega) (by omega)
  rw [hts] at hA1 hA2 hV hD
  obtain ⟨T, hT⟩ : ∃ T, t.lst 0 = T := ⟨_, rfl⟩
  obtain ⟨m, hm⟩ : ∃ m : Nat, (n : Int) - 1 = (m : Int) := ⟨n - 1, by omega⟩
  have hTl : T.length = m := by rw [← hT, lst_len']; omega
  obtain ⟨L, hL⟩ : ∃ L, Sv.pth 0 t kd = L := ⟨_, rfl⟩
  obtain ⟨DD, hDD⟩ : ∃ DD, castL t.dep = DD := ⟨_, rfl⟩
  rw [hT] at hE hA1 hA2 hV hD
  rw [hL] at hA1 hpl
  rw [hDD] at hD
  have hDl : DD.length = n := by rw [← hDD, castL_len, Sv.dep_len, hts]
  have hDk : nth DD kd = (L.length : Int) := by
    rw [← hDD, nth_eq]
    unfold castL
    rw [List.getElem?_map]
    rw [Nat.sub_zero] at hpl
    rw [hpl]; rfl
  have hLl : L.length ≤ 8 := by
    have := Sv.dep_lt t L.length (List.mem_of_getElem? hpl)
    omega
  have HTR := Lib.hid (fun W => ex_K (treeW (n : Nat) (q : Nat) W) 0 T hC hE)
  have HAS := Lib.hid (fun W l cc (h1 : T.length ≤ cc) h2 => ex_L (asked39_any (n : Nat) l cc T (kd : Nat) W h2 h1 (by omega)) 0 L hA1.1 hA1.2)
  have HAO := Lib.hid (fun W l cc (h1 : T.length ≤ cc) h2 => ex_L (asked39_any (n : Nat) l cc T (n : Nat) W h2 h1 (by omega)) 2 [] hA2.1 hA2.2)
  have HDP := Lib.hid (fun W l cc (h1 : T.length ≤ cc) h2 => ex_N (depths37_any (n : Nat) l cc T W h2 h1 (by omega)) 0 DD n hV hD hDl)
  rw [hTl] at HTR HAS HAO HDP
  have HCN : Hid (nth [0, 1, 1, 2, 5, 14, 42, 132, 429] n = (c : Int)) := Lib.hid (by rw [cat_nth n hn1.1 hn1.2, hc])
  have HTS := Lib.hid hts
  have HTT := Lib.hid hT
  have HLL := Lib.hid hL
  have HTl := Lib.hid hTl
  have HDk := Lib.hid hDk
  have HDl := Lib.hid hDl
  have hc0 : ¬ (c : Int) = 0 := by omega
  have hc00 : ¬ c = 0 := by omega
  have hn0 : ¬ (n : Int) = 0 := by omega
  have hn00 : ¬ n = 0 := by omega
  have hn9 : (n : Int) < 9 := by omega
  have hknx : (kd : Int) < n := by omega
  have hLx : (L.length : Int) ≤ 8 := by omega
  have hmn : m + 1 = n := by omega
  have hwm : IntKind.i64.wrap ((n : Int) - 1) = (m : Int) := by rw [hm]; exact IntWalk.i64_in _ ⟨by omega, by omega⟩
  clear hT hL hDD hTl hDl hDk hE hC hA1 hA2 hV hD hpl hts hc hcp
  go_enter Try.func13, Try.ntmps13
  go_upto_region 2 with fail
  have hp0 := ints_new w [0, 1, 1, 2, 5, 14, 42, 132, 429]
  obtain ⟨b, o, e, hb, cc⟩ := hp0 n (by simp; omega)
  simp only [Option.some.injEq, Addr.mk.injEq, and_true] at e
  obtain ⟨rfl, rfl⟩ := e
  rw [HCN.out, Nat.zero_add] at cc
  have FA : Fut w (w.alloc (.cells ([0, 1, 1, 2, 5, 14, 42, 132, 429].map (Value.int .i64)).toArray 3)) := Fut.alloc _ _
  obtain ⟨wa, hwa⟩ : ∃ wa, wa = w.alloc (.cells ([0, 1, 1, 2, 5, 14, 42, 132, 429].map (Value.int .i64)).toArray 3) := ⟨_, rfl⟩
  rw [← hwa] at cc FA
  have HWA : Hid (wa = w.alloc (.cells #[.int .i64 0, .int .i64 1, .int .i64 1, .int .i64 2, .int .i64 5, .int .i64 14, .int .i64 42, .int .i64 132, .int .i64 429] 3)) := Lib.hid hwa
  clear hwa hp0 hb
  go_wp2_with fail
  rw [← HWA.out]
  refine (list_id _ _).mono ?_
  rintro _ _ ⟨rfl, rfl⟩
  go_upto_region 3 with fail
  clear cc
  go_wp2_with fail
  refine (HTR.out wa).mono ?_
  rintro _ w1 ⟨l, lc, rfl, hlc, hI, F1⟩
  have HI := Lib.hid hI
  have HF1 := Lib.hid (FA.trans F1)
  have HLC := Lib.hid hlc
  clear hI F1 FA hlc
  go_upto_region 5 with fail
  go_wp2_with fail
  refine (HAS.out w1 l lc HLC.out HI.out).mono ?_
  rintro _ w2 ⟨l2, c2, rfl, hI2, F2⟩
  have HI2 := Lib.hid hI2
  have HT2 := Lib.hid (HI.out.fut F2)
  have HF2 := Lib.hid (HF1.out.trans F2)
  clear hI2 F2
  go_wp2_with fail
  refine (HDP.out w2 l lc HLC.out HT2.out).mono ?_
  rintro _ w3 ⟨l3, c3, rfl, hI3, F3⟩
  have HI3 := Lib.hid hI3
  have HT3 := Lib.hid (HT2.out.fut F3)
  have HL3 := Lib.hid (HI2.out.fut F3)
  have HF3 := Lib.hid (HF2.out.trans F3)
  clear hI3 F3
  go_wp2_with fail
  refine (HAO.out w3 l lc HLC.out HT3.out).mono ?_
  rintro _ w4 ⟨l4, c4, rfl, _, F4⟩
  have HD4 := Lib.hid (HI3.out.fut F4)
  have HT4 := Lib.hid (HT3.out.fut F4)
  have HL4 := Lib.hid (HL3.out.fut F4)
  have HF4 := Lib.hid (HF3.out.trans F4)
  clear F4
  obtain ⟨b3, o3, rfl, hb3, cd⟩ := HD4.out kd (by rw [HDl.out]; exact hkn)
  rw [HDk.out] at cd
  go_upto_region 10 with fail
  clear cd hb3
  obtain ⟨N, hN⟩ : ∃ N, L.length = N := ⟨_, rfl⟩
  have HNL := Lib.hid hN
  rw [hN] at hLl hLx ⊢
  have HIL := Lib.hid (fun i (hi : i < N) W (k : Fut w4 W) => (HL4.out.fut k) i (by rw [hN]; exact hi))
  have HTI := Lib.hid (fun i (hi : i < m) W (k : Fut w4 W) => (HT4.out.fut k) i (by rw [HTl.out]; exact hi))
  clear hN hn hq1 hkd hm
  go_wp2_with fail
  go_loopw [18, 19, 20, 105] (fun lv hv av iv wr => ∃ (i low hi at' : Nat) (u : Sv.Tr) (rest : List Int), i ≤ N ∧ iv = .int .i64 (i : Nat) ∧ lv = .int .i64 (low : Nat) ∧ hv = .int .i64 (hi : Nat) ∧ av = .int .i64 (at' : Nat) ∧ hi < 100 ∧ at' < 100 ∧ Hid (hi + 1 = low + u.size ∧ low ≤ kd ∧ kd ≤ hi) ∧ Hid (T.drop at' = u.lst low ++ rest) ∧ Hid (L.drop i = Sv.pth low u kd) ∧ w4 = wr) (fun _ _ _ iv _ => N - (intOf iv).toNat)
  case atStart => exact ⟨0, 0, m, 0, t, [], by omega, rfl, rfl, rfl, rfl, by omega, by omega, Lib.hid (by rw [HTS.out]; omega), Lib.hid (by rw [HTT.out]; simp), Lib.hid (by rw [HLL.out]; rfl), rfl⟩
  case round =>
    obtain ⟨i, low, hi, at', u, rest, hin, rfl, rfl, rfl, rfl, hhi, hat, HB, HTD, HLD, rfl⟩ := hrel
    by_cases hil : i < N
    · have hix : (i : Int) < N := by omega
      have h1 := HLD.out
      rw [nth_drop L i (by rw [HNL.out]; exact hil)] at h1
      obtain ⟨x, y, rfl, hs, hL2⟩ := pth_cons h1 (by have := HB.out; omega)
      have hx1 := Sv.size_pos x
      have hy1 := Sv.size_pos y
      have h2 := HTD.out
      rw [Sv.Tr.lst, List.cons_append] at h2
      have hB := HB.out
      rw [Sv.Tr.size] at hB
      have hlen : at' < m := by
        have e := congrArg List.length h2
        rw [List.length_drop, HTl.out] at e
        simp only [List.length_cons, List.length_append] at e
        have e2 := Sv.lst_len low x
        have e3 := Sv.lst_len (low + x.size) y
        omega
      rw [nth_drop T at' (by rw [HTl.out]; exact hlen)] at h2
      injection h2 with h3 h4
      obtain ⟨sN, hsN⟩ : ∃ sN, sN = low + x.size - 1 := ⟨_, rfl⟩
      rw [← hsN] at hs h3
      obtain ⟨b1, o1, rfl, hb1, e1⟩ := HIL.out i hil w4 Fut.rfl
      obtain ⟨b2, o2, rfl, hb2, e2⟩ := HTI.out at' hlen w4 Fut.rfl
      rw [hs] at e1
      rw [h3] at e2
      have hlx : (at' : Int) < m := by omega
      have hl0 : ¬ ((m : Int) ≤ at') := by omega
      have hs1 : ¬ ((sN : Int) < low) := by omega
      have hs2 : ¬ ((hi : Int) ≤ sN) := by omega
      have hwi : IntKind.i64.wrap ((i : Int) + 1) = ((i + 1 : Nat) : Int) := by rw [IntWalk.i64_in _ ⟨by omega, by omega⟩]; omega
      clear h1 hs h3
      by_cases hks : kd ≤ sN
      · have hkx : (kd : Int) ≤ sN := by omega
        have hw1 : IntKind.i64.wrap ((at' : Int) + 1) = ((at' + 1 : Nat) : Int) := by rw [IntWalk.i64_in _ ⟨by omega, by omega⟩]; omega
        have HB2 : Hid (sN + 1 = low + x.size ∧ low ≤ kd ∧ kd ≤ sN) := Lib.hid (by omega)
        have HT2 : Hid (T.drop (at' + 1) = x.lst low ++ (y.lst (low + x.size) ++ rest)) := Lib.hid (by rw [h4]; simp)
        have HL2 : Hid (L.drop (i + 1) = Sv.pth low x kd) := Lib.hid (by rw [hL2, if_pos (by omega)])
        have hb99 : sN < 100 ∧ at' + 1 < 100 := by omega
        clear hL2 h4 hsN hB
        go_wp2_with fail
        go_roundw
        case rel => first
          | exact ⟨i + 1, low, sN, at' + 1, x, _, by omega, rfl, rfl, rfl, rfl, hb99.1, hb99.2, HB2, HT2, HL2, rfl⟩
          | exact ⟨i + 1, low, sN, at' + 1, x, _, by omega, rfl, rfl, rfl, rfl, hb99.1, hb99.2, HB2, HT2, HL2, trivial⟩
        case measure => simp [intOf]; omega
      · have hkx : ¬ (kd : Int) ≤ sN := by omega
        obtain ⟨l2n, hl2⟩ : ∃ l2n, l2n = low + x.size := ⟨_, rfl⟩
        have hw1 : IntKind.i64.wrap (1 + (sN : Int)) = 1 + (sN : Int) := IntWalk.i64_in _ ⟨by omega, by omega⟩
        have hw2 : IntKind.i64.wrap (1 + (sN : Int) - (low : Int)) = (x.size : Int) := by rw [IntWalk.i64_in _ ⟨by omega, by omega⟩]; omega
        have hw3 : IntKind.i64.wrap ((at' : Int) + (x.size : Int)) = ((at' + x.size : Nat) : Int) := by rw [IntWalk.i64_in _ ⟨by omega, by omega⟩]; omega
        have hw4 : IntKind.i64.wrap ((sN : Int) + 1) = (l2n : Int) := by rw [IntWalk.i64_in _ ⟨by omega, by omega⟩]; omega
        have HB2 : Hid (hi + 1 = l2n + y.size ∧ l2n ≤ kd ∧ kd ≤ hi) := Lib.hid (by omega)
        have HT2 : Hid (T.drop (at' + x.size) = y.lst l2n ++ rest) := Lib.hid (by
          have e : T.drop (at' + x.size) = (T.drop (at' + 1)).drop (x.lst low).length := by rw [List.drop_drop]; congr 1; have := Sv.lst_len low x; omega
          rw [e, h4, List.append_assoc, List.drop_left, hl2])
        have HL2 : Hid (L.drop (i + 1) = Sv.pth l2n y kd) := Lib.hid (by rw [hL2, if_neg (by omega), hl2])
        have hb99 : at' + x.size < 100 := by omega
        generalize x.size = xs at *
        clear hL2 h4 hsN hB hl2
        go_wp2_with fail
        go_roundw
        case rel => first
          | exact ⟨i + 1, l2n, hi, at' + xs, y, rest, by omega, rfl, rfl, rfl, rfl, hhi, hb99, HB2, HT2, HL2, rfl⟩
          | exact ⟨i + 1, l2n, hi, at' + xs, y, rest, by omega, rfl, rfl, rfl, rfl, hhi, hb99, HB2, HT2, HL2, trivial⟩
        case measure => simp [intOf]; omega
    · obtain rfl : i = N := by omega
      have h1 := HLD.out
      rw [List.drop_eq_nil_of_le (by rw [HNL.out]; exact Nat.le_refl _)] at h1
      have hu := pth_nil h1
      have hB := HB.out
      rw [hu, Sv.Tr.size] at hB
      obtain rfl : low = kd := by omega
      obtain rfl : hi = low := by omega
      have HWK := Lib.hid (works_any w4)
      clear h1 hu hB
      go_wp2_with fail
      refine HWK.out.mono ?_
      rintro _ w5 ⟨rfl, F5⟩
      go_wp2_with fail
      go_ret
      exact ⟨rfl, HF4.out.trans F5⟩
end Go.Proofs.Ytjapconhehdcjaa
