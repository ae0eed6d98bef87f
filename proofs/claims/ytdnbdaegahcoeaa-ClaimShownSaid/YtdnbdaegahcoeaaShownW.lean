/- Layer 1: what ClaimShown answers. -/
import Derived.Test.YtdnbdaegahcoeaaGarmB
namespace Go.Proofs.Ytdnbdaegahcoeaa
open Go.RowKit Go.Sort
theorem ints_drop {w : World} {b off : Nat} {zs : List Int} (h : IntsAt w (some ⟨b, off, none⟩) zs) : IntsAt w (some ⟨b, off + 1, none⟩) (zs.drop 1) := by
  intro j hj
  rw [List.length_drop] at hj
  obtain ⟨b', off', e, h1, h2⟩ := h (j + 1) (by omega)
  injection e with e
  injection e with e1 e2
  subst e1 e2
  refine ⟨b, off + 1, rfl, h1, ?_⟩
  rw [show off + 1 + j = off + (j + 1) by omega, h2, nth_eq, nth_eq, List.getElem?_drop, show 1 + j = j + 1 by omega]
theorem vld_tail (x : Int) (a c : Option Addr) (cap dap : Nat) (zs gs : List Int) (w : World) (h : Full5 x zs) (hl : gs.length = zs.length) (hA : IntsAt w a zs) (hG : IntsAt w c (gs.drop 1)) :
    Calls Try.prog 34 #[.int .i64 x, .slice a zs.length cap, .slice c (zs.length - 1) dap] w fun e w' => e = .returned (.int .i64 5) ∧ Fut w w' := by
  have h5 := h.2.1
  have hd : (gs.drop 1).length = zs.length - 1 := by rw [List.length_drop, hl]
  have := valid_any x a c cap dap zs (gs.drop 1) w (by omega) (by omega) hA hG
  rw [hd, vld_short h hd] at this
  exact this
set_option maxRecDepth 100000 in
set_option maxHeartbeats 8000000 in
theorem shown_any (n a b c d e x p0 p1 p2 p3 p4 : Int) (w : World) (hn : 0 ≤ n ∧ n ≤ 255) (ha : 0 ≤ a ∧ a ≤ 65535) (hb : 0 ≤ b ∧ b ≤ 65535) (hc : 0 ≤ c ∧ c ≤ 65535) (hd : 0 ≤ d ∧ d ≤ 65535) (he : 0 ≤ e ∧ e ≤ 65535) (hx : 0 ≤ x ∧ x ≤ 65535)
    (hy : ∀ j, 0 ≤ nth [p0, p1, p2, p3, p4] j ∧ nth [p0, p1, p2, p3, p4] j ≤ 4294967295) :
    Calls Try.prog 7 #[qv n a b c d e x, ag32 p0 p1 p2 p3 p4] w fun e w' => e = .returned (.bool true) ∧ Fut w w' := by
  have hkk : 1 + n % 5 = (((1 + n % 5).toNat : Nat) : Int) := by omega
  have hcs : ∀ j, 0 ≤ nth [a, b, c, d, e] j ∧ nth [a, b, c, d, e] j ≤ 65535 := by
    intro j
    match j with
    | 0 => exact ha
    | 1 => exact hb
    | 2 => exact hc
    | 3 => exact hd
    | 4 => exact he
    | j + 5 => simp [nth_eq]
  obtain ⟨hk1, hk2, _⟩ := drawn_full 1000 (by decide) n x [a, b, c, d, e] _ rfl hkk
  have HM := Lib.hid (fun w => made_any n a b c d e x 1000 [a, b, c, d, e] _ w rfl hn (by decide) hkk hcs hx)
  generalize hk : (1 + n % 5).toNat = k at *
  generalize ([a, b, c, d, e].map (dr 1000)).take k = zs at *
  generalize x % (zs.sum + 1) = x' at *
  clear hk hcs hkk
  subst hk1
  have HY := Lib.hid hy
  have HK := Lib.hid hk2
  have HD := Lib.hid (out_isDiv zs [p0, p1, p2, p3, p4] x' hk2)
  have hz := hk2.1
  have hz5 := hk2.2.1
  have hsum := full_sum hk2
  have hxs := hk2.2.2.2
  clear hk2 hy ha hb hc hd he hx hn
  have hbox : ∀ (w : World) (u v : Obj), Fut w ((w.alloc u).alloc v) := fun w u v => (Fut.alloc w u).trans (Fut.alloc _ v)
  go_enter Try.func7, Try.ntmps7
  generalize hO : outF zs [p0, p1, p2, p3, p4] x' zs.length = O at *
  have HOO := Lib.hid hO
  clear hO
  go_wp2_with fail
  refine (HM.out _).mono ?_
  rintro _ wa ⟨l, cap, rfl, hA, F⟩
  have F1 : Fut w wa := (hbox w _ _).trans F
  obtain ⟨k0, k1, k2, k3, k4⟩ := box5_new _ _ _ p0 p1 p2 p3 p4 F
  clear HM F
  go_wp2_with fail
  refine (spread_any x' l cap zs [p0, p1, p2, p3, p4] p0 p1 p2 p3 p4 _ HK.out rfl HY.out hA).mono ?_
  rintro _ wb ⟨v, rfl, hO, hB⟩
  rw [HOO.out] at hO
  have F : Fut wa wb := hB
  obtain ⟨go, co1, rfl, hgb, hgl, hgc, hgf, hcap, _⟩ := own_set0 hO (by rw [HD.out.1]; omega)
  obtain ⟨_, _, e, ho1⟩ := hO.ints
  injection e with e _ e''
  subst e e''
  rw [HD.out.1] at hcap
  simp only [HD.out.1]
  clear hO hB k0 k1 k2 k3 k4 hgc hgf hgb
  replace hA := hA.fut F
  replace F1 := F1.trans F
  clear F
  obtain ⟨bl, off, rfl, hbl, hcl⟩ := hA.addr (by omega)
  have HA := Lib.hid hA
  have HO1 := Lib.hid ho1
  have HC0 := Lib.hid hcl
  obtain ⟨_, _, e, _, hco⟩ := ho1.addr (by rw [HD.out.1]; omega)
  injection e with e
  injection e with e1 e2
  subst e1 e2
  have HCO := Lib.hid hco
  have HN := Lib.hid (full_nth HK.out)
  have HG := Lib.hid (div_gt HK.out HD.out)
  have HF1 := Lib.hid F1
  clear hA ho1 hcl hco F1
  go_wp2_with fail
  go_loopw [26] (fun iv wr => ∃ k : Nat, k ≤ zs.length ∧ iv = .int .i64 k ∧ Hid (Fut wb wr)) (fun iv _ => zs.length - (intOf iv).toNat)
  case atStart => exact ⟨0, Nat.zero_le _, rfl, Lib.hid Fut.rfl⟩
  case round =>
    obtain ⟨k, hk, rfl, HW⟩ := hrel
    by_cases hlt : k < zs.length
    · have hkx : (k : Int) < zs.length := by omega
      obtain ⟨wo, rfl⟩ : ∃ wo : World, wo = wr := ⟨_, rfl⟩
      go_wp2_with fail
      go_loopw [30] (fun jv wr => ∃ j : Nat, j ≤ zs.length ∧ jv = .int .i64 j ∧ Hid (Fut wb wr)) (fun jv _ => zs.length - (intOf jv).toNat)
      case atStart => exact ⟨0, Nat.zero_le _, rfl, HW⟩
      case round =>
        obtain ⟨j, hj, rfl, HV⟩ := hrel
        clear HW
        by_cases hjt : j < zs.length
        · have hjx : (j : Int) < zs.length := by omega
          have z1 : wr.cell? ⟨bl, off + k, none⟩ = some (.int .i64 (nth zs k)) := (RowKit.Below.cell HV.out (p := ⟨bl, off + k, none⟩) hbl).trans (HC0.out k hlt)
          have z2 : wr.cell? ⟨bl, off + j, none⟩ = some (.int .i64 (nth zs j)) := (RowKit.Below.cell HV.out (p := ⟨bl, off + j, none⟩) hbl).trans (HC0.out j hjt)
          have g1 : wr.cell? ⟨go, k, none⟩ = some (.int .i64 (nth O k)) := (RowKit.Below.cell HV.out (p := ⟨go, k, none⟩) hgl).trans (by have := HCO.out k (by rw [HD.out.1]; exact hlt); rwa [Nat.zero_add] at this)
          have g2 : wr.cell? ⟨go, j, none⟩ = some (.int .i64 (nth O j)) := (RowKit.Below.cell HV.out (p := ⟨go, j, none⟩) hgl).trans (by have := HCO.out j (by rw [HD.out.1]; exact hjt); rwa [Nat.zero_add] at this)
          obtain ⟨zi0, zi1⟩ := HN.out k
          obtain ⟨zj0, zj1⟩ := HN.out j
          obtain ⟨gi0, gi1⟩ := HG.out k (by rw [HD.out.1]; exact hlt)
          obtain ⟨gj0, gj1⟩ := HG.out j (by rw [HD.out.1]; exact hjt)
          have HF := Lib.hid (fun W => gar_any (nth O k + nth O j) (120 * nth zs k) (120 * nth zs j) W ⟨by omega, by omega⟩ ⟨by omega, by omega⟩ ⟨by omega, by omega⟩)
          have HP : Hid (∀ q, Calls Try.prog 36 #[.int .i64 x', .slice (some ⟨bl, off, none⟩) zs.length cap, .slice (some ⟨go, 0, none⟩) zs.length co1, .int .i64 k, .int .i64 j] (wr.drewN q) fun e w' => e = .returned (.int .i64 (prv x' zs O k j)) ∧ Fut (wr.drewN q) w') := Lib.hid fun q => by
            have := proves_any x' k j (some ⟨bl, off, none⟩) (some ⟨go, 0, none⟩) cap co1 zs O (wr.drewN q) (by omega) (by rw [HD.out.1]; omega) ((HA.out.fut HV.out).fut (Fut.drewN _ _)) ((HO1.out.fut HV.out).fut (Fut.drewN _ _))
            rw [HD.out.1] at this
            exact this
          rw [prv_at HK.out HD.out k j hlt hjt] at HP
          by_cases e : k = j
          · subst e
            rw [if_pos rfl] at HP
            have hone' : garF (nth O k + nth O k) (120 * nth zs k) (120 * nth zs k) = 2 * nth O k := by unfold garF; omega
            rw [hone'] at HF
            clear hone' z2 g2 zj0 zj1 gj0 gj1
            generalize nth zs k = zi at *
            generalize nth O k = gi at *
            have w1 : IntKind.i64.wrap (gi + gi) = gi + gi := IntWalk.i64_in _ ⟨by omega, by omega⟩
            have w2 : IntKind.i64.wrap (120 * zi) = 120 * zi := IntWalk.i64_in _ ⟨by omega, by omega⟩
            have w4 : IntKind.i64.wrap (2 * gi) = 2 * gi := IntWalk.i64_in _ ⟨by omega, by omega⟩
            go_wp2_with fail
            go_quiet ((go_at_call 42; exact Calls.quiet_of_same ((HF.out _).mono fun _ _ h => ⟨h.1, h.2.symm⟩)))
            clear w1 w2 w4
            go_wp2_with fail
            refine (HP.out nq).mono ?_
            rintro _ wn ⟨rfl, F⟩
            have HX : Hid (Fut wb wn) := Lib.hid ((HV.out.trans (Fut.drewN _ nq)).trans F)
            clear F
            go_wp2
            go_roundw
            case rel => exact ⟨k + 1, by omega, by go_num, HX⟩
            case measure => simp [intOf]; omega
          · have e1 : ((k : Int) == (j : Int)) = false := by rw [beq_eq_false_iff_ne]; omega
            rw [if_neg e] at HP
            by_cases ho : oneB zs O k j = true
            · rw [if_pos ho] at HP
              have hone' : garF (nth O k + nth O j) (120 * nth zs k) (120 * nth zs j) = 2 * nth O k := by unfold oneB at ho; rw [decide_eq_true_eq] at ho; exact ho.symm
              rw [hone'] at HF
              clear hone' ho
              generalize nth zs k = zi at *
              generalize nth O k = gi at *
              generalize nth zs j = zj at *
              generalize nth O j = gj at *
              have w1 : IntKind.i64.wrap (gi + gj) = gi + gj := IntWalk.i64_in _ ⟨by omega, by omega⟩
              have w2 : IntKind.i64.wrap (120 * zi) = 120 * zi := IntWalk.i64_in _ ⟨by omega, by omega⟩
              have w3 : IntKind.i64.wrap (120 * zj) = 120 * zj := IntWalk.i64_in _ ⟨by omega, by omega⟩
              have w4 : IntKind.i64.wrap (2 * gi) = 2 * gi := IntWalk.i64_in _ ⟨by omega, by omega⟩
              go_wp2_with fail
              go_quiet ((go_at_call 42; exact Calls.quiet_of_same ((HF.out _).mono fun _ _ h => ⟨h.1, h.2.symm⟩)))
              clear w1 w2 w4 w3
              go_wp2_with fail
              refine (HP.out nq).mono ?_
              rintro _ wn ⟨rfl, F⟩
              have HX : Hid (Fut wb wn) := Lib.hid ((HV.out.trans (Fut.drewN _ nq)).trans F)
              clear F
              go_wp2
              go_roundw
              case rel => exact ⟨j + 1, by omega, by go_num, HX⟩
              case measure => simp [intOf]; omega
            · rw [if_neg ho] at HP
              have hone' : ¬ garF (nth O k + nth O j) (120 * nth zs k) (120 * nth zs j) = 2 * nth O k := by unfold oneB at ho; rw [decide_eq_true_eq] at ho; exact fun e => ho e.symm
              clear ho
              generalize nth zs k = zi at *
              generalize nth O k = gi at *
              generalize nth zs j = zj at *
              generalize nth O j = gj at *
              generalize garF (gi + gj) (120 * zi) (120 * zj) = G at *
              have w1 : IntKind.i64.wrap (gi + gj) = gi + gj := IntWalk.i64_in _ ⟨by omega, by omega⟩
              have w2 : IntKind.i64.wrap (120 * zi) = 120 * zi := IntWalk.i64_in _ ⟨by omega, by omega⟩
              have w3 : IntKind.i64.wrap (120 * zj) = 120 * zj := IntWalk.i64_in _ ⟨by omega, by omega⟩
              have w4 : IntKind.i64.wrap (2 * gi) = 2 * gi := IntWalk.i64_in _ ⟨by omega, by omega⟩
              have w5 : (2 * gi == G) = false := by rw [beq_eq_false_iff_ne]; exact fun e => hone' e.symm
              have w6 : (2 * gi != G) = true := by rw [bne, w5]; rfl
              clear hone'
              go_wp2_with fail
              go_quiet ((go_at_call 42; exact Calls.quiet_of_same ((HF.out _).mono fun _ _ h => ⟨h.1, h.2.symm⟩)))
              clear w1 w2 w4 w3 w5 w6
              go_wp2_with fail
              refine (HP.out nq).mono ?_
              rintro _ wn ⟨rfl, F⟩
              have HX : Hid (Fut wb wn) := Lib.hid ((HV.out.trans (Fut.drewN _ nq)).trans F)
              clear F
              go_wp2
              go_roundw
              case rel => exact ⟨j + 1, by omega, by go_num, HX⟩
              case measure => simp [intOf]; omega
        · go_wp2
          go_roundw
          case rel => exact ⟨k + 1, by omega, by go_num, HV⟩
          case measure => simp [intOf]; omega
    · obtain rfl : k = zs.length := by omega
      have FW : Fut wb wr := HW.out
      have hA := HA.out.fut FW
      have ho1 := HO1.out.fut FW
      have F1 : Fut w wr := HF1.out.trans FW
      have HCL := Lib.hid (clone_any go 0 zs.length co1 O wr (by rw [HD.out.1]; omega) (by omega) (fun j hj => (RowKit.Below.cell FW (p := ⟨go, 0 + j, none⟩) hgl).trans (HCO.out j hj)))
      clear HW FW HA HO1 HF1 HC0 HCO
      go_wp2_with fail
      refine HCL.out.mono ?_
      rintro _ wn ⟨v, rfl, hO, hB⟩
      rw [List.take_of_length_le (by rw [HD.out.1]; omega)] at hO
      have F : Fut wr wn := hB
      obtain ⟨gm, cm, rfl, hgb, hgml, hgc, hgf, _, hset⟩ := own_set0 hO (by rw [HD.out.1]; omega)
      have hB2 : ∀ v, RowKit.Below wr.heap.size wr (wn.setCell ⟨gm, 0, none⟩ v) := fun v => hB.setCell (p := ⟨gm, 0, none⟩) hgb v
      simp only [HD.out.1]
      have HM1 := Lib.hid (vld_more HK.out HD.out)
      have hg0 := HG.out 0 (by rw [HD.out.1]; omega)
      have hz0 := HN.out 0
      have hset' := hset (nth O 0 + 1)
      have HF2 : Hid (Fut wr (wn.setCell ⟨gm, 0, none⟩ (.int .i64 (nth O 0 + 1)))) := Lib.hid (hB2 _)
      have HST := Lib.hid hset'
      have HA := Lib.hid hA
      have HO1 := Lib.hid ho1
      have HF1 := Lib.hid F1
      clear hO hB hB2 hset hset' hgb F hA ho1 F1 HCL hgml
      go_wp2_with fail
      have hso : (O.set 0 (nth O 0 + 1)).length = zs.length := by rw [List.length_set]; exact HD.out.1
      generalize hws : wn.setCell ⟨gm, 0, none⟩ (.int .i64 (nth O 0 + 1)) = ws at *
      have hmc : ws.cell? ⟨gm, 0, none⟩ = some (.int .i64 (nth O 0 + 1)) := by
        obtain ⟨_, _, e, _, h⟩ := HST.out.addr (by rw [hso]; omega)
        injection e with e
        injection e with e1 e2
        subst e1 e2
        have := h 0 (by rw [hso]; omega)
        rw [nth_set0 _ _ (by rw [HD.out.1]; omega)] at this
        exact this
      have hzc : ws.cell? ⟨bl, off, none⟩ = some (.int .i64 (nth zs 0)) := by
        obtain ⟨_, _, e, _, h⟩ := (HA.out.fut HF2.out).addr (by omega)
        injection e with e
        injection e with e1 e2
        subst e1 e2
        exact h 0 (by omega)
      have HSO := Lib.hid hso
      clear hws hso hgc hgf
      generalize hml : O.set 0 (nth O 0 + 1) = M at *
      generalize nth zs 0 = z0 at *
      generalize nth O 0 = y0 at *
      have hz5' : (zs.length : Int) ≤ 5 := by omega
      have hz1' : (0 : Int) < zs.length := by omega
      have w1 : IntKind.i64.wrap (120 * z0) = 120 * z0 := IntWalk.i64_in _ ⟨by omega, by omega⟩
      have HA2 := Lib.hid (HA.out.fut HF2.out)
      have HO2 := Lib.hid (HO1.out.fut HF2.out)
      have HF3 := Lib.hid (HF1.out.trans HF2.out)
      have HPN := Lib.hid (fun (q : Nat) => proves_any x' 0 zs.length (some ⟨bl, off, none⟩) (some ⟨go, 0, none⟩) cap co1 zs O (ws.drewN q) (by omega) (by rw [HD.out.1]; omega) (HA2.out.fut (Fut.drewN _ _)) (HO2.out.fut (Fut.drewN _ _)))
      rw [prv_none HK.out HD.out, HD.out.1] at HPN
      clear hml HO1 HA HF1 HF2
      by_cases hgt : 120 * z0 < y0 + 1
      · have hd : decide (120 * z0 < y0 + 1) = true := by simpa using hgt
        rw [if_pos (by omega)] at HM1
        go_quiet (fail)
        clear w1 hmc hzc
        go_wp2_with fail
        refine (HPN.out _).mono ?_
        rintro _ v1 ⟨rfl, hB⟩
        have F : Fut _ v1 := hB
        have HA3 := (HA2.out.fut (Fut.drewN _ _)).fut F
        have HO3 := (HO2.out.fut (Fut.drewN _ _)).fut F
        have HM3 := (HST.out.fut (Fut.drewN _ _)).fut F
        have F1 := (HF3.out.trans (Fut.drewN _ _)).trans F
        clear F hB
        go_wp2_with fail
        refine (vld_len x' (some ⟨bl, off, none⟩) (some ⟨gm, 0, none⟩) cap cm zs M _ hz5 HSO.out HA3 HM3).mono ?_
        rw [HM1.out]
        rintro _ v2 ⟨rfl, F⟩
        replace HA3 := HA3.fut F
        replace HO3 := HO3.fut F
        replace F1 := F1.trans F
        clear F HM3
        go_wp2_with fail
        · have HO4 : IntsAt v2 (some ⟨go, 0, none⟩) (O.drop 1) := fun j hj => by
            rw [List.length_drop, HD.out.1] at hj; omega
          have HC4 := Lib.hid (vld_tail x' (some ⟨bl, off, none⟩) (some ⟨go, 0, none⟩) cap 0 zs O v2 HK.out HD.out.1 HA3 HO4)
          clear HO4
          refine HC4.out.mono ?_
          rintro _ v3 ⟨rfl, F⟩
          replace F1 := F1.trans F
          clear F HA3 HO3
          go_wp2_with fail
          refine (works_any _).mono ?_
          rintro _ v4 ⟨rfl, F⟩
          go_wp2_with fail
          go_ret
          exact ⟨rfl, F1.trans F⟩
        · have HO4 : IntsAt v2 (some ⟨go, 1, none⟩) (O.drop 1) := ints_drop HO3
          have HC4 := Lib.hid (vld_tail x' (some ⟨bl, off, none⟩) (some ⟨go, 1, none⟩) cap (co1 - 1) zs O v2 HK.out HD.out.1 HA3 HO4)
          clear HO4
          refine HC4.out.mono ?_
          rintro _ v3 ⟨rfl, F⟩
          replace F1 := F1.trans F
          clear F HA3 HO3
          go_wp2_with fail
          refine (works_any _).mono ?_
          rintro _ v4 ⟨rfl, F⟩
          go_wp2_with fail
          go_ret
          exact ⟨rfl, F1.trans F⟩
      · have hd : decide (120 * z0 < y0 + 1) = false := by simpa using hgt
        rw [if_neg (by omega)] at HM1
        go_quiet (fail)
        clear w1 hmc hzc
        go_wp2_with fail
        refine (HPN.out _).mono ?_
        rintro _ v1 ⟨rfl, hB⟩
        have F : Fut _ v1 := hB
        have HA3 := (HA2.out.fut (Fut.drewN _ _)).fut F
        have HO3 := (HO2.out.fut (Fut.drewN _ _)).fut F
        have HM3 := (HST.out.fut (Fut.drewN _ _)).fut F
        have F1 := (HF3.out.trans (Fut.drewN _ _)).trans F
        clear F hB
        go_wp2_with fail
        refine (vld_len x' (some ⟨bl, off, none⟩) (some ⟨gm, 0, none⟩) cap cm zs M _ hz5 HSO.out HA3 HM3).mono ?_
        rw [HM1.out]
        rintro _ v2 ⟨rfl, F⟩
        replace HA3 := HA3.fut F
        replace HO3 := HO3.fut F
        replace F1 := F1.trans F
        clear F HM3
        go_wp2_with fail
        · have HO4 : IntsAt v2 (some ⟨go, 0, none⟩) (O.drop 1) := fun j hj => by
            rw [List.length_drop, HD.out.1] at hj; omega
          have HC4 := Lib.hid (vld_tail x' (some ⟨bl, off, none⟩) (some ⟨go, 0, none⟩) cap 0 zs O v2 HK.out HD.out.1 HA3 HO4)
          clear HO4
          refine HC4.out.mono ?_
          rintro _ v3 ⟨rfl, F⟩
          replace F1 := F1.trans F
          clear F HA3 HO3
          go_wp2_with fail
          refine (works_any _).mono ?_
          rintro _ v4 ⟨rfl, F⟩
          go_wp2_with fail
          go_ret
          exact ⟨rfl, F1.trans F⟩
        · have HO4 : IntsAt v2 (some ⟨go, 1, none⟩) (O.drop 1) := ints_drop HO3
          have HC4 := Lib.hid (vld_tail x' (some ⟨bl, off, none⟩) (some ⟨go, 1, none⟩) cap (co1 - 1) zs O v2 HK.out HD.out.1 HA3 HO4)
          clear HO4
          refine HC4.out.mono ?_
          rintro _ v3 ⟨rfl, F⟩
          replace F1 := F1.trans F
          clear F HA3 HO3
          go_wp2_with fail
          refine (works_any _).mono ?_
          rintro _ v4 ⟨rfl, F⟩
          go_wp2_with fail
          go_ret
          exact ⟨rfl, F1.trans F⟩
end Go.Proofs.Ytdnbdaegahcoeaa
