/- Layer 1: what ClaimRanked answers. -/
import Derived.Test.YtdnbdaegahcoeaaRowNA
namespace Go.Proofs.Ytdnbdaegahcoeaa
open Go.RowKit Go.Sort
theorem four_new (w : World) (ad : Nat → Option Addr) (cp : Nat → Nat) (n : Nat) : ∀ k, k < 4 → (w.alloc (.cells #[.slice (ad 0) n (cp 0), .slice (ad 1) n (cp 1), .slice (ad 2) n (cp 2), .slice (ad 3) n (cp 3)] 55)).cell? ⟨w.heap.size, k, none⟩ = some (.slice (ad k) n (cp k)) := by
  intro k hk
  rw [World.cell?_alloc_at _ _ _ _ rfl]
  match k, hk with
  | 0, _ => rfl
  | 1, _ => rfl
  | 2, _ => rfl
  | 3, _ => rfl
set_option maxRecDepth 100000 in
theorem four_ix (ad : Nat → Option Addr) (cp : Nat → Nat) (n k : Nat) (hk : k < 4) : ∀ w, (Instr.index 55 (.agg #[.slice (ad 0) n (cp 0), .slice (ad 1) n (cp 1), .slice (ad 2) n (cp 2), .slice (ad 3) n (cp 3)]) (.int .i64 k)).run Try.prog w = .ok (.slice (ad k) n (cp k)) w := by
  match k, hk with
  | 0, _ => exact fun _ => by kernel_rfl
  | 1, _ => exact fun _ => by kernel_rfl
  | 2, _ => exact fun _ => by kernel_rfl
  | 3, _ => exact fun _ => by kernel_rfl
abbrev ag8 (a b c d e : Int) : Value := .agg #[.int .u8 a, .int .u8 b, .int .u8 c, .int .u8 d, .int .u8 e]
abbrev Box8 (w : World) (B : Nat) (ys : List Int) : Prop := ∀ j, j < 5 → w.cell? ⟨B, j, none⟩ = some (.int .u8 (nth ys j))
theorem box8_new (w w1 : World) (o : Obj) (a b c d e : Int) (h : Fut ((w.alloc o).alloc (.cells #[.int .u8 a, .int .u8 b, .int .u8 c, .int .u8 d, .int .u8 e] 54)) w1) : Box8 w1 (w.heap.size + 1) [a, b, c, d, e] := by
  intro j hj
  rw [RowKit.Below.cell h (p := ⟨w.heap.size + 1, j, none⟩) (by simp), World.cell?_alloc_at _ _ _ _ (by simp)]
  match j, hj with
  | 0, _ => rfl
  | 1, _ => rfl
  | 2, _ => rfl
  | 3, _ => rfl
  | 4, _ => rfl
theorem box8_fut {w w1 : World} {B : Nat} {ys : List Int} (h : Box8 w B ys) (F : Fut w w1) : Box8 w1 B ys := fun j hj =>
  (RowKit.Below.cell F (p := ⟨B, j, none⟩) (World.block_lt_of_cell? w _ (h j hj))).trans (h j hj)
set_option maxRecDepth 100000 in
set_option maxHeartbeats 8000000 in
theorem ranked_any (n a b c d e x p0 p1 p2 p3 p4 : Int) (w : World) (hn : 0 ≤ n ∧ n ≤ 255) (ha : 0 ≤ a ∧ a ≤ 65535) (hb : 0 ≤ b ∧ b ≤ 65535) (hc : 0 ≤ c ∧ c ≤ 65535) (hd : 0 ≤ d ∧ d ≤ 65535) (he : 0 ≤ e ∧ e ≤ 65535) (hx : 0 ≤ x ∧ x ≤ 65535)
    (hy : ∀ j, 0 ≤ nth [p0, p1, p2, p3, p4] j ∧ nth [p0, p1, p2, p3, p4] j ≤ 255) :
    Calls Try.prog 9 #[qv n a b c d e x, ag8 p0 p1 p2 p3 p4] w fun e w' => e = .returned (.bool true) ∧ Fut w w' := by
  have hkk : 1 + n % 5 = (((1 + n % 5).toNat : Nat) : Int) := by omega
  have hcs : ∀ j, 0 ≤ nth [a, b, c, d, e] j ∧ nth [a, b, c, d, e] j ≤ 65535 := by
    intro j
    match j with
    | 0 => exact ha
    | 1 => exact hb
    | 2 => exact hc
    | 3 => exact hd
    | 4 => exact he
    | j + 5 => simp [nth_eq]
  obtain ⟨hk1, hk2, _⟩ := drawn_full 60 (by decide) n x [a, b, c, d, e] _ rfl hkk
  have HM := Lib.hid (fun w => made_any n a b c d e x 60 [a, b, c, d, e] _ w rfl hn (by decide) hkk hcs hx)
  generalize hk : (1 + n % 5).toNat = k at *
  generalize ([a, b, c, d, e].map (dr 60)).take k = zs at *
  generalize x % (zs.sum + 1) = x' at *
  clear hk hcs hkk
  subst hk1
  have HY := Lib.hid hy
  have HK := Lib.hid hk2
  have hz := hk2.1
  have hz5 := hk2.2.1
  have hsum := full_sum hk2
  have hxs := hk2.2.2.2
  clear hk2 hy ha hb hc hd he hx hn
  have hbox : ∀ (w : World) (u v : Obj), Fut w ((w.alloc u).alloc v) := fun w u v => (Fut.alloc w u).trans (Fut.alloc _ v)
  go_enter Try.func9, Try.ntmps9
  go_wp2_with fail
  refine (HM.out _).mono ?_
  rintro _ wa ⟨l, cap, rfl, hA, F⟩
  have F1 : Fut w wa := (hbox w _ _).trans F
  have hbx := box8_new _ _ _ p0 p1 p2 p3 p4 F
  have HBX := Lib.hid hbx
  clear HM F hbx
  go_wp2_with fail
  refine (all_any x' zs l cap _ HK.out hA).mono ?_
  rintro _ wb ⟨ad, cp, rfl, hal, F⟩
  replace hA := hA.fut F
  have F2 := F
  replace F1 := F1.trans F
  clear F
  have HAL := Lib.hid hal
  clear hal
  go_wp2_with fail
  have hA := hA.fut (Fut.alloc wb (.cells #[.slice (ad 0) zs.length (cp 0), .slice (ad 1) zs.length (cp 1), .slice (ad 2) zs.length (cp 2), .slice (ad 3) zs.length (cp 3)] 55))
  have F3 := Fut.alloc wb (.cells #[.slice (ad 0) zs.length (cp 0), .slice (ad 1) zs.length (cp 1), .slice (ad 2) zs.length (cp 2), .slice (ad 3) zs.length (cp 3)] 55)
  have HPL := Lib.hid (four_new wb ad cp zs.length)
  generalize wb.alloc (.cells #[.slice (ad 0) zs.length (cp 0), .slice (ad 1) zs.length (cp 1), .slice (ad 2) zs.length (cp 2), .slice (ad 3) zs.length (cp 3)] 55) = wp at *
  generalize wb.heap.size = pl at *
  have HAL2 : Hid (∀ k, IntsAt wp (ad k) (DkL x' zs k)) := Lib.hid (fun k => (HAL.out k).fut F3)
  have HBX2 := Lib.hid (box8_fut (box8_fut HBX.out F2) F3)
  have HF1 := Lib.hid (F1.trans F3)
  clear HAL HBX F1 F2 F3
  obtain ⟨bl, off, rfl, hbl, hcl⟩ := hA.addr (by omega)
  have H0 := Lib.hid hcl
  have HA := Lib.hid hA
  have HN := Lib.hid (full_nth HK.out)
  have HDV := Lib.hid (fun c => dk_isDiv HK.out c)
  have HRK := Lib.hid (fun c i j hi hj hz => rank_dk HK.out c i j hi hj hz)
  clear hcl hA
  go_loopw [37] (fun kv wr => ∃ (c q : Nat), c ≤ 4 ∧ kv = .int .i64 c ∧ wr = wp.drewN q) (fun kv _ => 4 - (intOf kv).toNat)
  case atStart => exact ⟨0, 0, by omega, rfl, rfl⟩
  case round =>
    obtain ⟨c, qc, hc, rfl, rfl⟩ := hrel
    by_cases hc4 : c < 4
    · obtain ⟨bd, od, hd, hbd, hcd⟩ := (HAL2.out c).addr (by rw [(HDV.out c).1]; omega)
      have hix := four_ix ad cp zs.length c hc4
      rw [hd] at hix
      have HCD := Lib.hid hcd
      have hcx : (c : Int) < 4 := by omega
      clear hd hcd
      go_wp2_with fail
      go_loopw [42] (fun iv wr => ∃ (i q : Nat), i ≤ zs.length ∧ iv = .int .i64 i ∧ wr = wp.drewN q) (fun iv _ => zs.length - (intOf iv).toNat)
      case atStart => exact ⟨0, qc, Nat.zero_le _, rfl, rfl⟩
      case round =>
        obtain ⟨i, qi, hi, rfl, rfl⟩ := hrel
        by_cases hil : i < zs.length
        · have hix' : (i : Int) < zs.length := by omega
          have z1 : (wp.drewN qi).cell? ⟨bl, off + i, none⟩ = some (.int .i64 (nth zs i)) := H0.out i hil
          generalize hw : wp.drewN qi = wi at z1
          have HWI := Lib.hid hw
          clear hw
          go_wp2_with fail
          go_loopw [49] (fun jv wr => ∃ (j q : Nat), j ≤ zs.length ∧ jv = .int .i64 j ∧ wr = wp.drewN q) (fun jv _ => zs.length - (intOf jv).toNat)
          case atStart => exact ⟨0, qi, Nat.zero_le _, rfl, HWI.out.symm⟩
          case round =>
            obtain ⟨j, qj, hj, rfl, rfl⟩ := hrel
            clear HWI z1
            by_cases hjl : j < zs.length
            · have hjx : (j : Int) < zs.length := by omega
              have z2 : (wp.drewN qj).cell? ⟨bl, off + j, none⟩ = some (.int .i64 (nth zs j)) := H0.out j hjl
              have d1 : (wp.drewN qj).cell? ⟨bd, od + i, none⟩ = some (.int .i64 (nth (DkL x' zs c) i)) := HCD.out i (by rw [(HDV.out c).1]; exact hil)
              have d2 : (wp.drewN qj).cell? ⟨bd, od + j, none⟩ = some (.int .i64 (nth (DkL x' zs c) j)) := HCD.out j (by rw [(HDV.out c).1]; exact hjl)
              obtain ⟨n1, n2⟩ := HN.out i
              obtain ⟨n3, n4⟩ := HN.out j
              obtain ⟨g1, g2⟩ := (HDV.out c).2.1 i (by rw [(HDV.out c).1]; exact hil)
              obtain ⟨g3, g4⟩ := (HDV.out c).2.1 j (by rw [(HDV.out c).1]; exact hjl)
              have hr := HRK.out c i j hil hjl
              generalize nth zs i = zi at *
              generalize nth zs j = zj at *
              generalize nth (DkL x' zs c) i = di at *
              generalize nth (DkL x' zs c) j = dj at *
              generalize hw : wp.drewN qj = wj at z2 d1 d2
              have HWJ := Lib.hid hw
              clear hw
              by_cases hz : zj ≤ zi
              · have t1 : decide (zj ≤ zi) = true := by simpa using hz
                obtain ⟨r1, r2⟩ := hr hz
                have t2 : decide (di < dj) = false := by simp; omega
                have t3 : decide (120 * zi - di < 120 * zj - dj) = false := by simp; omega
                have w1 : IntKind.i64.wrap (120 * zi) = 120 * zi := IntWalk.i64_in _ ⟨by omega, by omega⟩
                have w2 : IntKind.i64.wrap (120 * zj) = 120 * zj := IntWalk.i64_in _ ⟨by omega, by omega⟩
                have w3 : IntKind.i64.wrap (120 * zi - di) = 120 * zi - di := IntWalk.i64_in _ ⟨by omega, by omega⟩
                have w4 : IntKind.i64.wrap (120 * zj - dj) = 120 * zj - dj := IntWalk.i64_in _ ⟨by omega, by omega⟩
                clear hr hz r1 r2
                go_wp2_with fail
                go_quiet (fail)
                clear w1 w2 w3 w4 t1 t2 t3
                go_wp2
                go_roundw
                case rel => exact ⟨j + 1, qj + nq, by omega, by go_num, by rw [← HWJ.out, World.drewN_drewN]⟩
                case measure => simp [intOf]; omega
              · have t1 : decide (zj ≤ zi) = false := by simpa using hz
                clear hr hz
                go_wp2_with fail
                go_quiet (fail)
                clear t1
                go_wp2
                go_roundw
                case rel => exact ⟨j + 1, qj + nq, by omega, by go_num, by rw [← HWJ.out, World.drewN_drewN]⟩
                case measure => simp [intOf]; omega
            · go_wp2
              go_roundw
              case rel => exact ⟨i + 1, qj, by omega, by go_num, rfl⟩
              case measure => simp [intOf]; omega
        · go_wp2
          go_roundw
          case rel => exact ⟨c + 1, qi, by omega, by go_num, rfl⟩
          case measure => simp [intOf]; omega
    · obtain rfl : c = 4 := by omega
      have HCL := Lib.hid (clone_any bl off zs.length cap zs (wp.drewN qc) (Nat.le_refl _) (by omega) (fun j hj => H0.out j hj))
      have HF2 := Lib.hid (HF1.out.trans (Fut.drewN wp qc))
      have HMK := Lib.hid (mk5 zs.length hz5)
      go_wp2_with fail
      refine HCL.out.mono ?_
      rintro _ wn ⟨v, rfl, hO, hB⟩
      rw [List.take_length] at hO
      obtain ⟨go, cg, rfl, hgb, hgl, hrow⟩ := own_row hO (by omega)
      have hmk := HMK.out
      have F : Fut (wp.drewN qc) wn := hB
      have hB2 : RowKit.Below wp.heap.size wp wn := (Fut.drewN wp qc).trans F
      have hgb' : wp.heap.size ≤ go := hgb
      have hws : wp.heap.size ≤ wn.heap.size := hB2.size
      clear HCL HMK hO hB hgb F
      have HROW := Lib.hid hrow
      have HB2 := Lib.hid hB2
      clear hrow hB2
      go_wp2_with fail
      have hmade := made_row wn zs.length
      have hB3 : RowKit.Below wp.heap.size wp (wn.alloc (.cells (Array.replicate zs.length (Value.int .i64 0)) 3)) := HB2.out.alloc hws _
      have hrow2 : RowN (wn.alloc (.cells (Array.replicate zs.length (Value.int .i64 0)) 3)) go zs := HROW.out.below ((RowKit.Below.refl _ _).alloc (Nat.le_refl _) _) hgl
      have hne : go ≠ wn.heap.size := by omega
      have hgf : wp.heap.size ≤ wn.heap.size := hws
      generalize wn.alloc (.cells (Array.replicate zs.length (Value.int .i64 0)) 3) = wm at *
      generalize wn.heap.size = gf at *
      have HM0 := Lib.hid hmade
      have HR0 := Lib.hid hrow2
      have HB3 := Lib.hid hB3
      clear hmade hrow2 hB3 HROW HB2 hmk
      have hpb : w.heap.size + 1 < wp.heap.size := World.block_lt_of_cell? _ _ (HBX2.out 0 (by omega))
      have HIS := Lib.hid (inv_start HK.out)
      go_loopw [95] (fun iv wr => ∃ (i : Nat) (pi : Nat → Nat) (o f : List Int), i ≤ zs.length ∧ iv = .int .i64 i ∧ Hid (Inv x' zs i pi o f) ∧ RowN wr go o ∧ RowN wr gf f ∧ Hid (RowKit.Below wp.heap.size wp wr)) (fun iv _ => zs.length - (intOf iv).toNat)
      case atStart => exact ⟨0, id, zs, _, Nat.zero_le _, rfl, HIS, HR0.out, HM0.out, HB3⟩
      case round =>
        obtain ⟨i, pi, o, f, hi, rfl, HI, hro, hrf, HBW⟩ := hrel
        clear HIS HR0 HM0 HB3
        by_cases hil : i < zs.length
        · have hix : (i : Int) < zs.length := by omega
          have y1 : wr.cell? ⟨w.heap.size + 1, i, none⟩ = some (.int .u8 (nth [p0, p1, p2, p3, p4] i)) := (HBW.out.cell (p := ⟨w.heap.size + 1, i, none⟩) hpb).trans (HBX2.out i (by omega))
          obtain ⟨yb1, yb2⟩ := HY.out i
          generalize nth [p0, p1, p2, p3, p4] i = y at *
          have hk0 := Int.emod_nonneg y (show ((i : Int) + 1) ≠ 0 by omega)
          have hk1 := Int.emod_lt_of_pos y (show 0 < ((i : Int) + 1) by omega)
          obtain ⟨k, hk⟩ : ∃ k : Nat, y % ((i : Int) + 1) = (k : Int) := ⟨(y % ((i : Int) + 1)).toNat, by omega⟩
          have hki : k ≤ i := by omega
          have hkx : (k : Int) < zs.length := by omega
          have lo : o.length = zs.length := HI.out.1
          have lf : f.length = zs.length := HI.out.2.1
          have c1 := hrf.cell i (by omega)
          have f1 := hrf.2 i
          have hrf2 := hrf.set i (i : Int) (by omega)
          have hro2 := hro.setO (fun e => hne e.symm) i (.int .i64 (i : Int)) (g' := gf)
          have HB4 : Hid (RowKit.Below wp.heap.size wp (wr.setCell ⟨gf, i, none⟩ (.int .i64 (i : Int)))) := Lib.hid (HBW.out.setCell (p := ⟨gf, i, none⟩) hgf _)
          have HS := Lib.hid (inv_step HI.out hil hki)
          have HRF := Lib.hid hrf2
          have HRO := Lib.hid hro2
          clear hrf hro hrf2 hro2 hk0 hk1
          go_wp2_with fail
          rw [hk]
          generalize wr.setCell ⟨gf, i, none⟩ (.int .i64 (i : Int)) = ws at *
          have hki' : k < o.length := by omega
          have hkf' : k < (f.set i (i : Int)).length := by rw [List.length_set]; omega
          have hif' : i < (f.set i (i : Int)).length := by rw [List.length_set]; omega
          have e1 := HRO.out.cell i (by omega)
          have e2 := HRO.out.cell k (by omega)
          have e3 := HRO.out.2 i
          have e4 := HRO.out.2 k
          clear hk y1 c1 f1
          go_upto_region 26 with fail
          go_cut [] (fun wx => RowN wx go (swp o i k) ∧ RowN wx gf (f.set i (i : Int)) ∧ Hid (RowKit.Below wp.heap.size wp wx))
          case first =>
            by_cases hfk : k = i
            · subst hfk
              go_region
              all_goals (go_wp2_with fail; go_meet)
              all_goals exact ⟨(HRO.out.swap k k (by omega) (by omega)).drew, ((HRF.out.setO hne k _).setO hne k _).drew, Lib.hid (((HB4.out.setCell (p := ⟨go, k, none⟩) hgb' _).setCell (p := ⟨go, k, none⟩) hgb' _).trans (Fut.drew1 _))⟩
            · have hfk' : ¬ i = k := fun h => hfk h.symm
              go_region
              all_goals (go_wp2_with fail; go_meet)
              all_goals exact ⟨(HRO.out.swap i k (by omega) (by omega)).drew, ((HRF.out.setO hne i _).setO hne k _).drew, Lib.hid (((HB4.out.setCell (p := ⟨go, i, none⟩) hgb' _).setCell (p := ⟨go, k, none⟩) hgb' _).trans (Fut.drew1 _))⟩
          case rest =>
            obtain ⟨hO5, hF5, HB5⟩ := hcut
            clear e1 e2 e3 e4 HRO HRF HB4
            have HO5 := Lib.hid hO5
            have e1 := hF5.cell i (by omega)
            have e2 := hF5.cell k (by omega)
            have e3 := hF5.2 i
            have e4 := hF5.2 k
            have HF5 := Lib.hid hF5
            clear hO5 hF5
            generalize hfs : f.set i (i : Int) = fs at *
            have hlfs : fs.length = zs.length := by rw [← hfs, List.length_set]; exact lf
            clear hfs
            go_wp2_with fail
            by_cases hfk : k = i
            · subst hfk
              go_region
              all_goals
                go_wp2
                go_roundw
                case rel => exact ⟨k + 1, _, _, _, by omega, by go_num, HS, ((HO5.out.setO (fun e => hne e.symm) k _).setO (fun e => hne e.symm) k _).drew, (HF5.out.swap k k (by omega) (by omega)).drew, Lib.hid (((HB5.out.setCell (p := ⟨gf, k, none⟩) hgf _).setCell (p := ⟨gf, k, none⟩) hgf _).trans (Fut.drew1 _))⟩
                case measure => simp [intOf]; omega
            · have hfk' : ¬ i = k := fun h => hfk h.symm
              go_region
              all_goals
                go_wp2
                go_roundw
                case rel => exact ⟨i + 1, _, _, _, by omega, by go_num, HS, ((HO5.out.setO (fun e => hne e.symm) i _).setO (fun e => hne e.symm) k _).drew, (HF5.out.swap i k (by omega) (by omega)).drew, Lib.hid (((HB5.out.setCell (p := ⟨gf, i, none⟩) hgf _).setCell (p := ⟨gf, k, none⟩) hgf _).trans (Fut.drew1 _))⟩
                case measure => simp [intOf]; omega
        · obtain rfl : i = zs.length := by omega
          obtain ⟨lo, lf, hfp, _, hFo, hDo⟩ := HI.out
          have hAo := hro.ints
          have hAf := hrf.ints
          have HK2 := Lib.hid hFo
          have HFP := Lib.hid hfp
          have HDO := Lib.hid hDo
          have HRF := Lib.hid hrf
          have HB6 := HBW
          have hAL := all_any x' o (some ⟨go, 0, none⟩) cg wr hFo hAo
          rw [lo] at hAL
          have HAL3 := Lib.hid hAL
          clear HI hro hrf hFo hfp hDo hAo hAf hAL HBW
          go_wp2_with fail
          refine HAL3.out.mono ?_
          rintro _ wx ⟨ad2, cp2, rfl, hal2, F⟩
          clear HAL3
          simp only [lo]
          have hB7 : RowKit.Below wp.heap.size wp wx := HB6.out.trans (RowKit.Below.mono F HB6.out.size)
          have hwx : wp.heap.size ≤ wx.heap.size := hB7.size
          have hrf7 : RowN wx gf f := HRF.out.below F (World.block_lt_of_cell? _ _ (HRF.out.cell 0 (by omega)))
          have HAL4 := Lib.hid hal2
          have HB7 := Lib.hid hB7
          have HRF7 := Lib.hid hrf7
          clear hal2 hB7 hrf7 F HRF HB6
          go_wp2_with fail
          have HPM := Lib.hid (four_new wx ad2 cp2 zs.length)
          have F8 : Fut wx (wx.alloc (.cells #[.slice (ad2 0) zs.length (cp2 0), .slice (ad2 1) zs.length (cp2 1), .slice (ad2 2) zs.length (cp2 2), .slice (ad2 3) zs.length (cp2 3)] 55)) := Fut.alloc _ _
          generalize wx.alloc (.cells #[.slice (ad2 0) zs.length (cp2 0), .slice (ad2 1) zs.length (cp2 1), .slice (ad2 2) zs.length (cp2 2), .slice (ad2 3) zs.length (cp2 3)] 55) = wz at *
          have HAL5 : Hid (∀ k, IntsAt wz (ad2 k) (DkL x' o k)) := Lib.hid (fun k => (HAL4.out k).fut F8)
          have hB8 : RowKit.Below wp.heap.size wp wz := HB7.out.trans (RowKit.Below.mono F8 hwx)
          have HB8 := Lib.hid hB8
          have HRF8 : Hid (RowN wz gf f) := Lib.hid (HRF7.out.below F8 (World.block_lt_of_cell? _ _ (HRF7.out.cell 0 (by omega))))
          have HPL8 : Hid (∀ k, k < 4 → wz.cell? ⟨pl, k, none⟩ = some (.slice (ad k) zs.length (cp k))) := Lib.hid (fun k hk => (HB8.out.cell (p := ⟨pl, k, none⟩) (World.block_lt_of_cell? _ _ (HPL.out k hk))).trans (HPL.out k hk))
          have HAL8 : Hid (∀ k, IntsAt wz (ad k) (DkL x' zs k)) := Lib.hid (fun k => (HAL2.out k).fut (hB8))
          have HF8 : Hid (Fut w wz) := Lib.hid (HF1.out.trans hB8)
          generalize wx.heap.size = pm at *
          have HDV2 := Lib.hid (fun c => dk_isDiv HK2.out c)
          clear hB8 F8 HB7 HRF7 HAL4 HPL HAL2 HF1 HF2
          go_loopw [146] (fun kv wr => ∃ (c q : Nat), c ≤ 4 ∧ kv = .int .i64 c ∧ wr = wz.drewN q) (fun kv _ => 4 - (intOf kv).toNat)
          case atStart => exact ⟨0, 0, by omega, rfl, rfl⟩
          case round =>
            obtain ⟨c, qc2, hc2, rfl, rfl⟩ := hrel
            by_cases hc4 : c < 4
            · obtain ⟨bd, od, hd, hbd, hcd⟩ := (HAL8.out c).addr (by rw [(HDV.out c).1]; omega)
              obtain ⟨bm, om, hdm, hbm, hcm⟩ := (HAL5.out c).addr (by rw [(HDV2.out c).1]; omega)
              have hp1 := HPL8.out c hc4
              have hp2 := HPM.out c hc4
              rw [hd] at hp1
              rw [hdm] at hp2
              have HP1 := Lib.hid hp1
              have HP2 := Lib.hid hp2
              have HCD := Lib.hid hcd
              have HCM := Lib.hid hcm
              have hcx : (c : Int) < 4 := by omega
              clear hd hcd hdm hcm hp1 hp2
              go_wp2_with fail
              go_loopw [151] (fun iv wr => ∃ (i q : Nat), i ≤ zs.length ∧ iv = .int .i64 i ∧ wr = wz.drewN q) (fun iv _ => zs.length - (intOf iv).toNat)
              case atStart => exact ⟨0, qc2, Nat.zero_le _, rfl, rfl⟩
              case round =>
                obtain ⟨i, qi, hi, rfl, rfl⟩ := hrel
                by_cases hil : i < zs.length
                · have hix : (i : Int) < zs.length := by omega
                  obtain ⟨q1, q2⟩ := HFP.out i hil
                  have hdo := HDO.out c i hil
                  have s1 : (wz.drewN qi).cell? ⟨gf, i, none⟩ = some (.int .i64 (nth f i)) := HRF8.out.cell i (by omega)
                  have s2 : (wz.drewN qi).cell? ⟨pl, c, none⟩ = some (.slice (some ⟨bd, od, none⟩) zs.length (cp c)) := HP1.out
                  have s3 : (wz.drewN qi).cell? ⟨pm, c, none⟩ = some (.slice (some ⟨bm, om, none⟩) zs.length (cp2 c)) := HP2.out
                  have s4 : (wz.drewN qi).cell? ⟨bm, om + i, none⟩ = some (.int .i64 (nth (DkL x' o c) i)) := HCM.out i (by rw [(HDV2.out c).1, lo]; exact hil)
                  have s5 : (wz.drewN qi).cell? ⟨bd, od + pi i, none⟩ = some (.int .i64 (nth (DkL x' zs c) (pi i))) := HCD.out (pi i) (by rw [(HDV.out c).1]; exact q2)
                  rw [q1] at s1
                  rw [hdo] at s4
                  clear q1 hdo
                  have hpx : ((pi i : Nat) : Int) < zs.length := by omega
                  generalize nth (DkL x' zs c) (pi i) = dv at *
                  generalize pi i = p at *
                  generalize hw : wz.drewN qi = wj at s1 s2 s3 s4 s5
                  have HWJ := Lib.hid hw
                  clear hw
                  go_wp2_with fail
                  go_quiet (fail)
                  go_wp2
                  go_roundw
                  case rel => exact ⟨i + 1, qi + nq, by omega, by go_num, by rw [← HWJ.out, World.drewN_drewN]⟩
                  case measure => simp [intOf]; omega
                · go_wp2
                  go_roundw
                  case rel => exact ⟨c + 1, qi, by omega, by go_num, rfl⟩
                  case measure => simp [intOf]; omega
            · have F1 : Fut w (wz.drewN qc2) := HF8.out.trans (Fut.drewN _ _)
              obtain rfl : c = 4 := by omega
              go_wp2_with fail
              refine (works_any _).mono ?_
              rintro _ v4 ⟨rfl, F⟩
              go_wp2_with fail
              go_ret
              exact ⟨rfl, F1.trans F⟩
end Go.Proofs.Ytdnbdaegahcoeaa
