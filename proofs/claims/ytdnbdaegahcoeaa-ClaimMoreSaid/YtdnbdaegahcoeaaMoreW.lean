/- Layer 1: what ClaimMore answers. -/
import Derived.Test.YtdnbdaegahcoeaaMoreE
namespace Go.Proofs.Ytdnbdaegahcoeaa
open Go.RowKit Go.Sort
theorem RowN.grown {w w' : World} {g : Nat} {zs : List Int} {row : Option Nat} (h : RowN w g zs) (hg : w.grownBy w' row) (hlt : g < w.heap.size) (hne : row ≠ some g) : RowN w' g zs := by
  have hb : w'.heap[g]? = w.heap[g]? := hg.block g hlt (fun e => hne e.symm)
  exact ⟨fun j hj => (World.cell?_of_block hb).trans (h.1 j hj), fun j => (World.frozen?_of_block hb).trans (h.2 j)⟩
theorem del_perm (os ls : List (Fin 5)) (k : Nat) (hk : k < ls.length) (x : Fin 5) (hx : ls[k]'hk = x) {r : List (Fin 5)} (h : (os ++ ls).Perm r) : ((os ++ [x]) ++ (ls.take k ++ ls.drop (k + 1))).Perm r := by
  have e : ls = ls.take k ++ x :: ls.drop (k + 1) := by
    rw [← hx, ← List.drop_eq_getElem_cons hk, List.take_append_drop]
  refine List.Perm.trans ?_ h
  rw [List.append_assoc]
  refine List.Perm.append_left os ?_
  conv => rhs; rw [e]
  show (x :: (ls.take k ++ ls.drop (k + 1))).Perm _
  exact List.perm_middle.symm
def seqL (j : Nat) : List Int := (List.range j).map fun i : Nat => (i : Int)
theorem seq_len (j : Nat) : (seqL j).length = j := by simp [seqL]
theorem seq_snoc (j : Nat) : (seqL (j + 1)).map (Value.int .i64) = (seqL j).map (Value.int .i64) ++ [.int .i64 (j : Int)] := by
  unfold seqL; rw [List.range_succ, List.map_append, List.map_append]; rfl
theorem seq_val (n : Nat) (h : n ≤ 5) : seqL n = valL (idxL n) := by
  have : ∀ n : Fin 6, seqL n.val = valL (idxL n.val) := by decide
  exact this ⟨n, by omega⟩
set_option maxRecDepth 100000 in
set_option maxHeartbeats 8000000 in
theorem more_any (n a b c d e x p0 p1 p2 p3 p4 : Int) (w : World) (hn : 0 ≤ n ∧ n ≤ 255) (ha : 0 ≤ a ∧ a ≤ 65535) (hb : 0 ≤ b ∧ b ≤ 65535) (hc : 0 ≤ c ∧ c ≤ 65535) (hd : 0 ≤ d ∧ d ≤ 65535) (he : 0 ≤ e ∧ e ≤ 65535) (hx : 0 ≤ x ∧ x ≤ 65535)
    (hy : ∀ j, 0 ≤ nth [p0, p1, p2, p3, p4] j ∧ nth [p0, p1, p2, p3, p4] j ≤ 255) :
    Calls Try.prog 12 #[qv n a b c d e x, ag8 p0 p1 p2 p3 p4] w fun e w' => e = .returned (.bool true) ∧ Fut w w' := by
  have hkk : 1 + n % 5 = (((1 + n % 5).toNat : Nat) : Int) := by omega
  have hcs : ∀ j, 0 ≤ nth [a, b, c, d, e] j ∧ nth [a, b, c, d, e] j ≤ 65535 := by
    intro j
    match j with
    | 0 => exact ha
    | 1 => exact hb
    | 2 => exact hc
    | 3 => exact hd
    | 4 => exact he
    | j + 5 => simp [nth_eq]
  obtain ⟨hk1, hk2, hk3⟩ := drawn_full 300 (by decide) n x [a, b, c, d, e] _ rfl hkk
  have HM := Lib.hid (fun w => made_own n a b c d e x 300 [a, b, c, d, e] _ w rfl hn (by decide) hkk hcs hx)
  generalize hk : (1 + n % 5).toNat = k at *
  generalize ([a, b, c, d, e].map (dr 300)).take k = zs at *
  generalize x % (zs.sum + 1) = x' at *
  clear hk hcs hkk
  subst hk1
  have HY := Lib.hid hy
  have HK := Lib.hid hk2
  have H300 := Lib.hid hk3
  have hz := hk2.1
  have hz5 := hk2.2.1
  have hsum := full_sum hk2
  have hxs := hk2.2.2.2
  clear hk2 hk3 hy ha hb hc hd he hx hn
  have hbox : ∀ (w : World) (u v : Obj), Fut w ((w.alloc u).alloc v) := fun w u v => (Fut.alloc w u).trans (Fut.alloc _ v)
  go_enter Try.func12, Try.ntmps12
  obtain ⟨i0, hi, hz0, hz1, hz2⟩ := info_parts info3
  go_wp2_with fail
  refine (HM.out _).mono ?_
  rintro _ wa ⟨gc, cap, rfl, hrow, hgb, F⟩
  have F1 : Fut w wa := (hbox w _ _).trans F
  have hgw : w.heap.size ≤ gc := by simp at hgb; omega
  have HBX := Lib.hid (box8_new _ _ _ p0 p1 p2 p3 p4 F)
  have hpa : w.heap.size + 1 < wa.heap.size := World.block_lt_of_cell? _ _ (HBX.out 0 (by omega))
  have HROW := Lib.hid hrow
  have HF1 := Lib.hid F1
  clear HM F hgb hrow F1
  go_wp2_with fail
  go_loopw [8, 34] (fun v iv wr => ∃ j : Nat, j ≤ zs.length ∧ iv = .int .i64 j ∧ wr.ownsRow wa.heap.size 3 1 v j ((seqL j).map (Value.int .i64)) ∧ Fut wa wr) (fun _ iv _ => zs.length - (intOf iv).toNat)
  case atStart => exact ⟨0, Nat.zero_le _, rfl, World.ownsRow_nil _ _ _ _, Fut.rfl⟩
  case round =>
    obtain ⟨j, hj, rfl, hown, hnx⟩ := hrel
    by_cases hlt : j < zs.length
    · have HD := Lib.hid (seq_snoc j)
      have hsz := RowKit.Below.size hnx
      have HX := Lib.hid hnx
      have hjx : (j : Int) < zs.length := by omega
      clear hnx
      go_wp2_with (first
        | (at_builtin; refine wpList_append_own _ rfl _ _ 22 rfl wa.heap.size 3 i0 (.int .i64 0) 1 8 Try.underlying22 hi hz0 hz1 hz2 rfl (by decide) _ _ _ rfl (hown.alloc _) ⟨wr.heap.size, 0, none⟩ 1 1 [.int .i64 (j : Int)] rfl rfl ?c1 ?c2 ?c3 ?c4 ?c5 ?_)
        | go_in)
      case c1 =>
        intro i u hj
        match i, hj with
        | 0, hj => simp at hj; subst hj; simp [Addr.add]
      case c2 => intro u hu; simp at hu; subst hu; rfl
      case c3 => unfold maxLen; omega
      case c4 => omega
      case c5 => simp; omega
      · intro v' w1 hown' hgrow _
        have HO : Hid (w1.ownsRow wa.heap.size 3 1 v' (j + 1) ((seqL (j + 1)).map (Value.int .i64))) := Lib.hid (by rw [HD.out]; simpa using hown')
        have HB : Hid (Fut wa w1) := Lib.hid ((RowKit.Below.alloc HX.out (by omega) _).grown hgrow (by simp; omega) (fun i hi => by have := (hown.lt i hi).1; omega))
        clear hown' hgrow hown HD
        go_wp2
        go_roundw
        case rel => exact ⟨j + 1, by omega, by go_num, HO.out, HB.out⟩
        case measure => simp [intOf]; omega
    · obtain rfl : j = zs.length := by omega
      have hO : Owns wr wa.heap.size u8 (seqL zs.length) := by unfold Owns; rw [seq_len]; exact hown
      obtain ⟨gl, cl, e8, hgl1, hgl2, hrl, hcl1, hcl2⟩ := own_row2 hO (by rw [seq_len]; omega)
      rw [seq_len] at e8 hcl1
      rw [seq_val zs.length hz5] at hrl
      subst e8
      have hrow2 : RowN wr gc zs := HROW.out.below hnx (World.block_lt_of_cell? _ _ (HROW.out.cell 0 (by omega)))
      have hgc : gc < wr.heap.size := World.block_lt_of_cell? _ _ (hrow2.cell 0 (by omega))
      have hgcl : gc < wa.heap.size := World.block_lt_of_cell? _ _ (HROW.out.cell 0 (by omega))
      have HROW2 := Lib.hid hrow2
      have HBX2 := Lib.hid (box8_fut HBX.out hnx)
      have HNX := Lib.hid hnx
      have HRL := Lib.hid hrl
      clear hown hO hnx hrow2 hrl HROW HBX
      obtain ⟨wb, rfl⟩ : ∃ wb : World, wb = wr := ⟨_, rfl⟩
      have hpb : w.heap.size + 1 < wb.heap.size := World.block_lt_of_cell? _ _ (HBX2.out 0 (by omega))
      go_wp2_with fail
      go_loopw [8, 9, 43] (fun lv ov iv wr => ∃ (i : Nat) (ls os : List (Fin 5)), iv = .int .i64 i ∧ lv = .slice (some ⟨gl, 0, none⟩) ls.length cl ∧ Hid ((os ++ ls).Perm (idxL zs.length) ∧ os.length = i ∧ ls.length + i = zs.length) ∧ RowN wr gl (valL ls) ∧ wr.ownsRow wb.heap.size 3 1 ov i ((valL os).map (Value.int .i64)) ∧ Hid (RowKit.Below wa.heap.size wb wr) ∧ wb.heap.size ≤ wr.heap.size) (fun _ _ iv _ => zs.length - (intOf iv).toNat)
      case atStart => exact ⟨0, idxL zs.length, [], rfl, by rw [idxL_length _ hz5], Lib.hid ⟨List.Perm.refl _, rfl, by rw [idxL_length _ hz5]; rfl⟩, HRL.out, World.ownsRow_nil _ _ _ _, Lib.hid (RowKit.Below.refl _ _), Nat.le_refl _⟩
      case round =>
        obtain ⟨i, ls, os, rfl, rfl, HPM, hrl, hown, HBW, hsz⟩ := hrel
        clear HRL
        have hll := HPM.out.2.2
        by_cases hil : i < zs.length
        · have hix : (i : Int) < zs.length := by omega
          have y1 : wr.cell? ⟨w.heap.size + 1, i, none⟩ = some (.int .u8 (nth [p0, p1, p2, p3, p4] i)) := (HBW.out.cell (p := ⟨w.heap.size + 1, i, none⟩) hpa).trans (HBX2.out i (by omega))
          obtain ⟨yb1, yb2⟩ := HY.out i
          generalize nth [p0, p1, p2, p3, p4] i = y at *
          have hl0 : 0 < ls.length := by omega
          have hl0' : (0 : Int) < ls.length := by omega
          have hl5 : (ls.length : Int) ≤ 5 := by omega
          have hk0 := Int.emod_nonneg y (show (ls.length : Int) ≠ 0 by omega)
          have hk1 := Int.emod_lt_of_pos y hl0'
          obtain ⟨k, hk⟩ : ∃ k : Nat, y % (ls.length : Int) = (k : Int) := ⟨(y % (ls.length : Int)).toNat, by omega⟩
          have hkl : k < ls.length := by omega
          have hkx : (k : Int) < ls.length := by omega
          have c1 : wr.cell? ⟨gl, k, none⟩ = some (.int .i64 ((ls[k]'hkl).val : Int)) := by rw [hrl.cell k (by rw [valL_length]; exact hkl), valL_nth _ _ hkl]
          generalize hx' : ls[k]'hkl = xk at *
          have HXK := Lib.hid hx'
          clear hx'
          have HRW := Lib.hid hrl
          clear hrl
          go_upto_region 13 with fail
          rw [hk]
          go_wp2_with (first
            | (at_builtin; refine wpList_append_own _ rfl _ _ 22 rfl wb.heap.size 3 i0 (.int .i64 0) 1 8 Try.underlying22 hi hz0 hz1 hz2 rfl (by decide) _ _ _ rfl (hown.alloc _) ⟨wr.heap.size, 0, none⟩ 1 1 [.int .i64 (xk.val : Int)] rfl rfl ?c1 ?c2 ?c3 ?c4 ?c5 ?_)
            | fail)
          case c1 =>
            intro i u hj
            match i, hj with
            | 0, hj => simp at hj; subst hj; simp [Addr.add]
          case c2 => intro u hu; simp at hu; subst hu; rfl
          case c3 => unfold maxLen; omega
          case c4 => omega
          case c5 => simp; omega
          · intro v' w1 hown' hgrow _
            have hwb : wa.heap.size ≤ wb.heap.size := by omega
            have hob : ∀ i, u9.ownBlock = some i → wb.heap.size ≤ i := fun i hi => (hown.lt i hi).1
            have HO : Hid (w1.ownsRow wb.heap.size 3 1 v' (i + 1) ((valL (os ++ [xk])).map (Value.int .i64))) := Lib.hid (by
              have e : (valL (os ++ [xk])).map (Value.int .i64) = (valL os).map (Value.int .i64) ++ [.int .i64 (xk.val : Int)] := by simp [valL]
              rw [e]; simpa using hown')
            have HB : Hid (RowKit.Below wa.heap.size wb w1) := Lib.hid ((RowKit.Below.alloc HBW.out (by omega) _).grown hgrow (by simp; omega) (fun i hi => by have := hob i hi; omega))
            have hsz1 : wb.heap.size ≤ w1.heap.size := by have := hgrow.size; simp at this; omega
            have hrl1 : RowN w1 gl (valL ls) := (HRW.out.below ((RowKit.Below.refl _ _).alloc (Nat.le_refl _) _) (by omega)).grown hgrow (by simp; omega) (fun e => by have := hob gl e; omega)
            have hdel := del_any gl cl k (valL ls) w1 hrl1 (by rw [valL_length]; omega) hcl2 (by rw [valL_length]; exact hkl)
            rw [valL_length] at hdel
            have HDEL := Lib.hid hdel
            clear hown' hgrow hown hob hrl1 hdel y1 c1 hk
            go_wp2_with fail
            refine HDEL.out.mono ?_
            rintro _ w2 ⟨rfl, hr2, hb2, ho2⟩
            have hpm := del_perm os ls k hkl xk HXK.out HPM.out.1
            have hrr : RowN w2 gl (valL (ls.take k ++ ls.drop (k + 1))) := by
              have e : valL (ls.take k ++ ls.drop (k + 1)) = (valL ls).take k ++ (valL ls).drop (k + 1) := by simp [valL, List.map_take, List.map_drop]
              rw [e]; exact hr2
            have hle : (ls.take k ++ ls.drop (k + 1)).length = ls.length - 1 := by simp; omega
            have HP2 : Hid (((os ++ [xk]) ++ (ls.take k ++ ls.drop (k + 1))).Perm (idxL zs.length) ∧ (os ++ [xk]).length = i + 1 ∧ (ls.take k ++ ls.drop (k + 1)).length + (i + 1) = zs.length) := Lib.hid ⟨hpm, by rw [List.length_append, HPM.out.2.1]; rfl, by rw [hle]; omega⟩
            have HO2 := Lib.hid (ho2 wb.heap.size _ _ _ HO.out (by omega))
            have HB2 : Hid (RowKit.Below wa.heap.size wb w2) := Lib.hid (HB.out.trans (hb2 _ hgl1))
            have hsz2 : wb.heap.size ≤ w2.heap.size := by have := (hb2 _ hgl1).size; omega
            have HRR := Lib.hid hrr
            have HLE := Lib.hid hle
            clear hr2 hb2 ho2 hpm hrr hle HO HB HPM HRW HDEL
            generalize ls.take k ++ ls.drop (k + 1) = ls2 at *
            generalize os ++ [xk] = os2 at *
            go_wp2
            go_roundw
            case rel => exact ⟨i + 1, ls2, os2, by go_num, by rw [HLE.out], HP2, HRR.out, HO2.out, HB2, hsz2⟩
            case measure => simp [intOf]; omega
        · obtain rfl : i = zs.length := by omega
          have hl0 : ls = [] := List.eq_nil_of_length_eq_zero (by omega)
          subst hl0
          have hpm := HPM.out.1
          rw [List.append_nil] at hpm
          have hO : Owns wr wb.heap.size u9 (valL os) := by unfold Owns; rw [valL_length, HPM.out.2.1]; exact hown
          obtain ⟨lo, co, e9, hAo⟩ := hO.ints
          rw [valL_length, HPM.out.2.1] at e9
          subst e9
          have hB := HBW.out
          have hrow3 : RowN wr gc zs := HROW2.out.below hB hgcl
          have HF3 : Hid (Fut w wr) := Lib.hid (HF1.out.trans (RowKit.Below.trans HNX.out hB))
          have HPERM := Lib.hid hpm
          have HAO := Lib.hid hAo
          have HROW3 := Lib.hid hrow3
          clear hpm hO hAo hB hrow3 HPM HBW hown hrl HROW2 HBX2 HF1 HNX
          have HF := HF3
          clear HF3
          go_wp2_with fail
          refine (all_any x' zs (some ⟨gc, 0, none⟩) cap _ HK.out HROW3.out.ints).mono ?_
          rintro _ wp0 ⟨ad, cp, rfl, hal, F⟩
          replace HROW3 := Lib.hid (HROW3.out.below F (World.block_lt_of_cell? _ _ (HROW3.out.cell 0 (by omega))))
          replace HAO := Lib.hid (HAO.out.fut F)
          replace HF := Lib.hid (HF.out.trans F)
          have HL := Lib.hid hal
          clear hal F
          go_wp2_with fail
          have F3 := Fut.alloc wp0 (.cells #[.slice (ad 0) zs.length (cp 0), .slice (ad 1) zs.length (cp 1), .slice (ad 2) zs.length (cp 2), .slice (ad 3) zs.length (cp 3)] 55)
          have Hpl := Lib.hid (four_new wp0 ad cp zs.length)
          generalize wp0.alloc (.cells #[.slice (ad 0) zs.length (cp 0), .slice (ad 1) zs.length (cp 1), .slice (ad 2) zs.length (cp 2), .slice (ad 3) zs.length (cp 3)] 55) = wp at *
          generalize wp0.heap.size = pl at *
          have HplL : Hid (∀ k, IntsAt wp (ad k) (DkL x' zs k)) := Lib.hid (fun k => (HL.out k).fut F3)
          replace HROW3 := Lib.hid (HROW3.out.below F3 (World.block_lt_of_cell? _ _ (HROW3.out.cell 0 (by omega))))
          replace HAO := Lib.hid (HAO.out.fut F3)
          replace HF := Lib.hid (HF.out.trans F3)
          clear HL F3
          go_wp2_with fail
          refine (od_len x' (some ⟨gc, 0, none⟩) lo cap co zs os _ HK.out HPERM.out HROW3.out.ints HAO.out).mono ?_
          rintro _ wq ⟨la, ca, rfl, ha, F⟩
          replace HROW3 := Lib.hid (HROW3.out.below F (World.block_lt_of_cell? _ _ (HROW3.out.cell 0 (by omega))))
          replace Hpl := Lib.hid (fun k hk => (RowKit.Below.cell F (p := ⟨pl, k, none⟩) (World.block_lt_of_cell? _ _ (Hpl.out k hk))).trans (Hpl.out k hk))
          replace HplL := Lib.hid (fun k => (HplL.out k).fut F)
          replace HAO := Lib.hid (HAO.out.fut F)
          replace HF := Lib.hid (HF.out.trans F)
          have HA1 := Lib.hid ha
          clear ha F
          go_wp2_with fail
          refine (st_dvn x' zs _ (some ⟨gc, 0, none⟩) la cap ca _ HK.out (oL_isDiv HK.out os HPERM.out) HROW3.out.ints HA1.out).mono ?_
          rintro _ _ ⟨rfl, rfl⟩
          go_wp2_with fail
          refine (refsum_any (some ⟨gc, 0, none⟩) cap zs _ (full_small HK.out) HROW3.out.ints).mono ?_
          rintro _ _ ⟨rfl, rfl⟩
          by_cases hlt2 : x' < zs.sum
          · have HK1 := Lib.hid (full_more HK.out hlt2)
            go_wp2_with fail
            refine (all_any (x' + 1) zs (some ⟨gc, 0, none⟩) cap _ HK1.out HROW3.out.ints).mono ?_
            rintro _ wm0 ⟨ad2, cp2, rfl, hal, F⟩
            replace HROW3 := Lib.hid (HROW3.out.below F (World.block_lt_of_cell? _ _ (HROW3.out.cell 0 (by omega))))
            replace Hpl := Lib.hid (fun k hk => (RowKit.Below.cell F (p := ⟨pl, k, none⟩) (World.block_lt_of_cell? _ _ (Hpl.out k hk))).trans (Hpl.out k hk))
            replace HplL := Lib.hid (fun k => (HplL.out k).fut F)
            replace HAO := Lib.hid (HAO.out.fut F)
            replace HA1 := Lib.hid (HA1.out.fut F)
            replace HF := Lib.hid (HF.out.trans F)
            have HL := Lib.hid hal
            clear hal F
            go_wp2_with fail
            have F3 := Fut.alloc wm0 (.cells #[.slice (ad2 0) zs.length (cp2 0), .slice (ad2 1) zs.length (cp2 1), .slice (ad2 2) zs.length (cp2 2), .slice (ad2 3) zs.length (cp2 3)] 55)
            have Hpm := Lib.hid (four_new wm0 ad2 cp2 zs.length)
            generalize wm0.alloc (.cells #[.slice (ad2 0) zs.length (cp2 0), .slice (ad2 1) zs.length (cp2 1), .slice (ad2 2) zs.length (cp2 2), .slice (ad2 3) zs.length (cp2 3)] 55) = wm at *
            generalize wm0.heap.size = pm at *
            have HpmL : Hid (∀ k, IntsAt wm (ad2 k) (DkL (x' + 1) zs k)) := Lib.hid (fun k => (HL.out k).fut F3)
            replace HROW3 := Lib.hid (HROW3.out.below F3 (World.block_lt_of_cell? _ _ (HROW3.out.cell 0 (by omega))))
            replace Hpl := Lib.hid (fun k hk => (RowKit.Below.cell F3 (p := ⟨pl, k, none⟩) (World.block_lt_of_cell? _ _ (Hpl.out k hk))).trans (Hpl.out k hk))
            replace HplL := Lib.hid (fun k => (HplL.out k).fut F3)
            replace HAO := Lib.hid (HAO.out.fut F3)
            replace HA1 := Lib.hid (HA1.out.fut F3)
            replace HF := Lib.hid (HF.out.trans F3)
            clear HL F3
            go_wp2_with fail
            refine (od_len (x' + 1) (some ⟨gc, 0, none⟩) lo cap co zs os _ HK1.out HPERM.out HROW3.out.ints HAO.out).mono ?_
            rintro _ wo ⟨lb, cb, rfl, ha, F⟩
            replace HROW3 := Lib.hid (HROW3.out.below F (World.block_lt_of_cell? _ _ (HROW3.out.cell 0 (by omega))))
            replace Hpl := Lib.hid (fun k hk => (RowKit.Below.cell F (p := ⟨pl, k, none⟩) (World.block_lt_of_cell? _ _ (Hpl.out k hk))).trans (Hpl.out k hk))
            replace HplL := Lib.hid (fun k => (HplL.out k).fut F)
            replace Hpm := Lib.hid (fun k hk => (RowKit.Below.cell F (p := ⟨pm, k, none⟩) (World.block_lt_of_cell? _ _ (Hpm.out k hk))).trans (Hpm.out k hk))
            replace HpmL := Lib.hid (fun k => (HpmL.out k).fut F)
            replace HAO := Lib.hid (HAO.out.fut F)
            replace HA1 := Lib.hid (HA1.out.fut F)
            replace HF := Lib.hid (HF.out.trans F)
            have HA2 := Lib.hid ha
            clear ha F
            go_wp2_with fail
            refine (st_dvn (x' + 1) zs _ (some ⟨gc, 0, none⟩) lb cap cb _ HK1.out (oL_isDiv HK1.out os HPERM.out) HROW3.out.ints HA2.out).mono ?_
            rintro _ _ ⟨rfl, rfl⟩
            obtain ⟨ba, oa, rfl, _, hca⟩ := HA1.out.addr (by rw [(oL_isDiv HK.out os HPERM.out).1]; omega)
            obtain ⟨bb, ob, rfl, _, hcb⟩ := HA2.out.addr (by rw [(oL_isDiv HK1.out os HPERM.out).1]; omega)
            have HCA := Lib.hid hca
            have HCB := Lib.hid hcb
            have HMD := Lib.hid (fun c i hi => more_dk HK.out hlt2 c i hi)
            have HMO := Lib.hid (fun i hi => more_oL HK.out os HPERM.out i hi)
            clear hca hcb
            go_wp2_with fail
            go_loopw [126] (fun iv wr => ∃ (i q : Nat), i ≤ zs.length ∧ iv = .int .i64 i ∧ wr = wo.drewN q) (fun iv _ => zs.length - (intOf iv).toNat)
            case atStart => exact ⟨0, 0, Nat.zero_le _, rfl, rfl⟩
            case round =>
              obtain ⟨i, q, hi, rfl, rfl⟩ := hrel
              by_cases hil : i < zs.length
              · have hix : (i : Int) < zs.length := by omega
                go_wp2_with fail
                go_loopw [129] (fun kv wr => ∃ (c q : Nat), c ≤ 4 ∧ kv = .int .i64 c ∧ wr = wo.drewN q) (fun kv _ => 4 - (intOf kv).toNat)
                case atStart => exact ⟨0, q, by omega, rfl, rfl⟩
                case round =>
                  obtain ⟨c, qc, hc, rfl, rfl⟩ := hrel
                  by_cases hc4 : c < 4
                  · obtain ⟨bd, od, hd, _, hcd⟩ := (HplL.out c).addr (by rw [(dk_isDiv HK.out c).1]; omega)
                    obtain ⟨bm, om, hdm, _, hcm⟩ := (HpmL.out c).addr (by rw [(dk_isDiv HK1.out c).1]; omega)
                    have hp1 := Hpl.out c hc4
                    have hp2 := Hpm.out c hc4
                    rw [hd] at hp1
                    rw [hdm] at hp2
                    have hcx : (c : Int) < 4 := by omega
                    have s2 : (wo.drewN qc).cell? ⟨pl, c, none⟩ = some (.slice (some ⟨bd, od, none⟩) zs.length (cp c)) := hp1
                    have s3 : (wo.drewN qc).cell? ⟨pm, c, none⟩ = some (.slice (some ⟨bm, om, none⟩) zs.length (cp2 c)) := hp2
                    have s4 : (wo.drewN qc).cell? ⟨bm, om + i, none⟩ = some (.int .i64 (nth (DkL (x' + 1) zs c) i)) := hcm i (by rw [(dk_isDiv HK1.out c).1]; exact hil)
                    have s5 : (wo.drewN qc).cell? ⟨bd, od + i, none⟩ = some (.int .i64 (nth (DkL x' zs c) i)) := hcd i (by rw [(dk_isDiv HK.out c).1]; exact hil)
                    have hle := HMD.out c i hil
                    clear hd hdm hcd hcm hp1 hp2
                    generalize nth (DkL (x' + 1) zs c) i = dm at *
                    generalize nth (DkL x' zs c) i = dl at *
                    have t1 : decide (dm < dl) = false := by simp; omega
                    generalize hw : wo.drewN qc = wj at s2 s3 s4 s5
                    have HWJ := Lib.hid hw
                    clear hw hle
                    go_wp2_with fail
                    go_quiet (fail)
                    clear t1
                    go_wp2
                    go_roundw
                    case rel => exact ⟨c + 1, qc + nq, by omega, by go_num, by rw [← HWJ.out, World.drewN_drewN]⟩
                    case measure => simp [intOf]; omega
                  · have hcx : ¬ (c : Int) < 4 := by omega
                    have s4 : (wo.drewN qc).cell? ⟨bb, ob + i, none⟩ = some (.int .i64 (nth (oL (x' + 1) zs os) i)) := HCB.out i (by rw [(oL_isDiv HK1.out os HPERM.out).1]; exact hil)
                    have s5 : (wo.drewN qc).cell? ⟨ba, oa + i, none⟩ = some (.int .i64 (nth (oL x' zs os) i)) := HCA.out i (by rw [(oL_isDiv HK.out os HPERM.out).1]; exact hil)
                    have hle := HMO.out i hil
                    generalize nth (oL (x' + 1) zs os) i = dm at *
                    generalize nth (oL x' zs os) i = dl at *
                    have t1 : decide (dm < dl) = false := by simp; omega
                    generalize hw : wo.drewN qc = wj at s4 s5
                    have HWJ := Lib.hid hw
                    clear hw hle
                    go_wp2_with fail
                    go_quiet (fail)
                    clear t1
                    go_wp2
                    go_roundw
                    case rel => exact ⟨i + 1, qc + nq, by omega, by go_num, by rw [← HWJ.out, World.drewN_drewN]⟩
                    case measure => simp [intOf]; omega
              · obtain rfl : i = zs.length := by omega
                replace HF := Lib.hid (HF.out.trans (Fut.drewN wo q))
                replace HROW3 : Hid (RowN (wo.drewN q) gc zs) := HROW3
                clear HMD HMO HCA HCB Hpl HplL Hpm HpmL HA1 HA2 HAO
                by_cases hpar : zs.sum % 2 = 1
                · have hz0 := full_nth1 HK.out 0 (by omega)
                  have hz3 : nth zs 0 ≤ 300 := by have := H300.out _ (List.getElem_mem (show 0 < zs.length by omega)); rw [nth_eq, List.getElem?_eq_getElem (by omega)]; exact this.2
                  have c0 := HROW3.out.cell 0 (by omega)
                  have f0 := HROW3.out.2 0
                  have HS2 := Lib.hid (HROW3.out.set 0 (nth zs 0 + 1) (by omega))
                  have HF2 : Hid (Fut w ((wo.drewN q).setCell ⟨gc, 0, none⟩ (.int .i64 (nth zs 0 + 1)))) := Lib.hid (RowKit.Below.setCell HF.out (p := ⟨gc, 0, none⟩) hgw _)
                  have HRS := Lib.hid (refsum_any (some ⟨gc, 0, none⟩) cap zs (wo.drewN q) (full_small HK.out) HROW3.out.ints)
                  have hb0 : (zs.sum % 2 == 1) = true := by rw [beq_iff_eq]; exact hpar
                  have hl2 : (zs.set 0 (nth zs 0 + 1)).length = zs.length := by simp
                  have hs2 : (zs.set 0 (nth zs 0 + 1)).sum = zs.sum + 1 := by rw [sum_set0 _ _ (by omega)]; omega
                  have HK2 : Hid (Full5 ((zs.set 0 (nth zs 0 + 1)).sum / 2) (zs.set 0 (nth zs 0 + 1))) := Lib.hid (full_of (by rw [hl2]; omega) (by rw [hl2]; omega) (fun k hk => by
                    rw [hl2] at hk
                    rw [nth_set0 _ _ (by omega)]
                    split
                    · omega
                    · exact full_nth1 HK.out k hk) (by rw [hs2]; omega))
                  have hev : (zs.set 0 (nth zs 0 + 1)).sum % 2 = 0 := by rw [hs2]; omega
                  have HL2 := Lib.hid hl2
                  have HEV := Lib.hid hev
                  have hs5 : 0 ≤ (zs.set 0 (nth zs 0 + 1)).sum ∧ (zs.set 0 (nth zs 0 + 1)).sum ≤ 6000 := by rw [hs2]; omega
                  clear hl2 hs2 hev hpar HROW3 HF
                  go_wp2_with fail
                  refine HRS.out.mono ?_
                  rintro _ _ ⟨rfl, rfl⟩
                  clear HRS
                  go_wp2_with fail
                  clear c0 f0 hb0
                  generalize (wo.drewN q).setCell ⟨gc, 0, none⟩ (.int .i64 (nth zs 0 + 1)) = ws at *
                  generalize zs.set 0 (nth zs 0 + 1) = zs2 at *
                  have HROW3 := HS2
                  have HF := HF2
                  clear HS2 HF2 hz0 hz3
                  go_wp2_with fail
                  refine (rs_len zs2 zs.length (some ⟨gc, 0, none⟩) cap _ HK2.out HL2.out HROW3.out.ints).mono ?_
                  rintro _ _ ⟨rfl, rfl⟩
                  go_wp2_with fail
                  refine (all_len (zs2.sum / 2) zs2 zs.length (some ⟨gc, 0, none⟩) cap _ HK2.out HL2.out HROW3.out.ints).mono ?_
                  rintro _ wh0 ⟨ad3, cp3, rfl, hal, F⟩
                  replace HROW3 := Lib.hid (HROW3.out.below F (World.block_lt_of_cell? _ _ (HROW3.out.cell 0 (by rw [HL2.out]; omega))))
                  replace HF := Lib.hid (HF.out.trans F)
                  have HL := Lib.hid hal
                  clear hal F
                  go_wp2_with fail
                  have F3 := Fut.alloc wh0 (.cells #[.slice (ad3 0) zs.length (cp3 0), .slice (ad3 1) zs.length (cp3 1), .slice (ad3 2) zs.length (cp3 2), .slice (ad3 3) zs.length (cp3 3)] 55)
                  have HPH := Lib.hid (four_new wh0 ad3 cp3 zs.length)
                  generalize wh0.alloc (.cells #[.slice (ad3 0) zs.length (cp3 0), .slice (ad3 1) zs.length (cp3 1), .slice (ad3 2) zs.length (cp3 2), .slice (ad3 3) zs.length (cp3 3)] 55) = wh at *
                  generalize wh0.heap.size = ph at *
                  have HPL : Hid (∀ k, IntsAt wh (ad3 k) (DkL (zs2.sum / 2) zs2 k)) := Lib.hid (fun k => (HL.out k).fut F3)
                  replace HROW3 := Lib.hid (HROW3.out.below F3 (World.block_lt_of_cell? _ _ (HROW3.out.cell 0 (by rw [HL2.out]; omega))))
                  replace HF := Lib.hid (HF.out.trans F3)
                  clear HL F3
                  obtain ⟨b0, o0, ha0, _, hc0⟩ := (HPL.out 0).addr (by rw [(dk_isDiv HK2.out 0).1, HL2.out]; omega)
                  obtain ⟨b3, o3, ha3, _, hc3⟩ := (HPL.out 3).addr (by rw [(dk_isDiv HK2.out 3).1, HL2.out]; omega)
                  have hp0 := HPH.out 0 (by omega)
                  have hp3 := HPH.out 3 (by omega)
                  rw [ha0] at hp0
                  rw [ha3] at hp3
                  have HC0 := Lib.hid hc0
                  have HC3 := Lib.hid hc3
                  have HN2 := Lib.hid (full_nth HK2.out)
                  have HH := Lib.hid (fun i hi => half_nth HK2.out HEV.out i hi)
                  clear ha0 ha3 hc0 hc3 HPH HPL
                  go_wp2_with fail
                  go_loopw [177] (fun iv wr => ∃ (i q : Nat), i ≤ zs.length ∧ iv = .int .i64 i ∧ wr = wh.drewN q) (fun iv _ => zs.length - (intOf iv).toNat)
                  case atStart => exact ⟨0, 0, Nat.zero_le _, rfl, rfl⟩
                  case round =>
                    obtain ⟨i, q, hi, rfl, rfl⟩ := hrel
                    by_cases hil : i < zs.length
                    · have hil2 : i < zs2.length := by rw [HL2.out]; exact hil
                      have hix : (i : Int) < zs.length := by omega
                      have s1 : (wh.drewN q).cell? ⟨gc, i, none⟩ = some (.int .i64 (nth zs2 i)) := HROW3.out.cell i hil2
                      have s2 : (wh.drewN q).cell? ⟨ph, 0, none⟩ = some (.slice (some ⟨b0, o0, none⟩) zs.length (cp3 0)) := hp0
                      have s3 : (wh.drewN q).cell? ⟨ph, 3, none⟩ = some (.slice (some ⟨b3, o3, none⟩) zs.length (cp3 3)) := hp3
                      have s4 : (wh.drewN q).cell? ⟨b0, o0 + i, none⟩ = some (.int .i64 (nth (gD (zs2.sum / 2) zs2) i)) := HC0.out i (by rw [(dk_isDiv HK2.out 0).1]; exact hil2)
                      have s5 : (wh.drewN q).cell? ⟨b3, o3 + i, none⟩ = some (.int .i64 (nth (gA (zs2.sum / 2) zs2) i)) := HC3.out i (by rw [(dk_isDiv HK2.out 3).1]; exact hil2)
                      obtain ⟨h1, h2⟩ := HH.out i hil2
                      obtain ⟨n1, n2⟩ := HN2.out i
                      rw [h1] at s4
                      rw [h2] at s5
                      clear h1 h2 hp0 hp3
                      generalize nth zs2 i = zi at *
                      generalize hw : wh.drewN q = wj at s1 s2 s3 s4 s5
                      have HWJ := Lib.hid hw
                      clear hw
                      go_wp2_with fail
                      go_roundw
                      case rel => exact ⟨i + 1, q, by omega, by go_num, HWJ.out.symm⟩
                      case measure => simp [intOf]; omega
                    · have F1 : Fut w (wh.drewN q) := HF.out.trans (Fut.drewN _ _)
                      clear hp0 hp3
                      go_wp2_with fail
                      refine (works_any _).mono ?_
                      rintro _ v4 ⟨rfl, F⟩
                      go_wp2_with fail
                      go_ret
                      exact ⟨rfl, F1.trans F⟩
                · have hev : zs.sum % 2 = 0 := by omega
                  have hb0 : (zs.sum % 2 == 1) = false := by rw [beq_eq_false_iff_ne]; exact hpar
                  have HRS := Lib.hid (refsum_any (some ⟨gc, 0, none⟩) cap zs (wo.drewN q) (full_small HK.out) HROW3.out.ints)
                  have HK2 : Hid (Full5 (zs.sum / 2) zs) := Lib.hid ⟨HK.out.1, HK.out.2.1, HK.out.2.2.1, by omega, by omega⟩
                  have HEV := Lib.hid hev
                  have hs5 : 0 ≤ zs.sum ∧ zs.sum ≤ 6000 := by omega
                  clear hev hpar
                  go_wp2_with fail
                  refine HRS.out.mono ?_
                  rintro _ _ ⟨rfl, rfl⟩
                  clear HRS
                  generalize (wo.drewN q) = ws at *
                  go_wp2_with fail
                  refine (rs_len zs zs.length (some ⟨gc, 0, none⟩) cap _ HK2.out rfl HROW3.out.ints).mono ?_
                  rintro _ _ ⟨rfl, rfl⟩
                  go_wp2_with fail
                  refine (all_len (zs.sum / 2) zs zs.length (some ⟨gc, 0, none⟩) cap _ HK2.out rfl HROW3.out.ints).mono ?_
                  rintro _ wh0 ⟨ad3, cp3, rfl, hal, F⟩
                  replace HROW3 := Lib.hid (HROW3.out.below F (World.block_lt_of_cell? _ _ (HROW3.out.cell 0 (by omega))))
                  replace HF := Lib.hid (HF.out.trans F)
                  have HL := Lib.hid hal
                  clear hal F
                  go_wp2_with fail
                  have F3 := Fut.alloc wh0 (.cells #[.slice (ad3 0) zs.length (cp3 0), .slice (ad3 1) zs.length (cp3 1), .slice (ad3 2) zs.length (cp3 2), .slice (ad3 3) zs.length (cp3 3)] 55)
                  have HPH := Lib.hid (four_new wh0 ad3 cp3 zs.length)
                  generalize wh0.alloc (.cells #[.slice (ad3 0) zs.length (cp3 0), .slice (ad3 1) zs.length (cp3 1), .slice (ad3 2) zs.length (cp3 2), .slice (ad3 3) zs.length (cp3 3)] 55) = wh at *
                  generalize wh0.heap.size = ph at *
                  have HPL : Hid (∀ k, IntsAt wh (ad3 k) (DkL (zs.sum / 2) zs k)) := Lib.hid (fun k => (HL.out k).fut F3)
                  replace HROW3 := Lib.hid (HROW3.out.below F3 (World.block_lt_of_cell? _ _ (HROW3.out.cell 0 (by omega))))
                  replace HF := Lib.hid (HF.out.trans F3)
                  clear HL F3
                  obtain ⟨b0, o0, ha0, _, hc0⟩ := (HPL.out 0).addr (by rw [(dk_isDiv HK2.out 0).1]; omega)
                  obtain ⟨b3, o3, ha3, _, hc3⟩ := (HPL.out 3).addr (by rw [(dk_isDiv HK2.out 3).1]; omega)
                  have hp0 := HPH.out 0 (by omega)
                  have hp3 := HPH.out 3 (by omega)
                  rw [ha0] at hp0
                  rw [ha3] at hp3
                  have HC0 := Lib.hid hc0
                  have HC3 := Lib.hid hc3
                  have HN2 := Lib.hid (full_nth HK2.out)
                  have HH := Lib.hid (fun i hi => half_nth HK2.out HEV.out i hi)
                  clear ha0 ha3 hc0 hc3 HPH HPL
                  go_wp2_with fail
                  go_loopw [177] (fun iv wr => ∃ (i q : Nat), i ≤ zs.length ∧ iv = .int .i64 i ∧ wr = wh.drewN q) (fun iv _ => zs.length - (intOf iv).toNat)
                  case atStart => exact ⟨0, 0, Nat.zero_le _, rfl, rfl⟩
                  case round =>
                    obtain ⟨i, q, hi, rfl, rfl⟩ := hrel
                    by_cases hil : i < zs.length
                    · have hil2 : i < zs.length := by exact hil
                      have hix : (i : Int) < zs.length := by omega
                      have s1 : (wh.drewN q).cell? ⟨gc, i, none⟩ = some (.int .i64 (nth zs i)) := HROW3.out.cell i hil2
                      have s2 : (wh.drewN q).cell? ⟨ph, 0, none⟩ = some (.slice (some ⟨b0, o0, none⟩) zs.length (cp3 0)) := hp0
                      have s3 : (wh.drewN q).cell? ⟨ph, 3, none⟩ = some (.slice (some ⟨b3, o3, none⟩) zs.length (cp3 3)) := hp3
                      have s4 : (wh.drewN q).cell? ⟨b0, o0 + i, none⟩ = some (.int .i64 (nth (gD (zs.sum / 2) zs) i)) := HC0.out i (by rw [(dk_isDiv HK2.out 0).1]; exact hil2)
                      have s5 : (wh.drewN q).cell? ⟨b3, o3 + i, none⟩ = some (.int .i64 (nth (gA (zs.sum / 2) zs) i)) := HC3.out i (by rw [(dk_isDiv HK2.out 3).1]; exact hil2)
                      obtain ⟨h1, h2⟩ := HH.out i hil2
                      obtain ⟨n1, n2⟩ := HN2.out i
                      rw [h1] at s4
                      rw [h2] at s5
                      clear h1 h2 hp0 hp3
                      generalize nth zs i = zi at *
                      generalize hw : wh.drewN q = wj at s1 s2 s3 s4 s5
                      have HWJ := Lib.hid hw
                      clear hw
                      go_wp2_with fail
                      go_roundw
                      case rel => exact ⟨i + 1, q, by omega, by go_num, HWJ.out.symm⟩
                      case measure => simp [intOf]; omega
                    · have F1 : Fut w (wh.drewN q) := HF.out.trans (Fut.drewN _ _)
                      clear hp0 hp3
                      go_wp2_with fail
                      refine (works_any _).mono ?_
                      rintro _ v4 ⟨rfl, F⟩
                      go_wp2_with fail
                      go_ret
                      exact ⟨rfl, F1.trans F⟩
          · clear Hpl HplL HA1 HAO
            by_cases hpar : zs.sum % 2 = 1
            · have hz0 := full_nth1 HK.out 0 (by omega)
              have hz3 : nth zs 0 ≤ 300 := by have := H300.out _ (List.getElem_mem (show 0 < zs.length by omega)); rw [nth_eq, List.getElem?_eq_getElem (by omega)]; exact this.2
              have c0 := HROW3.out.cell 0 (by omega)
              have f0 := HROW3.out.2 0
              have HS2 := Lib.hid (HROW3.out.set 0 (nth zs 0 + 1) (by omega))
              have HF2 : Hid (Fut w (wq.setCell ⟨gc, 0, none⟩ (.int .i64 (nth zs 0 + 1)))) := Lib.hid (RowKit.Below.setCell HF.out (p := ⟨gc, 0, none⟩) hgw _)
              have HRS := Lib.hid (refsum_any (some ⟨gc, 0, none⟩) cap zs wq (full_small HK.out) HROW3.out.ints)
              have hb0 : (zs.sum % 2 == 1) = true := by rw [beq_iff_eq]; exact hpar
              have hl2 : (zs.set 0 (nth zs 0 + 1)).length = zs.length := by simp
              have hs2 : (zs.set 0 (nth zs 0 + 1)).sum = zs.sum + 1 := by rw [sum_set0 _ _ (by omega)]; omega
              have HK2 : Hid (Full5 ((zs.set 0 (nth zs 0 + 1)).sum / 2) (zs.set 0 (nth zs 0 + 1))) := Lib.hid (full_of (by rw [hl2]; omega) (by rw [hl2]; omega) (fun k hk => by
                rw [hl2] at hk
                rw [nth_set0 _ _ (by omega)]
                split
                · omega
                · exact full_nth1 HK.out k hk) (by rw [hs2]; omega))
              have hev : (zs.set 0 (nth zs 0 + 1)).sum % 2 = 0 := by rw [hs2]; omega
              have HL2 := Lib.hid hl2
              have HEV := Lib.hid hev
              have hs5 : 0 ≤ (zs.set 0 (nth zs 0 + 1)).sum ∧ (zs.set 0 (nth zs 0 + 1)).sum ≤ 6000 := by rw [hs2]; omega
              clear hl2 hs2 hev hpar HROW3 HF
              go_wp2_with fail
              refine HRS.out.mono ?_
              rintro _ _ ⟨rfl, rfl⟩
              clear HRS
              go_wp2_with fail
              clear c0 f0 hb0
              generalize wq.setCell ⟨gc, 0, none⟩ (.int .i64 (nth zs 0 + 1)) = ws at *
              generalize zs.set 0 (nth zs 0 + 1) = zs2 at *
              have HROW3 := HS2
              have HF := HF2
              clear HS2 HF2 hz0 hz3
              go_wp2_with fail
              refine (rs_len zs2 zs.length (some ⟨gc, 0, none⟩) cap _ HK2.out HL2.out HROW3.out.ints).mono ?_
              rintro _ _ ⟨rfl, rfl⟩
              go_wp2_with fail
              refine (all_len (zs2.sum / 2) zs2 zs.length (some ⟨gc, 0, none⟩) cap _ HK2.out HL2.out HROW3.out.ints).mono ?_
              rintro _ wh0 ⟨ad3, cp3, rfl, hal, F⟩
              replace HROW3 := Lib.hid (HROW3.out.below F (World.block_lt_of_cell? _ _ (HROW3.out.cell 0 (by rw [HL2.out]; omega))))
              replace HF := Lib.hid (HF.out.trans F)
              have HL := Lib.hid hal
              clear hal F
              go_wp2_with fail
              have F3 := Fut.alloc wh0 (.cells #[.slice (ad3 0) zs.length (cp3 0), .slice (ad3 1) zs.length (cp3 1), .slice (ad3 2) zs.length (cp3 2), .slice (ad3 3) zs.length (cp3 3)] 55)
              have HPH := Lib.hid (four_new wh0 ad3 cp3 zs.length)
              generalize wh0.alloc (.cells #[.slice (ad3 0) zs.length (cp3 0), .slice (ad3 1) zs.length (cp3 1), .slice (ad3 2) zs.length (cp3 2), .slice (ad3 3) zs.length (cp3 3)] 55) = wh at *
              generalize wh0.heap.size = ph at *
              have HPL : Hid (∀ k, IntsAt wh (ad3 k) (DkL (zs2.sum / 2) zs2 k)) := Lib.hid (fun k => (HL.out k).fut F3)
              replace HROW3 := Lib.hid (HROW3.out.below F3 (World.block_lt_of_cell? _ _ (HROW3.out.cell 0 (by rw [HL2.out]; omega))))
              replace HF := Lib.hid (HF.out.trans F3)
              clear HL F3
              obtain ⟨b0, o0, ha0, _, hc0⟩ := (HPL.out 0).addr (by rw [(dk_isDiv HK2.out 0).1, HL2.out]; omega)
              obtain ⟨b3, o3, ha3, _, hc3⟩ := (HPL.out 3).addr (by rw [(dk_isDiv HK2.out 3).1, HL2.out]; omega)
              have hp0 := HPH.out 0 (by omega)
              have hp3 := HPH.out 3 (by omega)
              rw [ha0] at hp0
              rw [ha3] at hp3
              have HC0 := Lib.hid hc0
              have HC3 := Lib.hid hc3
              have HN2 := Lib.hid (full_nth HK2.out)
              have HH := Lib.hid (fun i hi => half_nth HK2.out HEV.out i hi)
              clear ha0 ha3 hc0 hc3 HPH HPL
              go_wp2_with fail
              go_loopw [177] (fun iv wr => ∃ (i q : Nat), i ≤ zs.length ∧ iv = .int .i64 i ∧ wr = wh.drewN q) (fun iv _ => zs.length - (intOf iv).toNat)
              case atStart => exact ⟨0, 0, Nat.zero_le _, rfl, rfl⟩
              case round =>
                obtain ⟨i, q, hi, rfl, rfl⟩ := hrel
                by_cases hil : i < zs.length
                · have hil2 : i < zs2.length := by rw [HL2.out]; exact hil
                  have hix : (i : Int) < zs.length := by omega
                  have s1 : (wh.drewN q).cell? ⟨gc, i, none⟩ = some (.int .i64 (nth zs2 i)) := HROW3.out.cell i hil2
                  have s2 : (wh.drewN q).cell? ⟨ph, 0, none⟩ = some (.slice (some ⟨b0, o0, none⟩) zs.length (cp3 0)) := hp0
                  have s3 : (wh.drewN q).cell? ⟨ph, 3, none⟩ = some (.slice (some ⟨b3, o3, none⟩) zs.length (cp3 3)) := hp3
                  have s4 : (wh.drewN q).cell? ⟨b0, o0 + i, none⟩ = some (.int .i64 (nth (gD (zs2.sum / 2) zs2) i)) := HC0.out i (by rw [(dk_isDiv HK2.out 0).1]; exact hil2)
                  have s5 : (wh.drewN q).cell? ⟨b3, o3 + i, none⟩ = some (.int .i64 (nth (gA (zs2.sum / 2) zs2) i)) := HC3.out i (by rw [(dk_isDiv HK2.out 3).1]; exact hil2)
                  obtain ⟨h1, h2⟩ := HH.out i hil2
                  obtain ⟨n1, n2⟩ := HN2.out i
                  rw [h1] at s4
                  rw [h2] at s5
                  clear h1 h2 hp0 hp3
                  generalize nth zs2 i = zi at *
                  generalize hw : wh.drewN q = wj at s1 s2 s3 s4 s5
                  have HWJ := Lib.hid hw
                  clear hw
                  go_wp2_with fail
                  go_roundw
                  case rel => exact ⟨i + 1, q, by omega, by go_num, HWJ.out.symm⟩
                  case measure => simp [intOf]; omega
                · have F1 : Fut w (wh.drewN q) := HF.out.trans (Fut.drewN _ _)
                  clear hp0 hp3
                  go_wp2_with fail
                  refine (works_any _).mono ?_
                  rintro _ v4 ⟨rfl, F⟩
                  go_wp2_with fail
                  go_ret
                  exact ⟨rfl, F1.trans F⟩
            · have hev : zs.sum % 2 = 0 := by omega
              have hb0 : (zs.sum % 2 == 1) = false := by rw [beq_eq_false_iff_ne]; exact hpar
              have HRS := Lib.hid (refsum_any (some ⟨gc, 0, none⟩) cap zs wq (full_small HK.out) HROW3.out.ints)
              have HK2 : Hid (Full5 (zs.sum / 2) zs) := Lib.hid ⟨HK.out.1, HK.out.2.1, HK.out.2.2.1, by omega, by omega⟩
              have HEV := Lib.hid hev
              have hs5 : 0 ≤ zs.sum ∧ zs.sum ≤ 6000 := by omega
              clear hev hpar
              go_wp2_with fail
              refine HRS.out.mono ?_
              rintro _ _ ⟨rfl, rfl⟩
              clear HRS
              generalize wq = ws at *
              go_wp2_with fail
              refine (rs_len zs zs.length (some ⟨gc, 0, none⟩) cap _ HK2.out rfl HROW3.out.ints).mono ?_
              rintro _ _ ⟨rfl, rfl⟩
              go_wp2_with fail
              refine (all_len (zs.sum / 2) zs zs.length (some ⟨gc, 0, none⟩) cap _ HK2.out rfl HROW3.out.ints).mono ?_
              rintro _ wh0 ⟨ad3, cp3, rfl, hal, F⟩
              replace HROW3 := Lib.hid (HROW3.out.below F (World.block_lt_of_cell? _ _ (HROW3.out.cell 0 (by omega))))
              replace HF := Lib.hid (HF.out.trans F)
              have HL := Lib.hid hal
              clear hal F
              go_wp2_with fail
              have F3 := Fut.alloc wh0 (.cells #[.slice (ad3 0) zs.length (cp3 0), .slice (ad3 1) zs.length (cp3 1), .slice (ad3 2) zs.length (cp3 2), .slice (ad3 3) zs.length (cp3 3)] 55)
              have HPH := Lib.hid (four_new wh0 ad3 cp3 zs.length)
              generalize wh0.alloc (.cells #[.slice (ad3 0) zs.length (cp3 0), .slice (ad3 1) zs.length (cp3 1), .slice (ad3 2) zs.length (cp3 2), .slice (ad3 3) zs.length (cp3 3)] 55) = wh at *
              generalize wh0.heap.size = ph at *
              have HPL : Hid (∀ k, IntsAt wh (ad3 k) (DkL (zs.sum / 2) zs k)) := Lib.hid (fun k => (HL.out k).fut F3)
              replace HROW3 := Lib.hid (HROW3.out.below F3 (World.block_lt_of_cell? _ _ (HROW3.out.cell 0 (by omega))))
              replace HF := Lib.hid (HF.out.trans F3)
              clear HL F3
              obtain ⟨b0, o0, ha0, _, hc0⟩ := (HPL.out 0).addr (by rw [(dk_isDiv HK2.out 0).1]; omega)
              obtain ⟨b3, o3, ha3, _, hc3⟩ := (HPL.out 3).addr (by rw [(dk_isDiv HK2.out 3).1]; omega)
              have hp0 := HPH.out 0 (by omega)
              have hp3 := HPH.out 3 (by omega)
              rw [ha0] at hp0
              rw [ha3] at hp3
              have HC0 := Lib.hid hc0
              have HC3 := Lib.hid hc3
              have HN2 := Lib.hid (full_nth HK2.out)
              have HH := Lib.hid (fun i hi => half_nth HK2.out HEV.out i hi)
              clear ha0 ha3 hc0 hc3 HPH HPL
              go_wp2_with fail
              go_loopw [177] (fun iv wr => ∃ (i q : Nat), i ≤ zs.length ∧ iv = .int .i64 i ∧ wr = wh.drewN q) (fun iv _ => zs.length - (intOf iv).toNat)
              case atStart => exact ⟨0, 0, Nat.zero_le _, rfl, rfl⟩
              case round =>
                obtain ⟨i, q, hi, rfl, rfl⟩ := hrel
                by_cases hil : i < zs.length
                · have hil2 : i < zs.length := by exact hil
                  have hix : (i : Int) < zs.length := by omega
                  have s1 : (wh.drewN q).cell? ⟨gc, i, none⟩ = some (.int .i64 (nth zs i)) := HROW3.out.cell i hil2
                  have s2 : (wh.drewN q).cell? ⟨ph, 0, none⟩ = some (.slice (some ⟨b0, o0, none⟩) zs.length (cp3 0)) := hp0
                  have s3 : (wh.drewN q).cell? ⟨ph, 3, none⟩ = some (.slice (some ⟨b3, o3, none⟩) zs.length (cp3 3)) := hp3
                  have s4 : (wh.drewN q).cell? ⟨b0, o0 + i, none⟩ = some (.int .i64 (nth (gD (zs.sum / 2) zs) i)) := HC0.out i (by rw [(dk_isDiv HK2.out 0).1]; exact hil2)
                  have s5 : (wh.drewN q).cell? ⟨b3, o3 + i, none⟩ = some (.int .i64 (nth (gA (zs.sum / 2) zs) i)) := HC3.out i (by rw [(dk_isDiv HK2.out 3).1]; exact hil2)
                  obtain ⟨h1, h2⟩ := HH.out i hil2
                  obtain ⟨n1, n2⟩ := HN2.out i
                  rw [h1] at s4
                  rw [h2] at s5
                  clear h1 h2 hp0 hp3
                  generalize nth zs i = zi at *
                  generalize hw : wh.drewN q = wj at s1 s2 s3 s4 s5
                  have HWJ := Lib.hid hw
                  clear hw
                  go_wp2_with fail
                  go_roundw
                  case rel => exact ⟨i + 1, q, by omega, by go_num, HWJ.out.symm⟩
                  case measure => simp [intOf]; omega
                · have F1 : Fut w (wh.drewN q) := HF.out.trans (Fut.drewN _ _)
                  clear hp0 hp3
                  go_wp2_with fail
                  refine (works_any _).mono ?_
                  rintro _ v4 ⟨rfl, F⟩
                  go_wp2_with fail
                  go_ret
                  exact ⟨rfl, F1.trans F⟩
end Go.Proofs.Ytdnbdaegahcoeaa
