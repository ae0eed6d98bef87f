/- Layer 1: what ClaimSplit answers. -/
import Derived.Test.YtdnbdaegahcoeaaSplitA
namespace Go.Proofs.Ytdnbdaegahcoeaa
open Go.RowKit Go.Sort
theorem drawn_half (n x : Int) (cs : List Int) (k : Nat) (hcs : cs.length = 5) (hk : 1 + n % 5 = (k : Int)) :
    ((cs.map (dr 500)).take k).length = k ∧ Half5 (x % (((cs.map (dr 500)).take k).sum + 1)) ((cs.map (dr 500)).take k) := by
  have hl : ((cs.map (dr 500)).take k).length = k := by rw [List.length_take, List.length_map, hcs]; omega
  have hm : ∀ c ∈ (cs.map (dr 500)).take k, 1 ≤ c ∧ c ≤ 500 := by
    intro c hc
    obtain ⟨y, _, rfl⟩ := List.mem_map.1 (List.mem_of_mem_take hc)
    unfold dr; omega
  refine ⟨hl, by omega, by omega, hm, ?_, ?_⟩
  · have : 0 ≤ ((cs.map (dr 500)).take k).sum := by
      generalize (cs.map (dr 500)).take k = zs at *
      clear hl hk
      induction zs with
      | nil => simp
      | cons z zs ih => have h1 := hm z (by simp); have h2 := ih (fun c hc => hm c (by simp [hc])); simp; omega
    exact Int.emod_nonneg _ (by omega)
  · have : 0 ≤ ((cs.map (dr 500)).take k).sum := by
      generalize (cs.map (dr 500)).take k = zs at *
      clear hl hk
      induction zs with
      | nil => simp
      | cons z zs ih => have h1 := hm z (by simp); have h2 := ih (fun c hc => hm c (by simp [hc])); simp; omega
    have := Int.emod_lt_of_pos x (show 0 < ((cs.map (dr 500)).take k).sum + 1 by omega)
    omega
theorem half_small {x : Int} {zs : List Int} (h : Half5 x zs) : Small zs := by
  refine ⟨h.2.1, fun k => ?_⟩
  rw [nth_eq]
  rcases hz : zs[k]? with _ | y
  · simp
  · have := h.2.2.1 y (List.mem_of_getElem? hz); simp; omega
theorem dbl_snoc (zs : List Int) (j : Nat) (hj : j < zs.length) : ((dbl zs).take (j + 1)).map (Value.int .i64) = ((dbl zs).take j).map (Value.int .i64) ++ [.int .i64 (2 * nth zs j)] := by
  rw [take_succ' (dbl zs) j (by simpa using hj), dbl_nth]; simp
theorem sp_bd (x : Int) (zs : List Int) (h : Half5 x zs) (i : Nat) (hi : i < zs.length) : -1000000 ≤ nth (spL x zs) i ∧ nth (spL x zs) i ≤ 1000000 := by
  obtain ⟨h1, h2, h3, h4, h5⟩ := h
  have hall : zs.all isClaimB = true := by
    rw [List.all_eq_true]; intro c hc; have := h3 c hc; simp [isClaimB]; omega
  have hm := K_pt hall
  unfold spL
  rw [list5_nth _ _ h2 i hi]
  have := lev_pt (K zs) zs.length (zs.sum * 120 - x * 120) h2 (by omega) hm ⟨i, by omega⟩
  have hk := hm ⟨i, by omega⟩
  unfold Pt at *
  omega
theorem spH_len (x : Int) (zs : List Int) (h : zs.length ≤ 5) : (spH x zs).length = zs.length := list5_len _ _ h
theorem spL_len (x : Int) (zs : List Int) (h : zs.length ≤ 5) : (spL x zs).length = zs.length := list5_len _ _ h
theorem spG_len (x : Int) (zs : List Int) (h : zs.length ≤ 5) : (spG x zs).length = zs.length := list5_len _ _ h
set_option maxRecDepth 100000 in
set_option maxHeartbeats 1000000 in
theorem split_any (n a b c d e x : Int) (w : World) (hn : 0 ≤ n ∧ n ≤ 255) (ha : 0 ≤ a ∧ a ≤ 65535) (hb : 0 ≤ b ∧ b ≤ 65535) (hc : 0 ≤ c ∧ c ≤ 65535) (hd : 0 ≤ d ∧ d ≤ 65535) (he : 0 ≤ e ∧ e ≤ 65535) (hx : 0 ≤ x ∧ x ≤ 65535) :
    Calls Try.prog 14 #[qv n a b c d e x] w fun e w' => e = .returned (.bool true) ∧ Fut w w' := by
  have hkk : 1 + n % 5 = (((1 + n % 5).toNat : Nat) : Int) := by omega
  have hcs : ∀ j, 0 ≤ nth [a, b, c, d, e] j ∧ nth [a, b, c, d, e] j ≤ 65535 := by
    intro j
    match j with
    | 0 => exact ha
    | 1 => exact hb
    | 2 => exact hc
    | 3 => exact hd
    | 4 => exact he
    | j + 5 => simp [nth_eq]
  obtain ⟨hk1, hk2⟩ := drawn_half n x [a, b, c, d, e] _ rfl hkk
  have HM := Lib.hid (fun w => made_any n a b c d e x 500 [a, b, c, d, e] _ w rfl hn (by decide) hkk hcs hx)
  obtain ⟨i0, hi, hz0, hz1, hz2⟩ := info_parts info3
  generalize hk : (1 + n % 5).toNat = k at *
  generalize ([a, b, c, d, e].map (dr 500)).take k = zs at *
  generalize x % (zs.sum + 1) = x' at *
  clear hk hcs hkk
  subst hk1
  go_enter Try.func14, Try.ntmps14
  go_wp2_with fail
  refine (HM.out _).mono ?_
  rintro _ u1 ⟨l, cap, rfl, hA, F⟩
  have F0 : Fut w u1 := (Fut.alloc w _).trans F
  clear F HM
  have hz := hk2.1
  have hz5 := hk2.2.1
  obtain ⟨bl, off, rfl, hbl, hcell⟩ := hA.addr (by omega)
  have HA := Lib.hid hA
  have HK := Lib.hid hk2
  have hS := (half_small hk2).2
  have HC : ∀ w1, Fut u1 w1 → ∀ j, j < zs.length → w1.cell? ⟨bl, off + j, none⟩ = some (.int .i64 (nth zs j)) := fun w1 h j hj => ((RowKit.Below.cell h (p := ⟨bl, off + j, none⟩) hbl).trans (hcell j hj))
  have HC := Lib.hid HC
  have HS := Lib.hid hS
  clear hA hk2 hcell hS ha hb hc hd he hx hn
  go_wp2_with fail
  go_loopw [5, 25] (fun v i wr => ∃ j : Nat, j ≤ zs.length ∧ i = .int .i64 j ∧ wr.ownsRow u1.heap.size 3 1 v j (((dbl zs).take j).map (Value.int .i64)) ∧ Fut u1 wr)
    (fun _ i _ => zs.length - (intOf i).toNat)
  case atStart => exact ⟨0, Nat.zero_le _, rfl, World.ownsRow_nil _ _ _ _, Fut.rfl⟩
  case round =>
    obtain ⟨j, hj, rfl, hown, hnx⟩ := hrel
    by_cases hlt : j < zs.length
    · have hcx := HC.out _ hnx j hlt
      have hcj := HS.out j
      have HD := Lib.hid (dbl_snoc zs j hlt)
      have hsz := RowKit.Below.size hnx
      generalize nth zs j = y at *
      have HX := Lib.hid hnx
      clear hnx
      go_wp2_with (first
        | (at_builtin; refine wpList_append_own _ rfl _ _ 22 rfl u1.heap.size 3 i0 (.int .i64 0) 1 8 Try.underlying22 hi hz0 hz1 hz2 rfl (by decide) _ _ _ rfl (hown.alloc _) ⟨wr.heap.size, 0, none⟩ 1 1 [.int .i64 (2 * y)] rfl rfl ?c1 ?c2 ?c3 ?c4 ?c5 ?_)
        | go_in)
      case c1 =>
        intro i u hj
        match i, hj with
        | 0, hj => simp at hj; subst hj; simp [Addr.add]
      case c2 => intro u hu; simp at hu; subst hu; rfl
      case c3 => unfold maxLen; omega
      case c4 => omega
      case c5 => simp; omega
      · intro v' w1 hown' hgrow _
        have HO : Hid (w1.ownsRow u1.heap.size 3 1 v' (j + 1) (((dbl zs).take (j + 1)).map (Value.int .i64))) := Lib.hid (by rw [HD.out]; simpa using hown')
        have HB : Hid (Fut u1 w1) := Lib.hid ((RowKit.Below.alloc HX.out (by omega) _).grown hgrow (by simp; omega) (fun i hi => by have := (hown.lt i hi).1; omega))
        clear hown' hgrow hown hcx HD
        go_wp2
        go_roundw
        case rel => exact ⟨j + 1, by omega, by go_num, HO.out, HB.out⟩
        case measure => simp [intOf]; omega
    · obtain rfl : j = zs.length := by omega
      have hO : Owns wr u1.heap.size u5 (dbl zs) := by
        have e : (dbl zs).take zs.length = dbl zs := List.take_of_length_le (by simp)
        rw [e] at hown
        unfold Owns; simpa using hown
      obtain ⟨l5, cap5, e5, hA5⟩ := hO.ints
      have e5' : u5 = .slice l5 zs.length cap5 := by rw [e5]; simp
      subst e5'
      have hA1 : IntsAt wr (some ⟨bl, off, none⟩) zs := HA.out.fut hnx
      have F1 : Fut w wr := F0.trans hnx
      have HS2 := Lib.hid (fun w h => refsum_any (some ⟨bl, off, none⟩) cap zs w (half_small HK.out) h)
      have hsum := take_sum zs HS.out zs.length (Nat.le_refl _)
      rw [List.take_length] at hsum
      have hxs : 0 ≤ x' ∧ x' ≤ zs.sum := HK.out.2.2.2
      clear hown hO e5 hnx
      have HA5 := Lib.hid hA5
      have HA1 := Lib.hid hA1
      have HF1 := Lib.hid F1
      clear hA5 hA1 F1 F0
      go_wp2_with fail
      have hA5 := HA5.out
      have hA1 := HA1.out
      have F1 := HF1.out
      clear HA5 HA1 HF1
      refine (sp_div x' zs l5 cap5 _ HK.out hA5).mono ?_
      rintro _ u2 ⟨lg, cg, rfl, hg, F⟩
      replace hA5 := hA5.fut F
      replace hA1 := hA1.fut F
      replace F1 := F1.trans F
      clear F
      go_wp2_with fail
      refine (sp_gain x' zs _ cap _ HK.out hA1).mono ?_
      rintro _ u3 ⟨lq, cq, rfl, hq, F⟩
      replace hA5 := hA5.fut F
      replace hA1 := hA1.fut F
      replace hg := hg.fut F
      replace F1 := F1.trans F
      clear F
      go_wp2_with fail
      refine (HS2.out _ hA1).mono ?_
      rintro _ _ ⟨rfl, rfl⟩
      go_wp2_with fail
      refine (sp_div2 x' zs l5 cap5 _ HK.out hA5).mono ?_
      rintro _ u4 ⟨lh, ch, rfl, hh, F⟩
      replace hA5 := hA5.fut F
      replace hA1 := hA1.fut F
      replace hg := hg.fut F
      replace hq := hq.fut F
      replace F1 := F1.trans F
      clear F
      go_wp2_with fail
      refine (sp_loss x' zs _ cap _ HK.out hA1).mono ?_
      rintro _ u5' ⟨lo, co, rfl, ho, F⟩
      replace hA5 := hA5.fut F
      replace hA1 := hA1.fut F
      replace hg := hg.fut F
      replace hq := hq.fut F
      replace hh := hh.fut F
      replace F1 := F1.trans F
      clear F
      go_wp2_with fail
      refine (sp_same lg lq cg cq zs.length _ _ (spG_len x' zs hz5) hz5 hg hq).mono ?_
      rintro _ u6 ⟨rfl, F⟩
      replace hA1 := hA1.fut F
      replace hh := hh.fut F
      replace ho := ho.fut F
      replace F1 := F1.trans F
      clear F
      clear hA5 hg hq
      obtain ⟨bh, oh, rfl, hbh, hch⟩ := hh.addr (by rw [spH_len x' zs hz5]; omega)
      obtain ⟨bo, oo, rfl, hbo, hco⟩ := ho.addr (by rw [spL_len x' zs hz5]; omega)
      obtain ⟨_, _, e, hb1, hc1⟩ := hA1.addr (by omega)
      injection e with e
      injection e with e1 e2
      subst e1 e2
      have H1 := Lib.hid hc1
      have H2 := Lib.hid hch
      have H3 := Lib.hid hco
      have HF1 := Lib.hid F1
      clear hc1 hch hco hh ho hA1 F1 HC
      go_wp2_with fail
      go_loopw [98] (fun iv wr => ∃ (j q : Nat), j ≤ zs.length ∧ iv = .int .i64 j ∧ wr = u6.drewN q) (fun iv _ => zs.length - (intOf iv).toNat)
      case atStart => exact ⟨0, 0, Nat.zero_le _, rfl, rfl⟩
      case round =>
        obtain ⟨j, q, hj, rfl, rfl⟩ := hrel
        by_cases hlt : j < zs.length
        · have p1 : (u6.drewN q).cell? ⟨bl, off + j, none⟩ = some (.int .i64 (nth zs j)) := H1.out j hlt
          have p2 : (u6.drewN q).cell? ⟨bh, oh + j, none⟩ = some (.int .i64 (nth (spH x' zs) j)) := H2.out j (by rw [spH_len x' zs hz5]; exact hlt)
          have p3 : (u6.drewN q).cell? ⟨bo, oo + j, none⟩ = some (.int .i64 (nth (spL x' zs) j)) := H3.out j (by rw [spL_len x' zs hz5]; exact hlt)
          have hjx : (j : Int) < zs.length := by omega
          have hb1' := HS.out j
          have hb2' := sp_bd x' zs HK.out j hlt
          rw [sp_nth x' zs hz5 j hlt] at p2
          generalize nth zs j = y at *
          generalize nth (spL x' zs) j = z at *
          generalize hw : u6.drewN q = wq at p1 p2 p3
          have HW := Lib.hid hw
          clear hw
          go_wp2_with fail
          go_quiet (fail)
          go_wp2
          go_roundw
          case rel => exact ⟨j + 1, q + nq, by omega, by go_num, by rw [← HW.out, World.drewN_drewN]⟩
          case measure => simp [intOf]; omega
        · have hF : Fut w (u6.drewN q) := HF1.out.trans (Fut.drewN _ _)
          go_wp2_with fail
          refine (works_any _).mono ?_
          rintro _ u8 ⟨rfl, F⟩
          go_wp2_with fail
          go_ret
          exact ⟨rfl, hF.trans F⟩
end Go.Proofs.Ytdnbdaegahcoeaa
