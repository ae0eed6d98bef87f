/- Layer 1: two ways to the average, any quarrel. -/
import Derived.Test.YtdnbdaegahcoeaaQueueD
import Derived.Test.YtdnbdaegahcoeaaOpenQ
import Derived.Test.YtdnbdaegahcoeaaDual8
import Derived.Deep.RegionLawGrows
import Derived.Deep.AppendLies
import Derived.OwnWalk
import Derived.StillTactics
namespace Go.Proofs.Ytdnbdaegahcoeaa
open Go.RowKit Go.Sort
theorem Oth.fut {pm pg gt : Nat} {w a b : World} (o : Oth pm pg gt a b) (F : Fut w a) (h1 : w.heap.size ≤ pm) (h2 : w.heap.size ≤ pg) (h3 : w.heap.size ≤ gt) : Fut w b :=
  ⟨o.os.trans (RowKit.Below.os F), o.tape.trans (RowKit.Below.tape F), o.output.trans (RowKit.Below.output F), Nat.le_trans (RowKit.Below.size F) o.size, fun k hk => (o.block k (Nat.lt_of_lt_of_le hk (RowKit.Below.size F)) (by omega) (by omega) (by omega)).trans (RowKit.Below.block F k hk)⟩
theorem fct_le5 : ∀ n : Fin 6, fct n.val ≤ 120 := by decide
theorem queue_eq (x : Int) (zs : List Int) (h : Full5 x zs) (i : Nat) (hi : i < zs.length) :
    IntKind.i64.wrap (((0 + (ext zs.length zs.length []).length : Nat) : Int) * nth (gA x zs) i) = nth ((list5 (addAll (K zs) (x * 120) (ext zs.length zs.length []) (fun _ => 0))).take zs.length) i := by
  have h5 := h.2.1
  have he := ext_all (K zs) zs.length h5 (x * 120) ⟨i, by omega⟩
  have hb := addAll_bd (K zs) (fun i => K_ptf h i) (x * 120) (by have := h.2.2.2.1; omega) (ext zs.length zs.length []) (fun _ => 0) 0 (fun _ => ⟨by decide, by decide⟩) ⟨i, by omega⟩
  have hm := avgP_mul (K zs) zs.length h5 (x * 120) (fun i => (K120 zs (full_nth h) i).2) ⟨x, by omega⟩ ⟨i, by omega⟩
  have hf := fct_le5 ⟨zs.length, by omega⟩
  simp only at hf
  rw [nth_gA x zs h5 i hi, list5_nth _ _ h5 i hi, he.2, Nat.zero_add, Int.mul_comm, ← hm, ← he.1]
  rw [he.2] at hb
  exact IntWalk.i64_in _ ⟨by omega, by omega⟩
set_option maxRecDepth 100000 in
set_option maxHeartbeats 8000000 in
theorem queue_any (n a b c d e x : Int) (w : World) (hn : 0 ≤ n ∧ n ≤ 255) (ha : 0 ≤ a ∧ a ≤ 65535) (hb : 0 ≤ b ∧ b ≤ 65535) (hc : 0 ≤ c ∧ c ≤ 65535) (hd : 0 ≤ d ∧ d ≤ 65535) (he : 0 ≤ e ∧ e ≤ 65535) (hx : 0 ≤ x ∧ x ≤ 65535) :
    Calls Try.prog 13 #[qv n a b c d e x] w fun e w' => e = .returned (.bool true) ∧ Fut w w' := by
  have hkk : 1 + n % 5 = (((1 + n % 5).toNat : Nat) : Int) := by omega
  have hcs : ∀ j, 0 ≤ nth [a, b, c, d, e] j ∧ nth [a, b, c, d, e] j ≤ 65535 := by
    intro j
    match j with
    | 0 => exact ha
    | 1 => exact hb
    | 2 => exact hc
    | 3 => exact hd
    | 4 => exact he
    | j + 5 => simp [nth_eq]
  obtain ⟨hk1, hk2, _⟩ := drawn_full 1000 (by decide) n x [a, b, c, d, e] _ rfl hkk
  have HM := Lib.hid (fun w => made_any n a b c d e x 1000 [a, b, c, d, e] _ w rfl hn (by decide) hkk hcs hx)
  generalize hk : (1 + n % 5).toNat = k at *
  generalize ([a, b, c, d, e].map (dr 1000)).take k = zs at *
  generalize x % (zs.sum + 1) = x' at *
  clear hk hcs hkk
  subst hk1
  go_enter Try.func13, Try.ntmps13
  go_wp2_with fail
  refine (HM.out _).mono ?_
  rintro _ u1 ⟨l, cap, rfl, hA, F⟩
  have F1 : Fut w u1 := (Fut.alloc w _).trans F
  clear F HM ha hb hc hd he hx hn
  have hz := hk2.1
  have hz5 := hk2.2.1
  have hsum := full_sum hk2
  have hxs := hk2.2.2.2
  have HK := Lib.hid hk2
  have HMK := Lib.hid (mk5 zs.length hz5)
  clear hk2
  obtain ⟨ga, oa, rfl, hga, hcz⟩ := hA.addr (by omega)
  have HZ := Lib.hid hcz
  have HF1 := Lib.hid F1
  have hmk := HMK.out
  clear HMK hA hcz F1
  go_wp2_with fail
  obtain ⟨hC, hM, hFq, hsz, hD⟩ := queue_start u1 x' ga oa cap zs hz5 hga HZ.out
  have hnil : IntsAt (QW u1 x' ga oa cap zs.length) none (valL []) := fun j hj => absurd hj (by simp [valL])
  have h5p : 5 ^ zs.length ≤ 3125 := Nat.le_trans (Nat.pow_le_pow_right (by decide) hz5) (by decide)
  refine (put_all _ _ _ _ _ _ _ _ ga oa cap (u1.heap.size + 8) x' zs HK.out hD zs.length [] (idxL zs.length) none 0 0 (fun _ => 0) _ (List.Perm.refl _) (idxL_length _ hz5) hC hM hnil (fun b off h => by cases h) (fun _ => ⟨rfl, rfl⟩) (fun a h => by cases h) (Nat.le_refl _) (by omega) (by omega) (fun i => ⟨by decide, by omega⟩)).mono ?_
  rintro _ w2 ⟨rfl, hM2, hO2⟩
  have HF2 := Lib.hid (hO2.fut hFq (by omega) (by omega) (by omega))
  have hC2 := hC.oth hD hO2
  clear hC hM hFq hsz hD hnil h5p hO2
  have d1 := hC2.n
  have d2 := hC2.u
  have d3 := hC2.c
  have d4 := hC2.t
  have d5 := hM2.g
  have d6 := hM2.m
  have hA2 : IntsAt w2 (some ⟨ga, oa, none⟩) zs := fun j hj => ⟨ga, oa, rfl, World.block_lt_of_cell? _ _ (hC2.z j hj), hC2.z j hj⟩
  have HT := Lib.hid (fun j hj => hM2.t.cell j hj)
  have HQ := Lib.hid (fun i hi => queue_eq x' zs HK.out i hi)
  have HTL : Hid (((list5 (addAll (K zs) (x' * 120) (ext zs.length zs.length []) (fun _ => 0))).take zs.length).length = zs.length) := Lib.hid (list5_len _ _ hz5)
  clear hC2 hM2
  generalize 0 + (ext zs.length zs.length []).length = many at *
  generalize (list5 (addAll (K zs) (x' * 120) (ext zs.length zs.length []) (fun _ => 0))).take zs.length = ts at *
  generalize hq1 : u1.heap.size + 1 + 1 = pn at *
  clear hq1 hmk HZ hga
  have hA := hA2
  clear hA2
  go_wp2_with fail
  refine (du_avg x' zs (some ⟨ga, oa, none⟩) cap _ HK.out hA).mono ?_
  rintro _ w3 ⟨l3, cap3, rfl, hA3, F3⟩
  obtain ⟨gb, ob, rfl, hgb, hcb⟩ := hA3.addr (by rw [show (gA x' zs).length = zs.length from list5_len _ _ hz5]; omega)
  have e1 := (RowKit.Below.cell F3 (World.block_lt_of_cell? _ _ d1)).trans d1
  have e4 := (RowKit.Below.cell F3 (World.block_lt_of_cell? _ _ d4)).trans d4
  have e5 := (RowKit.Below.cell F3 (World.block_lt_of_cell? _ _ d5)).trans d5
  have e6 := (RowKit.Below.cell F3 (World.block_lt_of_cell? _ _ d6)).trans d6
  have HT3 := Lib.hid (fun j hj => (RowKit.Below.cell F3 (World.block_lt_of_cell? _ _ (HT.out j hj))).trans (HT.out j hj))
  have HCB := Lib.hid hcb
  have HGL : Hid ((gA x' zs).length = zs.length) := Lib.hid (list5_len _ _ hz5)
  have HF3 := Lib.hid ((HF1.out.trans HF2.out).trans F3)
  clear d1 d2 d3 d4 d5 d6 hA hA3 F3 hcb HT HF1 HF2
  go_wp2_with fail
  go_loopw [44] (fun iv wr => ∃ (j q : Nat), j ≤ zs.length ∧ iv = .int .i64 j ∧ wr = w3.drewN q) (fun iv _ => zs.length - (intOf iv).toNat)
  case atStart => exact ⟨0, 0, Nat.zero_le _, rfl, rfl⟩
  case round =>
    obtain ⟨j, q, hj, rfl, rfl⟩ := hrel
    by_cases hlt : j < zs.length
    · have c0 : (w3.drewN q).cell? ⟨gb, ob + j, none⟩ = some (.int .i64 (nth (gA x' zs) j)) := HCB.out j (by rw [HGL.out]; exact hlt)
      have c1 : (w3.drewN q).cell? ⟨pn + 1, j, none⟩ = some (.int .i64 (nth ts j)) := HT3.out j (by rw [HTL.out]; exact hlt)
      have c4 : (w3.drewN q).cell? ⟨pn + 1 + 1, 0, none⟩ = _ := e4
      have c6 : (w3.drewN q).cell? ⟨pn + 1 + 1 + 1, 0, none⟩ = _ := e6
      have w1 := HQ.out j hlt
      have hjx : (j : Int) < zs.length := by omega
      clear e1 e4 e5 e6
      generalize nth (gA x' zs) j = y1 at *
      generalize nth ts j = y at *
      generalize hw : w3.drewN q = wq at c0 c1 c4 c6
      have HW := Lib.hid hw
      clear hw
      go_wp2_with fail
      go_quiet (fail)
      clear w1
      go_wp2
      go_roundw
      case rel => exact ⟨j + 1, q + nq, by omega, by go_num, by rw [← HW.out, World.drewN_drewN]⟩
      case measure => simp [intOf]; omega
    · have hF : Fut w (w3.drewN q) := HF3.out.trans (Fut.drewN _ _)
      clear e1 e4 e5 e6
      go_wp2_with fail
      refine (works_any _).mono ?_
      rintro _ u8 ⟨rfl, F⟩
      go_wp2_with fail
      go_ret
      exact ⟨rfl, hF.trans F⟩
end Go.Proofs.Ytdnbdaegahcoeaa
