/- the law's determinant 49: det49_any -/
import Derived.Test.YtflllkamdihfaaaLHA
import Derived.Test.YtflllkamdihfaaaLNC
import Derived.Test.YtflllkamdihfaaaLGA
namespace Go.Proofs.Ytflllkamdihfaaa
open Go.RowKit Go.Sort
/-- one round of the law's determinant, without the limits of an int. -/
theorem det_round {a b f c e s : Int} (ha : a.natAbs ≤ 65536) (hb : b.natAbs ≤ 65536) (hf : f.natAbs ≤ 65536) (hc : c.natAbs ≤ 65536) (he : e.natAbs ≤ 65536) (hs : s.natAbs ≤ 1125899906842624 * 1024) :
    wrap64 (b * f) = b * f ∧ wrap64 (c * e) = c * e ∧ wrap64 (b * f - c * e) = b * f - c * e ∧ wrap64 (a * (b * f - c * e)) = a * (b * f - c * e) ∧ wrap64 (s + a * (b * f - c * e)) = s + a * (b * f - c * e) ∧ (a * (b * f - c * e)).natAbs ≤ 562949953421312 := by
  have h1 : (b * f).natAbs ≤ 4294967296 := by rw [Int.natAbs_mul]; exact Nat.mul_le_mul hb hf
  have h2 : (c * e).natAbs ≤ 4294967296 := by rw [Int.natAbs_mul]; exact Nat.mul_le_mul hc he
  have h3 : (b * f - c * e).natAbs ≤ 8589934592 := by omega
  have h4 : (a * (b * f - c * e)).natAbs ≤ 562949953421312 := by rw [Int.natAbs_mul]; exact Nat.mul_le_mul ha h3
  refine ⟨IntWalk.wrap64_in _ ⟨by omega, by omega⟩, IntWalk.wrap64_in _ ⟨by omega, by omega⟩, IntWalk.wrap64_in _ ⟨by omega, by omega⟩, IntWalk.wrap64_in _ ⟨by omega, by omega⟩, IntWalk.wrap64_in _ ⟨by omega, by omega⟩, h4⟩
set_option maxRecDepth 100000 in
set_option maxHeartbeats 4000000 in
theorem det49_two (a : Option Addr) (cap : Nat) (t : List (List Int)) (w : World) (hL : LstAt w a t) (hl : t.length = 2) (hr : ∀ k, k < 2 → (lth t k).length = 2) (hb : BndT t) :
    Calls Try.prog 49 #[.slice a 2 cap] w fun e w' => e = .returned (.int .i64 (nth (lth t 0) 0 * nth (lth t 1) 1 - nth (lth t 0) 1 * nth (lth t 1) 0)) ∧ Fut w w' := by
  obtain ⟨bb, off, r0, k0, rfl, _, c0, hI0⟩ := hL 0 (by omega)
  obtain ⟨bb2, off2, r1, k1, ee, _, c1, hI1⟩ := hL 1 (by omega)
  obtain ⟨rfl, rfl⟩ : bb = bb2 ∧ off = off2 := by injection ee with ee; injection ee with e2 e3; exact ⟨e2, e3⟩
  have hm : ∀ k j, k < 2 → j < 2 → (nth (lth t k) j).natAbs ≤ 65536 := fun k j hk hj => hb _ (by rw [lth_get (by omega)]; exact List.getElem_mem _) _ (nth_mem (by rw [hr k hk]; exact hj))
  rw [hr 0 (by omega)] at c0
  rw [hr 1 (by omega)] at c1
  obtain ⟨b0, o0, rfl, _, d00⟩ := hI0 0 (by rw [hr 0 (by omega)]; omega)
  obtain ⟨b0', o0', e0, _, d01⟩ := hI0 1 (by rw [hr 0 (by omega)]; omega)
  obtain ⟨rfl, rfl⟩ : b0 = b0' ∧ o0 = o0' := by injection e0 with ee; injection ee with e2 e3; exact ⟨e2, e3⟩
  obtain ⟨b1, o1, rfl, _, d10⟩ := hI1 0 (by rw [hr 1 (by omega)]; omega)
  obtain ⟨b1', o1', e1, _, d11⟩ := hI1 1 (by rw [hr 1 (by omega)]; omega)
  obtain ⟨rfl, rfl⟩ : b1 = b1' ∧ o1 = o1' := by injection e1 with ee; injection ee with e2 e3; exact ⟨e2, e3⟩
  have m00 := hm 0 0 (by omega) (by omega)
  have m01 := hm 0 1 (by omega) (by omega)
  have m10 := hm 1 0 (by omega) (by omega)
  have m11 := hm 1 1 (by omega) (by omega)
  have HR := Lib.hid (det_round (a := 1) (s := 0) (by decide) m00 m11 m01 m10 (by decide))
  generalize nth (lth t 0) 0 = x00 at *
  generalize nth (lth t 0) 1 = x01 at *
  generalize nth (lth t 1) 0 = x10 at *
  generalize nth (lth t 1) 1 = x11 at *
  simp only [Nat.add_zero] at c0 d00 d10
  clear hL hI0 hI1 hb hm hr hl ee e0 e1
  go_enter Try.func49, Try.ntmps49
  go_wp2_with fail
  go_quiet (fail)
  rw [HR.out.1, HR.out.2.1, HR.out.2.2.1]
  go_wp2_with fail
  go_ret
  exact ⟨rfl, Fut.drewN _ _⟩
set_option maxRecDepth 100000 in
theorem det49_one (a : Option Addr) (cap : Nat) (t : List (List Int)) (w : World) (hL : LstAt w a t) (hl : t.length = 1) (hr : (lth t 0).length = 1) :
    Calls Try.prog 49 #[.slice a 1 cap] w fun e w' => e = .returned (.int .i64 (nth (lth t 0) 0)) ∧ Fut w w' := by
  obtain ⟨bb, off, r0, k0, rfl, _, c0, hI0⟩ := hL 0 (by omega)
  rw [hr] at c0
  obtain ⟨b0, o0, rfl, _, d00⟩ := hI0 0 (by rw [hr]; omega)
  generalize nth (lth t 0) 0 = x00 at *
  simp only [Nat.add_zero] at c0 d00
  clear hL hI0 hr hl
  go_enter Try.func49, Try.ntmps49
  go_wp2_with fail
  go_ret
  exact ⟨rfl, Fut.rfl⟩
/-- the law's sum for three carts. -/
def d3S (t : List (List Int)) : Nat → Int
  | 0 => 0
  | i + 1 => d3S t i + nth (lth t 0) i * (nth (lth t 1) ((i + 1) % 3) * nth (lth t 2) ((i + 2) % 3) - nth (lth t 1) ((i + 2) % 3) * nth (lth t 2) ((i + 1) % 3))
set_option maxRecDepth 100000 in
set_option maxHeartbeats 8000000 in
theorem det49_three (a : Option Addr) (cap : Nat) (t : List (List Int)) (w : World) (hL : LstAt w a t) (hl : t.length = 3) (hr : ∀ k, k < 3 → (lth t k).length = 3) (hb : BndT t) :
    Calls Try.prog 49 #[.slice a 3 cap] w fun e w' => e = .returned (.int .i64 (d3S t 3)) ∧ Fut w w' := by
  obtain ⟨bb, off, r0, k0, rfl, hbb, c0, hI0⟩ := hL 0 (by omega)
  obtain ⟨bb1, off1, r1, k1, ee, _, c1, hI1⟩ := hL 1 (by omega)
  obtain ⟨rfl, rfl⟩ : bb = bb1 ∧ off = off1 := by injection ee with ee; injection ee with e2 e3; exact ⟨e2, e3⟩
  obtain ⟨bb2, off2, r2, k2, ee, _, c2, hI2⟩ := hL 2 (by omega)
  obtain ⟨rfl, rfl⟩ : bb = bb2 ∧ off = off2 := by injection ee with ee; injection ee with e2 e3; exact ⟨e2, e3⟩
  have hm : ∀ k j, k < 3 → j < 3 → (nth (lth t k) j).natAbs ≤ 65536 := fun k j hk hj => hb _ (by rw [lth_get (by omega)]; exact List.getElem_mem _) _ (nth_mem (by rw [hr k hk]; exact hj))
  rw [hr 0 (by omega)] at c0
  rw [hr 1 (by omega)] at c1
  rw [hr 2 (by omega)] at c2
  obtain ⟨b0, o0, rfl, hb0, d00⟩ := hI0 0 (by rw [hr 0 (by omega)]; omega)
  obtain ⟨b', o', e0, _, d01⟩ := hI0 1 (by rw [hr 0 (by omega)]; omega)
  obtain ⟨rfl, rfl⟩ : b0 = b' ∧ o0 = o' := by injection e0 with ee; injection ee with e2 e3; exact ⟨e2, e3⟩
  obtain ⟨b', o', e0, _, d02⟩ := hI0 2 (by rw [hr 0 (by omega)]; omega)
  obtain ⟨rfl, rfl⟩ : b0 = b' ∧ o0 = o' := by injection e0 with ee; injection ee with e2 e3; exact ⟨e2, e3⟩
  obtain ⟨b1, o1, rfl, hb1, d10⟩ := hI1 0 (by rw [hr 1 (by omega)]; omega)
  obtain ⟨b', o', e0, _, d11⟩ := hI1 1 (by rw [hr 1 (by omega)]; omega)
  obtain ⟨rfl, rfl⟩ : b1 = b' ∧ o1 = o' := by injection e0 with ee; injection ee with e2 e3; exact ⟨e2, e3⟩
  obtain ⟨b', o', e0, _, d12⟩ := hI1 2 (by rw [hr 1 (by omega)]; omega)
  obtain ⟨rfl, rfl⟩ : b1 = b' ∧ o1 = o' := by injection e0 with ee; injection ee with e2 e3; exact ⟨e2, e3⟩
  obtain ⟨b2, o2, rfl, hb2, d20⟩ := hI2 0 (by rw [hr 2 (by omega)]; omega)
  obtain ⟨b', o', e0, _, d21⟩ := hI2 1 (by rw [hr 2 (by omega)]; omega)
  obtain ⟨rfl, rfl⟩ : b2 = b' ∧ o2 = o' := by injection e0 with ee; injection ee with e2 e3; exact ⟨e2, e3⟩
  obtain ⟨b', o', e0, _, d22⟩ := hI2 2 (by rw [hr 2 (by omega)]; omega)
  obtain ⟨rfl, rfl⟩ : b2 = b' ∧ o2 = o' := by injection e0 with ee; injection ee with e2 e3; exact ⟨e2, e3⟩
  have m00 := hm 0 0 (by omega) (by omega)
  have m01 := hm 0 1 (by omega) (by omega)
  have m02 := hm 0 2 (by omega) (by omega)
  have m10 := hm 1 0 (by omega) (by omega)
  have m11 := hm 1 1 (by omega) (by omega)
  have m12 := hm 1 2 (by omega) (by omega)
  have m20 := hm 2 0 (by omega) (by omega)
  have m21 := hm 2 1 (by omega) (by omega)
  have m22 := hm 2 2 (by omega) (by omega)
  have HS0 : Hid (d3S t 0 = 0) := Lib.hid rfl
  have HS1 := Lib.hid (show d3S t 1 = d3S t 0 + nth (lth t 0) 0 * (nth (lth t 1) 1 * nth (lth t 2) 2 - nth (lth t 1) 2 * nth (lth t 2) 1) from rfl)
  have HS2 := Lib.hid (show d3S t 2 = d3S t 1 + nth (lth t 0) 1 * (nth (lth t 1) 2 * nth (lth t 2) 0 - nth (lth t 1) 0 * nth (lth t 2) 2) from rfl)
  have HS3 := Lib.hid (show d3S t 3 = d3S t 2 + nth (lth t 0) 2 * (nth (lth t 1) 0 * nth (lth t 2) 1 - nth (lth t 1) 1 * nth (lth t 2) 0) from rfl)
  have hz0 : (d3S t 0).natAbs ≤ 0 := by rw [HS0.out]; decide
  have HR0 := Lib.hid (det_round (s := d3S t 0) m00 m11 m22 m12 m21 (by omega))
  have hz1 : (d3S t 1).natAbs ≤ 562949953421312 := by rw [HS1.out]; have := HR0.out.2.2.2.2.2; omega
  have HR1 := Lib.hid (det_round (s := d3S t 1) m01 m12 m20 m10 m22 (by omega))
  have hz2 : (d3S t 2).natAbs ≤ 562949953421312 * 2 := by rw [HS2.out]; have := HR1.out.2.2.2.2.2; omega
  have HR2 := Lib.hid (det_round (s := d3S t 2) m02 m10 m21 m11 m20 (by omega))
  generalize nth (lth t 0) 0 = x00 at *
  generalize nth (lth t 0) 1 = x01 at *
  generalize nth (lth t 0) 2 = x02 at *
  generalize nth (lth t 1) 0 = x10 at *
  generalize nth (lth t 1) 1 = x11 at *
  generalize nth (lth t 1) 2 = x12 at *
  generalize nth (lth t 2) 0 = x20 at *
  generalize nth (lth t 2) 1 = x21 at *
  generalize nth (lth t 2) 2 = x22 at *
  generalize d3S t = g at *
  simp only [Nat.add_zero] at c0 d00 d10 d20
  have HC := Lib.hid (show w.cell? ⟨bb, off, none⟩ = some (.slice (some ⟨b0, o0, none⟩) 3 k0) ∧ w.cell? ⟨bb, off + 1, none⟩ = some (.slice (some ⟨b1, o1, none⟩) 3 k1) ∧ w.cell? ⟨bb, off + 2, none⟩ = some (.slice (some ⟨b2, o2, none⟩) 3 k2) ∧ w.cell? ⟨b0, o0, none⟩ = some (.int .i64 x00) ∧ w.cell? ⟨b0, o0 + 1, none⟩ = some (.int .i64 x01) ∧ w.cell? ⟨b0, o0 + 2, none⟩ = some (.int .i64 x02) ∧ w.cell? ⟨b1, o1, none⟩ = some (.int .i64 x10) ∧ w.cell? ⟨b1, o1 + 1, none⟩ = some (.int .i64 x11) ∧ w.cell? ⟨b1, o1 + 2, none⟩ = some (.int .i64 x12) ∧ w.cell? ⟨b2, o2, none⟩ = some (.int .i64 x20) ∧ w.cell? ⟨b2, o2 + 1, none⟩ = some (.int .i64 x21) ∧ w.cell? ⟨b2, o2 + 2, none⟩ = some (.int .i64 x22) from ⟨c0, c1, c2, d00, d01, d02, d10, d11, d12, d20, d21, d22⟩)
  clear hL hI0 hI1 hI2 hb hm hr hl ee e0 hz0 hz1 hz2 c0 c1 c2 d00 m00 d01 m01 d02 m02 d10 m10 d11 m11 d12 m12 d20 m20 d21 m21 d22 m22
  go_enter Try.func49, Try.ntmps49
  go_wp2_with fail
  go_loopw [3, 41] (fun sv iv wr => ∃ i n : Nat, i ≤ 3 ∧ iv = .int .i64 i ∧ sv = .int .i64 (g i) ∧ wr = w.drewN n) (fun _ iv _ => 3 - (intOf iv).toNat)
  case atStart => exact ⟨0, 0, by omega, rfl, by rw [HS0.out], rfl⟩
  case round =>
    obtain ⟨i, n, hi, rfl, rfl, rfl⟩ := hrel
    have HC' : Hid ((w.drewN n).cell? ⟨bb, off, none⟩ = some (.slice (some ⟨b0, o0, none⟩) 3 k0) ∧ (w.drewN n).cell? ⟨bb, off + 1, none⟩ = some (.slice (some ⟨b1, o1, none⟩) 3 k1) ∧ (w.drewN n).cell? ⟨bb, off + 2, none⟩ = some (.slice (some ⟨b2, o2, none⟩) 3 k2) ∧ (w.drewN n).cell? ⟨b0, o0, none⟩ = some (.int .i64 x00) ∧ (w.drewN n).cell? ⟨b0, o0 + 1, none⟩ = some (.int .i64 x01) ∧ (w.drewN n).cell? ⟨b0, o0 + 2, none⟩ = some (.int .i64 x02) ∧ (w.drewN n).cell? ⟨b1, o1, none⟩ = some (.int .i64 x10) ∧ (w.drewN n).cell? ⟨b1, o1 + 1, none⟩ = some (.int .i64 x11) ∧ (w.drewN n).cell? ⟨b1, o1 + 2, none⟩ = some (.int .i64 x12) ∧ (w.drewN n).cell? ⟨b2, o2, none⟩ = some (.int .i64 x20) ∧ (w.drewN n).cell? ⟨b2, o2 + 1, none⟩ = some (.int .i64 x21) ∧ (w.drewN n).cell? ⟨b2, o2 + 2, none⟩ = some (.int .i64 x22)) := HC
    generalize hw : w.drewN n = wq at *
    have HW := Lib.hid hw
    clear hw
    obtain ⟨c0, c1, c2, d00, d01, d02, d10, d11, d12, d20, d21, d22⟩ := HC'.out
    rcases (by omega : i = 0 ∨ i = 1 ∨ i = 2 ∨ i = 3) with rfl | rfl | rfl | rfl
    · go_wp2_with fail
      go_quiet (fail)
      rw [HR0.out.1, HR0.out.2.1, HR0.out.2.2.1, HR0.out.2.2.2.1, HR0.out.2.2.2.2.1, ← HS1.out]
      go_wp2_with fail
      go_wp2
      exact ⟨⟨1, n + nq, by omega, by go_num, rfl, by rw [← HW.out, World.drewN_drewN]⟩, by simp [intOf]⟩
    · go_wp2_with fail
      go_quiet (fail)
      rw [HR1.out.1, HR1.out.2.1, HR1.out.2.2.1, HR1.out.2.2.2.1, HR1.out.2.2.2.2.1, ← HS2.out]
      go_wp2_with fail
      go_wp2
      exact ⟨⟨2, n + nq, by omega, by go_num, rfl, by rw [← HW.out, World.drewN_drewN]⟩, by simp [intOf]⟩
    · go_wp2_with fail
      go_quiet (fail)
      rw [HR2.out.1, HR2.out.2.1, HR2.out.2.2.1, HR2.out.2.2.2.1, HR2.out.2.2.2.2.1, ← HS3.out]
      go_wp2_with fail
      go_wp2
      exact ⟨⟨3, n + nq, by omega, by go_num, rfl, by rw [← HW.out, World.drewN_drewN]⟩, by simp [intOf]⟩
    · go_wp2_with fail
      go_wp2
      go_ret
      exact ⟨rfl, by rw [← HW.out]; exact Fut.drewN _ _⟩
/-- the law's determinant is that of the town. -/
theorem det49_any (m : Nat) (h1 : 1 ≤ m) (h3 : m ≤ 3) (a : Option Addr) (cap : Nat) (t : List (List Int)) (w : World) (hL : LstAt w a t) (hl : t.length = m) (hr : ∀ k, k < m → (lth t k).length = m) (hb : BndT t) :
    Calls Try.prog 49 #[.slice a m cap] w fun e w' => e = .returned (.int .i64 (detF m t)) ∧ Fut w w' := by
  rcases (by omega : m = 1 ∨ m = 2 ∨ m = 3) with rfl | rfl | rfl
  · refine (det49_one a cap t w hL hl (hr 0 (by omega))).mono ?_
    rintro _ w' ⟨rfl, F⟩
    refine ⟨?_, F⟩
    match t, hl with
    | [r0], _ =>
      have e0 : r0.length = 1 := hr 0 (by omega)
      match r0, e0 with
      | [x], _ => rw [det1]; rfl
  · refine (det49_two a cap t w hL hl hr hb).mono ?_
    rintro _ w' ⟨rfl, F⟩
    refine ⟨?_, F⟩
    match t, hl with
    | [r0, r1], _ =>
      have e0 : r0.length = 2 := hr 0 (by omega)
      have e1 : r1.length = 2 := hr 1 (by omega)
      match r0, r1, e0, e1 with
      | [x, y], [z, u], _, _ => rw [det2]; rfl
  · refine (det49_three a cap t w hL hl hr hb).mono ?_
    rintro _ w' ⟨rfl, F⟩
    refine ⟨?_, F⟩
    match t, hl with
    | [r0, r1, r2], _ =>
      have e0 : r0.length = 3 := hr 0 (by omega)
      have e1 : r1.length = 3 := hr 1 (by omega)
      have e2 : r2.length = 3 := hr 2 (by omega)
      match r0, r1, r2, e0, e1, e2 with
      | [x, y, z], [u, v, p], [q, r, s], _, _, _ =>
        rw [det3]
        refine ret_int ?_
        show 0 + x * (v * s - p * r) + y * (p * q - u * s) + z * (u * r - v * q) = _
        grind
end Go.Proofs.Ytflllkamdihfaaa
