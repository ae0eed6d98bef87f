/- Layer 1: what ClaimBest answers. -/
import Derived.Test.YtdnbdaegahcoeaaBestA
namespace Go.Proofs.Ytdnbdaegahcoeaa
open Go.RowKit Go.Sort
set_option maxRecDepth 100000 in
set_option maxHeartbeats 8000000 in
theorem best_any (n a b c d e x p0 p1 p2 p3 p4 : Int) (w : World) (hn : 0 ≤ n ∧ n ≤ 255) (ha : 0 ≤ a ∧ a ≤ 65535) (hb : 0 ≤ b ∧ b ≤ 65535) (hc : 0 ≤ c ∧ c ≤ 65535) (hd : 0 ≤ d ∧ d ≤ 65535) (he : 0 ≤ e ∧ e ≤ 65535) (hx : 0 ≤ x ∧ x ≤ 65535)
    (hy : ∀ j, 0 ≤ nth [p0, p1, p2, p3, p4] j ∧ nth [p0, p1, p2, p3, p4] j ≤ 4294967295) :
    Calls Try.prog 10 #[qv n a b c d e x, ag32 p0 p1 p2 p3 p4] w fun e w' => e = .returned (.bool true) ∧ Fut w w' := by
  have hkk : 1 + n % 5 = (((1 + n % 5).toNat : Nat) : Int) := by omega
  have hcs : ∀ j, 0 ≤ nth [a, b, c, d, e] j ∧ nth [a, b, c, d, e] j ≤ 65535 := by
    intro j
    match j with
    | 0 => exact ha
    | 1 => exact hb
    | 2 => exact hc
    | 3 => exact hd
    | 4 => exact he
    | j + 5 => simp [nth_eq]
  obtain ⟨hk1, hk2, _⟩ := drawn_full 1000 (by decide) n x [a, b, c, d, e] _ rfl hkk
  have HM := Lib.hid (fun w => made_any n a b c d e x 1000 [a, b, c, d, e] _ w rfl hn (by decide) hkk hcs hx)
  generalize hk : (1 + n % 5).toNat = k at *
  generalize ([a, b, c, d, e].map (dr 1000)).take k = zs at *
  generalize x % (zs.sum + 1) = x' at *
  clear hk hcs hkk
  subst hk1
  have HY := Lib.hid hy
  have HK := Lib.hid hk2
  have HD := Lib.hid (out_isDiv zs [p0, p1, p2, p3, p4] x' hk2)
  have hz := hk2.1
  have hz5 := hk2.2.1
  have hsum := full_sum hk2
  have hxs := hk2.2.2.2
  clear hk2 hy ha hb hc hd he hx hn
  have hbox : ∀ (w : World) (u v : Obj), Fut w ((w.alloc u).alloc v) := fun w u v => (Fut.alloc w u).trans (Fut.alloc _ v)
  go_enter Try.func10, Try.ntmps10
  generalize hO : outF zs [p0, p1, p2, p3, p4] x' zs.length = O at *
  have HOO := Lib.hid hO
  clear hO
  go_wp2_with fail
  refine (HM.out _).mono ?_
  rintro _ wa ⟨l, cap, rfl, hA, F⟩
  have F1 : Fut w wa := (hbox w _ _).trans F
  obtain ⟨k0, k1, k2, k3, k4⟩ := box5_new _ _ _ p0 p1 p2 p3 p4 F
  have hsz : w.heap.size + 1 < wa.heap.size := by have := RowKit.Below.size F; simp at this; omega
  clear HM F
  have HB := Lib.hid (fd_isDiv HK.out)
  have HBG := Lib.hid (fun i hi => best_gain HK.out i hi)
  have HBL := Lib.hid (fun i hi => best_loss HK.out i hi)
  have hmin := best_min HK.out HD.out
  have hlo := best_lo HK.out HD.out
  have HN := Lib.hid (full_nth HK.out)
  have HGB := Lib.hid (div_gt HK.out (fd_isDiv HK.out).2.2.1)
  generalize hga : spG x' zs = GA at *
  generalize hlb : spL x' zs = LB at *
  have HGA := Lib.hid hga
  have HLB := Lib.hid hlb
  clear hga hlb
  go_wp2_with fail
  have hA := hA.fut (Fut.alloc wa (.cells #[.slice l zs.length cap] 22))
  have F1 := F1.trans (Fut.alloc wa (.cells #[.slice l zs.length cap] 22))
  have hp : (wa.alloc (.cells #[.slice l zs.length cap] 22)).cell? ⟨wa.heap.size, 0, none⟩ = some (.slice l zs.length cap) := World.cell?_alloc_at _ _ _ _ rfl
  clear k0 k1 k2 k3 k4 hsz
  generalize wa.alloc (.cells #[.slice l zs.length cap] 22) = wp at *
  generalize wa.heap.size = pb at *
  refine (spread_any x' l cap zs [p0, p1, p2, p3, p4] p0 p1 p2 p3 p4 _ HK.out rfl HY.out hA).mono ?_
  rintro _ wb ⟨v, rfl, hO, hB⟩
  rw [HOO.out] at hO
  obtain ⟨o1, co1, rfl, ho1, F⟩ := own_out HD.out.1 hO hB
  clear hO hB
  replace hA := hA.fut F
  replace hp := ptr_fut hp F
  replace F1 := F1.trans F
  clear F
  go_wp2_with fail
  have hdd : Calls Try.prog 19 #[.int .i64 x', .slice l zs.length cap] wb (SlN zs.length wb GA) := by rw [← HGA.out]; exact du_gain x' zs l cap _ HK.out hA
  refine hdd.mono ?_
  clear hdd
  rintro _ wc ⟨a1, ca1, rfl, ha1, F⟩
  replace hA := hA.fut F
  replace ho1 := ho1.fut F
  replace hp := ptr_fut hp F
  replace F1 := F1.trans F
  clear F
  go_wp2_with fail
  have hdd : Calls Try.prog 21 #[.int .i64 x', .slice l zs.length cap] wc (SlN zs.length wc LB) := by rw [← HLB.out]; exact du_loss x' zs l cap _ HK.out hA
  refine hdd.mono ?_
  clear hdd
  rintro _ wd ⟨b1, cb1, rfl, hb1, F⟩
  replace hA := hA.fut F
  replace ho1 := ho1.fut F
  replace ha1 := ha1.fut F
  replace hp := ptr_fut hp F
  replace F1 := F1.trans F
  clear F
  go_wp2_with fail
  refine (st_dvn x' zs GA l a1 cap ca1 _ HK.out HB.out.2.1 hA ha1).mono ?_
  rintro _ _ ⟨rfl, rfl⟩
  go_wp2_with fail
  refine (st_dvn x' zs LB l b1 cap cb1 _ HK.out HB.out.2.2.1 hA hb1).mono ?_
  rintro _ _ ⟨rfl, rfl⟩
  go_wp2_with fail
  refine (max_len a1 ca1 zs.length GA _ HB.out.2.1.1 (by omega) hz5 ha1).mono ?_
  rintro _ _ ⟨rfl, rfl⟩
  go_wp2_with fail
  refine (most_len pb l b1 cap cb1 x' zs LB _ HK.out HB.out.2.2.1 hp hA hb1).mono ?_
  rintro _ _ ⟨rfl, rfl⟩
  obtain ⟨bl, off, rfl, hbl, hcl⟩ := hA.addr (by omega)
  obtain ⟨ba, oa, rfl, hba, hca⟩ := ha1.addr (by rw [HB.out.2.1.1]; omega)
  obtain ⟨bb, ob, rfl, hbb, hcb⟩ := hb1.addr (by rw [HB.out.2.2.1.1]; omega)
  have H0 := Lib.hid hcl
  have H1 := Lib.hid hca
  have H2 := Lib.hid hcb
  have HF1 := Lib.hid F1
  have HA := Lib.hid hA
  have HO1 := Lib.hid ho1
  have HA1 := Lib.hid ha1
  have HP := Lib.hid hp
  clear hcl hca hcb F1 hA ho1 ha1 hb1
  go_wp2_with fail
  clear hp
  go_loopw [66] (fun iv wr => ∃ (j q : Nat), j ≤ zs.length ∧ iv = .int .i64 j ∧ wr = wd.drewN q) (fun iv _ => zs.length - (intOf iv).toNat)
  case atStart => exact ⟨0, 0, Nat.zero_le _, rfl, rfl⟩
  case round =>
    obtain ⟨j, q, hj, rfl, rfl⟩ := hrel
    by_cases hlt : j < zs.length
    · have c0 : (wd.drewN q).cell? ⟨bl, off + j, none⟩ = some (.int .i64 (nth zs j)) := H0.out j hlt
      have c1 : (wd.drewN q).cell? ⟨ba, oa + j, none⟩ = some (.int .i64 (nth GA j)) := H1.out j (by rw [HB.out.2.1.1]; exact hlt)
      have c2 : (wd.drewN q).cell? ⟨bb, ob + j, none⟩ = some (.int .i64 (nth LB j)) := H2.out j (by rw [HB.out.2.2.1.1]; exact hlt)
      obtain ⟨n1, n2⟩ := HN.out j
      obtain ⟨g1, g2⟩ := HGB.out j (by rw [HB.out.2.2.1.1]; exact hlt)
      have s1 := HBG.out j hlt
      have s2 := HBL.out j hlt
      have hjx : (j : Int) < zs.length := by omega
      rw [s1] at c1
      generalize mxP GA (zs.length - 1) = GN at *
      generalize loP zs LB zs.length = LS at *
      generalize nth zs j = z at *
      generalize nth LB j = y at *
      have e1 : ((120 * z - y) == (min LS (120 * z))) = true := by rw [beq_iff_eq]; exact s2
      have e2 : ((120 * z - y) != (min LS (120 * z))) = false := by rw [bne, e1]; rfl
      clear s1 s2
      generalize hw : wd.drewN q = wq at c0 c1 c2
      have HW := Lib.hid hw
      clear hw
      go_wp2_with fail
      go_roundw
      case rel => exact ⟨j + 1, q, by omega, by go_num, HW.out.symm⟩
      case measure => simp [intOf]; omega
    · have F1 : Fut w (wd.drewN q) := HF1.out.trans (Fut.drewN _ _)
      have hA := HA.out.fut (Fut.drewN _ q)
      have ho1 := HO1.out.fut (Fut.drewN _ q)
      have ha1 := HA1.out.fut (Fut.drewN _ q)
      have hp := ptr_fut HP.out (Fut.drewN _ q)
      clear HA HO1 HA1 HP HF1 H0 H1 H2
      generalize wd.drewN q = we at *
      have HQ := Lib.hid hp
      clear hp
      go_wp2_with fail
      refine (min_len o1 co1 zs.length O _ HD.out.1 (by omega) hz5 ho1).mono ?_
      rintro _ _ ⟨rfl, rfl⟩
      go_wp2_with fail
      refine (min_len (some ⟨ba, oa, none⟩) ca1 zs.length GA _ HB.out.2.1.1 (by omega) hz5 ha1).mono ?_
      rintro _ _ ⟨rfl, rfl⟩
      go_wp2_with fail
      refine (most_len pb (some ⟨bl, off, none⟩) o1 cap co1 x' zs O _ HK.out HD.out HQ.out hA ho1).mono ?_
      rintro _ _ ⟨rfl, rfl⟩
      go_wp2_with fail
      refine (works_any _).mono ?_
      rintro _ v4 ⟨rfl, F⟩
      go_wp2_with fail
      go_ret
      exact ⟨rfl, F1.trans F⟩

end Go.Proofs.Ytdnbdaegahcoeaa
