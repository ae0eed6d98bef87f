/- the reference's placed 78: rdif_any -/
import Derived.Test.YtflllkamdihfaaaLAG
namespace Go.Proofs.Ytflllkamdihfaaa
open Go.RowKit Go.Sort
set_option maxRecDepth 100000 in
set_option maxHeartbeats 4000000 in
theorem rdif_any (r c m : Int) (hs : Side r c m) (a : Option Addr) (cap : Nat) (S : List Int) (b : Option Addr) (bap : Nat) (zs : List Int) (w : World) (hS : IntsAt w a S) (hl : S.length ≤ 1000) (hZ : IntsAt w b zs) (hzl : zs.length ≤ 1000) (hzc : zs.length ≤ bap) :
    Calls Try.prog 78 #[parV r c a S.length cap, .slice b zs.length bap] w fun e w' => e = .returned (.int .i64 (difE m S zs)) ∧ Fut w w' := by
  have HCR := Lib.hid (fun x W => rcorner_any r c m hs a S.length cap x W)
  have HHS := Lib.hid (fun x W (F : Fut w W) => rhas_any a cap S x W (hS.fut F) hl)
  have HB := Lib.hid hZ
  have hzx : (zs.length : Int) ≤ 1000 := by omega
  have HE : Hid (difE m S zs = difF m S zs (zs.drop 0) 0) := Lib.hid rfl
  have hA : Fut w (w.alloc (.cells #[.int .i64 r, .int .i64 c, .slice a S.length cap] 29)) := Fut.alloc _ _
  have HBP := Lib.hid (BoxR.new w r c a S.length cap)
  have HA := Lib.hid hA
  generalize difE m S zs = E at *
  clear hS hl hs hA hZ
  go_enter Try.func78, Try.ntmps78
  go_wp2_with fail
  generalize w.alloc (.cells #[.int .i64 r, .int .i64 c, .slice a S.length cap] 29) = w1 at *
  have HF0 : Hid (Fut w1 w1) := Lib.hid Fut.rfl
  go_loopw [5] (fun kv wr => ∃ k : Nat, k ≤ zs.length ∧ kv = .int .i64 k ∧ Hid (E = difF m S zs (zs.drop k) k) ∧ Hid (Fut w1 wr)) (fun kv _ => zs.length - (intOf kv).toNat)
  case atStart => exact ⟨0, Nat.zero_le _, rfl, HE, HF0⟩
  case round =>
    obtain ⟨k, hk, rfl, HK, HF⟩ := hrel
    clear HE HF0
    by_cases hkl : k < zs.length
    · have hkx : (k : Int) < zs.length := by omega
      have hkk := HK.out
      rw [nth_drop zs k hkl, difF, atE] at hkk
      obtain ⟨bb, o, rfl, hb, c1⟩ := (HB.out.fut (HA.out.trans HF.out)) k hkl
      have HCV : Hid (∀ W, Fut w1 W → W.cell? ⟨bb, o + k, none⟩ = some (.int .i64 (nth zs k))) := Lib.hid (fun W G => by
        obtain ⟨b1, o1, e1, hb1, c2⟩ := (HB.out.fut (HA.out.trans G)) k hkl
        simp only [Option.some.injEq, Addr.mk.injEq, and_true] at e1
        obtain ⟨rfl, rfl⟩ := e1
        exact c2)
      have hst := fun W => slice_toI bb o zs.length bap k (by omega) W
      have HCT := Lib.hid (fun W (F : Fut w W) => rhas_any (some ⟨bb, o, none⟩) bap (zs.take k) (nth zs k) W ((HB.out.fut F).take k) (by rw [List.length_take]; omega))
      rw [List.length_take, Nat.min_eq_left (by omega)] at HCT
      have HCX := Lib.hid (HCR.out (nth zs k))
      have HHX := Lib.hid (HHS.out (nth zs k))
      have HKK := Lib.hid hkk
      generalize (zs.take k).contains (nth zs k) = bc at *
      generalize nth zs k = x at *
      generalize inB m x = bi at *
      generalize S.contains x = bs at *
      obtain ⟨_, p0, p1, p2⟩ := HBP.out.fut HF.out
      have hlp := World.block_lt_of_cell? _ _ p0
      clear hkk HK hb
      go_upto_region 4 with fail
      go_region_held3 (fun w' => w'.cell? ⟨w.heap.size, 0, none⟩ = some (.int .i64 r) ∧ w'.cell? ⟨w.heap.size, 1, none⟩ = some (.int .i64 c) ∧ w'.cell? ⟨w.heap.size, 2, none⟩ = some (.slice a S.length cap) ∧ w'.cell? ⟨bb, o + k, none⟩ = some (.int .i64 x)) (first | exact hS5 | exact ⟨p0, p1, p2, c1⟩)
        (first
          | (go_at_call 71; refine (HCX.out _).mono ?_; rintro _ w5 ⟨rfl, F5⟩; have FA5 : Fut wr w5 := Fut.trans (Fut.drewN wr 1) F5; have hS5 : w5.cell? ⟨w.heap.size, 0, none⟩ = some (.int .i64 r) ∧ w5.cell? ⟨w.heap.size, 1, none⟩ = some (.int .i64 c) ∧ w5.cell? ⟨w.heap.size, 2, none⟩ = some (.slice a S.length cap) ∧ w5.cell? ⟨bb, o + k, none⟩ = some (.int .i64 x) := ⟨(RowKit.Below.cell FA5 (p := ⟨w.heap.size, 0, none⟩) hlp).trans p0, (RowKit.Below.cell FA5 (p := ⟨w.heap.size, 1, none⟩) hlp).trans p1, (RowKit.Below.cell FA5 (p := ⟨w.heap.size, 2, none⟩) hlp).trans p2, HCV.out w5 (HF.out.trans FA5)⟩))
      have HF5 := Lib.hid (HF.out.trans FA5)
      clear F5 FA5 hS5 p0 p1 p2 c1 hlp HF
      cases bi
      · have HE2 : Hid (E = 2) := Lib.hid HKK.out
        clear HKK
        go_wp2_with fail
        go_ret
        exact ⟨ret_int HE2.out.symm, HA.out.trans HF5.out⟩
      · have hkk := HKK.out
        rw [if_pos rfl] at hkk
        have HK3 := Lib.hid hkk
        clear hkk HKK
        have c1 := HCV.out w5 HF5.out
        obtain ⟨_, p0, p1, p2⟩ := HBP.out.fut HF5.out
        have HQ := Lib.hid (fun n => HHX.out (w5.drewN n) ((HA.out.trans HF5.out).trans (Fut.drewN _ n)))
        go_upto_region 6 with fail
        go_quiet (first | (with_reducible (go_at_call 87; exact Calls.quiet_of_same ((HQ.out _).mono fun _ _ ⟨h, h'⟩ => ⟨h, h'.symm⟩))))
        have HF6 := Lib.hid (HF5.out.trans (Fut.drewN w5 nq))
        clear HF5 HQ c1 p0 p1 p2
        generalize w5.drewN nq = w6 at *
        cases bs
        · have hkk := HK3.out
          rw [if_pos (show (if false = true then (20 : Int) else 0) = 0 from rfl)] at hkk
          have HK4 := Lib.hid hkk
          clear hkk HK3
          have c1 := HCV.out w6 HF6.out
          have HQ := Lib.hid (fun n => HCT.out (w6.drewN n) ((HA.out.trans HF6.out).trans (Fut.drewN _ n)))
          go_upto_region 8 with fail
          go_quiet (first | (with_reducible (go_at_call 87; exact Calls.quiet_of_same ((HQ.out _).mono fun _ _ ⟨h, h'⟩ => ⟨h, h'.symm⟩))))
          have HF7 := Lib.hid (HF6.out.trans (Fut.drewN w6 nq))
          clear HF6 HQ c1
          generalize w6.drewN nq = w7 at *
          cases bc
          · have hkk := HK4.out
            rw [if_neg (by decide)] at hkk
            have HE2 := Lib.hid hkk
            clear hkk HK4
            go_wp2_with fail
            go_roundw
            all_goals first
              | exact ⟨k + 1, by omega, by go_num, HE2, HF7⟩
              | ((repeat apply Exists.intro); exact ⟨⟨k + 1, by omega, by go_num, HE2, HF7⟩, rfl⟩)
              | (simp [intOf]; omega)
          · have HE2 : Hid (E = 6) := Lib.hid HK4.out
            clear HK4
            go_wp2_with fail
            go_ret
            exact ⟨ret_int HE2.out.symm, HA.out.trans HF7.out⟩
        · have HE2 : Hid (E = 20) := Lib.hid HK3.out
          clear HK3
          go_wp2_with fail
          go_ret
          exact ⟨ret_int HE2.out.symm, HA.out.trans HF6.out⟩
    · obtain rfl : k = zs.length := by omega
      have hkk := HK.out
      rw [List.drop_length, difF] at hkk
      have HE2 := Lib.hid hkk
      clear hkk
      go_wp2_with fail
      go_ret
      exact ⟨ret_int HE2.out.symm, HA.out.trans HF.out⟩
end Go.Proofs.Ytflllkamdihfaaa
