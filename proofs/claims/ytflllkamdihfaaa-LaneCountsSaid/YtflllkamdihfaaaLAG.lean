/- the reference's ascending 77: rasc_any -/
import Derived.Test.YtflllkamdihfaaaLAE
import Derived.Test.YtflllkamdihfaaaLM
namespace Go.Proofs.Ytflllkamdihfaaa
open Go.RowKit Go.Sort
set_option maxRecDepth 100000 in
set_option maxHeartbeats 4000000 in
theorem rasc_any (r c m : Int) (hs : Side r c m) (a : Option Addr) (n cap : Nat) (b : Option Addr) (bap : Nat) (zs : List Int) (w : World) (hS : IntsAt w b zs) (hl : zs.length ≤ 1000) :
    Calls Try.prog 77 #[parV r c a n cap, .slice b zs.length bap] w fun e w' => e = .returned (.int .i64 (ascE m zs)) ∧ Fut w w' := by
  have HCR := Lib.hid (fun x W => rcorner_any r c m hs a n cap x W)
  have HB := Lib.hid hS
  have hzx : (zs.length : Int) ≤ 1000 := by omega
  have HE : Hid (ascE m zs = ascF m zs (zs.drop 0) 0) := Lib.hid rfl
  have hA : Fut w (w.alloc (.cells #[.int .i64 r, .int .i64 c, .slice a n cap] 29)) := Fut.alloc _ _
  have HBP := Lib.hid (BoxR.new w r c a n cap)
  have HA := Lib.hid hA
  generalize ascE m zs = E at *
  clear hS hl hs hA
  go_enter Try.func77, Try.ntmps77
  go_wp2_with fail
  generalize w.alloc (.cells #[.int .i64 r, .int .i64 c, .slice a n cap] 29) = w1 at *
  have HF0 : Hid (Fut w1 w1) := Lib.hid Fut.rfl
  go_loopw [5] (fun kv wr => ∃ k : Nat, k ≤ zs.length ∧ kv = .int .i64 k ∧ Hid (E = ascF m zs (zs.drop k) k) ∧ Hid (Fut w1 wr)) (fun kv _ => zs.length - (intOf kv).toNat)
  case atStart => exact ⟨0, Nat.zero_le _, rfl, HE, HF0⟩
  case round =>
    obtain ⟨k, hk, rfl, HK, HF⟩ := hrel
    clear HE HF0
    by_cases hkl : k < zs.length
    · have hkx : (k : Int) < zs.length := by omega
      have hkk := HK.out
      rw [nth_drop zs k hkl, ascF] at hkk
      obtain ⟨bb, o, rfl, hb, c1⟩ := (HB.out.fut (HA.out.trans HF.out)) k hkl
      have HPV : Hid (∀ W, Fut w1 W → 0 < k → W.cell? ⟨bb, o + (k - 1), none⟩ = some (.int .i64 (nth zs (k - 1)))) := Lib.hid (fun W G h0 => by
        obtain ⟨b1, o1, e1, hb1, c2⟩ := (HB.out.fut (HA.out.trans G)) (k - 1) (by omega)
        simp only [Option.some.injEq, Addr.mk.injEq, and_true] at e1
        obtain ⟨rfl, rfl⟩ := e1
        exact c2)
      have HCV : Hid (∀ W, Fut w1 W → W.cell? ⟨bb, o + k, none⟩ = some (.int .i64 (nth zs k))) := Lib.hid (fun W G => by
        obtain ⟨b1, o1, e1, hb1, c2⟩ := (HB.out.fut (HA.out.trans G)) k hkl
        simp only [Option.some.injEq, Addr.mk.injEq, and_true] at e1
        obtain ⟨rfl, rfl⟩ := e1
        exact c2)
      have HCX := Lib.hid (HCR.out (nth zs k))
      have HKK := Lib.hid hkk
      generalize nth zs (k - 1) = y at *
      generalize nth zs k = x at *
      generalize inB m x = bi at *
      obtain ⟨_, p0, p1, p2⟩ := HBP.out.fut HF.out
      have hlp := World.block_lt_of_cell? _ _ p0
      clear hkk HK hb
      go_upto_region 4 with fail
      go_region_held3 (fun w' => w'.cell? ⟨w.heap.size, 0, none⟩ = some (.int .i64 r) ∧ w'.cell? ⟨w.heap.size, 1, none⟩ = some (.int .i64 c) ∧ w'.cell? ⟨w.heap.size, 2, none⟩ = some (.slice a n cap) ∧ w'.cell? ⟨bb, o + k, none⟩ = some (.int .i64 x)) (first | exact hS5 | exact ⟨p0, p1, p2, c1⟩)
        (first
          | (go_at_call 71; refine (HCX.out _).mono ?_; rintro _ w5 ⟨rfl, F5⟩; have FA5 : Fut wr w5 := Fut.trans (Fut.drewN wr 1) F5; have hS5 : w5.cell? ⟨w.heap.size, 0, none⟩ = some (.int .i64 r) ∧ w5.cell? ⟨w.heap.size, 1, none⟩ = some (.int .i64 c) ∧ w5.cell? ⟨w.heap.size, 2, none⟩ = some (.slice a n cap) ∧ w5.cell? ⟨bb, o + k, none⟩ = some (.int .i64 x) := ⟨(RowKit.Below.cell FA5 (p := ⟨w.heap.size, 0, none⟩) hlp).trans p0, (RowKit.Below.cell FA5 (p := ⟨w.heap.size, 1, none⟩) hlp).trans p1, (RowKit.Below.cell FA5 (p := ⟨w.heap.size, 2, none⟩) hlp).trans p2, HCV.out w5 (HF.out.trans FA5)⟩))
      have HF5 := Lib.hid (HF.out.trans FA5)
      clear F5 FA5 hS5 p0 p1 p2 c1 hlp HF
      cases bi
      · have HE2 : Hid (E = 2) := Lib.hid HKK.out
        clear HKK
        go_wp2_with fail
        go_ret
        exact ⟨ret_int HE2.out.symm, HA.out.trans HF5.out⟩
      · have hkk := HKK.out
        rw [if_pos rfl] at hkk
        have c1 := HCV.out w5 HF5.out
        by_cases hk0 : 0 < k
        · have hk0x : (0 : Int) < k := by omega
          have c2 := HPV.out w5 HF5.out hk0
          have hwk : IntKind.i64.wrap ((k : Int) - 1) = ((k - 1 : Nat) : Int) := by rw [IntWalk.i64_in _ ⟨by omega, by omega⟩]; omega
          have hwk2 : wrap64 ((k : Int) - 1) = ((k - 1 : Nat) : Int) := by unfold wrap64; omega
          have hk1x : ((k - 1 : Nat) : Int) < zs.length := by omega
          generalize k - 1 = k1 at *
          by_cases hle : x ≤ y
          · rw [if_pos ⟨hk0, hle⟩] at hkk
            have HE2 := Lib.hid hkk
            clear hkk HKK
            go_upto_region 6 with fail
            go_quiet (fail)
            have HF6 := Lib.hid (HF5.out.trans (Fut.drewN w5 nq))
            go_wp2_with fail
            go_ret
            exact ⟨ret_int HE2.out.symm, HA.out.trans HF6.out⟩
          · rw [if_neg (fun h => hle h.2)] at hkk
            have HE2 := Lib.hid hkk
            clear hkk HKK
            go_upto_region 6 with fail
            go_quiet (fail)
            have HF6 := Lib.hid (HF5.out.trans (Fut.drewN w5 nq))
            clear hwk hwk2
            go_wp2_with fail
            go_roundw
            all_goals first
              | exact ⟨k + 1, by omega, by go_num, HE2, HF6⟩
              | ((repeat apply Exists.intro); exact ⟨⟨k + 1, by omega, by go_num, HE2, HF6⟩, rfl⟩)
              | (simp [intOf]; omega)
        · have hk0x : ¬ (0 : Int) < k := by omega
          rw [if_neg (fun h => hk0 h.1)] at hkk
          have HE2 := Lib.hid hkk
          clear hkk HKK
          go_upto_region 6 with fail
          go_quiet (fail)
          have HF6 := Lib.hid (HF5.out.trans (Fut.drewN w5 nq))
          go_wp2_with fail
          go_roundw
          all_goals first
            | exact ⟨k + 1, by omega, by go_num, HE2, HF6⟩
            | ((repeat apply Exists.intro); exact ⟨⟨k + 1, by omega, by go_num, HE2, HF6⟩, rfl⟩)
            | (simp [intOf]; omega)
    · obtain rfl : k = zs.length := by omega
      have hkk := HK.out
      rw [List.drop_length, ascF] at hkk
      have HE2 := Lib.hid hkk
      clear hkk
      go_wp2_with fail
      go_ret
      exact ⟨ret_int HE2.out.symm, HA.out.trans HF.out⟩
end Go.Proofs.Ytflllkamdihfaaa
