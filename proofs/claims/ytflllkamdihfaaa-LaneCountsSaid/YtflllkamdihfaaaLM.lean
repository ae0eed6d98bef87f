/- checkWay: checkWay_any -/
import Derived.Test.YtflllkamdihfaaaLL
import Derived.Deep.DeepCutAuto
namespace Go.Proofs.Ytflllkamdihfaaa
open Go.RowKit Go.Sort
/-- the error of a way, wherever it begins and ends. -/
def cwF (c m : Int) (S : List Int) (all : List Int) : List Int → Nat → Int
  | [], _ => 0
  | x :: t, k => if atE m S x = 0 then (if k = 0 ∨ (stL c m S (nth all (k - 1))).contains x = true then cwF c m S all t (k + 1) else 7) else atE m S x
def cwE (c m : Int) (S l : List Int) : Int := if l = [] then 4 else cwF c m S l l 0
theorem at_in {m : Int} {S : List Int} {x : Int} (h : atE m S x = 0) : 0 ≤ x ∧ x < m := by
  unfold atE at h
  by_cases hi : inB m x = true
  · unfold inB at hi; simp at hi; omega
  · rw [if_neg hi] at h; omega
set_option maxRecDepth 100000 in
set_option maxHeartbeats 2000000 in
theorem checkWay_any (r c m : Int) (hs : Side r c m) (a : Option Addr) (cap : Nat) (S : List Int) (b : Option Addr) (bap : Nat) (zs : List Int) (w : World) (hS : IntsAt w a S) (hl : S.length ≤ 1000) (hZ : IntsAt w b zs) (hzl : zs.length ≤ 1000) :
    Calls Try.prog 85 #[parV r c a S.length cap, .slice b zs.length bap] w fun e w' => e = .returned (.int .i64 (cwE c m S zs)) ∧ Fut w w' := by
  have HAT := Lib.hid (fun k W (F : Fut w W) => at_any r c m hs a cap S k W (hS.fut F) hl)
  have HST := Lib.hid (fun k (hk : 0 ≤ k ∧ k < m) W (F : Fut w W) => steps_any r c m hs a cap S k hk W (hS.fut F) hl)
  have HA := Lib.hid hZ
  have hzx : (zs.length : Int) ≤ 1000 := by omega
  have HF := Lib.hid (Fut.alloc w (.cells #[.int .i64 r, .int .i64 c, .slice a S.length cap] 24))
  have HBP := Lib.hid (BoxP.new w r c a S.length cap)
  have HSL := Lib.hid (stL_len c m S)
  unfold cwE
  by_cases h0 : zs = []
  · rw [if_pos h0]
    subst h0
    clear HAT HST HSL hS hl hs hZ
    go_enter Try.func85, Try.ntmps85
    go_wp2_with fail
    go_ret
    exact ⟨rfl, HF.out⟩
  · rw [if_neg h0]
    have hz0 : 0 < zs.length := List.length_pos_iff.2 h0
    have hz0x : ¬ (zs.length : Int) = 0 := by omega
    have hz0b : ((zs.length : Int) == 0) = false := by rw [beq_eq_false_iff_ne]; exact hz0x
    have HE : Hid (cwF c m S zs zs 0 = cwF c m S zs (zs.drop 0) 0) := Lib.hid rfl
    generalize cwF c m S zs zs 0 = E at *
    clear hS hl hs hZ h0
    go_enter Try.func85, Try.ntmps85
    go_wp2_with fail
    generalize w.alloc (.cells #[.int .i64 r, .int .i64 c, .slice a S.length cap] 24) = w1 at *
    go_loopw [13] (fun kv wr => ∃ k : Nat, k ≤ zs.length ∧ kv = .int .i64 k ∧ Hid (E = cwF c m S zs (zs.drop k) k) ∧ Hid (∀ j, j < k → atE m S (nth zs j) = 0) ∧ Hid (Fut w1 wr)) (fun kv _ => zs.length - (intOf kv).toNat)
    case atStart => exact ⟨0, Nat.zero_le _, rfl, HE, Lib.hid (fun j hj => absurd hj (Nat.not_lt_zero j)), Lib.hid Fut.rfl⟩
    case round =>
      obtain ⟨k, hk, rfl, HK, HG, HFk⟩ := hrel
      obtain ⟨wo, hwo⟩ : ∃ wo, wo = wr := ⟨_, rfl⟩
      subst hwo
      have HFW := Lib.hid (HF.out.trans HFk.out)
      by_cases hkl : k < zs.length
      · have hkx : (k : Int) < zs.length := by omega
        have hkk := HK.out
        rw [nth_drop zs k hkl, cwF] at hkk
        obtain ⟨b1, o1, rfl, hb, c1⟩ := (HA.out.fut HFW.out) k hkl
        have HBPo := Lib.hid (HBP.out.fut HFk.out)
        obtain ⟨_, d0, d1, d2⟩ := HBPo.out
        have HI := Lib.hid (HAT.out (nth zs k) wo HFW.out)
        by_cases hae : atE m S (nth zs k) = 0
        · rw [hae] at HI
          rw [if_pos hae] at hkk
          have HG2 : Hid (∀ j, j < k + 1 → atE m S (nth zs j) = 0) := Lib.hid (fun j hj => by
            by_cases e : j = k
            · subst e; exact hae
            · exact HG.out j (by omega))
          by_cases hk0 : 0 < k
          · have hk0x : (0 : Int) < k := by omega
            obtain ⟨b2, o2, e2, _, c2⟩ := (HA.out.fut HFW.out) (k - 1) (by omega)
            simp only [Option.some.injEq, Addr.mk.injEq, and_true] at e2
            obtain ⟨rfl, rfl⟩ := e2
            have hwk : IntKind.i64.wrap ((k : Int) - 1) = ((k - 1 : Nat) : Int) := by rw [IntWalk.i64_in _ ⟨by omega, by omega⟩]; omega
            have hk1x : ((k - 1 : Nat) : Int) < zs.length := by omega
            have hk1n : (0 : Int) ≤ ((k - 1 : Nat) : Int) := by omega
            have HS1 := Lib.hid (fun W F => HST.out (nth zs (k - 1)) (at_in (HG.out (k - 1) (by omega))) W F)
            have hsl2 := HSL.out (nth zs (k - 1))
            generalize nth zs (k - 1) = y at *
            generalize nth zs k = x at *
            generalize k - 1 = k1 at *
            generalize stL c m S y = L at *
            have HCT := Lib.hid (fun (l : Option Addr) (lc : Nat) W (hI : IntsAt W l L) => contains_any l lc L x W hI (by omega))
            cases hct : L.contains x
            · rw [hct] at HCT
              rw [if_neg (by rw [hct]; rintro (q | q); omega; cases q)] at hkk
              have HE2 := Lib.hid hkk
              clear hkk HK hct hae
              go_wp2_with fail
              refine HI.out.mono ?_
              rintro _ w2 ⟨rfl, F⟩
              have HF2 := Lib.hid (HFW.out.trans F)
              have HFk2 := Lib.hid (HFk.out.trans F)
              have c2' := (RowKit.Below.cell F (World.block_lt_of_cell? _ _ c2)).trans c2
              have HBP2 := Lib.hid (HBPo.out.fut F)
              clear F d0 d1 d2 c1 c2
              obtain ⟨_, d0, d1, d2⟩ := HBP2.out
              go_upto_region 9 with fail
              have hS0 : BoxP w2 w.heap.size r c a S.length cap := HBP2.out
              have hlt := hS0.lt
              have hlt2 := World.block_lt_of_cell? _ _ c2'
              go_region_held3 (fun w' => w'.cell? ⟨w.heap.size, 0, none⟩ = some (.int .i64 r) ∧ w'.cell? ⟨w.heap.size, 1, none⟩ = some (.int .i64 c) ∧ w'.cell? ⟨w.heap.size, 2, none⟩ = some (.slice a S.length cap) ∧ w'.cell? ⟨b1, o1 + k1, none⟩ = some (.int .i64 y)) (first | exact hS5 | exact ⟨d0, d1, d2, c2'⟩)
                (first
                  | (go_at_call 108; refine (HS1.out w2.drew (HF2.out.trans (Fut.drewN w2 1))).mono ?_; rintro _ w5 ⟨v5, rfl, hO5, F5⟩; obtain ⟨l5, c5, rfl, hI5⟩ := hO5.ints; have FA5 : Fut w2 w5 := Fut.trans (Fut.drewN w2 1) F5; have hS5 : w5.cell? ⟨w.heap.size, 0, none⟩ = some (.int .i64 r) ∧ w5.cell? ⟨w.heap.size, 1, none⟩ = some (.int .i64 c) ∧ w5.cell? ⟨w.heap.size, 2, none⟩ = some (.slice a S.length cap) ∧ w5.cell? ⟨b1, o1 + k1, none⟩ = some (.int .i64 y) := ⟨(RowKit.Below.cell FA5 (p := ⟨w.heap.size, 0, none⟩) hlt).trans d0, (RowKit.Below.cell FA5 (p := ⟨w.heap.size, 1, none⟩) hlt).trans d1, (RowKit.Below.cell FA5 (p := ⟨w.heap.size, 2, none⟩) hlt).trans d2, (RowKit.Below.cell FA5 (p := ⟨b1, o1 + k1, none⟩) hlt2).trans c2'⟩)
                  | (go_at_call 57; refine (HCT.out l5 c5 w5 hI5).mono ?_; rintro _ _ ⟨rfl, rfl⟩))
              all_goals
                have HF5 := Lib.hid (HF2.out.trans FA5)
                have HFk5 := Lib.hid (HFk2.out.trans FA5)
                clear hO5 hI5 F5 FA5 hwk d0 d1 d2 c2' hS5 hS0 hlt hlt2
                go_wp2
                go_ret
                exact ⟨ret_int HE2.out.symm, HF5.out⟩
            · rw [hct] at HCT
              rw [if_pos (.inr hct)] at hkk
              have HE2 := Lib.hid hkk
              clear hkk HK hct hae
              go_wp2_with fail
              refine HI.out.mono ?_
              rintro _ w2 ⟨rfl, F⟩
              have HF2 := Lib.hid (HFW.out.trans F)
              have HFk2 := Lib.hid (HFk.out.trans F)
              have c2' := (RowKit.Below.cell F (World.block_lt_of_cell? _ _ c2)).trans c2
              have HBP2 := Lib.hid (HBPo.out.fut F)
              clear F d0 d1 d2 c1 c2
              obtain ⟨_, d0, d1, d2⟩ := HBP2.out
              go_upto_region 9 with fail
              have hS0 : BoxP w2 w.heap.size r c a S.length cap := HBP2.out
              have hlt := hS0.lt
              have hlt2 := World.block_lt_of_cell? _ _ c2'
              go_region_held3 (fun w' => w'.cell? ⟨w.heap.size, 0, none⟩ = some (.int .i64 r) ∧ w'.cell? ⟨w.heap.size, 1, none⟩ = some (.int .i64 c) ∧ w'.cell? ⟨w.heap.size, 2, none⟩ = some (.slice a S.length cap) ∧ w'.cell? ⟨b1, o1 + k1, none⟩ = some (.int .i64 y)) (first | exact hS5 | exact ⟨d0, d1, d2, c2'⟩)
                (first
                  | (go_at_call 108; refine (HS1.out w2.drew (HF2.out.trans (Fut.drewN w2 1))).mono ?_; rintro _ w5 ⟨v5, rfl, hO5, F5⟩; obtain ⟨l5, c5, rfl, hI5⟩ := hO5.ints; have FA5 : Fut w2 w5 := Fut.trans (Fut.drewN w2 1) F5; have hS5 : w5.cell? ⟨w.heap.size, 0, none⟩ = some (.int .i64 r) ∧ w5.cell? ⟨w.heap.size, 1, none⟩ = some (.int .i64 c) ∧ w5.cell? ⟨w.heap.size, 2, none⟩ = some (.slice a S.length cap) ∧ w5.cell? ⟨b1, o1 + k1, none⟩ = some (.int .i64 y) := ⟨(RowKit.Below.cell FA5 (p := ⟨w.heap.size, 0, none⟩) hlt).trans d0, (RowKit.Below.cell FA5 (p := ⟨w.heap.size, 1, none⟩) hlt).trans d1, (RowKit.Below.cell FA5 (p := ⟨w.heap.size, 2, none⟩) hlt).trans d2, (RowKit.Below.cell FA5 (p := ⟨b1, o1 + k1, none⟩) hlt2).trans c2'⟩)
                  | (go_at_call 57; refine (HCT.out l5 c5 w5 hI5).mono ?_; rintro _ _ ⟨rfl, rfl⟩))
              all_goals
                have HF5 := Lib.hid (HF2.out.trans FA5)
                have HFk5 := Lib.hid (HFk2.out.trans FA5)
                clear hO5 hI5 F5 FA5 hwk d0 d1 d2 c2' hS5 hS0 hlt hlt2
                go_wp2
                go_roundw
              all_goals first
                | exact ⟨k + 1, by omega, by go_num, HE2, HG2, HFk5⟩
                | ((repeat apply Exists.intro); exact ⟨⟨k + 1, by omega, by go_num, HE2, HG2, HFk5⟩, rfl⟩)
                | (simp [intOf]; omega)
          · have hk0x : ¬ (0 : Int) < k := by omega
            rw [if_pos (.inl (by omega))] at hkk
            have HE2 := Lib.hid hkk
            clear hkk HK hae HST HAT
            generalize nth zs k = x at *
            go_wp2_with fail
            refine HI.out.mono ?_
            rintro _ w2 ⟨rfl, F⟩
            have HFk2 := Lib.hid (HFk.out.trans F)
            clear F d0 d1 d2 c1
            go_wp2_with fail
            refine region_fut (by kernel_rfl) (by kernel_rfl) ?_
            repeat (go_big_quiet_step (fail))
            refine wpQuiet_nil ?_
            intro w10 hw'
            have HF10 := Lib.hid (HFk2.out.trans (after_fut hw'))
            clear hw'
            go_wp2
            go_roundw
            case rel => first | exact ⟨k + 1, by omega, by go_num, HE2, HG2, HF10⟩ | ((repeat apply Exists.intro); exact ⟨⟨k + 1, by omega, by go_num, HE2, HG2, HF10⟩, rfl⟩)
            case measure => simp [intOf]; omega
        · rw [if_neg hae] at hkk
          have HE2 := Lib.hid hkk
          generalize atE m S (nth zs k) = ae at *
          generalize nth zs k = x at *
          clear hkk HK HST HAT
          go_wp2_with fail
          refine HI.out.mono ?_
          rintro _ w2 ⟨rfl, F⟩
          have HF2 := Lib.hid (HFW.out.trans F)
          clear F d0 d1 d2 c1
          go_wp2_with fail
          go_ret
          exact ⟨ret_int HE2.out.symm, HF2.out⟩
      · obtain rfl : k = zs.length := by omega
        have hkk := HK.out
        rw [List.drop_length, cwF] at hkk
        have HE2 := Lib.hid hkk
        clear hkk
        go_wp2_with fail
        go_ret
        exact ⟨ret_int HE2.out.symm, HFW.out⟩
end Go.Proofs.Ytflllkamdihfaaa
