/- isBarred: isBarred_any -/
import Derived.Test.YtflllkamdihfaaaLF
namespace Go.Proofs.Ytflllkamdihfaaa
open Go.RowKit Go.Sort
/-- no way goes from a yard to a tip. -/
def barT (c m : Int) (S : List Int) (y : Int) : List Int → Bool
  | [] => true
  | t :: T => if wayN c m S y t = 0 then barT c m S y T else false
def barF (c m : Int) (S T : List Int) : List Int → Bool
  | [] => true
  | y :: Y => if barT c m S y T = true then barF c m S T Y else false
def barB (c m : Int) (S Y T : List Int) : Bool := barF c m S T Y
set_option maxRecDepth 100000 in
set_option maxHeartbeats 4000000 in
theorem isBarred_any (r c m : Int) (hs : Side r c m) (a : Option Addr) (cap : Nat) (S : List Int) (ya : Option Addr) (yc : Nat) (Y : List Int) (ta : Option Addr) (tc : Nat) (T : List Int) (w : World) (h : InPQ w a S ya yc Y ta tc T) :
    Calls Try.prog 96 #[parV r c a S.length cap, plaV ya Y.length yc ta T.length tc] w fun e w' => e = .returned (.bool (barB c m S Y T)) ∧ Fut w w' := by
  have hA : Fut w ((w.alloc (.cells #[.int .i64 r, .int .i64 c, .slice a S.length cap] 24)).alloc (.cells #[.slice ya Y.length yc, .slice ta T.length tc] 26)) := (Fut.alloc _ _).trans (Fut.alloc _ _)
  have hBP := (BoxP.new w r c a S.length cap).fut (Fut.alloc _ (.cells #[.slice ya Y.length yc, .slice ta T.length tc] 26))
  have hBQ := BoxQ.new (w.alloc (.cells #[.int .i64 r, .int .i64 c, .slice a S.length cap] 24)) ya Y.length yc ta T.length tc
  rw [World.size_alloc] at hBQ
  have HPW := Lib.hid (fun (x y : Int) W (F : Fut w W) => pways_any r c m hs a cap S x y W (h.s.fut F) h.sl)
  have HY := Lib.hid h.y
  have HT := Lib.hid h.t
  have hyx : (Y.length : Int) ≤ 1000 := by have := h.yl; omega
  have htx : (T.length : Int) ≤ 1000 := by have := h.tl; omega
  have HA := Lib.hid hA
  have HBP := Lib.hid hBP
  have HBQ := Lib.hid hBQ
  obtain ⟨_, q0, q1⟩ := hBQ
  obtain ⟨E, hE⟩ : ∃ E, E = barF c m S T Y := ⟨_, rfl⟩
  unfold barB
  rw [← hE]
  have HE := Lib.hid hE
  clear hE h hA hBP hs
  go_enter Try.func96, Try.ntmps96
  go_wp2_with fail
  generalize (w.alloc (.cells #[.int .i64 r, .int .i64 c, .slice a S.length cap] 24)).alloc (.cells #[.slice ya Y.length yc, .slice ta T.length tc] 26) = w1 at *
  have HF0 : Hid (Fut w1 w1) := Lib.hid Fut.rfl
  clear q0 q1
  go_loopw [12] (fun iv wr => ∃ k : Nat, k ≤ Y.length ∧ iv = .int .i64 k ∧ Hid (E = barF c m S T (Y.drop k)) ∧ Hid (Fut w1 wr)) (fun iv _ => Y.length - (intOf iv).toNat)
  case atStart => exact ⟨0, Nat.zero_le _, rfl, HE, HF0⟩
  case round =>
    obtain ⟨k, hk, rfl, HK, HF⟩ := hrel
    by_cases hkl : k < Y.length
    · have hkx : (k : Int) < Y.length := by omega
      have hkk := HK.out
      rw [nth_drop Y k hkl, barF] at hkk
      obtain ⟨yb, yo, rfl, _, e1⟩ := (HY.out.fut (HA.out.trans HF.out)) k hkl
      generalize nth Y k = yk at *
      have HKK := Lib.hid hkk
      obtain ⟨_, q0, q1⟩ := HBQ.out.fut HF.out
      have HT0 : Hid (barT c m S yk T = barT c m S yk (T.drop 0)) := Lib.hid rfl
      clear hkk HK
      go_wp2_with fail
      clear e1 q0 q1
      go_loopw [19] (fun jv wq => ∃ j : Nat, j ≤ T.length ∧ jv = .int .i64 j ∧ Hid (barT c m S yk T = barT c m S yk (T.drop j)) ∧ Hid (Fut w1 wq)) (fun jv _ => T.length - (intOf jv).toNat)
      case atStart => exact ⟨0, Nat.zero_le _, rfl, HT0, HF⟩
      case round =>
        obtain ⟨j, hj, rfl, HJ, HG⟩ := hrel
        by_cases hjl : j < T.length
        · have hjx : (j : Int) < T.length := by omega
          have hjj := HJ.out
          rw [nth_drop T j hjl, barT] at hjj
          obtain ⟨tb, t_o, rfl, _, e2⟩ := (HT.out.fut (HA.out.trans HG.out)) j hjl
          generalize nth T j = tj at *
          have HPX := Lib.hid (fun W (F : Fut w W) => HPW.out yk tj W F)
          obtain ⟨_, p0, p1, p2⟩ := HBP.out.fut HG.out
          generalize hwz : wayN c m S yk tj = z at *
          by_cases hz : z = 0
          · have hzx : ¬ (0 : Int) < (z : Int) := by omega
            rw [if_pos hz] at hjj
            have HJ2 := Lib.hid hjj
            clear hjj hwz HJ
            go_wp2_with fail
            refine (HPX.out _ (HA.out.trans HG.out)).mono ?_
            rintro _ w3 ⟨rfl, G⟩
            have HG3 := Lib.hid (HG.out.trans G)
            clear p0 p1 p2 G e2
            go_wp2_with fail
            go_roundw
            case rel => first | exact ⟨j + 1, by omega, by go_num, HJ2, HG3⟩ | ((repeat apply Exists.intro); exact ⟨⟨j + 1, by omega, by go_num, HJ2, HG3⟩, rfl⟩)
            case measure => simp [intOf]; omega
          · have hzx : (0 : Int) < (z : Int) := by omega
            rw [if_neg hz] at hjj
            have HEF : Hid (E = false) := Lib.hid (by rw [HKK.out, hjj]; rfl)
            clear hjj hwz HJ
            go_wp2_with fail
            refine (HPX.out _ (HA.out.trans HG.out)).mono ?_
            rintro _ w3 ⟨rfl, G⟩
            have HG3 := Lib.hid (HG.out.trans G)
            clear p0 p1 p2 G e2
            go_wp2_with fail
            go_ret
            exact ⟨by rw [HEF.out]; rfl, HA.out.trans HG3.out⟩
        · obtain rfl : T.length = j := by omega
          have hjj := HJ.out
          rw [List.drop_length, barT] at hjj
          have HK2 : Hid (E = barF c m S T (Y.drop (k + 1))) := Lib.hid (by rw [HKK.out, if_pos hjj])
          clear hjj
          go_wp2_with fail
          go_roundw
          case rel => first | exact ⟨k + 1, by omega, by go_num, HK2, HG⟩ | ((repeat apply Exists.intro); exact ⟨⟨k + 1, by omega, by go_num, HK2, HG⟩, rfl⟩)
          case measure => simp [intOf]; omega
    · obtain rfl : Y.length = k := by omega
      have hkk := HK.out
      rw [List.drop_length, barF] at hkk
      subst hkk
      go_wp2_with fail
      go_ret
      exact ⟨rfl, HA.out.trans HF.out⟩
end Go.Proofs.Ytflllkamdihfaaa
