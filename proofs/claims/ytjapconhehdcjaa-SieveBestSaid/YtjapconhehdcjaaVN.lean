/- measured 54 -/
import Derived.Test.YtjapconhehdcjaaVA
import Derived.Test.YtjapconhehdcjaaMSC
import Derived.Deep.DeepCutAuto
import Derived.Deep.AppendLies
namespace Go.Proofs.Ytjapconhehdcjaa
open Go.RowKit Go.Sort
theorem meas_take (ds : List Nat) (i : Nat) (h : i < ds.length) : Sv.meas 7 (ds.take (i + 1)) = Sv.meas 7 (ds.take i) + 2 ^ (7 - ds[i]) := by
  unfold Sv.meas
  rw [List.take_succ_eq_append_getElem h, List.map_append, List.sum_append]
  simp
theorem meas_bd (ds : List Nat) : ∀ i, i ≤ ds.length → Sv.meas 7 (ds.take i) ≤ 128 * i
  | 0, _ => by unfold Sv.meas; simp
  | i + 1, h => by
    have h1 := meas_bd ds i (by omega)
    rw [meas_take ds i (by omega)]
    have : 2 ^ (7 - ds[i]) ≤ 2 ^ 7 := Nat.pow_le_pow_right (by omega) (by omega)
    omega
theorem castL_nth (ds : List Nat) (i : Nat) (h : i < ds.length) : nth (castL ds) i = (ds[i] : Int) := by
  unfold castL
  rw [nth_eq, List.getElem?_map, List.getElem?_eq_getElem h]; rfl
set_option maxRecDepth 100000 in
set_option maxHeartbeats 4000000 in
theorem measured_any (a : Option Addr) (cap n : Nat) (ds : List Nat) (hn : ds.length = n) (hl : n ≤ 8) (hd : ∀ d ∈ ds, d ≤ 7) (w : World) (hA : IntsAt w a (castL ds)) :
    Calls Try.prog 54 #[.slice a n cap] w fun e w' => e = .returned (.int .i64 (Sv.meas 7 ds : Nat)) ∧ w = w' := by
  have HA := Lib.hid (fun i (hi : i < n) => hA i (by rw [castL_len, hn]; exact hi))
  have HN := Lib.hid (fun i (hi : i < n) => castL_nth ds i (by omega))
  have HM := Lib.hid (fun i (hi : i < n) => meas_take ds i (by omega))
  have HD := Lib.hid (fun i (hi : i < n) => hd (ds[i]'(by omega)) (List.getElem_mem _))
  have HB := Lib.hid (fun i (hi : i ≤ n) => meas_bd ds i (by omega))
  have HE : Hid (Sv.meas 7 (ds.take n) = Sv.meas 7 ds) := Lib.hid (by rw [List.take_of_length_le (by omega)])
  have hM0 : Sv.meas 7 (ds.take 0) = 0 := by unfold Sv.meas; simp
  obtain ⟨f, hf⟩ : ∃ f : Nat → Nat, ∀ i, f i = Sv.meas 7 (ds.take i) := ⟨_, fun _ => rfl⟩
  have HF := Lib.hid hf
  have HF0 : Hid (f 0 = 0) := Lib.hid (by rw [hf, hM0])
  have hnx : (n : Int) ≤ 8 := by omega
  clear hA hd hM0 hf
  go_enter Try.func54, Try.ntmps54
  go_wp2_with fail
  go_loopw [3, 8] (fun sv iv wr => ∃ i : Nat, i ≤ n ∧ iv = .int .i64 (i : Nat) ∧ sv = .int .i64 (f i : Nat) ∧ w = wr) (fun _ iv _ => n - (intOf iv).toNat)
  case atStart => exact ⟨0, Nat.zero_le _, rfl, by rw [HF0.out]; rfl, rfl⟩
  case round =>
    obtain ⟨i, hi, rfl, rfl, rfl⟩ := hrel
    by_cases hil : i < n
    · have hix : (i : Int) < n := by omega
      obtain ⟨b, o, rfl, hb, c1⟩ := HA.out i hil
      rw [HN.out i hil] at c1
      have hm := HM.out i hil
      have hd := HD.out i hil
      have hb1 := HB.out i hi
      rw [← HF.out, ← HF.out] at hm
      rw [← HF.out] at hb1
      generalize ds[i] = d at *
      have hwi : IntKind.i64.wrap ((i : Int) + 1) = ((i + 1 : Nat) : Int) := by rw [IntWalk.i64_in _ ⟨by omega, by omega⟩]; omega
      obtain ⟨p, hp⟩ : ∃ p, f (i + 1) = p := ⟨_, rfl⟩
      have HP := Lib.hid hp
      rw [hp] at hm
      clear hp
      have key : ∀ k : Nat, 2 ^ (7 - d) = k → IntKind.i64.wrap ((f i : Int) + (k : Int)) = (p : Int) := fun k hk => by
        have : k ≤ 128 := by rw [← hk]; exact Nat.le_trans (Nat.pow_le_pow_right (by omega) (show 7 - d ≤ 7 by omega)) (by decide)
        rw [IntWalk.i64_in _ ⟨by omega, by omega⟩]; omega
      have hd8 : d = 0 ∨ d = 1 ∨ d = 2 ∨ d = 3 ∨ d = 4 ∨ d = 5 ∨ d = 6 ∨ d = 7 := by omega
      rcases hd8 with rfl | rfl | rfl | rfl | rfl | rfl | rfl | rfl
      all_goals
        first
          | have hk : IntKind.i64.wrap ((f i : Int) + 128) = (p : Int) := key 128 rfl
          | have hk : IntKind.i64.wrap ((f i : Int) + 64) = (p : Int) := key 64 rfl
          | have hk : IntKind.i64.wrap ((f i : Int) + 32) = (p : Int) := key 32 rfl
          | have hk : IntKind.i64.wrap ((f i : Int) + 16) = (p : Int) := key 16 rfl
          | have hk : IntKind.i64.wrap ((f i : Int) + 8) = (p : Int) := key 8 rfl
          | have hk : IntKind.i64.wrap ((f i : Int) + 4) = (p : Int) := key 4 rfl
          | have hk : IntKind.i64.wrap ((f i : Int) + 2) = (p : Int) := key 2 rfl
          | have hk : IntKind.i64.wrap ((f i : Int) + 1) = (p : Int) := key 1 rfl
        clear key hm hb1 hd
        go_wp2_with fail
        go_roundw
        case rel => first
          | exact ⟨i + 1, by omega, rfl, by rw [HP.out], rfl⟩
          | exact ⟨i + 1, by omega, rfl, by rw [HP.out], trivial⟩
        case measure => simp [intOf]; omega
    · obtain rfl : i = n := by omega
      go_wp2_with fail
      go_ret
      exact ⟨by rw [← HE.out, ← HF.out]; rfl, rfl⟩
end Go.Proofs.Ytjapconhehdcjaa
