/- Layer 1: division says true of what is a division. -/
import Derived.Test.YtdnbdaegahcoeaaMadeA
namespace Go.Proofs.Ytdnbdaegahcoeaa
open Go.RowKit Go.Sort
theorem take_sumB (B : Int) (hB : 0 ≤ B) (zs : List Int) (h : ∀ k, k < zs.length → 0 ≤ nth zs k ∧ nth zs k ≤ B) : ∀ k, k ≤ zs.length → 0 ≤ (zs.take k).sum ∧ (zs.take k).sum ≤ B * k
  | 0, _ => by simp
  | k + 1, hk => by
    have ih := take_sumB B hB zs h k (by omega)
    have := h k (by omega)
    rw [take_succ' zs k hk, sum_snoc, show B * ((k + 1 : Nat) : Int) = B * k + B by rw [Int.natCast_add, Int.mul_add]; simp]
    omega
/-- sum, of numbers as great as parts are. -/
theorem refsum_big (a : Option Addr) (cap : Nat) (zs : List Int) (w : World) (hl : zs.length ≤ 5) (hz : ∀ k, k < zs.length → 0 ≤ nth zs k ∧ nth zs k ≤ 1000000) (hA : IntsAt w a zs) : Calls Try.prog 44 #[.slice a zs.length cap] w fun e w' => e = .returned (.int .i64 zs.sum) ∧ w = w' := by
  have HT := Lib.hid (take_sumB 1000000 (by decide) zs hz)
  go_enter Try.func44, Try.ntmps44
  go_wp2
  go_loop [3, 8] (fun s i => ∃ k : Nat, k ≤ zs.length ∧ i = .int .i64 k ∧ s = .int .i64 (zs.take k).sum) (fun _ i => zs.length - (intOf i).toNat)
  case atStart => exact ⟨0, Nat.zero_le _, rfl, rfl⟩
  case round =>
    obtain ⟨k, hk, rfl, rfl⟩ := hrel
    have hs := HT.out k hk
    by_cases hlt : k < zs.length
    · obtain ⟨b, off, rfl, hb, hcell⟩ := hA k hlt
      have H2 := Lib.hid (take_succ' zs k hlt)
      have hzk := hz k hlt
      clear hA hz
      go_wp2
      go_round
      case rel => exact ⟨k + 1, by omega, by go_num, by rw [H2.out, sum_snoc]⟩
      case measure => simp [intOf]; omega
    · obtain rfl : k = zs.length := by omega
      rw [List.take_length] at hs ⊢
      clear hA hz
      go_wp2
      go_ret
      exact ⟨rfl, rfl⟩
/-- division says true of what is a division. -/
theorem division_any (x : Int) (a c : Option Addr) (cap dap : Nat) (zs gs : List Int) (w : World) (hz : Small zs) (hl : gs.length = zs.length) (hg : ∀ j, j < gs.length → 0 ≤ nth gs j ∧ nth gs j ≤ 120 * nth zs j) (hs : gs.sum = 120 * x) (hx : 0 ≤ x ∧ x ≤ 100000)
    (hA : IntsAt w a zs) (hG : IntsAt w c gs) : Calls Try.prog 39 #[.int .i64 x, .slice a zs.length cap, .slice c gs.length dap] w fun e w' => e = .returned (.bool true) ∧ w = w' := by
  obtain ⟨hl5, hzz⟩ := hz
  have HS := Lib.hid (refsum_big c dap gs w (by omega) (fun k hk => by have := hg k hk; have := hzz k; omega) hG)
  rw [hs] at HS
  rw [hl] at HS ⊢
  have HG := Lib.hid hG
  have HA := Lib.hid hA
  have HL := Lib.hid hl
  have Hg := Lib.hid hg
  have HZ := Lib.hid hzz
  clear hl hg hs hG hA hzz
  go_enter Try.func39, Try.ntmps39
  go_wp2
  go_loop [16] (fun i => ∃ k : Nat, k ≤ zs.length ∧ i = .int .i64 k) (fun i => zs.length - (intOf i).toNat)
  case atStart => exact ⟨0, Nat.zero_le _, rfl⟩
  case round =>
    obtain ⟨k, hk, rfl⟩ := hrel
    by_cases hlt : k < zs.length
    · obtain ⟨b, off, rfl, hb, hcell⟩ := HA.out k hlt
      obtain ⟨b', off', rfl, hb', hcell'⟩ := HG.out k (by rw [HL.out]; exact hlt)
      obtain ⟨hg1, hg2⟩ := Hg.out k (by rw [HL.out]; exact hlt)
      obtain ⟨hz1, hz2⟩ := HZ.out k
      generalize nth zs k = y at *
      generalize nth gs k = z at *
      have hkx : (k : Int) < zs.length := by omega
      go_wp2
      go_round
      case rel => exact ⟨k + 1, by omega, by go_num⟩
      case measure => simp [intOf]; omega
    · obtain rfl : k = zs.length := by omega
      go_wp2_with (go_at_call 44; refine HS.out.mono ?_; rintro e w' ⟨rfl, rfl⟩)
      all_goals go_ret
      all_goals exact ⟨rfl, rfl⟩
end Go.Proofs.Ytdnbdaegahcoeaa
