/- Layer 1: what the laws draw (made, sum). -/
import Derived.Test.YtdnbdaegahcoeaaPairA
import Derived.Deep.QuietTactic
import Derived.BigQuiet
namespace Go.Proofs.Ytdnbdaegahcoeaa
open Go.RowKit Go.Sort
/-- what a claim that is drawn may be. -/
def Small (zs : List Int) : Prop := zs.length ≤ 5 ∧ ∀ k, 0 ≤ nth zs k ∧ nth zs k ≤ 2000
theorem take_sum (zs : List Int) (h : ∀ k, 0 ≤ nth zs k ∧ nth zs k ≤ 2000) : ∀ k, k ≤ zs.length → 0 ≤ (zs.take k).sum ∧ (zs.take k).sum ≤ 2000 * k
  | 0, _ => by simp
  | k + 1, hk => by
    have ih := take_sum zs h k (by omega)
    have := h k
    rw [take_succ' zs k hk, sum_snoc]
    omega
theorem refsum_any (a : Option Addr) (cap : Nat) (zs : List Int) (w : World) (hz : Small zs) (hA : IntsAt w a zs) : Calls Try.prog 44 #[.slice a zs.length cap] w fun e w' => e = .returned (.int .i64 zs.sum) ∧ w = w' := by
  obtain ⟨hl, hz⟩ := hz
  have HT := Lib.hid (take_sum zs hz)
  go_enter Try.func44, Try.ntmps44
  go_wp2
  go_loop [3, 8] (fun s i => ∃ k : Nat, k ≤ zs.length ∧ i = .int .i64 k ∧ s = .int .i64 (zs.take k).sum) (fun _ i => zs.length - (intOf i).toNat)
  case atStart => exact ⟨0, Nat.zero_le _, rfl, rfl⟩
  case round =>
    obtain ⟨k, hk, rfl, rfl⟩ := hrel
    have hs := HT.out k hk
    by_cases hlt : k < zs.length
    · obtain ⟨b, off, rfl, hb, hcell⟩ := hA k hlt
      have H2 := Lib.hid (take_succ' zs k hlt)
      have hzk := hz k
      clear hA hz
      go_wp2
      go_round
      case rel => exact ⟨k + 1, by omega, by go_num, by rw [H2.out, sum_snoc]⟩
      case measure => simp [intOf]; omega
    · obtain rfl : k = zs.length := by omega
      rw [List.take_length] at hs ⊢
      clear hA hz
      go_wp2
      go_ret
      exact ⟨rfl, rfl⟩
/-- a drawn quarrel, as the laws take it. -/
abbrev qv (n a b c d e x : Int) : Value := .agg #[.int .u8 n, .int .u16 a, .int .u16 b, .int .u16 c, .int .u16 d, .int .u16 e, .int .u16 x]
/-- the claim that a drawn number gives. -/
def dr (m c : Int) : Int := 1 + c % m
theorem slice5 (k : Nat) (hk : k ≤ 5) (B : Nat) (w : World) : (Instr.sliceAt 38 (.pointer (some ⟨B, 1, none⟩)) none (some (.int .i64 k)) none).run Try.prog w = .ok (.slice (some ⟨B, 1, none⟩) k 5) w := by
  have h0 : ∀ B w, (Instr.sliceAt 38 (.pointer (some ⟨B, 1, none⟩)) none (some (.int .i64 0)) none).run Try.prog w = .ok (.slice (some ⟨B, 1, none⟩) 0 5) w := fun _ _ => by kernel_rfl
  have h1 : ∀ B w, (Instr.sliceAt 38 (.pointer (some ⟨B, 1, none⟩)) none (some (.int .i64 1)) none).run Try.prog w = .ok (.slice (some ⟨B, 1, none⟩) 1 5) w := fun _ _ => by kernel_rfl
  have h2 : ∀ B w, (Instr.sliceAt 38 (.pointer (some ⟨B, 1, none⟩)) none (some (.int .i64 2)) none).run Try.prog w = .ok (.slice (some ⟨B, 1, none⟩) 2 5) w := fun _ _ => by kernel_rfl
  have h3 : ∀ B w, (Instr.sliceAt 38 (.pointer (some ⟨B, 1, none⟩)) none (some (.int .i64 3)) none).run Try.prog w = .ok (.slice (some ⟨B, 1, none⟩) 3 5) w := fun _ _ => by kernel_rfl
  have h4 : ∀ B w, (Instr.sliceAt 38 (.pointer (some ⟨B, 1, none⟩)) none (some (.int .i64 4)) none).run Try.prog w = .ok (.slice (some ⟨B, 1, none⟩) 4 5) w := fun _ _ => by kernel_rfl
  have h5 : ∀ B w, (Instr.sliceAt 38 (.pointer (some ⟨B, 1, none⟩)) none (some (.int .i64 5)) none).run Try.prog w = .ok (.slice (some ⟨B, 1, none⟩) 5 5) w := fun _ _ => by kernel_rfl
  match k, hk with
  | 0, _ => exact h0 B w
  | 1, _ => exact h1 B w
  | 2, _ => exact h2 B w
  | 3, _ => exact h3 B w
  | 4, _ => exact h4 B w
  | 5, _ => exact h5 B w
  | k + 6, h => exact absurd h (by omega)
theorem info3 : (Try.prog.info? 3).map (fun i => (i.zero, i.size, i.bytes)) = some (some (.int .i64 0), 1, 8) := by kernel_rfl
set_option maxRecDepth 100000 in
set_option maxHeartbeats 400000 in
theorem made_any (n a b c d e x m : Int) (cs : List Int) (k : Nat) (w : World) (hcs : cs = [a, b, c, d, e]) (hn : 0 ≤ n ∧ n ≤ 255) (hm : 1 ≤ m ∧ m ≤ 1000) (hk : 1 + n % 5 = (k : Int)) (hc : ∀ j, 0 ≤ nth cs j ∧ nth cs j ≤ 65535) (hx : 0 ≤ x ∧ x ≤ 65535) :
    Calls Try.prog 38 #[qv n a b c d e x, .int .i64 m] w fun e w' => ∃ l cap, e = .returned (.tuple #[.int .i64 (x % (((cs.map (dr m)).take k).sum + 1)), .slice l k cap]) ∧ IntsAt w' l ((cs.map (dr m)).take k) ∧ Fut w w' := by
  have hk5 : k ≤ 5 := by omega
  obtain ⟨i0, hi, hz0, hz1, hz2⟩ := info_parts info3
  have hsl := slice5 k hk5
  have HC : ∀ w1, RowKit.Below (w.heap.size + 1) (w.alloc (.cells #[.int .u8 n, .int .u16 a, .int .u16 b, .int .u16 c, .int .u16 d, .int .u16 e, .int .u16 x] 40)) w1 → ∀ j, j < 5 → w1.cell? ⟨w.heap.size, 1 + j, none⟩ = some (.int .u16 (nth cs j)) := by
    intro w1 hb j hj
    rw [hb.cell (p := ⟨w.heap.size, 1 + j, none⟩) (by simp), World.cell?_alloc_at _ _ _ _ rfl, hcs]
    match j, hj with
    | 0, _ => rfl
    | 1, _ => rfl
    | 2, _ => rfl
    | 3, _ => rfl
    | 4, _ => rfl
  have HL : (cs.map (dr m)).length = 5 := by rw [hcs]; rfl
  go_enter Try.func38, Try.ntmps38
  go_wp2
  go_loopw [6, 17] (fun v i wr => ∃ j : Nat, j ≤ k ∧ i = .int .i64 j ∧ wr.ownsRow (w.heap.size + 1) 3 1 v j (((cs.map (dr m)).take j).map (Value.int .i64)) ∧ RowKit.Below (w.heap.size + 1) (w.alloc (.cells #[.int .u8 n, .int .u16 a, .int .u16 b, .int .u16 c, .int .u16 d, .int .u16 e, .int .u16 x] 40)) wr)
    (fun _ i _ => k - (intOf i).toNat)
  case atStart => exact ⟨0, Nat.zero_le _, rfl, World.ownsRow_nil _ _ _ _, RowKit.Below.refl _ _⟩
  case round =>
    obtain ⟨j, hj, rfl, hown, hnx⟩ := hrel
    have hcj := hc j
    have hsz := hnx.size
    by_cases hlt : j < k
    · have hcx := HC _ hnx j (by omega)
      have HN := Lib.hid (take_succ' (cs.map (dr m)) j (by omega))
      have HD : Hid (nth (cs.map (dr m)) j = 1 + nth cs j % m) := Lib.hid (by rw [nth_eq, nth_eq, List.getElem?_map]; simp [show j < cs.length by rw [List.length_map] at HL; omega, dr])
      have HH := Lib.hid HL
      clear HC hc hcs HL
      generalize nth cs j = y at *
      simp at hsz
      have hy1 := Int.emod_nonneg y (show m ≠ 0 by omega)
      have hy2 := Int.emod_lt_of_pos y (show 0 < m by omega)
      go_wp2_with (first
        | (at_builtin; refine wpList_append_own _ rfl _ _ 22 rfl (w.heap.size + 1) 3 i0 (.int .i64 0) 1 8 Try.underlying22 hi hz0 hz1 hz2 rfl (by decide) _ _ _ rfl (hown.alloc _) ⟨wr.heap.size, 0, none⟩ 1 1 [.int .i64 (1 + y % m)] rfl rfl ?c1 ?c2 ?c3 ?c4 ?c5 ?_)
        | go_in)
      case c1 =>
        intro i u hj
        match i, hj with
        | 0, hj => simp at hj; subst hj; simp [Addr.add]
      case c2 => intro u hu; simp at hu; subst hu; rfl
      case c3 => unfold maxLen; omega
      case c4 => omega
      case c5 => simp; omega
      · intro v' w1 hown' hgrow _
        have HO : Hid (w1.ownsRow (w.heap.size + 1) 3 1 v' (j + 1) (((cs.map (dr m)).take (j + 1)).map (Value.int .i64))) := Lib.hid (by rw [HN.out, HD.out]; simpa using hown')
        have HB : Hid (RowKit.Below (w.heap.size + 1) (w.alloc (.cells #[.int .u8 n, .int .u16 a, .int .u16 b, .int .u16 c, .int .u16 d, .int .u16 e, .int .u16 x] 40)) w1) := Lib.hid ((hnx.alloc (by omega) _).grown hgrow (by simp; omega) (fun i hi => by have := (hown.lt i hi).1; omega))
        clear hown' hgrow hown hnx hcx
        go_wp2
        go_roundw
        case rel => exact ⟨j + 1, by omega, by go_num, HO.out, HB.out⟩
        case measure => simp [intOf]; omega
    · obtain rfl : j = k := by omega
      have hx6 : wr.cell? ⟨w.heap.size, 6, none⟩ = some (.int .u16 x) := by
        rw [hnx.cell (p := ⟨w.heap.size, 6, none⟩) (by simp), World.cell?_alloc_at _ _ _ _ rfl]; rfl
      have hlen : ((cs.map (dr m)).take j).length = j := by rw [List.length_take, HL]; omega
      have hO : Owns wr (w.heap.size + 1) u6 ((cs.map (dr m)).take j) := by unfold Owns; rw [hlen]; exact hown
      have hS : Small ((cs.map (dr m)).take j) := by
        refine ⟨by omega, fun i => ?_⟩
        rw [nth_eq, List.getElem?_take]
        by_cases hi : i < j
        · rw [if_pos hi, List.getElem?_map]
          have h1 := hc i
          rw [nth_eq] at h1
          rcases cs[i]? with _ | y
          · simp
          · have hy1 := Int.emod_nonneg y (show m ≠ 0 by omega)
            have hy2 := Int.emod_lt_of_pos y (show 0 < m by omega)
            simp [dr]; omega
        · rw [if_neg hi]; simp
      have hB : RowKit.Below w.heap.size w wr := ((RowKit.Below.refl _ _).alloc (Nat.le_refl _) _).trans (hnx.mono (by omega))
      have hsum := take_sum _ hS.2 _ (Nat.le_refl _)
      rw [List.take_length] at hsum
      have hsl5 : ((((cs.map (dr m)).take j).length : Nat) : Int) ≤ 5 := by omega
      generalize hzs : (cs.map (dr m)).take j = zs at *
      have HZ := Lib.hid hzs
      have HJ := Lib.hid hlen
      clear hzs
      obtain ⟨l, cap, rfl, hA⟩ := hO.ints
      have HO := Lib.hid hA
      have HB := Lib.hid hB
      have HF : ∀ q, Calls Try.prog 44 #[.slice l zs.length cap] (wr.drewN q) fun e w' => e = .returned (.int .i64 zs.sum) ∧ w' = wr.drewN q := fun q => (refsum_any l cap zs (wr.drewN q) hS (hA.fut (Fut.drewN _ _))).mono fun _ _ h => ⟨h.1, h.2.symm⟩
      have HF := Lib.hid HF
      clear hO hB hA hS hown hnx HC hcs HL hcj hc hsl hlen
      have hs1 := hsum.1
      have hs2 : zs.sum ≤ 10000 := by omega
      have hw1 : IntKind.i64.wrap (zs.sum + 1) = zs.sum + 1 := IntWalk.i64_in _ ⟨by omega, by omega⟩
      have hw2 : IntKind.i64.wrap x = x := IntWalk.i64_in _ ⟨by omega, by omega⟩
      have h0 : zs.sum + 1 ≠ 0 := by omega
      have hr0 := Int.emod_nonneg x h0
      have hr1 := Int.emod_lt_of_pos x (show 0 < zs.sum + 1 by omega)
      have hw3 : IntKind.i64.wrap (x % (zs.sum + 1)) = x % (zs.sum + 1) := IntWalk.i64_in _ ⟨by omega, by omega⟩
      have htm : x.tmod (zs.sum + 1) = x % (zs.sum + 1) := Int.tmod_eq_emod_of_nonneg (by omega)
      go_wp2
      go_quiet (first | (go_at_call 44; refine Calls.quiet_of_same (HF.out _)))
      go_wp2
      go_ret2
      rw [HZ.out]
      exact ⟨l, cap, by rw [← HJ.out]; rfl, HO.out.fut (Fut.drewN _ _), below_drewN HB.out _⟩
end Go.Proofs.Ytdnbdaegahcoeaa
