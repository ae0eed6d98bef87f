/- Layer 1: houses that are at one, and proofs. -/
import Derived.Test.YtdnbdaegahcoeaaG
namespace Go.Proofs.Ytdnbdaegahcoeaa
open Go.RowKit Go.Sort
def atB (zs gs : List Int) (i j : Nat) : Bool := (tw1 (nth gs i + nth gs j) (nth zs i * 120) (nth zs j * 120) == 2 * nth gs i) && (tw1 (nth gs i + nth gs j) (nth zs j * 120) (nth zs i * 120) == 2 * nth gs j)
abbrev Gt (g : Int) : Prop := 0 ≤ g ∧ g ≤ 1000000
theorem atOne_any (a c : Option Addr) (cap dap : Nat) (zs gs : List Int) (i j : Nat) (w : World) (hA : IntsAt w a zs) (hG : IntsAt w c gs) (hi : i < zs.length) (hj : j < zs.length) (he : gs.length = zs.length)
    (hz : ∀ k, 0 ≤ nth zs k ∧ nth zs k ≤ 1000) (hg : ∀ k, k < gs.length → Gt (nth gs k)) :
    Calls Try.prog 77 #[.slice a zs.length cap, .slice c gs.length dap, .int .i64 i, .int .i64 j] w fun e w' => e = .returned (.bool (atB zs gs i j)) ∧ ∃ q, w' = w.drewN q := by
  obtain ⟨b, off, rfl, hb, hc⟩ := hA.addr (by omega)
  obtain ⟨b', off', rfl, hb', hc'⟩ := hG.addr (by omega)
  have z1 := hc i hi; have z2 := hc j hj; have g1 := hc' i (by omega); have g2 := hc' j (by omega)
  obtain ⟨zi0, zi1⟩ := hz i; obtain ⟨zj0, zj1⟩ := hz j
  obtain ⟨gi0, gi1⟩ := hg i (by omega); obtain ⟨gj0, gj1⟩ := hg j (by omega)
  unfold atB
  have hi' : (i : Int) < zs.length := by omega
  have hj' : (j : Int) < zs.length := by omega
  rw [he]
  clear hA hG hc hc' hz hg he hi hj
  generalize nth zs i = zi at *
  generalize nth zs j = zj at *
  generalize nth gs i = gi at *
  generalize nth gs j = gj at *
  have w1 : IntKind.i64.wrap (gi + gj) = gi + gj := IntWalk.i64_in _ ⟨by omega, by omega⟩
  have w2 : IntKind.i64.wrap (zi * 120) = zi * 120 := IntWalk.i64_in _ ⟨by omega, by omega⟩
  have w3 : IntKind.i64.wrap (zj * 120) = zj * 120 := IntWalk.i64_in _ ⟨by omega, by omega⟩
  have HT := Lib.hid (fun W => twice_any (gi + gj) (zi * 120) (zj * 120) W (by omega) (by omega) (by omega) (by omega) (by omega) (by omega))
  have t1 : 0 ≤ tw1 (gi + gj) (zi * 120) (zj * 120) := by unfold tw1; omega
  have t2 : tw1 (gi + gj) (zi * 120) (zj * 120) ≤ 10000000 := by unfold tw1; omega
  generalize hp : tw1 (gi + gj) (zi * 120) (zj * 120) = p at HT t1 t2 ⊢
  generalize hq : tw1 (gi + gj) (zj * 120) (zi * 120) = q at HT ⊢
  clear hp hq
  go_enter Try.func77, Try.ntmps77
  go_wp2
  go_quiet ((go_at_call 67; exact Calls.quiet_of_same ((HT.out _).mono fun _ _ h => ⟨h.1, h.2.symm⟩)))
  clear w1 w2 w3
  go_wp2
  all_goals go_ret
  all_goals exact ⟨ret_bool (by simp [*]), _, rfl⟩
def prv (x : Int) (zs gs : List Int) (i j : Int) : Int :=
  if vld x zs gs ≠ 0 then vld x zs gs else if ¬ ((0 ≤ i ∧ i < zs.length) ∧ 0 ≤ j ∧ j < zs.length) then 2 else if i = j then 6 else if atB zs gs i.toNat j.toNat then 14 else 0
theorem vld_ok {x : Int} {zs gs : List Int} (h : vld x zs gs = 0) : chk x zs = 0 ∧ gs.length = zs.length ∧ (∀ k, k < gs.length → partB zs gs k = true) ∧ gs.sum = x * 120 := by
  unfold vld at h
  by_cases h1 : chk x zs = 0
  · rw [if_neg (by simpa using h1)] at h
    by_cases h2 : gs.length = zs.length
    · rw [if_neg (by simpa using h2)] at h
      by_cases h3 : (List.range gs.length).all (partB zs gs) = true
      · rw [if_pos h3] at h
        by_cases h4 : gs.sum = x * 120
        · exact ⟨h1, h2, fun k hk => all_range_get _ h3 k hk, h4⟩
        · rw [if_neg h4] at h; omega
      · rw [if_neg h3] at h; omega
    · rw [if_pos h2] at h; omega
  · rw [if_pos h1] at h; omega
theorem part_gt {zs gs : List Int} (hz : ∀ k, 0 ≤ nth zs k ∧ nth zs k ≤ 1000) {k : Nat} (h : partB zs gs k = true) : Gt (nth gs k) := by
  simp only [partB, Bool.and_eq_true, decide_eq_true_eq] at h
  have := hz k
  exact ⟨by omega, by omega⟩
set_option maxHeartbeats 1000000 in
theorem proves_any (x i j : Int) (a c : Option Addr) (cap dap : Nat) (zs gs : List Int) (w : World) (hl : zs.length ≤ 9223372036854775807) (hlg : gs.length ≤ 9223372036854775807) (hA : IntsAt w a zs) (hG : IntsAt w c gs) :
    Calls Try.prog 36 #[.int .i64 x, .slice a zs.length cap, .slice c gs.length dap, .int .i64 i, .int .i64 j] w fun e w' => e = .returned (.int .i64 (prv x zs gs i j)) ∧ RowKit.Below w.heap.size w w' := by
  have HV := Lib.hid (valid_any x a c cap dap zs gs w hl hlg hA hG)
  by_cases hv : vld x zs gs = 0
  · rw [hv] at HV
    by_cases hr : (0 ≤ i ∧ i < zs.length) ∧ 0 ≤ j ∧ j < zs.length
    · obtain ⟨⟨hi0, hi1⟩, hj0, hj1⟩ := hr
      have e : prv x zs gs i j = if i = j then 6 else if atB zs gs i.toNat j.toNat then 14 else 0 := by
        unfold prv; rw [if_neg (by simpa using hv), if_neg (by simp; omega)]
      rw [e]; clear e
      have hb1 : (decide (0 ≤ i) && decide (i < (zs.length : Int))) = true := by simp; omega
      have hb2 : (decide (0 ≤ j) && decide (j < (zs.length : Int))) = true := by simp; omega
      by_cases hij : i = j
      · subst hij
        rw [if_pos rfl]
        clear hv hA hG hi0 hi1 hj0 hj1
        go_enter Try.func36, Try.ntmps36
        go_wp2_with (first | (go_at_call 34; refine (HV.out).mono ?_; rintro e w1 ⟨rfl, hB⟩) | (go_at_call 79; refine (isIndex_any _ _ _).mono ?_; rintro e w' ⟨rfl, rfl⟩))
        go_ret
        exact ⟨rfl, hB⟩
      · rw [if_neg hij]
        obtain ⟨hck, hlen, hpart, _⟩ := vld_ok hv
        obtain ⟨_, _, h3, _, _⟩ := chk_ok hck
        have hz := fun k => nth_bd h3 k
        have HAt : Hid (∀ W, RowKit.Below w.heap.size w W → Calls Try.prog 77 #[.slice a zs.length cap, .slice c gs.length dap, .int .i64 i, .int .i64 j] W fun e w' => e = .returned (.bool (atB zs gs i.toNat j.toNat)) ∧ ∃ q, w' = W.drewN q) := fun W hW => by
          have := atOne_any a c cap dap zs gs i.toNat j.toNat W (hA.below hW) (hG.below hW) (by omega) (by omega) hlen hz (fun k hk => part_gt hz (hpart k hk))
          rw [Int.toNat_of_nonneg hi0, Int.toNat_of_nonneg hj0] at this
          exact this
        generalize atB zs gs i.toNat j.toNat = bt at HAt ⊢
        have hne : (i == j) = false := by simpa using hij
        clear hij hv hA hG hck hlen hpart h3 hz hi0 hi1 hj0 hj1
        cases bt
        all_goals
          go_enter Try.func36, Try.ntmps36
          go_wp2_with (first | (go_at_call 34; refine (HV.out).mono ?_; rintro e w1 ⟨rfl, hB⟩) | (go_at_call 79; refine (isIndex_any _ _ _).mono ?_; rintro e w' ⟨rfl, rfl⟩) | (go_at_call 77; refine (HAt.out _ hB).mono ?_; rintro e w' ⟨rfl, q, rfl⟩))
          go_ret
          exact ⟨rfl, below_drewN hB q⟩
    · have e : prv x zs gs i j = 2 := by unfold prv; rw [if_neg (by simpa using hv), if_pos hr]
      rw [e]
      by_cases hi : 0 ≤ i ∧ i < zs.length
      · have hb1 : (decide (0 ≤ i) && decide (i < (zs.length : Int))) = true := by simp; omega
        have hb2 : (decide (0 ≤ j) && decide (j < (zs.length : Int))) = false := by
          rw [Bool.and_eq_false_iff]; simp only [decide_eq_false_iff_not]; omega
        clear hv hA hG hi hr e
        go_enter Try.func36, Try.ntmps36
        go_wp2_with (first | (go_at_call 34; refine (HV.out).mono ?_; rintro e w1 ⟨rfl, hB⟩) | (go_at_call 79; refine (isIndex_any _ _ _).mono ?_; rintro e w' ⟨rfl, rfl⟩))
        go_ret
        exact ⟨rfl, hB⟩
      · have hb1 : (decide (0 ≤ i) && decide (i < (zs.length : Int))) = false := by
          rw [Bool.and_eq_false_iff]; simp only [decide_eq_false_iff_not]; omega
        clear hv hA hG hi hr e
        go_enter Try.func36, Try.ntmps36
        go_wp2_with (first | (go_at_call 34; refine (HV.out).mono ?_; rintro e w1 ⟨rfl, hB⟩) | (go_at_call 79; refine (isIndex_any _ _ _).mono ?_; rintro e w' ⟨rfl, rfl⟩))
        go_ret
        exact ⟨rfl, hB⟩
  · have e : prv x zs gs i j = vld x zs gs := by unfold prv; rw [if_pos hv]
    rw [e]
    have hne' : (vld x zs gs != 0) = true := by simpa using hv
    generalize vld x zs gs = r at HV hne' ⊢
    clear hA hG hv e
    go_enter Try.func36, Try.ntmps36
    go_wp2_with (go_at_call 34; refine (HV.out).mono ?_; rintro e w1 ⟨rfl, hB⟩)
    go_ret
    exact ⟨rfl, hB⟩
end Go.Proofs.Ytdnbdaegahcoeaa
