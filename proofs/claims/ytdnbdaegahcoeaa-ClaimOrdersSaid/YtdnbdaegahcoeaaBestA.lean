/- Layer 1: the least gain and the greatest loss. -/
import Derived.Test.YtdnbdaegahcoeaaGarmB
namespace Go.Proofs.Ytdnbdaegahcoeaa
open Go.RowKit Go.Sort
/-- the greatest of the first k + 1, the least of them, and the greatest loss of the first k. -/
def mxP (zs : List Int) : Nat → Int
  | 0 => nth zs 0
  | k + 1 => max (mxP zs k) (nth zs (k + 1))
def mnP (zs : List Int) : Nat → Int
  | 0 => nth zs 0
  | k + 1 => min (mnP zs k) (nth zs (k + 1))
def loP (zs gs : List Int) : Nat → Int
  | 0 => 0
  | k + 1 => max (loP zs gs k) (120 * nth zs k - nth gs k)
theorem mxP_ge (zs : List Int) : ∀ k i, i ≤ k → nth zs i ≤ mxP zs k
  | 0, i, h => by rw [show i = 0 by omega]; exact Int.le_refl _
  | k + 1, i, h => by
    show _ ≤ max _ _
    by_cases e : i = k + 1
    · subst e; omega
    · have := mxP_ge zs k i (by omega); omega
theorem mxP_mem (zs : List Int) : ∀ k, ∃ i, i ≤ k ∧ mxP zs k = nth zs i
  | 0 => ⟨0, Nat.le_refl _, rfl⟩
  | k + 1 => by
    obtain ⟨i, hi, e⟩ := mxP_mem zs k
    show ∃ i, i ≤ k + 1 ∧ max _ _ = _
    rcases Int.le_total (mxP zs k) (nth zs (k + 1)) with h | h
    · exact ⟨k + 1, Nat.le_refl _, by omega⟩
    · exact ⟨i, by omega, by omega⟩
theorem mnP_le (zs : List Int) : ∀ k i, i ≤ k → mnP zs k ≤ nth zs i
  | 0, i, h => by rw [show i = 0 by omega]; exact Int.le_refl _
  | k + 1, i, h => by
    show min _ _ ≤ _
    by_cases e : i = k + 1
    · subst e; omega
    · have := mnP_le zs k i (by omega); omega
theorem mnP_mem (zs : List Int) : ∀ k, ∃ i, i ≤ k ∧ mnP zs k = nth zs i
  | 0 => ⟨0, Nat.le_refl _, rfl⟩
  | k + 1 => by
    obtain ⟨i, hi, e⟩ := mnP_mem zs k
    show ∃ i, i ≤ k + 1 ∧ min _ _ = _
    rcases Int.le_total (mnP zs k) (nth zs (k + 1)) with h | h
    · exact ⟨i, by omega, by omega⟩
    · exact ⟨k + 1, Nat.le_refl _, by omega⟩
theorem loP_pos (zs gs : List Int) : ∀ k, 0 ≤ loP zs gs k
  | 0 => Int.le_refl _
  | k + 1 => by have := loP_pos zs gs k; show 0 ≤ max _ _; omega
theorem loP_ge (zs gs : List Int) : ∀ k i, i < k → 120 * nth zs i - nth gs i ≤ loP zs gs k
  | 0, i, h => absurd h (by omega)
  | k + 1, i, h => by
    show _ ≤ max _ _
    by_cases e : i = k
    · subst e; omega
    · have := loP_ge zs gs k i (by omega); omega
theorem loP_mem (zs gs : List Int) : ∀ k, loP zs gs k = 0 ∨ ∃ i, i < k ∧ loP zs gs k = 120 * nth zs i - nth gs i
  | 0 => .inl rfl
  | k + 1 => by
    show max _ _ = 0 ∨ ∃ i, i < k + 1 ∧ max _ _ = _
    rcases Int.le_total (loP zs gs k) (120 * nth zs k - nth gs k) with h | h
    · exact .inr ⟨k, by omega, by omega⟩
    · rcases loP_mem zs gs k with e | ⟨i, hi, e⟩
      · exact .inl (by omega)
      · exact .inr ⟨i, by omega, by omega⟩
theorem gain_form {x : Int} {zs : List Int} (h : Full5 x zs) : ∃ L, 0 ≤ L ∧ ∀ i, i < zs.length → nth (spG x zs) i = min (120 * nth zs i) L := by
  have h5 := h.2.1
  have hk := K_idx_sum zs h5
  have hx := h.2.2.2
  obtain ⟨L, hL, _, hj⟩ := lev_level (K zs) zs.length h5 (K_bd zs (full_nth h)) (x * 120) (by omega) ⟨x * 2, by omega⟩ (by omega)
  refine ⟨L, hL, fun i hi => ?_⟩
  have hm : (⟨i, by omega⟩ : Fin 5) ∈ idxL zs.length := idx_mem ⟨zs.length, by omega⟩ ⟨i, by omega⟩ hi
  rw [nth_spG x zs h5 i hi, hj, if_pos hm]
  have e : K zs ⟨i, by omega⟩ = nth zs i * 120 := rfl
  rw [e]; omega
theorem loss_form {x : Int} {zs : List Int} (h : Full5 x zs) : ∃ L, 0 ≤ L ∧ ∀ i, i < zs.length → nth (spL x zs) i = 120 * nth zs i - min (120 * nth zs i) L := by
  have h5 := h.2.1
  have hk := K_idx_sum zs h5
  have hx := h.2.2.2
  obtain ⟨L, hL, _, hj⟩ := lev_level (K zs) zs.length h5 (K_bd zs (full_nth h)) (zs.sum * 120 - x * 120) (by omega) ⟨zs.sum * 2 - x * 2, by omega⟩ (by omega)
  refine ⟨L, hL, fun i hi => ?_⟩
  have hm : (⟨i, by omega⟩ : Fin 5) ∈ idxL zs.length := idx_mem ⟨zs.length, by omega⟩ ⟨i, by omega⟩ hi
  rw [nth_spL x zs h5 i hi, hj, if_pos hm]
  have e : K zs ⟨i, by omega⟩ = nth zs i * 120 := rfl
  rw [e]; omega
theorem best_gain {x : Int} {zs : List Int} (h : Full5 x zs) (i : Nat) (hi : i < zs.length) : nth (spG x zs) i = min (mxP (spG x zs) (zs.length - 1)) (120 * nth zs i) := by
  obtain ⟨L, hL, hf⟩ := gain_form h
  have h1 := mxP_ge (spG x zs) (zs.length - 1) i (by omega)
  obtain ⟨k, hk, h2⟩ := mxP_mem (spG x zs) (zs.length - 1)
  have e1 := hf i hi
  have e2 := hf k (by omega)
  omega
theorem best_loss {x : Int} {zs : List Int} (h : Full5 x zs) (i : Nat) (hi : i < zs.length) : 120 * nth zs i - nth (spL x zs) i = min (loP zs (spL x zs) zs.length) (120 * nth zs i) := by
  obtain ⟨L, hL, hf⟩ := loss_form h
  have h1 := loP_ge zs (spL x zs) zs.length i hi
  have hn := (full_nth h i).1
  have e1 := hf i hi
  rcases loP_mem zs (spL x zs) zs.length with e | ⟨k, hk, e⟩
  · omega
  · have e2 := hf k hk
    omega
theorem best_min {x : Int} {zs gs : List Int} (h : Full5 x zs) (hg : IsDiv zs x gs) : mnP gs (zs.length - 1) ≤ mnP (spG x zs) (zs.length - 1) := by
  have h1 := h.1
  have hd := (fd_isDiv h).2.1
  obtain ⟨L, hL, hf⟩ := gain_form h
  obtain ⟨k, hk, e⟩ := mnP_mem (spG x zs) (zs.length - 1)
  rcases Int.lt_or_le (mnP (spG x zs) (zs.length - 1)) (mnP gs (zs.length - 1)) with hlt | hle
  · exfalso
    have hall : ∀ i, i < zs.length → nth (spG x zs) k < nth gs i := fun i hi => by
      have := mnP_le gs (zs.length - 1) i (by omega); omega
    have e1 := hf k (by omega)
    have b1 := hg.2.1 k (by rw [hg.1]; omega)
    have a1 := hall k (by omega)
    have hle : ∀ i, i < (spG x zs).length → nth (spG x zs) i ≤ nth gs i := fun i hi => by
      rw [hd.1] at hi
      have a2 := hall i hi
      have e2 := hf i hi
      omega
    have := (take_le _ _ (by rw [hd.1, hg.1]) hle _ (Nat.le_refl _)).2
    rw [List.take_length, hd.1, ← hg.1, List.take_length] at this
    have := this (by rw [hd.2.2, hg.2.2]) k (by rw [hg.1]; omega)
    omega
  · exact hle
theorem best_lo {x : Int} {zs gs : List Int} (h : Full5 x zs) (hg : IsDiv zs x gs) : loP zs (spL x zs) zs.length ≤ loP zs gs zs.length := by
  have hd := (fd_isDiv h).2.2.1
  obtain ⟨L, hL, hf⟩ := loss_form h
  have hp := loP_pos zs gs zs.length
  rcases loP_mem zs (spL x zs) zs.length with e | ⟨k, hk, e⟩
  · omega
  · rcases Int.lt_or_le (loP zs gs zs.length) (loP zs (spL x zs) zs.length) with hlt | hle
    · exfalso
      have hle : ∀ i, i < (spL x zs).length → nth (spL x zs) i ≤ nth gs i := fun i hi => by
        rw [hd.1] at hi
        have a2 := loP_ge zs gs zs.length i hi
        have b2 := hg.2.1 i (by rw [hg.1]; omega)
        have e1 := hf k hk
        have e2 := hf i hi
        omega
      have := (take_le _ _ (by rw [hd.1, hg.1]) hle _ (Nat.le_refl _)).2
      rw [List.take_length, hd.1, ← hg.1, List.take_length] at this
      have := this (by rw [hd.2.2, hg.2.2]) k (by rw [hg.1]; omega)
      have a3 := loP_ge zs gs zs.length k hk
      omega
    · exact hle
theorem max_any (a : Option Addr) (cap : Nat) (gs : List Int) (w : World) (h0 : 0 < gs.length) (hl : gs.length ≤ 1000) (hA : IntsAt w a gs) :
    Calls Try.prog 47 #[.slice a gs.length cap] w fun e w' => e = .returned (.int .i64 (mxP gs (gs.length - 1))) ∧ w = w' := by
  obtain ⟨b, off, rfl, hb, hc⟩ := hA.addr h0
  have c0 : w.cell? ⟨b, off, none⟩ = some (.int .i64 (nth gs 0)) := hc 0 h0
  have HC := Lib.hid hc
  have H0 : Hid (mxP gs 0 = nth gs 0) := Lib.hid rfl
  have HS : Hid (∀ k, mxP gs (k + 1) = max (mxP gs k) (nth gs (k + 1))) := Lib.hid fun _ => rfl
  clear hc hA
  go_enter Try.func47, Try.ntmps47
  go_wp2
  go_loop [3, 4] (fun m i => ∃ k : Nat, k + 1 ≤ gs.length ∧ i = .int .i64 ((k + 1 : Nat) : Int) ∧ m = .int .i64 (mxP gs k)) (fun _ i => gs.length - (intOf i).toNat)
  case atStart => exact ⟨0, h0, rfl, by rw [H0.out]⟩
  case round =>
    obtain ⟨k, hk, rfl, rfl⟩ := hrel
    by_cases hlt : k + 1 < gs.length
    · have c1 := HC.out (k + 1) hlt
      have c2 : w.cell? ⟨b, off + k + 1, none⟩ = some (.int .i64 (nth gs (k + 1))) := c1
      have HM := Lib.hid (HS.out k)
      clear c0
      generalize nth gs (k + 1) = y at *
      generalize mxP gs k = x at *
      have hkx : ((k + 1 : Nat) : Int) < gs.length := by omega
      go_wp2
      go_round
      case rel => exact ⟨k + 1, by omega, by go_num, by rw [HM.out]⟩
      case measure => simp [intOf]; omega
    · obtain rfl : k = gs.length - 1 := by omega
      have hkx : ¬ ((gs.length - 1 + 1 : Nat) : Int) < gs.length := by omega
      have e1 : gs.length - 1 + 1 = gs.length := by omega
      rw [e1]
      clear hkx hk hlt
      go_wp2
      go_ret
      exact ⟨rfl, rfl⟩
theorem min_any (a : Option Addr) (cap : Nat) (gs : List Int) (w : World) (h0 : 0 < gs.length) (hl : gs.length ≤ 1000) (hA : IntsAt w a gs) :
    Calls Try.prog 48 #[.slice a gs.length cap] w fun e w' => e = .returned (.int .i64 (mnP gs (gs.length - 1))) ∧ w = w' := by
  obtain ⟨b, off, rfl, hb, hc⟩ := hA.addr h0
  have c0 : w.cell? ⟨b, off, none⟩ = some (.int .i64 (nth gs 0)) := hc 0 h0
  have HC := Lib.hid hc
  have H0 : Hid (mnP gs 0 = nth gs 0) := Lib.hid rfl
  have HS : Hid (∀ k, mnP gs (k + 1) = min (mnP gs k) (nth gs (k + 1))) := Lib.hid fun _ => rfl
  clear hc hA
  go_enter Try.func48, Try.ntmps48
  go_wp2
  go_loop [3, 4] (fun m i => ∃ k : Nat, k + 1 ≤ gs.length ∧ i = .int .i64 ((k + 1 : Nat) : Int) ∧ m = .int .i64 (mnP gs k)) (fun _ i => gs.length - (intOf i).toNat)
  case atStart => exact ⟨0, h0, rfl, by rw [H0.out]⟩
  case round =>
    obtain ⟨k, hk, rfl, rfl⟩ := hrel
    by_cases hlt : k + 1 < gs.length
    · have c1 := HC.out (k + 1) hlt
      have c2 : w.cell? ⟨b, off + k + 1, none⟩ = some (.int .i64 (nth gs (k + 1))) := c1
      have HM := Lib.hid (HS.out k)
      clear c0
      generalize nth gs (k + 1) = y at *
      generalize mnP gs k = x at *
      have hkx : ((k + 1 : Nat) : Int) < gs.length := by omega
      go_wp2
      go_round
      case rel => exact ⟨k + 1, by omega, by go_num, by rw [HM.out]⟩
      case measure => simp [intOf]; omega
    · obtain rfl : k = gs.length - 1 := by omega
      have hkx : ¬ ((gs.length - 1 + 1 : Nat) : Int) < gs.length := by omega
      have e1 : gs.length - 1 + 1 = gs.length := by omega
      rw [e1]
      clear hkx hk hlt
      go_wp2
      go_ret
      exact ⟨rfl, rfl⟩
/-- the closure that tells the greatest loss. -/
theorem most_any (pb : Nat) (a c : Option Addr) (cap dap : Nat) (zs gs : List Int) (w : World) (h0 : 0 < zs.length) (hl : zs.length ≤ 5) (hg : gs.length = zs.length) (hz : ∀ k, 0 ≤ nth zs k ∧ nth zs k ≤ 1000) (hb : ∀ k, k < zs.length → 0 ≤ nth gs k ∧ nth gs k ≤ 1000000)
    (hp : w.cell? ⟨pb, 0, none⟩ = some (.slice a zs.length cap)) (hA : IntsAt w a zs) (hG : IntsAt w c gs) :
    Calls Try.prog 46 #[.slice c zs.length dap, .pointer (some ⟨pb, 0, none⟩)] w fun e w' => e = .returned (.int .i64 (loP zs gs zs.length)) ∧ w = w' := by
  obtain ⟨bz, oz, rfl, hbz, hcz⟩ := hA.addr h0
  obtain ⟨bg, og, rfl, hbg, hcg⟩ := hG.addr (by omega)
  have HZ := Lib.hid hcz
  have HG := Lib.hid hcg
  have HS : Hid (∀ k, loP zs gs (k + 1) = max (loP zs gs k) (120 * nth zs k - nth gs k)) := Lib.hid fun _ => rfl
  have H0 : Hid (loP zs gs 0 = 0) := Lib.hid rfl
  have HN := Lib.hid hz
  have HB := Lib.hid hb
  have HL := Lib.hid hg
  clear hcz hcg hA hG hz hb hg
  go_enter Try.func46, Try.ntmps46
  go_wp2
  go_loop [4, 9] (fun m i => ∃ k : Nat, k ≤ zs.length ∧ i = .int .i64 k ∧ m = .int .i64 (loP zs gs k)) (fun _ i => zs.length - (intOf i).toNat)
  case atStart => exact ⟨0, Nat.zero_le _, rfl, by rw [H0.out]⟩
  case round =>
    obtain ⟨k, hk, rfl, rfl⟩ := hrel
    by_cases hlt : k < zs.length
    · have c1 := HZ.out k hlt
      have c2 := HG.out k (by rw [HL.out]; exact hlt)
      have HM := Lib.hid (HS.out k)
      obtain ⟨n1, n2⟩ := HN.out k
      obtain ⟨b1, b2⟩ := HB.out k hlt
      generalize nth gs k = y at *
      generalize nth zs k = u at *
      generalize loP zs gs k = x at *
      have hkx : (k : Int) < zs.length := by omega
      go_wp2
      go_round
      case rel => exact ⟨k + 1, by omega, by go_num, by rw [HM.out]⟩
      case measure => simp [intOf]; omega
    · obtain rfl : k = zs.length := by omega
      go_wp2
      go_ret
      exact ⟨rfl, rfl⟩
theorem ptr_fut {w w' : World} {pb : Nat} {v : Value} (h : w.cell? ⟨pb, 0, none⟩ = some v) (F : Fut w w') : w'.cell? ⟨pb, 0, none⟩ = some v :=
  (RowKit.Below.cell F (p := ⟨pb, 0, none⟩) (World.block_lt_of_cell? w _ h)).trans h
theorem max_len (a : Option Addr) (cap n : Nat) (gs : List Int) (w : World) (hn : gs.length = n) (h0 : 0 < n) (hl : n ≤ 5) (hA : IntsAt w a gs) :
    Calls Try.prog 47 #[.slice a n cap] w fun e w' => e = .returned (.int .i64 (mxP gs (n - 1))) ∧ w = w' := by
  have := max_any a cap gs w (by omega) (by omega) hA
  rw [hn] at this; exact this
theorem min_len (a : Option Addr) (cap n : Nat) (gs : List Int) (w : World) (hn : gs.length = n) (h0 : 0 < n) (hl : n ≤ 5) (hA : IntsAt w a gs) :
    Calls Try.prog 48 #[.slice a n cap] w fun e w' => e = .returned (.int .i64 (mnP gs (n - 1))) ∧ w = w' := by
  have := min_any a cap gs w (by omega) (by omega) hA
  rw [hn] at this; exact this
theorem most_len (pb : Nat) (a c : Option Addr) (cap dap : Nat) (x : Int) (zs gs : List Int) (w : World) (h : Full5 x zs) (hg : IsDiv zs x gs)
    (hp : w.cell? ⟨pb, 0, none⟩ = some (.slice a zs.length cap)) (hA : IntsAt w a zs) (hG : IntsAt w c gs) :
    Calls Try.prog 46 #[.slice c zs.length dap, .pointer (some ⟨pb, 0, none⟩)] w fun e w' => e = .returned (.int .i64 (loP zs gs zs.length)) ∧ w = w' :=
  most_any pb a c cap dap zs gs w h.1 h.2.1 hg.1 (full_nth h) (fun k hk => div_gt h hg k (by rw [hg.1]; exact hk)) hp hA hG
end Go.Proofs.Ytdnbdaegahcoeaa
