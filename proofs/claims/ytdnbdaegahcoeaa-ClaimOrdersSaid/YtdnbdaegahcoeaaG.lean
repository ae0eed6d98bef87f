/- Layer 1: two houses, and divisions checked. -/
import Derived.Test.YtdnbdaegahcoeaaF
namespace Go.Proofs.Ytdnbdaegahcoeaa
open Go.RowKit Go.Sort
theorem ret_int3 {k l o : IntKind} {a b c d e f : Int} (h : a = b) (h' : c = d) (h'' : e = f) : Ending.returned (.tuple #[.int k a, .int l c, .int o e]) = .returned (.tuple #[.int k b, .int l d, .int o f]) := by rw [h, h', h'']
def tw1 (w a b : Int) : Int := 2 * max 0 (w - b) + (w - max 0 (w - b) - max 0 (w - a))
theorem twice_any (x a b : Int) (w : World) (hx : 0 ≤ x) (hx' : x ≤ 10000000) (ha : 0 ≤ a) (ha' : a ≤ 10000000) (hb : 0 ≤ b) (hb' : b ≤ 10000000) : Calls Try.prog 67 #[.int .i64 x, .int .i64 a, .int .i64 b] w fun e w' => e = .returned (.tuple #[.int .i64 (tw1 x a b), .int .i64 (tw1 x b a)]) ∧ w = w' := by
  go_enter Try.func67, Try.ntmps67
  go_wp2
  all_goals
    go_ret2
    exact ⟨ret_int2 (by unfold tw1; omega) (by unfold tw1; omega), rfl⟩
def twoB (x a b : Int) : Bool := isClaimB a && isClaimB b && decide (0 ≤ x) && decide (x ≤ a + b)
theorem two_err (x a b : Int) (w : World) (h : twoB x a b = false) : Calls Try.prog 26 #[.int .i64 x, .int .i64 a, .int .i64 b] w fun e w' => e = .returned (.tuple #[.int .i64 0, .int .i64 0, .int .i64 1]) ∧ w = w' := by
  by_cases h1 : isClaimB a = true
  · by_cases h2 : isClaimB b = true
    · have ha : 1 ≤ a ∧ a ≤ 1000 := by simpa [isClaimB] using h1
      have hb : 1 ≤ b ∧ b ≤ 1000 := by simpa [isClaimB] using h2
      obtain ⟨ha1, ha2⟩ := ha
      obtain ⟨hb1, hb2⟩ := hb
      by_cases h3 : x < 0
      · clear h
        go_enter Try.func26, Try.ntmps26
        go_wp2_with (go_at_call 65; refine (isClaim_any _ _).mono ?_; rintro e w' ⟨rfl, rfl⟩)
        go_ret3
        exact ⟨rfl, rfl⟩
      · have h4 : a + b < x := by simp [twoB, h1, h2] at h; omega
        clear h
        go_enter Try.func26, Try.ntmps26
        go_wp2_with (go_at_call 65; refine (isClaim_any _ _).mono ?_; rintro e w' ⟨rfl, rfl⟩)
        go_ret3
        exact ⟨rfl, rfl⟩
    · have h2' : isClaimB b = false := by simpa using h2
      clear h
      go_enter Try.func26, Try.ntmps26
      go_wp2_with (go_at_call 65; refine (isClaim_any _ _).mono ?_; rintro e w' ⟨rfl, rfl⟩)
      all_goals
        go_ret3
        exact ⟨rfl, rfl⟩
  · have h1' : isClaimB a = false := by simpa using h1
    clear h
    go_enter Try.func26, Try.ntmps26
    go_wp2_with (go_at_call 65; refine (isClaim_any _ _).mono ?_; rintro e w' ⟨rfl, rfl⟩)
    all_goals
      go_ret3
      exact ⟨rfl, rfl⟩
theorem two_ok (x a b : Int) (w : World) (h : twoB x a b = true) : Calls Try.prog 26 #[.int .i64 x, .int .i64 a, .int .i64 b] w fun e w' => e = .returned (.tuple #[.int .i64 (tw1 (x * 120) (a * 120) (b * 120) / 2), .int .i64 (tw1 (x * 120) (b * 120) (a * 120) / 2), .int .i64 0]) ∧ w = w' := by
  simp only [twoB, Bool.and_eq_true, decide_eq_true_eq] at h
  obtain ⟨⟨⟨h1, h2⟩, h3⟩, h4⟩ := h
  have ha : 1 ≤ a ∧ a ≤ 1000 := by simpa [isClaimB] using h1
  have hb : 1 ≤ b ∧ b ≤ 1000 := by simpa [isClaimB] using h2
  obtain ⟨ha1, ha2⟩ := ha
  obtain ⟨hb1, hb2⟩ := hb
  have HT := Lib.hid (fun W => twice_any (x * 120) (a * 120) (b * 120) W (by omega) (by omega) (by omega) (by omega) (by omega) (by omega))
  have t1 : 0 ≤ tw1 (x * 120) (a * 120) (b * 120) := by unfold tw1; omega
  have t2 : tw1 (x * 120) (a * 120) (b * 120) ≤ 10000000 := by unfold tw1; omega
  have t3 : 0 ≤ tw1 (x * 120) (b * 120) (a * 120) := by unfold tw1; omega
  have t4 : tw1 (x * 120) (b * 120) (a * 120) ≤ 10000000 := by unfold tw1; omega
  generalize tw1 (x * 120) (a * 120) (b * 120) = p at HT t1 t2 ⊢
  generalize tw1 (x * 120) (b * 120) (a * 120) = q at HT t3 t4 ⊢
  go_enter Try.func26, Try.ntmps26
  go_wp2_with (first | (go_at_call 65; refine (isClaim_any _ _).mono ?_; rintro e w' ⟨rfl, rfl⟩) | (go_at_call 67; refine (HT.out _).mono ?_; rintro e w' ⟨rfl, rfl⟩))
  go_ret3
  exact ⟨rfl, rfl⟩
/-- what one of a division is. -/
def partB (zs gs : List Int) (i : Nat) : Bool := decide (0 ≤ nth gs i) && decide (nth gs i ≤ nth zs i * 120)
def vld (x : Int) (zs gs : List Int) : Int :=
  if chk x zs ≠ 0 then chk x zs else if gs.length ≠ zs.length then 5 else if (List.range gs.length).all (partB zs gs) then (if gs.sum = x * 120 then 0 else 17) else 1
theorem vld_of {x : Int} {zs gs : List Int} (h1 : chk x zs = 0) (h2 : gs.length = zs.length) : vld x zs gs = if (List.range gs.length).all (partB zs gs) then (if gs.sum = x * 120 then 0 else 17) else 1 := by
  unfold vld; rw [if_neg (by simpa using h1), if_neg (by simpa using h2)]
theorem all_range_snoc (p : Nat → Bool) (k : Nat) (h : (List.range k).all p = true) (hk : p k = true) : (List.range (k + 1)).all p = true := by
  rw [List.range_succ, List.all_append, h]; simp [hk]
theorem all_range_get (p : Nat → Bool) {n : Nat} (h : (List.range n).all p = true) (k : Nat) (hk : k < n) : p k = true := List.all_eq_true.1 h k (List.mem_range.2 hk)
theorem cellH_at {w : World} {b n : Nat} {x : Int} {f : Fin 5 → Int} (h : cellsH w b n x f) (k : Fin 5) : w.cell? ⟨b, 2 + k.val, none⟩ = some (.int .i64 (f k)) := by
  obtain ⟨_, _, h2, h3, h4, h5, h6⟩ := h
  match k with
  | 0 => exact h2
  | 1 => exact h3
  | 2 => exact h4
  | 3 => exact h5
  | 4 => exact h6
theorem cellsH_new (w : World) (n : Nat) (x : Int) (f : Fin 5 → Int) : cellsH (w.alloc (.cells #[.int .i64 n, .int .i64 x, .int .i64 (f 0), .int .i64 (f 1), .int .i64 (f 2), .int .i64 (f 3), .int .i64 (f 4)] 68)) w.heap.size n x f := by
  have hc : ∀ k, (w.alloc (.cells #[.int .i64 n, .int .i64 x, .int .i64 (f 0), .int .i64 (f 1), .int .i64 (f 2), .int .i64 (f 3), .int .i64 (f 4)] 68)).cell? ⟨w.heap.size, k, none⟩ = #[Value.int .i64 n, .int .i64 x, .int .i64 (f 0), .int .i64 (f 1), .int .i64 (f 2), .int .i64 (f 3), .int .i64 (f 4)][k]? := fun k => World.cell?_alloc_at _ _ _ _ (by simp)
  refine ⟨?_, ?_, ?_, ?_, ?_, ?_, ?_⟩ <;> rw [hc] <;> rfl
theorem vsum_bd (zs gs : List Int) (hz : ∀ i, nth zs i ≤ 1000) (k : Nat) (hk : k ≤ gs.length) (h : (List.range k).all (partB zs gs) = true) : 0 ≤ (gs.take k).sum ∧ (gs.take k).sum ≤ 120000 * (k : Int) := by
  induction k with
  | zero => simp
  | succ k ih =>
    rw [List.range_succ, List.all_append, Bool.and_eq_true] at h
    have ih' := ih (by omega) h.1
    have hp : partB zs gs k = true := by simpa using h.2
    simp only [partB, Bool.and_eq_true, decide_eq_true_eq] at hp
    rw [take_succ' gs k (by omega), sum_snoc]
    have := hz k
    omega
set_option maxHeartbeats 1000000 in
theorem valid_any (x : Int) (a c : Option Addr) (cap dap : Nat) (zs gs : List Int) (w : World) (hl : zs.length ≤ 9223372036854775807) (_hlg : gs.length ≤ 9223372036854775807) (hA : IntsAt w a zs) (hG : IntsAt w c gs) :
    Calls Try.prog 34 #[.int .i64 x, .slice a zs.length cap, .slice c gs.length dap] w fun e w' => e = .returned (.int .i64 (vld x zs gs)) ∧ RowKit.Below w.heap.size w w' := by
  by_cases hc : chk x zs = 0
  · have hk := known_ok x a cap zs w hA hc
    obtain ⟨h1, h2, h3, _, _⟩ := chk_ok hc
    obtain ⟨hx1, hx2⟩ := chk_bd hc
    by_cases he : gs.length = zs.length
    · have HV := Lib.hid (vld_of hc he)
      generalize vld x zs gs = r at HV ⊢
      have hzb : ∀ i, nth zs i ≤ 1000 := fun i => (nth_bd h3 i).2
      have HZ := Lib.hid hzb
      have HK := Lib.hid hk
      have hb : (gs.length : Int) = zs.length := by omega
      have HE := Lib.hid he
      have hne : ((gs.length : Int) != zs.length) = false := by simpa using hb
      clear hk hA hc h3 hb hzb he
      go_enter Try.func34, Try.ntmps34
      go_wp2_with (go_at_call 54; refine (HK.out).mono ?_; rintro e w1 ⟨rfl, hB⟩)
      have hH := cellsH_new w1 zs.length (x * 120) (K zs)
      have hBw := hB.alloc hB.size (.cells #[.int .i64 zs.length, .int .i64 (x * 120), .int .i64 (K zs 0), .int .i64 (K zs 1), .int .i64 (K zs 2), .int .i64 (K zs 3), .int .i64 (K zs 4)] 68)
      generalize (w1.alloc (.cells #[.int .i64 zs.length, .int .i64 (x * 120), .int .i64 (K zs 0), .int .i64 (K zs 1), .int .i64 (K zs 2), .int .i64 (K zs 3), .int .i64 (K zs 4)] 68)) = W at hH hBw ⊢
      have hG' := Lib.hid (hG.below hBw)
      have HH := Lib.hid hH
      clear hG hH
      go_loop [9, 28] (fun s i => ∃ k : Nat, k ≤ gs.length ∧ i = .int .i64 k ∧ s = .int .i64 (gs.take k).sum ∧ Hid ((List.range k).all (partB zs gs) = true)) (fun _ i => gs.length - (intOf i).toNat)
      case atStart => exact ⟨0, Nat.zero_le _, rfl, rfl, rfl⟩
      case round =>
        obtain ⟨k, hk, rfl, rfl, hall⟩ := hrel
        have hsb := vsum_bd zs gs HZ.out k hk hall.out
        obtain ⟨hs1, hs2⟩ := hsb
        have hk5 : (k : Int) ≤ 5 := by have := HE.out; omega
        by_cases hlt : k < gs.length
        · obtain ⟨b, off, rfl, hb, hcell⟩ := hG'.out k hlt
          have hk5' : k < 5 := by have := HE.out; omega
          have hm := cellH_at HH.out ⟨k, hk5'⟩
          have hki : (k : Int) < 5 := by omega
          change W.cell? ⟨w1.heap.size, 2 + k, none⟩ = some (.int .i64 (nth zs k * 120)) at hm
          have hzk := HZ.out k
          have HTS := Lib.hid (take_succ' gs k hlt)
          by_cases hp : partB zs gs k = true
          · have hp' := hp
            simp only [partB, Bool.and_eq_true, decide_eq_true_eq] at hp'
            obtain ⟨hp1, hp2⟩ := hp'
            have HA : Hid ((List.range (k + 1)).all (partB zs gs) = true) := all_range_snoc _ _ hall.out hp
            clear hp hall
            go_wp2
            go_round
            case rel => exact ⟨k + 1, by omega, by go_num, by rw [HTS.out, sum_snoc], HA⟩
            case measure => simp [intOf]; omega
          · have E : Hid (r = 1) := (HV.out).trans (if_neg (fun hn => hp (all_range_get _ hn k hlt)))
            have hp' : nth gs k < 0 ∨ (0 ≤ nth gs k ∧ nth zs k * 120 < nth gs k) := by
              simp only [partB, Bool.and_eq_true, decide_eq_true_eq] at hp; omega
            clear hp hall
            rcases hp' with hp' | ⟨hp1, hp2⟩
            · go_wp2
              go_ret
              exact ⟨ret_int E.out.symm, hBw⟩
            · go_wp2
              go_ret
              exact ⟨ret_int E.out.symm, hBw⟩
        · obtain rfl : k = gs.length := by omega
          have e : gs.take gs.length = gs := List.take_length
          rw [e] at hs1 hs2 ⊢
          have hx1c := HH.out.2.1
          by_cases hs : gs.sum = x * 120
          · have E : Hid (r = 0) := (HV.out).trans ((if_pos hall.out).trans (if_pos hs))
            have hsn : (gs.sum != x * 120) = false := by simpa using hs
            clear hs hall e
            go_wp2
            go_ret
            exact ⟨ret_int E.out.symm, hBw⟩
          · have E : Hid (r = 17) := (HV.out).trans ((if_pos hall.out).trans (if_neg hs))
            have hsn : (gs.sum != x * 120) = true := by simpa using hs
            clear hs hall e
            go_wp2
            go_ret
            exact ⟨ret_int E.out.symm, hBw⟩
    · have e : vld x zs gs = 5 := by unfold vld; rw [if_neg (by simpa using hc), if_pos he]
      rw [e]
      have HK := Lib.hid hk
      have hne : ((gs.length : Int) != zs.length) = true := by simp; omega
      clear hk hA hc h3 he e hG
      go_enter Try.func34, Try.ntmps34
      go_wp2_with (go_at_call 54; refine (HK.out).mono ?_; rintro e w1 ⟨rfl, hB⟩)
      go_ret
      exact ⟨rfl, hB.alloc hB.size _⟩
  · have hk := known_err x a cap zs w hl hA hc
    have e : vld x zs gs = chk x zs := by unfold vld; rw [if_pos hc]
    rw [e]
    have hne' : (chk x zs != 0) = true := by simpa using hc
    generalize chk x zs = r at hk hne' ⊢
    clear hA hc e hG
    have HK := Lib.hid hk; clear hk
    go_enter Try.func34, Try.ntmps34
    go_wp2_with (go_at_call 54; refine (HK.out).mono ?_; rintro e w1 ⟨rfl, hB⟩)
    go_ret
    exact ⟨rfl, hB.alloc hB.size _⟩
end Go.Proofs.Ytdnbdaegahcoeaa
