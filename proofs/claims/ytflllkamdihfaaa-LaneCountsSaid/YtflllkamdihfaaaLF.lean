/- countWays, ways: count_any, pways_any -/
import Derived.Test.YtflllkamdihfaaaLE
namespace Go.Proofs.Ytflllkamdihfaaa
open Go.RowKit Go.Sort
theorem stL_in {r c m : Int} (hs : Side r c m) {S : List Int} {k : Int} (_hk : 0 ≤ k) : ∀ x ∈ stL c m S k, k < x ∧ x < m := fun x hx => by
  obtain ⟨_, _, hc1, _, _⟩ := hs
  have at0 : ∀ y, atE m S y = 0 → y < m := fun y hy => by
    unfold atE at hy
    by_cases h : inB m y = true
    · unfold inB at h; simp at h; omega
    · rw [if_neg h] at hy; omega
  unfold stL at hx
  rcases List.mem_append.1 hx with hx | hx
  · by_cases h : ¬ (k + 1) % c = 0 ∧ atE m S (k + 1) = 0
    · rw [if_pos h] at hx
      obtain rfl : x = k + 1 := by simpa using hx
      exact ⟨by omega, at0 _ h.2⟩
    · rw [if_neg h] at hx; cases hx
  · by_cases h : atE m S (k + c) = 0
    · rw [if_pos h] at hx
      obtain rfl : x = k + c := by simpa using hx
      exact ⟨by omega, at0 _ h⟩
    · rw [if_neg h] at hx; cases hx
theorem stL_len (c m : Int) (S : List Int) (k : Int) : (stL c m S k).length ≤ 2 := by
  unfold stL
  rw [List.length_append]
  have h1 : (if ¬ (k + 1) % c = 0 ∧ atE m S (k + 1) = 0 then [k + 1] else []).length ≤ 1 := by split <;> simp
  have h2 : (if atE m S (k + c) = 0 then [k + c] else []).length ≤ 1 := by split <;> simp
  omega
/-- how many ways lead from a corner to another one, by so many steps at the most. -/
def wn (c m : Int) (S : List Int) (tz : Int) : Nat → Int → Nat
  | 0, k => if k = tz then 1 else 0
  | f + 1, k => if k = tz then 1 else ((stL c m S k).map (wn c m S tz f)).sum
theorem sum_le {l : List Int} {g : Int → Nat} {b : Nat} (h : ∀ x, g x ≤ b) : (l.map g).sum ≤ l.length * b := by
  induction l with
  | nil => simp
  | cons x l ih =>
    rw [List.map_cons, List.sum_cons, List.length_cons, Nat.succ_mul]
    have := h x
    omega
theorem wn_le (c m : Int) (S : List Int) (tz : Int) : ∀ (f : Nat) (k : Int), wn c m S tz f k ≤ 2 ^ f
  | 0, k => by unfold wn; split <;> simp
  | f + 1, k => by
    unfold wn
    have hp : 1 ≤ 2 ^ (f + 1) := Nat.one_le_two_pow
    split
    · exact hp
    · have h1 := sum_le (l := stL c m S k) (fun x => wn_le c m S tz f x)
      have h2 := stL_len c m S k
      have h3 := Nat.mul_le_mul_right (2 ^ f) h2
      rw [Nat.pow_succ]
      omega
theorem sum_take {l : List Int} {g : Int → Nat} {i : Nat} (h : i < l.length) : ((l.take (i + 1)).map g).sum = ((l.take i).map g).sum + g (nth l i) := by
  rw [List.take_succ_eq_append_getElem h, List.map_append, List.sum_append, nth_eq, List.getElem?_eq_getElem h]
  simp
set_option maxRecDepth 100000 in
set_option maxHeartbeats 2000000 in
theorem count_any (r c m : Int) (hs : Side r c m) (a : Option Addr) (cap : Nat) (S : List Int) (tz : Int) : ∀ (f : Nat) (k : Int) (w : World), 0 ≤ k → k < m → m - k ≤ f → f ≤ 16 → IntsAt w a S → S.length ≤ 1000 →
    Calls Try.prog 107 #[.func (.func 108) #[parV r c a S.length cap] #[], .int .i64 k, .int .i64 tz] w fun e w' => e = .returned (.int .i64 (wn c m S tz f k : Nat)) ∧ Fut w w' := by
  intro f
  induction f with
  | zero => intro k w h0 h1 h2; omega
  | succ f ih =>
    intro k w h0 h1 h2 h3 hS hl
    have HST := Lib.hid (steps_any r c m hs a cap S k ⟨h0, h1⟩ w hS hl)
    have HIN := Lib.hid (stL_in hs (S := S) h0)
    have hL2 := stL_len c m S k
    have HIH : Hid (∀ x, x ∈ stL c m S k → ∀ W, Fut w W → Calls Try.prog 107 #[.func (.func 108) #[parV r c a S.length cap] #[], .int .i64 x, .int .i64 tz] W fun e w' => e = .returned (.int .i64 (wn c m S tz f x : Nat)) ∧ Fut W w') := Lib.hid (fun x hx W F => ih x W (by have := HIN.out x hx; omega) (HIN.out x hx).2 (by have := (HIN.out x hx).1; omega) (by omega) (hS.fut F) hl)
    have HSL : Hid (∀ i, ((((stL c m S k).take i).map (wn c m S tz f)).sum) ≤ 131072) := Lib.hid (fun i => by
      have a1 := sum_le (l := (stL c m S k).take i) (fun x => wn_le c m S tz f x)
      have a2 : ((stL c m S k).take i).length ≤ 2 := by rw [List.length_take]; omega
      have a3 : 2 ^ f ≤ 2 ^ 16 := Nat.pow_le_pow_right (by decide) (by omega)
      have a4 := Nat.mul_le_mul a2 a3
      have a5 : 2 * 2 ^ 16 = 131072 := by decide
      omega)
    have HWL : Hid (∀ x, wn c m S tz f x ≤ 65536) := Lib.hid (fun x => Nat.le_trans (wn_le c m S tz f x) (by
      have a3 : 2 ^ f ≤ 2 ^ 16 := Nat.pow_le_pow_right (by decide) (by omega)
      exact a3))
    have HSS := Lib.hid (fun i (hi : i < (stL c m S k).length) => sum_take (g := wn c m S tz f) hi)
    have HNM := Lib.hid (fun i (hi : i < (stL c m S k).length) => show nth (stL c m S k) i ∈ stL c m S k from nth_mem hi)
    unfold wn
    by_cases hk : k = tz
    · rw [if_pos hk]
      subst hk
      clear HST HIN HIH HSL HWL HSS HNM hs hS ih
      go_enter Try.func107, Try.ntmps107
      go_wp2_with fail
      go_ret
      exact ⟨rfl, Fut.rfl⟩
    · rw [if_neg hk]
      have hS0 : (((stL c m S k).take 0).map (wn c m S tz f)).sum = 0 := by simp
      have HSE : Hid (((stL c m S k).map (wn c m S tz f)).sum = (((stL c m S k).take (stL c m S k).length).map (wn c m S tz f)).sum) := Lib.hid (by rw [List.take_length])
      rw [HSE.out]
      generalize wn c m S tz f = g at *
      generalize stL c m S k = L at *
      have HS0 := Lib.hid hS0
      have hLx : (L.length : Int) ≤ 2 := by omega
      clear hS0 HSE hs hS ih HIN
      go_enter Try.func107, Try.ntmps107
      go_wp2_with fail
      refine HST.out.mono ?_
      rintro _ w1 ⟨v, rfl, hO, F⟩
      obtain ⟨l, lc, rfl, hI⟩ := hO.ints
      have HI := Lib.hid hI
      have HF1 := Lib.hid F
      clear hO F hI HST
      go_wp2_with fail
      go_loopw [7, 17] (fun mv iv wr => ∃ i : Nat, i ≤ L.length ∧ mv = .int .i64 (((L.take i).map g).sum : Nat) ∧ iv = .int .i64 i ∧ Hid (Fut w1 wr)) (fun _ iv _ => L.length - (intOf iv).toNat)
      case atStart => exact ⟨0, Nat.zero_le _, by rw [HS0.out]; rfl, rfl, Lib.hid Fut.rfl⟩
      case round =>
        obtain ⟨i, hi, rfl, rfl, HFi⟩ := hrel
        obtain ⟨wo, hwo⟩ : ∃ wo, wo = wr := ⟨_, rfl⟩
        subst hwo
        by_cases hil : i < L.length
        · have hix : (i : Int) < L.length := by omega
          obtain ⟨b, o, rfl, _, c1⟩ := (HI.out.fut HFi.out) i hil
          have HC := Lib.hid (HIH.out _ (HNM.out i hil) wo (HF1.out.trans HFi.out))
          have hs1 := HSL.out i
          have hw1 := HWL.out (nth L i)
          have HS1 := Lib.hid (HSS.out i hil)
          generalize nth L i = x at *
          generalize ((L.take i).map g).sum = sm at *
          generalize g x = gx at *
          have hs1x : (sm : Int) ≤ 131072 := by omega
          have hw1x : (gx : Int) ≤ 65536 := by omega
          go_wp2_with fail
          refine HC.out.mono ?_
          rintro _ w2 ⟨rfl, F⟩
          have HF2 := Lib.hid (HFi.out.trans F)
          clear F c1
          go_wp2_with fail
          go_round
          case rel => exact ⟨i + 1, by omega, by rw [HS1.out]; go_num, by go_num, HF2⟩
          case measure => simp [intOf]; omega
        · obtain rfl : L.length = i := by omega
          go_wp2_with fail
          go_ret
          exact ⟨rfl, HF1.out.trans HFi.out⟩
/-- how many ways lead from a corner to another one. -/
def wayN (c m : Int) (S : List Int) (k tz : Int) : Nat := if atE m S k = 0 then wn c m S tz 16 k else 0
set_option maxRecDepth 100000 in
set_option maxHeartbeats 2000000 in
theorem pways_any (r c m : Int) (hs : Side r c m) (a : Option Addr) (cap : Nat) (S : List Int) (k tz : Int) (w : World) (hS : IntsAt w a S) (hl : S.length ≤ 1000) :
    Calls Try.prog 70 #[parV r c a S.length cap, .int .i64 k, .int .i64 tz] w fun e w' => e = .returned (.int .i64 (wayN c m S k tz : Nat)) ∧ Fut w w' := by
  have HAT := Lib.hid (fun W (F : Fut w W) => at_any r c m hs a cap S k W (hS.fut F) hl)
  have hF : Fut w (w.alloc (.cells #[.int .i64 r, .int .i64 c, .slice a S.length cap] 24)) := Fut.alloc _ _
  have hBP := BoxP.new w r c a S.length cap
  have HF := Lib.hid hF
  have HBP := Lib.hid hBP
  have HK : Hid (atE m S k = 0 → 0 ≤ k ∧ k < m) := Lib.hid (fun hy => by
    unfold atE at hy
    by_cases h : inB m k = true
    · unfold inB at h; simp at h; omega
    · rw [if_neg h] at hy; omega)
  have HCW := Lib.hid (fun (h0 : 0 ≤ k) (h1 : k < m) W (F : Fut w W) => count_any r c m hs a cap S tz 16 k W h0 h1 (by have := hs.m; omega) (Nat.le_refl _) (hS.fut F) hl)
  clear hF hBP hS hl hs
  obtain ⟨_, p0, p1, p2⟩ := HBP.out
  unfold wayN
  generalize hae : atE m S k = ae at *
  by_cases h0 : ae = 0
  · subst h0
    rw [if_pos rfl]
    obtain ⟨hk0, hk1⟩ := HK.out rfl
    replace HCW := Lib.hid (fun W F => HCW.out hk0 hk1 W F)
    generalize wn c m S tz 16 k = g at *
    clear hae hk0 hk1 HK
    go_enter Try.func70, Try.ntmps70
    go_wp2_with fail
    refine (HAT.out _ HF.out).mono ?_
    rintro _ w2 ⟨rfl, F⟩
    have HF2 := Lib.hid (HF.out.trans F)
    have HBP2 := Lib.hid (HBP.out.fut F)
    clear p0 p1 p2 F HBP HF
    obtain ⟨_, p0, p1, p2⟩ := HBP2.out
    go_wp2_with fail
    refine (HCW.out _ HF2.out).mono ?_
    rintro _ w3 ⟨rfl, F⟩
    have HF3 := Lib.hid (HF2.out.trans F)
    clear F
    go_wp2_with fail
    go_ret
    exact ⟨rfl, HF3.out⟩
  · rw [if_neg h0]
    clear hae HCW HK
    go_enter Try.func70, Try.ntmps70
    go_wp2_with fail
    refine (HAT.out _ HF.out).mono ?_
    rintro _ w2 ⟨rfl, F⟩
    have HF2 := Lib.hid (HF.out.trans F)
    clear p0 p1 p2 F HBP HF
    go_wp2_with fail
    go_ret
    exact ⟨rfl, HF2.out⟩
end Go.Proofs.Ytflllkamdihfaaa
