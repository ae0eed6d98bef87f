/- Layer 2: Cut and Even. -/
import Derived.Test.YtimddkofcejijaaRP
namespace Go.Proofs.Ytimddkofcejijaa
open Go.RowKit Go.Sort
theorem setL_lt64 {n : Int} (hn : n ≤ 6) : ∀ (l : List Int) (p : Int) (o : Nat), ascE n l p = 0 → o < 64 → setL l o < 64
  | [], _, _, _, h => h
  | z :: l, p, o, ha, h => by
    unfold ascE at ha
    unfold setL
    split at ha
    · rename_i hz
      split at ha
      · omega
      · have : 0 ≤ z ∧ z < n := by simpa [inB] using hz
        have h2 : 2 ^ z.toNat < 2 ^ 6 := Nat.pow_lt_pow_right (by decide) (by omega)
        exact setL_lt64 hn l z _ ha (Nat.or_lt_two_pow (n := 6) h h2)
    · omega
theorem setM_lt64 {n : Int} (hn : n ≤ 6) {l : List Int} (h : ascE n l (-1) = 0) : setM l < 64 := setL_lt64 hn l _ 0 h (by decide)
/-- the error of a side. -/
def sdE (c : Int) (zs : List Int) : Int :=
  if ascE c zs (-1) ≠ 0 then ascE c zs (-1) else if setM zs = 0 ∨ setM zs = 2 ^ c.toNat - 1 then 5 else 0
set_option maxRecDepth 100000 in
set_option maxHeartbeats 2000000 in
theorem side_any (c : Nat) (a : Option Addr) (n cap : Nat) (d : Option Addr) (dap : Nat) (zs : List Int) (w : World) (hZ : IntsAt w d zs) (hlz : zs.length ≤ 1000) (hc : c ≤ 6) :
    Calls Try.prog 74 #[mapV c a n cap, .slice d zs.length dap] w (TupS (sdE c zs) (setM zs) w) := by
  have HA := Lib.hid (fun W (F : Fut w W) => asc_any c d dap zs W (hZ.fut F) hlz (by omega))
  have HBL := Lib.hid (fun W => below_any c W (by omega))
  have hcx : (c : Int) ≤ 6 := by omega
  have hD : sdE c zs = if ascE c zs (-1) ≠ 0 then ascE c zs (-1) else if setM zs = 0 ∨ setM zs = 2 ^ c - 1 then 5 else 0 := by unfold sdE; rw [Int.toNat_natCast]
  by_cases ha : ascE c zs (-1) = 0
  · have hs := setM_lt (by omega) ha
    have hsm : ascS c zs = setM zs := by unfold ascS; rw [if_pos ha]
    rw [ha, hsm] at HA
    rw [ha] at hD
    have hbl := mask_lt (n := c) (by omega)
    rw [if_neg (by simp)] at hD
    generalize setM zs = S at *
    generalize 2 ^ c - 1 = m at *
    by_cases h0 : S = 0
    · rw [if_pos (.inl h0)] at hD
      have hq : ((S : Int) == 0) = true := by rw [h0]; rfl
      rw [hD]
      clear hZ ha hsm hD h0
      go_enter Try.func74, Try.ntmps74
      go_wp2_with (first | (go_at_call 97; refine (HA.out _ (Fut.alloc _ _)).mono ?_; rintro _ _ ⟨rfl, rfl⟩))
      go_ret2
      exact ⟨0, rfl, fun h => by omega, Fut.alloc _ _⟩
    · have hq : ((S : Int) == 0) = false := by rw [beq_eq_false_iff_ne]; omega
      by_cases h1 : S = m
      · rw [if_pos (.inr h1)] at hD
        subst h1
        have hq2 : ((S : Int) == S) = true := by simp
        rw [hD]
        clear hZ ha hsm hD h0
        go_enter Try.func74, Try.ntmps74
        go_wp2_with (first | (go_at_call 97; refine (HA.out _ (Fut.alloc _ _)).mono ?_; rintro _ _ ⟨rfl, rfl⟩) | (go_at_call 60; refine (HBL.out _).mono ?_; rintro _ _ ⟨rfl, rfl⟩))
        go_ret2
        exact ⟨0, rfl, fun h => by omega, Fut.alloc _ _⟩
      · rw [if_neg (by omega)] at hD
        have hq2 : ((S : Int) == m) = false := by rw [beq_eq_false_iff_ne]; omega
        rw [hD]
        clear hZ ha hsm hD h0
        go_enter Try.func74, Try.ntmps74
        go_wp2_with (first | (go_at_call 97; refine (HA.out _ (Fut.alloc _ _)).mono ?_; rintro _ _ ⟨rfl, rfl⟩) | (go_at_call 60; refine (HBL.out _).mono ?_; rintro _ _ ⟨rfl, rfl⟩))
        go_ret2
        exact ⟨S, rfl, fun _ => rfl, Fut.alloc _ _⟩
  · rw [if_pos ha] at hD
    have hne : (ascE c zs (-1) != 0) = true := bne_iff_ne.2 ha
    rw [hD]
    clear hZ hD
    generalize ascE c zs (-1) = r at *
    generalize ascS c zs = S at *
    go_enter Try.func74, Try.ntmps74
    go_wp2_with (first | (go_at_call 97; refine (HA.out _ (Fut.alloc _ _)).mono ?_; rintro _ _ ⟨rfl, rfl⟩))
    go_ret2
    exact ⟨0, rfl, fun h => absurd h ha, Fut.alloc _ _⟩
def cutE (c : Int) (ss : List (Int × Int)) (zs : List Int) : Int := if chkM c ss ≠ 0 then chkM c ss else sdE c zs
def cutR (c : Int) (ss : List (Int × Int)) (zs : List Int) : List Int := if cutE c ss zs = 0 then listM (cutM ss (setM zs)) else []
theorem sd_good {c : Int} {zs : List Int} (h : sdE c zs = 0) : ascE c zs (-1) = 0 := by
  unfold sdE at h
  split at h
  · omega
  · rename_i h1; omega
set_option maxRecDepth 100000 in
set_option maxHeartbeats 1000000 in
theorem cutf_any (c : Int) (a : Option Addr) (cap : Nat) (ss : List (Int × Int)) (d : Option Addr) (dap : Nat) (zs : List Int) (w : World) (hS : StrAt w a ss) (hZ : IntsAt w d zs) (hlz : zs.length ≤ 1000) :
    Calls Try.prog 30 #[mapV c a ss.length cap, .slice d zs.length dap] w (TupL (cutE c ss zs) (cutR c ss zs) w) := by
  have HC := Lib.hid (fun W (F : Fut w W) => check_any' c a cap ss W (hS.fut F))
  by_cases hc : chkM c ss = 0
  · have hE : cutE c ss zs = sdE c zs := by unfold cutE; rw [hc]; simp
    have hR : cutR c ss zs = if sdE c zs = 0 then listM (cutM ss (setM zs)) else [] := by unfold cutR; rw [hE]
    rw [hE, hR]
    obtain ⟨hc1, hc6, h9, hp, _, _⟩ := chk_good hc
    obtain ⟨cn, rfl⟩ := Int.eq_ofNat_of_zero_le (show 0 ≤ c by omega)
    have HD := Lib.hid (fun W (F : Fut w W) => side_any cn a ss.length cap d dap zs W (hZ.fut F) hlz (by omega))
    rw [hc] at HC
    by_cases hs : sdE cn zs = 0
    · rw [if_pos hs]
      rw [hs] at HD ⊢
      have h64 := setM_lt64 (by omega) (sd_good hs)
      have HK := Lib.hid (fun W (F : Fut w W) => cut_any cn a cap ss (setM zs) W (hS.fut F) (by omega) hp h64)
      have hkl := cutM_lt (ss := ss) (by omega) (setM zs)
      have HL := Lib.hid (fun W => list_sl (cutM ss (setM zs)) W hkl)
      clear hS hZ hc hs hp hE hR
      generalize cutM ss (setM zs) = K at *
      generalize listM K = R at *
      generalize setM zs = S at *
      go_enter Try.func30, Try.ntmps30
      go_wp2_with fail
      have hB := BoxM.new w cn a ss.length cap 24
      have hF : Fut w (w.alloc (.cells #[.int .i64 cn, .slice a ss.length cap] 24)) := Fut.alloc _ _
      generalize w.alloc (.cells #[.int .i64 cn, .slice a ss.length cap] 24) = W1 at *
      generalize w.heap.size = B at *
      refine (HC.out _ hF).mono ?_
      rintro _ w1 ⟨rfl, F⟩
      have HF := Lib.hid (hF.trans F)
      have HB := Lib.hid (hB.fut F)
      obtain ⟨hb, b0, b1⟩ := HB.out
      clear hF F hB
      go_wp2_with fail
      refine (HD.out _ HF.out).mono ?_
      rintro _ w2 ⟨s, rfl, hs0, F⟩
      obtain rfl := hs0 rfl
      have HF2 := Lib.hid (HF.out.trans F)
      have HB2 := Lib.hid (HB.out.fut F)
      clear hb b0 b1 F hs0
      obtain ⟨hb, b0, b1⟩ := HB2.out
      go_wp2_with fail
      refine (HK.out _ HF2.out).mono ?_
      rintro _ w3 ⟨rfl, F⟩
      have HF3 := Lib.hid (HF2.out.trans F)
      clear hb b0 b1 F
      go_wp2_with fail
      refine (HL.out _).mono ?_
      rintro _ w4 ⟨l, lc, rfl, hI, F⟩
      have HI := Lib.hid hI
      have HF4 := Lib.hid (HF3.out.trans F)
      clear hI F
      go_wp2
      go_ret2
      exact ⟨l, lc, rfl, HI.out, HF4.out⟩
    · rw [if_neg hs]
      have hne : (sdE cn zs != 0) = true := bne_iff_ne.2 hs
      clear hS hZ hc hp hE hR
      generalize sdE cn zs = r at *
      go_enter Try.func30, Try.ntmps30
      go_wp2_with fail
      have hB := BoxM.new w cn a ss.length cap 24
      have hF : Fut w (w.alloc (.cells #[.int .i64 cn, .slice a ss.length cap] 24)) := Fut.alloc _ _
      generalize w.alloc (.cells #[.int .i64 cn, .slice a ss.length cap] 24) = W1 at *
      generalize w.heap.size = B at *
      refine (HC.out _ hF).mono ?_
      rintro _ w1 ⟨rfl, F⟩
      have HF := Lib.hid (hF.trans F)
      obtain ⟨hb, b0, b1⟩ := hB.fut F
      clear hF F hB
      go_wp2_with fail
      refine (HD.out _ HF.out).mono ?_
      rintro _ w2 ⟨s, rfl, _, F⟩
      go_wp2
      go_ret2
      exact ⟨_, _, rfl, nil_ints _ _, HF.out.trans F⟩
  · have hE : cutE c ss zs = chkM c ss := by unfold cutE; rw [if_pos hc]
    have hR : cutR c ss zs = [] := by unfold cutR; rw [hE, if_neg hc]
    rw [hE, hR]
    obtain ⟨_, h2⟩ := chk_std hc
    clear hS hZ hE hR
    generalize chkM c ss = r at *
    go_enter Try.func30, Try.ntmps30
    go_wp2_with fail
    refine (HC.out _ (Fut.alloc _ _)).mono ?_
    rintro _ w1 ⟨rfl, F⟩
    go_wp2
    go_ret2
    exact ⟨_, _, rfl, nil_ints _ _, (Fut.alloc _ _).trans F⟩
theorem range_step {k m : Nat} (h : k < m) : List.range' k (m - k) = k :: List.range' (k + 1) (m - (k + 1)) := by
  have e : m - k = (m - (k + 1)) + 1 := by omega
  rw [e, List.range'_succ]
def evenB (c : Int) (ss : List (Int × Int)) : Bool := (List.range (2 ^ c.toNat - 1)).any fun s => decide (cutM ss s = 2 ^ ss.length - 1)
def evenR (c : Int) (ss : List (Int × Int)) : Bool := decide (chkM c ss = 0) && evenB c ss
theorem rettb {a b : Bool} {x y : Int} (h : a = b) (h' : x = y) : Ending.returned (.tuple #[.bool a, .int .i64 x]) = .returned (.tuple #[.bool b, .int .i64 y]) := by rw [h, h']
set_option maxRecDepth 100000 in
set_option maxHeartbeats 1000000 in
theorem even_any (c : Int) (a : Option Addr) (cap : Nat) (ss : List (Int × Int)) (w : World) (hS : StrAt w a ss) :
    Calls Try.prog 34 #[mapV c a ss.length cap] w fun e w' => e = .returned (.tuple #[.bool (evenR c ss), .int .i64 (chkM c ss)]) ∧ Fut w w' := by
  have HC := Lib.hid (fun W (F : Fut w W) => check_any' c a cap ss W (hS.fut F))
  by_cases hc : chkM c ss = 0
  · have hE : evenR c ss = evenB c ss := by unfold evenR; rw [decide_eq_true hc]; simp
    rw [hE]
    rw [hc] at HC ⊢
    obtain ⟨hc1, hc6, h9, hp, _, _⟩ := chk_good hc
    obtain ⟨cn, rfl⟩ := Int.eq_ofNat_of_zero_le (show 0 ≤ c by omega)
    have hEB : evenB cn ss = (List.range' 0 (2 ^ cn - 1 - 0)).any fun s => decide (cutM ss s = 2 ^ ss.length - 1) := by unfold evenB; rw [List.range_eq_range']; simp
    have hcs : 2 ^ cn - 1 < 64 := by
      have h1 : 2 ^ cn ≤ 2 ^ 6 := Nat.pow_le_pow_right (by decide) (by omega)
      have h2 : (2 : Nat) ^ 6 = 64 := by decide
      omega
    have HAL := Lib.hid (fun W => all_any cn a ss.length cap W (by omega))
    have HBL := Lib.hid (fun W => below_any cn W (by omega))
    have HK := Lib.hid (fun s (h : s < 64) W (F : Fut w W) => cut_any cn a cap ss s W (hS.fut F) (by omega) hp h)
    have HKL := Lib.hid (fun s => cutM_lt (ss := ss) (by omega) s)
    have hml := mask_lt (n := ss.length) (by omega)
    clear hS hc hp hE
    generalize 2 ^ ss.length - 1 = m at *
    generalize 2 ^ cn - 1 = M at *
    generalize evenB cn ss = E at *
    have HE := Lib.hid hEB.symm
    clear hEB
    have hMx : (M : Int) < 64 := by omega
    go_enter Try.func34, Try.ntmps34
    go_wp2_with fail
    have hB := BoxM.new w cn a ss.length cap 24
    have hF : Fut w (w.alloc (.cells #[.int .i64 cn, .slice a ss.length cap] 24)) := Fut.alloc _ _
    generalize w.alloc (.cells #[.int .i64 cn, .slice a ss.length cap] 24) = W1 at *
    generalize w.heap.size = B at *
    refine (HC.out _ hF).mono ?_
    rintro _ w1 ⟨rfl, F⟩
    have HF := Lib.hid (hF.trans F)
    have HB := Lib.hid (hB.fut F)
    obtain ⟨hb, b0, b1⟩ := HB.out
    clear hF F hB
    go_wp2_with (go_at_call 60; refine (HBL.out _).mono ?_; rintro _ _ ⟨rfl, rfl⟩)
    clear hb b0 b1
    go_loopw [14] (fun iv wr => ∃ (k : Nat), k ≤ M ∧ iv = .int .u64 k ∧ Hid ((List.range' k (M - k)).any (fun s => decide (cutM ss s = m)) = E) ∧ Hid (Fut w1 wr)) (fun iv _ => M - (intOf iv).toNat)
    case atStart => exact ⟨0, Nat.zero_le _, rfl, HE, Lib.hid Fut.rfl⟩
    case round =>
      obtain ⟨k, hk, rfl, HO, HR⟩ := hrel
      obtain ⟨m0, m1⟩ := HB.out.after HR.out
      by_cases hlt : k < M
      · have hkx : (k : Int) < M := by omega
        have hs := range_step hlt
        rw [hs, List.any_cons] at HO
        have HKK := Lib.hid (fun W (F : Fut w W) => HK.out k (by omega) W F)
        have hkl := HKL.out k
        generalize hcc : cutM ss k = K at *
        have HFR := Lib.hid (HF.out.trans HR.out)
        clear hcc hs
        by_cases hq : K = m
        · rw [decide_eq_true hq, Bool.true_or] at HO
          have hE : E = true := HO.out.symm
          subst hE
          subst hq
          go_wp2_with fail
          refine region_fut (by kernel_rfl) (by kernel_rfl) ?_
          repeat (go_big_quiet_step (first
            | (go_at_call 75; rename_i p; exact after_of (HKK.out _ (HFR.out.trans p.F)))
            | (go_at_call 55; exact after_of (HAL.out _))))
          refine wpQuiet_nil ?_
          intro _ hw'
          obtain ⟨⟨wq, Fq⟩, rfl⟩ := hw'
          have HW := Lib.hid (HFR.out.trans Fq)
          clear m0 m1 Fq
          go_wp2
          go_ret2
          exact ⟨rfl, HW.out⟩
        · rw [decide_eq_false hq, Bool.false_or] at HO
          have hq2 : ((K : Int) == m) = false := by rw [beq_eq_false_iff_ne]; omega
          go_wp2_with fail
          refine region_fut (by kernel_rfl) (by kernel_rfl) ?_
          repeat (go_big_quiet_step (first
            | (go_at_call 75; rename_i p; exact after_of (HKK.out _ (HFR.out.trans p.F)))
            | (go_at_call 55; exact after_of (HAL.out _))))
          refine wpQuiet_nil ?_
          intro _ hw'
          obtain ⟨⟨wq, Fq⟩, rfl⟩ := hw'
          have HRA := Lib.hid (HR.out.trans Fq)
          clear m0 m1 Fq
          go_wp2
          go_roundw
          case rel => exact ⟨k + 1, by omega, by go_num, HO, HRA⟩
          case measure => simp [intOf]; omega
      · obtain rfl : k = M := by omega
        rw [Nat.sub_self] at HO
        have hE : E = false := HO.out.symm
        subst hE
        have HW := Lib.hid (HF.out.trans HR.out)
        go_wp2
        go_ret2
        exact ⟨rfl, HW.out⟩
  · have hE : evenR c ss = false := by unfold evenR; rw [decide_eq_false hc]; rfl
    rw [hE]
    obtain ⟨_, h2⟩ := chk_std hc
    clear hS hE
    generalize chkM c ss = r at *
    go_enter Try.func34, Try.ntmps34
    go_wp2_with fail
    refine (HC.out _ (Fut.alloc _ _)).mono ?_
    rintro _ w1 ⟨rfl, F⟩
    go_wp2
    go_ret2
    exact ⟨rfl, (Fut.alloc _ _).trans F⟩
end Go.Proofs.Ytimddkofcejijaa
