/- Layer 2: Count and Fewest. -/
import Derived.Test.YtimddkofcejijaaRQ
namespace Go.Proofs.Ytimddkofcejijaa
open Go.RowKit Go.Sort
theorem mask_le {n : Nat} (h : n ≤ 9) : 2 ^ n - 1 < 512 := by
  have h1 : 2 ^ n ≤ 2 ^ 9 := Nat.pow_le_pow_right (by decide) h
  have h2 : (2 : Nat) ^ 9 = 512 := by decide
  omega
def countR (c : Int) (ss : List (Int × Int)) : Int := if chkM c ss = 0 then (cntM ss (2 ^ ss.length) : Int) else 0
theorem rettii {a b : Int} {x y : Int} (h : a = b) (h' : x = y) : Ending.returned (.tuple #[.int .i64 a, .int .i64 x]) = .returned (.tuple #[.int .i64 b, .int .i64 y]) := by rw [h, h']
set_option maxRecDepth 100000 in
set_option maxHeartbeats 1000000 in
theorem count_any (c : Int) (a : Option Addr) (cap : Nat) (ss : List (Int × Int)) (w : World) (hS : StrAt w a ss) :
    Calls Try.prog 24 #[mapV c a ss.length cap] w fun e w' => e = .returned (.tuple #[.int .i64 (countR c ss), .int .i64 (chkM c ss)]) ∧ Fut w w' := by
  have HC := Lib.hid (fun W (F : Fut w W) => check_any' c a cap ss W (hS.fut F))
  by_cases hc : chkM c ss = 0
  · have hE : countR c ss = (cntM ss (2 ^ ss.length) : Int) := by unfold countR; rw [if_pos hc]
    rw [hE]
    rw [hc] at HC ⊢
    obtain ⟨hc1, hc6, h9, hp, _, _⟩ := chk_good hc
    have hEB : cntM ss (2 ^ ss.length) = (List.range' 0 (2 ^ ss.length - 0)).countP fun s => enoughB ss s := by unfold cntM; rw [List.range_eq_range']; simp
    have HAL := Lib.hid (fun W => all_any c a ss.length cap W (by omega))
    have HN := Lib.hid (fun s (h : s < 65536) W (F : Fut w W) => isEnough_any c a cap ss s W (hS.fut F) (by omega) hp h)
    have hml := mask_le h9
    have h1p := Nat.one_le_two_pow (n := ss.length)
    have hmm : 2 ^ ss.length = (2 ^ ss.length - 1) + 1 := by omega
    clear hS hc hp hE
    rw [hmm] at hEB ⊢
    generalize 2 ^ ss.length - 1 = m at *
    generalize cntM ss (m + 1) = E at *
    have HE := Lib.hid (show 0 + (List.range' 0 (m + 1 - 0)).countP (fun s => enoughB ss s) = E by rw [Nat.zero_add]; exact hEB.symm)
    clear hEB hmm h1p
    have hMx : (m : Int) < 512 := by omega
    go_enter Try.func24, Try.ntmps24
    go_wp2_with fail
    have hB := BoxM.new w c a ss.length cap 24
    have hF : Fut w (w.alloc (.cells #[.int .i64 c, .slice a ss.length cap] 24)) := Fut.alloc _ _
    generalize w.alloc (.cells #[.int .i64 c, .slice a ss.length cap] 24) = W1 at *
    generalize w.heap.size = B at *
    refine (HC.out _ hF).mono ?_
    rintro _ w1 ⟨rfl, F⟩
    have HF := Lib.hid (hF.trans F)
    have HB := Lib.hid (hB.fut F)
    obtain ⟨hb, b0, b1⟩ := HB.out
    clear hF F hB
    go_wp2_with fail
    refine (HAL.out _).mono ?_
    rintro _ w2 ⟨rfl, F⟩
    have HF2 := Lib.hid (HF.out.trans F)
    have HB2 := Lib.hid (HB.out.fut F)
    clear hb b0 b1 F
    go_wp2_with fail
    go_loopw [5, 15] (fun nv iv wr => ∃ (k n : Nat), k ≤ m + 1 ∧ iv = .int .u64 k ∧ nv = .int .i64 n ∧ n ≤ k ∧ Hid (n + (List.range' k (m + 1 - k)).countP (fun s => enoughB ss s) = E) ∧ Hid (Fut w2 wr)) (fun _ iv _ => m + 1 - (intOf iv).toNat)
    case atStart => exact ⟨0, 0, Nat.zero_le _, rfl, rfl, Nat.le_refl _, HE, Lib.hid Fut.rfl⟩
    case round =>
      obtain ⟨k, n, hk, rfl, rfl, hn, HO, HR⟩ := hrel
      obtain ⟨hb, b0, b1⟩ := HB2.out.fut HR.out
      by_cases hlt : k < m + 1
      · have hkx : (k : Int) < (m : Int) + 1 := by omega
        have hnx : (n : Int) ≤ k := by omega
        have hs := range_step hlt
        rw [hs, List.countP_cons] at HO
        have HKK := Lib.hid (HN.out k (by omega) wr (HF2.out.trans HR.out))
        clear hs
        cases hq : enoughB ss k
        · rw [hq] at HKK HO
          simp only [Bool.false_eq_true, if_false, Nat.add_zero] at HO
          clear hq
          go_wp2_with fail
          refine HKK.out.mono ?_
          rintro _ w3 ⟨rfl, F⟩
          have HRA := Lib.hid (HR.out.trans F)
          clear F HKK
          go_wp2
          go_roundw
          case rel => exact ⟨k + 1, n, by omega, by go_num, rfl, by omega, HO, HRA⟩
          case measure => simp [intOf]; omega
        · rw [hq] at HKK HO
          simp only [if_true] at HO
          have HO2 : Hid ((n + 1) + (List.range' (k + 1) (m + 1 - (k + 1))).countP (fun s => enoughB ss s) = E) := Lib.hid (by rw [← HO.out]; omega)
          clear hq HO
          go_wp2_with fail
          refine HKK.out.mono ?_
          rintro _ w3 ⟨rfl, F⟩
          have HRA := Lib.hid (HR.out.trans F)
          clear F HKK
          go_wp2
          go_roundw
          case rel => exact ⟨k + 1, n + 1, by omega, by go_num, by go_num, by omega, HO2, HRA⟩
          case measure => simp [intOf]; omega
      · obtain rfl : k = m + 1 := by omega
        rw [Nat.sub_self] at HO
        have hE : n = E := HO.out
        subst hE
        have hkx : ¬ ((m + 1 : Nat) : Int) < (m : Int) + 1 := by omega
        have HW := Lib.hid (HF2.out.trans HR.out)
        go_wp2
        go_ret2
        exact ⟨rfl, HW.out⟩
  · have hE : countR c ss = 0 := by unfold countR; rw [if_neg hc]
    rw [hE]
    obtain ⟨_, h2⟩ := chk_std hc
    clear hS hE
    generalize chkM c ss = r at *
    go_enter Try.func24, Try.ntmps24
    go_wp2_with fail
    refine (HC.out _ (Fut.alloc _ _)).mono ?_
    rintro _ w1 ⟨rfl, F⟩
    go_wp2
    go_ret2
    exact ⟨rfl, (Fut.alloc _ _).trans F⟩
def fewR (c : Int) (ss : List (Int × Int)) : List Int := if chkM c ss = 0 then fewM ss else []
def fewStep (ss : List (Int × Int)) (b : List Int) (s : Nat) : List Int := if enoughB ss s && fewerB (listM s) b then listM s else b
theorem sl_cong {n m : Nat} {l : Option Addr} {c : Nat} (h : n = m) : Value.slice l n c = .slice l m c := by rw [h]
set_option maxRecDepth 100000 in
set_option maxHeartbeats 2000000 in
theorem fewest_any (c : Int) (a : Option Addr) (cap : Nat) (ss : List (Int × Int)) (w : World) (hS : StrAt w a ss) :
    Calls Try.prog 22 #[mapV c a ss.length cap] w (TupL (chkM c ss) (fewR c ss) w) := by
  have HC := Lib.hid (fun W (F : Fut w W) => check_any' c a cap ss W (hS.fut F))
  by_cases hc : chkM c ss = 0
  · have hE : fewR c ss = fewM ss := by unfold fewR; rw [if_pos hc]
    rw [hE]
    rw [hc] at HC ⊢
    obtain ⟨hc1, hc6, h9, hp, _, _⟩ := chk_good hc
    have hEB : fewM ss = (List.range' 0 (2 ^ ss.length - 1 - 0)).foldl (fewStep ss) (listM (2 ^ ss.length - 1)) := by unfold fewM fewK; rw [List.range_eq_range']; rfl
    have HAL := Lib.hid (fun W => all_any c a ss.length cap W (by omega))
    have HN := Lib.hid (fun s (h : s < 65536) W (F : Fut w W) => isEnough_any c a cap ss s W (hS.fut F) (by omega) hp h)
    have HLI := Lib.hid (fun s (h : s < 65536) W => list_sl s W h)
    have hml := mask_le h9
    clear hS hc hp hE
    generalize 2 ^ ss.length - 1 = m at *
    generalize fewM ss = R at *
    have HE := Lib.hid hEB.symm
    clear hEB
    have hMx : (m : Int) < 512 := by omega
    go_enter Try.func22, Try.ntmps22
    go_wp2_with fail
    have hB := BoxM.new w c a ss.length cap 24
    have hF : Fut w (w.alloc (.cells #[.int .i64 c, .slice a ss.length cap] 24)) := Fut.alloc _ _
    generalize w.alloc (.cells #[.int .i64 c, .slice a ss.length cap] 24) = W1 at *
    generalize w.heap.size = B at *
    refine (HC.out _ hF).mono ?_
    rintro _ w1 ⟨rfl, F⟩
    have HF := Lib.hid (hF.trans F)
    have HB := Lib.hid (hB.fut F)
    obtain ⟨hb, b0, b1⟩ := HB.out
    clear hF F hB
    go_wp2_with fail
    refine (HAL.out _).mono ?_
    rintro _ w2 ⟨rfl, F⟩
    have HF2 := Lib.hid (HF.out.trans F)
    have HB2 := Lib.hid (HB.out.fut F)
    clear hb b0 b1 F
    go_wp2_with fail
    refine (HLI.out _ (by omega) _).mono ?_
    rintro _ w3 ⟨l0, c0, rfl, hI, F⟩
    have HF3 := Lib.hid (HF2.out.trans F)
    have HB3 := Lib.hid (HB2.out.fut F)
    have HI := Lib.hid hI
    obtain ⟨hb, b0, b1⟩ := HB3.out
    clear F hI
    go_wp2_with fail
    refine (HAL.out _).mono ?_
    rintro _ w4 ⟨rfl, F⟩
    have HF4 := Lib.hid (HF3.out.trans F)
    have HB4 := Lib.hid (HB3.out.fut F)
    have HI4 := Lib.hid (HI.out.fut F)
    clear hb b0 b1 F
    have hlm := list_le m
    generalize listM m = L0 at *
    go_wp2_with fail
    go_loopw [5, 18] (fun bv iv wr => ∃ (k : Nat) (l : Option Addr) (lc : Nat) (b : List Int), k ≤ m ∧ iv = .int .u64 k ∧ bv = .slice l b.length lc ∧ b.length ≤ 16 ∧ Hid (IntsAt wr l b) ∧ Hid ((List.range' k (m - k)).foldl (fewStep ss) b = R) ∧ Hid (Fut w4 wr)) (fun _ iv _ => m - (intOf iv).toNat)
    case atStart => exact ⟨0, l0, c0, L0, Nat.zero_le _, rfl, rfl, hlm, HI4, HE, Lib.hid Fut.rfl⟩
    case round =>
      obtain ⟨k, l, lc, b, hk, rfl, rfl, hbl, HIB, HO, HR⟩ := hrel
      obtain ⟨hb, b0, b1⟩ := HB4.out.fut HR.out
      by_cases hlt : k < m
      · have hkx : (k : Int) < (m : Int) := by omega
        have hs := range_step hlt
        rw [hs, List.foldl_cons] at HO
        have hst : fewStep ss b k = if enoughB ss k && fewerB (listM k) b then listM k else b := rfl
        rw [hst] at HO
        have HLK := Lib.hid (HLI.out k (by omega) wr)
        have hlk := list_le k
        have HNK := Lib.hid (fun W (F : Fut w W) => HN.out k (by omega) W F)
        generalize listM k = Lk at *
        have HFW := Lib.hid (fun w5 lk ck (hI : IntsAt w5 lk Lk) (hI2 : IntsAt w5 l b) => fewer_any lk l ck lc Lk b w5 (by omega) (by omega) hI hI2)
        clear hs hst
        cases hq : enoughB ss k
        · rw [hq] at HNK HO
          simp only [Bool.false_and, Bool.false_eq_true, if_false] at HO
          clear hq
          go_wp2_with fail
          refine HLK.out.mono ?_
          rintro _ w5 ⟨lk, ck, rfl, _, F⟩
          have HR5 := Lib.hid (HR.out.trans F)
          have HI5 := Lib.hid (HIB.out.fut F)
          obtain ⟨hb5, b05, b15⟩ := HB4.out.fut HR5.out
          clear F hb b0 b1
          go_wp2_with fail
          refine (HNK.out _ (HF4.out.trans HR5.out)).mono ?_
          rintro _ w6 ⟨rfl, F⟩
          have HRA := Lib.hid (HR5.out.trans F)
          have HI6 := Lib.hid (HI5.out.fut F)
          clear F hb5 b05 b15
          go_wp2
          go_roundw
          case rel => exact ⟨k + 1, l, lc, b, by omega, by go_num, rfl, hbl, HI6, HO, HRA⟩
          case measure => simp [intOf]; omega
        · rw [hq] at HNK HO
          simp only [Bool.true_and] at HO
          clear hq
          cases hf : fewerB Lk b
          · rw [hf] at HFW HO
            simp only [Bool.false_eq_true, if_false] at HO
            clear hf
            go_wp2_with fail
            refine HLK.out.mono ?_
            rintro _ w5 ⟨lk, ck, rfl, hIk, F⟩
            have HR5 := Lib.hid (HR.out.trans F)
            have HI5 := Lib.hid (HIB.out.fut F)
            have HK5 := Lib.hid hIk
            obtain ⟨hb5, b05, b15⟩ := HB4.out.fut HR5.out
            clear F hb b0 b1 hIk
            go_wp2_with fail
            refine (HNK.out _ (HF4.out.trans HR5.out)).mono ?_
            rintro _ w6 ⟨rfl, F⟩
            have HRA := Lib.hid (HR5.out.trans F)
            have HI6 := Lib.hid (HI5.out.fut F)
            have HK6 := Lib.hid (HK5.out.fut F)
            clear F hb5 b05 b15
            go_wp2_with (go_at_call 66; refine (HFW.out _ _ _ HK6.out HI6.out).mono ?_; rintro _ _ ⟨rfl, rfl⟩)
            go_roundw
            case rel => exact ⟨k + 1, l, lc, b, by omega, by go_num, rfl, hbl, HI6, HO, HRA⟩
            case measure => simp [intOf]; omega
          · rw [hf] at HFW HO
            simp only [if_true] at HO
            clear hf
            go_wp2_with fail
            refine HLK.out.mono ?_
            rintro _ w5 ⟨lk, ck, rfl, hIk, F⟩
            have HR5 := Lib.hid (HR.out.trans F)
            have HI5 := Lib.hid (HIB.out.fut F)
            have HK5 := Lib.hid hIk
            obtain ⟨hb5, b05, b15⟩ := HB4.out.fut HR5.out
            clear F hb b0 b1 hIk
            go_wp2_with fail
            refine (HNK.out _ (HF4.out.trans HR5.out)).mono ?_
            rintro _ w6 ⟨rfl, F⟩
            have HRA := Lib.hid (HR5.out.trans F)
            have HI6 := Lib.hid (HI5.out.fut F)
            have HK6 := Lib.hid (HK5.out.fut F)
            clear F hb5 b05 b15
            go_wp2_with (go_at_call 66; refine (HFW.out _ _ _ HK6.out HI6.out).mono ?_; rintro _ _ ⟨rfl, rfl⟩)
            go_roundw
            case rel => exact ⟨k + 1, lk, ck, Lk, by omega, by go_num, rfl, hlk, HK6, HO, HRA⟩
            case measure => simp [intOf]; omega
      · obtain rfl : k = m := by omega
        rw [Nat.sub_self] at HO
        have hE : b = R := HO.out
        subst hE
        have HW := Lib.hid (HF4.out.trans HR.out)
        go_wp2
        go_ret2
        exact ⟨_, _, rfl, HIB.out, HW.out⟩
  · have hE : fewR c ss = [] := by unfold fewR; rw [if_neg hc]
    rw [hE]
    obtain ⟨_, h2⟩ := chk_std hc
    clear hS hE
    generalize chkM c ss = r at *
    go_enter Try.func22, Try.ntmps22
    go_wp2_with fail
    refine (HC.out _ (Fut.alloc _ _)).mono ?_
    rintro _ w1 ⟨rfl, F⟩
    go_wp2
    go_ret2
    exact ⟨_, _, rfl, nil_ints _ _, (Fut.alloc _ _).trans F⟩
end Go.Proofs.Ytimddkofcejijaa
