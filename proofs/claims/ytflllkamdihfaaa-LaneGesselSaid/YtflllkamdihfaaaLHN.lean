/- slices.Compare 45: cmL_any -/
import Derived.Test.YtflllkamdihfaaaLHA
import Derived.Test.YtflllkamdihfaaaLNC
namespace Go.Proofs.Ytflllkamdihfaaa
open Go.RowKit Go.Sort
def cm1 (x y : Int) : Int := if x < y then -1 else if y < x then 1 else 0
/-- slices.Compare. -/
def cmL : List Int → List Int → Int
  | [], [] => 0
  | [], _ :: _ => -1
  | _ :: _, [] => 1
  | a :: l, b :: m => if a = b then cmL l m else cm1 a b
theorem cmL_ls : ∀ l m : List Int, decide (cmL l m < 0) = lsB l m
  | [], [] => by simp [cmL, lsB]
  | [], _ :: _ => by simp [cmL, lsB]
  | _ :: _, [] => by simp [cmL, lsB]
  | a :: l, b :: m => by
    rw [cmL, lsB]
    by_cases h : a = b
    · rw [if_pos h, if_pos h]; exact cmL_ls l m
    · rw [if_neg h, if_neg h]
      unfold cm1
      by_cases h2 : a < b
      · simp [h2]
      · rw [if_neg h2, if_pos (by omega)]; simp [h2]
theorem isNaN_any (x : Int) (w : World) : Calls Try.prog 115 #[.int .i64 x] w fun e w' => e = .returned (.bool false) ∧ w = w' := by
  go_enter Try.func115, Try.ntmps115
  go_wp2
  go_ret
  exact ⟨ret_bool (by simp), rfl⟩
theorem cm1_any (x y : Int) (w : World) : Calls Try.prog 100 #[.int .i64 x, .int .i64 y] w fun e w' => e = .returned (.int .i64 (cm1 x y)) ∧ w = w' := by
  have H : Hid (cm1 x y = if x < y then -1 else if y < x then 1 else 0) := rfl
  generalize cm1 x y = r at H ⊢
  go_enter Try.func100, Try.ntmps100
  go_wp2_with (go_at_call 115; refine (isNaN_any _ _).mono ?_; rintro e w' ⟨rfl, rfl⟩)
  all_goals
    go_ret
    refine ⟨ret_int ?_, rfl⟩
    rw [H.out]
    split <;> (try split) <;> omega
set_option maxRecDepth 100000 in
set_option maxHeartbeats 4000000 in
theorem cmL_any (a c : Option Addr) (cap dap : Nat) (xs ys : List Int) (w : World) (hx : xs.length ≤ 1000) (hy : ys.length ≤ 1000) (hA : IntsAt w a xs) (hC : IntsAt w c ys) :
    Calls Try.prog 45 #[.slice a xs.length cap, .slice c ys.length dap] w fun e w' => e = .returned (.int .i64 (cmL xs ys)) ∧ w = w' := by
  have HA := Lib.hid hA
  have HC := Lib.hid hC
  have hxx : (xs.length : Int) ≤ 1000 := by omega
  have hyx : (ys.length : Int) ≤ 1000 := by omega
  have dr : ∀ (l : List Int) k, k < l.length → l.drop k = nth l k :: l.drop (k + 1) := fun l k hk => by
    rw [nth_get hk]; exact List.drop_eq_getElem_cons hk
  have HE := Lib.hid (fun i (hi : i < xs.length) (hj : i < ys.length) (e : nth xs i = nth ys i) => show cmL (xs.drop i) (ys.drop i) = cmL (xs.drop (i + 1)) (ys.drop (i + 1)) by rw [dr xs i hi, dr ys i hj, cmL, if_pos e])
  have HN := Lib.hid (fun i (hi : i < xs.length) (hj : i < ys.length) (e : ¬ nth xs i = nth ys i) => show cmL (xs.drop i) (ys.drop i) = cm1 (nth xs i) (nth ys i) by rw [dr xs i hi, dr ys i hj, cmL, if_neg e])
  have HL := Lib.hid (fun i (hi : i < xs.length) (hj : ¬ i < ys.length) => show cmL (xs.drop i) (ys.drop i) = 1 by rw [dr xs i hi, List.drop_of_length_le (l := ys) (show ys.length ≤ i by omega)]; rfl)
  have HR := Lib.hid (fun (h : xs.length < ys.length) => show cmL (xs.drop xs.length) (ys.drop xs.length) = -1 by rw [List.drop_of_length_le (Nat.le_refl _), dr ys _ h]; rfl)
  have HZ := Lib.hid (fun (h : ¬ xs.length < ys.length) => show cmL (xs.drop xs.length) (ys.drop xs.length) = 0 by rw [List.drop_of_length_le (Nat.le_refl _), List.drop_of_length_le (l := ys) (show ys.length ≤ xs.length by omega)]; rfl)
  obtain ⟨g, hg⟩ : ∃ g : Nat → Int, g = fun i => cmL (xs.drop i) (ys.drop i) := ⟨_, rfl⟩
  have h0 : cmL xs ys = g 0 := by rw [hg]; simp
  rw [h0]
  obtain ⟨r, hr⟩ : ∃ r, r = g 0 := ⟨_, rfl⟩
  rw [← hr]
  have HR0 := Lib.hid hr
  have HG := Lib.hid (fun i => show g i = cmL (xs.drop i) (ys.drop i) by rw [hg])
  clear hA hC dr hg h0 hr
  go_enter Try.func45, Try.ntmps45
  go_wp2_with fail
  go_loopw [11] (fun iv wr => ∃ i : Nat, i ≤ xs.length ∧ iv = .int .i64 i ∧ Hid (r = g i) ∧ w = wr) (fun iv _ => xs.length - (intOf iv).toNat)
  case atStart => exact ⟨0, Nat.zero_le _, rfl, HR0, rfl⟩
  case round =>
    obtain ⟨i, hi, rfl, HRG, rfl⟩ := hrel
    by_cases hil : i < xs.length
    · have hix : (i : Int) < xs.length := by omega
      obtain ⟨b, off, rfl, _, c1⟩ := HA.out i hil
      by_cases hjl : i < ys.length
      · have hjx : (i : Int) < ys.length := by omega
        obtain ⟨b', off', rfl, _, c2⟩ := HC.out i hjl
        by_cases he : nth xs i = nth ys i
        · have HX := Lib.hid (HRG.out.trans ((HG.out i).trans ((HE.out i hil hjl he).trans (HG.out (i + 1)).symm)))
          have HC1 : Hid (cm1 (nth xs i) (nth ys i) = 0) := Lib.hid (by rw [he]; unfold cm1; simp)
          clear he
          generalize nth xs i = x at *
          generalize nth ys i = y at *
          go_wp2_with fail
          refine (cm1_any _ _ _).mono ?_
          rintro _ _ ⟨rfl, rfl⟩
          rw [HC1.out]
          go_wp2_with fail
          exact ⟨⟨i + 1, by omega, by go_num, HX, trivial⟩, by simp [intOf]; omega⟩
        · have HX := Lib.hid (HRG.out.trans ((HG.out i).trans (HN.out i hil hjl he)))
          have hC1 : ¬ cm1 (nth xs i) (nth ys i) = 0 := by unfold cm1; split <;> (try split) <;> omega
          clear he
          generalize nth xs i = x at *
          generalize nth ys i = y at *
          go_wp2_with fail
          refine (cm1_any _ _ _).mono ?_
          rintro _ _ ⟨rfl, rfl⟩
          generalize cm1 x y = z at *
          go_wp2_with fail
          go_ret
          exact ⟨by rw [HX.out]; rfl, rfl⟩
      · have hjx : ¬ (i : Int) < ys.length := by omega
        have hjx2 : (ys.length : Int) ≤ i := by omega
        have HX := Lib.hid (HRG.out.trans ((HG.out i).trans (HL.out i hil hjl)))
        go_wp2_with fail
        go_ret
        exact ⟨by rw [HX.out]; rfl, rfl⟩
    · obtain rfl : i = xs.length := by omega
      by_cases hlt : xs.length < ys.length
      · have hltx : (xs.length : Int) < ys.length := by omega
        have HX := Lib.hid (HRG.out.trans ((HG.out _).trans (HR.out hlt)))
        go_wp2_with fail
        go_wp2
        go_ret
        exact ⟨by rw [HX.out]; rfl, rfl⟩
      · have hltx : ¬ (xs.length : Int) < ys.length := by omega
        have HX := Lib.hid (HRG.out.trans ((HG.out _).trans (HZ.out hlt)))
        go_wp2_with fail
        go_wp2
        go_ret
        exact ⟨by rw [HX.out]; rfl, rfl⟩
end Go.Proofs.Ytflllkamdihfaaa
