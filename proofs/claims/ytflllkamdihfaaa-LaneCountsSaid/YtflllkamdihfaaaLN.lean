/- slices.Index: index_any; what Order answers -/
import Derived.Test.YtflllkamdihfaaaLM
namespace Go.Proofs.Ytflllkamdihfaaa
open Go.RowKit Go.Sort
/-- the first place of a number in a list, or -1. -/
def idxF (x : Int) : List Int → Nat → Int
  | [], _ => -1
  | y :: t, k => if y = x then (k : Int) else idxF x t (k + 1)
def idxE (l : List Int) (x : Int) : Int := idxF x l 0
theorem idx_in (x : Int) : ∀ (l : List Int) (k : Nat), -1 ≤ idxF x l k ∧ idxF x l k < k + l.length ∧ (idxF x l k = -1 ∨ (k : Int) ≤ idxF x l k)
  | [], k => by unfold idxF; simp; omega
  | y :: t, k => by
    unfold idxF
    split
    · simp; omega
    · have := idx_in x t (k + 1)
      simp only [List.length_cons]
      omega
set_option maxRecDepth 100000 in
set_option maxHeartbeats 1000000 in
theorem index_any (a : Option Addr) (cap : Nat) (zs : List Int) (x : Int) (w : World) (hA : IntsAt w a zs) (hl : zs.length ≤ 1000) :
    Calls Try.prog 86 #[.slice a zs.length cap, .int .i64 x] w fun e w' => e = .returned (.int .i64 (idxE zs x)) ∧ w = w' := by
  have HA := Lib.hid hA
  have hlx : (zs.length : Int) ≤ 1000 := by omega
  have HE : Hid (idxE zs x = idxF x (zs.drop 0) 0) := Lib.hid rfl
  generalize idxE zs x = E at *
  clear hA
  go_enter Try.func86, Try.ntmps86
  go_wp2_with fail
  go_loop [8] (fun iv => ∃ k : Nat, k ≤ zs.length ∧ iv = .int .i64 k ∧ Hid (E = idxF x (zs.drop k) k)) (fun iv => zs.length - (intOf iv).toNat)
  case atStart => exact ⟨0, Nat.zero_le _, rfl, HE⟩
  case round =>
    obtain ⟨k, hk, rfl, HO⟩ := hrel
    by_cases hlt : k < zs.length
    · have hkx : (k : Int) < zs.length := by omega
      obtain ⟨b, off, ea, hb, c1⟩ := HA.out k hlt
      subst ea
      have hoo := HO.out
      rw [nth_drop zs k hlt, idxF] at hoo
      generalize nth zs k = z at *
      clear HA HO
      by_cases hq : x = z
      · have hb2 : (x == z) = true := by rw [hq]; simp
        rw [if_pos hq.symm] at hoo
        have HO := Lib.hid hoo
        subst hq
        clear hb2 hoo
        go_wp2
        go_ret
        exact ⟨ret_int HO.out.symm, rfl⟩
      · have hb2 : (x == z) = false := by rw [beq_eq_false_iff_ne]; exact hq
        rw [if_neg (fun e => hq e.symm)] at hoo
        have HO := Lib.hid hoo
        clear hoo
        go_wp2
        go_round
        case rel => exact ⟨k + 1, by omega, by go_num, HO⟩
        case measure => simp [intOf]; omega
    · obtain rfl : k = zs.length := by omega
      have hoo := HO.out
      rw [List.drop_of_length_le (Nat.le_refl _), idxF] at hoo
      have HO := Lib.hid hoo
      clear hoo
      go_wp2
      go_ret
      exact ⟨ret_int HO.out.symm, rfl⟩
/-- Order, way by way: the error, and the order so far. -/
def orG (c m : Int) (S Y T : List Int) (F : List (List Int)) : Nat → Nat → List Int → Int × List Int
  | 0, _, o => (0, o)
  | f + 1, k, o =>
    if cwE c m S (lth F k) = 0 then
      (if nth (lth F k) 0 = nth Y k ∧ 0 ≤ idxE T (nth (lth F k) ((lth F k).length - 1)) then
        (if o.contains (idxE T (nth (lth F k) ((lth F k).length - 1))) = true then (6, []) else orG c m S Y T F f (k + 1) (o ++ [idxE T (nth (lth F k) ((lth F k).length - 1))]))
      else (12, []))
    else (cwE c m S (lth F k), [])
/-- what Order answers. -/
def ordP (r c : Int) (S Y T : List Int) (F : List (List Int)) : Int × List Int :=
  if chkP r c S Y T = 0 then (if F.length = Y.length then orG c (r * c) S Y T F F.length 0 [] else (5, [])) else (chkP r c S Y T, [])
end Go.Proofs.Ytflllkamdihfaaa
