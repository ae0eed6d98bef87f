/- depths -/
import Derived.Test.YtjapconhehdcjaaSV
import Derived.Deep.DeepCutAuto
import Derived.Deep.AppendLies
namespace Go.Proofs.Ytjapconhehdcjaa
open Go.RowKit Go.Sort
def dep1 (n : Nat) (zs : List Int) (j : Nat) : Int := ((askI (j : Int) 0 ((n : Int) - 1) zs).length : Nat)
def dpL (n : Nat) (zs : List Int) (i : Nat) : List Int := (List.range n).map fun j => if j < i then dep1 n zs j else 0
def depE (n : Nat) (zs : List Int) : List Int := (List.range n).map (dep1 n zs)
theorem dpL_len (n : Nat) (zs : List Int) (i : Nat) : (dpL n zs i).length = n := by unfold dpL; simp
theorem dpL_zero (n : Nat) (zs : List Int) : oftL n [] = dpL n zs 0 := by
  unfold oftL dpL
  refine List.map_congr_left fun j _ => ?_
  simp
theorem dpL_end (n : Nat) (zs : List Int) : dpL n zs n = depE n zs := by
  unfold dpL depE
  refine List.map_congr_left fun j hj => ?_
  rw [if_pos (List.mem_range.1 hj)]
theorem dpL_set (n : Nat) (zs : List Int) (i : Nat) (_hi : i < n) : (dpL n zs i).set i (dep1 n zs i) = dpL n zs (i + 1) := by
  refine List.ext_getElem (by simp [dpL]) fun j h1 h2 => ?_
  rw [List.getElem_set]
  by_cases e : i = j
  · subst e
    rw [if_pos rfl]; simp [dpL]
  · rw [if_neg e]
    simp only [dpL, List.getElem_map, List.getElem_range]
    by_cases e2 : j < i
    · rw [if_pos e2, if_pos (by omega)]
    · rw [if_neg e2, if_neg (by omega)]
theorem askI_len (k : Int) : ∀ (zs : List Int) (x y : Int), (askI k x y zs).length ≤ zs.length
  | [], _, _ => by simp [askI]
  | s :: zs, x, y => by
    rw [askI]
    split
    · split
      · have := askI_len k zs x s; simp; omega
      · have := askI_len k zs (s + 1) y; simp; omega
    · have := askI_len k zs x y; simp; omega
set_option maxRecDepth 100000 in
set_option maxHeartbeats 4000000 in
theorem depths_any (n : Nat) (hn1 : 1 ≤ n) (hn : n ≤ 8) (a : Option Addr) (cap : Nat) (zs : List Int) (w : World) (hA : IntsAt w a zs) (hl : zs.length ≤ 1000) :
    Calls Try.prog 77 #[.int .i64 (n : Nat), .slice a zs.length cap] w fun e w' => ∃ v, e = .returned v ∧ Owns w' w.heap.size v (depE n zs) ∧ Fut w w' := by
  have HAS := Lib.hid (fun (j : Nat) W (h : Fut w W) => asked_any n hn1 hn a cap zs (j : Nat) W (hA.fut h) hl)
  have hmk := mk_row n (by omega) w
  obtain ⟨g, hg⟩ : ∃ g, g = w.heap.size := ⟨_, rfl⟩
  obtain ⟨w1, hw1⟩ : ∃ w1, w1 = w.alloc (.cells (madeCells #[.int .i64 0] n) 3) := ⟨_, rfl⟩
  have HO1 : Hid (Owns w1 g (.slice (some ⟨g, 0, none⟩) n n) (dpL n zs 0)) := Lib.hid (by rw [hw1, hg, ← dpL_zero]; exact made_own w n (by omega))
  have HF1 : Hid (Fut w w1) := Lib.hid (by rw [hw1]; exact Fut.alloc _ _)
  rw [← hg, ← hw1] at hmk
  have HG := Lib.hid hg
  have HSE := Lib.hid (fun i hi => dpL_set n zs i hi)
  have hnx : (n : Int) ≤ 8 := by omega
  have HD1 : Hid (∀ j : Nat, ((askI (j : Int) 0 ((n : Int) - 1) zs).length : Int) = dep1 n zs j) := Lib.hid (fun _ => rfl)
  clear hg hw1 hA
  go_enter Try.func77, Try.ntmps77
  go_wp2_with fail
  clear hmk
  go_loopw [11] (fun iv wr => ∃ (i : Nat), i ≤ n ∧ iv = .int .i64 (i : Nat) ∧ Hid (Owns wr g (.slice (some ⟨g, 0, none⟩) n n) (dpL n zs i)) ∧ Hid (Fut w wr)) (fun iv _ => n - (intOf iv).toNat)
  case atStart => exact ⟨0, by omega, rfl, HO1, HF1⟩
  case round =>
    obtain ⟨i, hi, rfl, HO, HF⟩ := hrel
    by_cases hin : i < n
    · have hix : (i : Int) < n := by omega
      have hwi : IntKind.i64.wrap ((i : Int) + 1) = ((i + 1 : Nat) : Int) := by rw [IntWalk.i64_in _ ⟨by omega, by omega⟩]; omega
      go_wp2_with fail
      refine (HAS.out i _ HF.out).mono ?_
      rintro _ w2 ⟨v, rfl, hO, F2⟩
      obtain ⟨l, lc, rfl, _⟩ := hO.ints
      have hO2 := HO.out.fut F2
      obtain ⟨c1, c2, _⟩ := own_at hO2 (dpL_len n zs i) i hin
      have HS := Lib.hid (own_set hO2 (dpL_len n zs i) i (dep1 n zs i))
      have hd := HD1.out i
      generalize (askI ((i : Nat) : Int) 0 ((n : Int) - 1) zs).length = kk at *
      have HKD := Lib.hid hd
      have HF3 : Hid (Fut w (w2.setCell ⟨g, i, none⟩ (.int .i64 (kk : Nat)))) := Lib.hid (RowKit.Below.setCell (p := ⟨g, i, none⟩) (HF.out.trans F2) (by rw [HG.out]; exact Nat.le_refl _) _)
      have HS2 : Hid (Owns (w2.setCell ⟨g, i, none⟩ (.int .i64 (kk : Nat))) g (.slice (some ⟨g, 0, none⟩) n n) (dpL n zs (i + 1))) := Lib.hid (by rw [HKD.out, ← HSE.out i hin]; exact HS.out)
      clear hO hO2 F2 hd HS
      go_wp2_with fail
      go_roundw
      case rel => first
        | exact ⟨i + 1, by omega, rfl, HS2, HF3⟩
        | ((repeat apply Exists.intro); exact ⟨⟨i + 1, by omega, rfl, HS2, HF3⟩, rfl⟩)
      case measure => simp [intOf]; omega
    · obtain rfl : i = n := by omega
      have HE := Lib.hid (dpL_end i zs)
      go_wp2_with fail
      go_ret
      exact ⟨_, rfl, by rw [← HE.out, ← HG.out]; have h := HO.out; exact h, HF.out⟩
end Go.Proofs.Ytjapconhehdcjaa
