/- Tops -/
import Derived.Test.YtjapconhehdcjaaST
import Derived.Deep.DeepCutAuto
import Derived.Deep.AppendLies
namespace Go.Proofs.Ytjapconhehdcjaa
open Go.RowKit Go.Sort
theorem bst_ne {G : Nat → Int} {a : Nat} : ∀ i, 0 < i → (bst G a i).2 ≠ []
  | i + 1, _ => by
    rw [bst]
    split
    · simp
    · rename_i h
      split
      · simp
      · exact fun e => h (.inl e)
theorem F0_ne (zs : List Int) (a b : Nat) (h : a < b) : F0 zs a b ≠ [] := bst_ne _ (by show 0 < b - a; omega)
/-- the tops' error and the smallest and the greatest top. -/
def topsC (zs : List Int) : Int := if chkL zs = 0 then (if zs.length = 1 then 2 else 0) else chkL zs
def topsE (zs : List Int) : Int × Int := if topsC zs = 0 then (nth (F0 zs 0 (zs.length - 1)) 0, nth (F0 zs 0 (zs.length - 1)) ((F0 zs 0 (zs.length - 1)).length - 1)) else (0, 0)
set_option maxRecDepth 100000 in
theorem tops_any (a : Option Addr) (cap : Nat) (zs : List Int) (w : World) (hA : IntsAt w a zs) (hlc : zs.length ≤ cap) (hl : zs.length ≤ 1000) :
    Calls Try.prog 27 #[.slice a zs.length cap] w fun e w' => e = .returned (.tuple #[.int .i64 (topsE zs).1, .int .i64 (topsE zs).2, .int .i64 (topsC zs)]) ∧ Fut w w' := by
  have HCK := Lib.hid (check_any a cap zs w hA hl)
  have HBC := Lib.hid (best_call a cap zs w hA hlc)
  have HCC : Hid (topsC zs = if chkL zs = 0 then (if zs.length = 1 then 2 else 0) else chkL zs) := Lib.hid rfl
  have HLE : Hid (topsE zs = if topsC zs = 0 then (nth (F0 zs 0 (zs.length - 1)) 0, nth (F0 zs 0 (zs.length - 1)) ((F0 zs 0 (zs.length - 1)).length - 1)) else (0, 0)) := Lib.hid rfl
  have HZ := Lib.hid (chkL_zero (zs := zs))
  generalize chkL zs = E at *
  have hlx : (zs.length : Int) ≤ 1000 := by omega
  clear hA
  go_enter Try.func27, Try.ntmps27
  go_wp2_with fail
  refine HCK.out.mono ?_
  rintro _ _ ⟨rfl, rfl⟩
  by_cases hE : E = 0
  · have HB2 := Lib.hid (HBC.out hE)
    have hz := HZ.out hE
    by_cases h1 : zs.length = 1
    · have HC2 : Hid (topsC zs = 2) := Lib.hid (by rw [HCC.out, if_pos hE, if_pos h1])
      have HL2 : Hid (topsE zs = (0, 0)) := Lib.hid (by rw [HLE.out, if_neg (by rw [HC2.out]; decide)])
      have h1x : (zs.length : Int) = 1 := by omega
      subst hE
      go_wp2_with fail
      go_ret3
      exact ⟨by rw [HL2.out, HC2.out]; rfl, Fut.rfl⟩
    have h1x : ¬ (zs.length : Int) = 1 := by omega
    have HC2 : Hid (topsC zs = 0) := Lib.hid (by rw [HCC.out, if_pos hE, if_neg h1])
    obtain ⟨L, hL⟩ : ∃ L, L = F0 zs 0 (zs.length - 1) := ⟨_, rfl⟩
    have HL2 : Hid (topsE zs = (nth L 0, nth L (L.length - 1))) := Lib.hid (by rw [HLE.out, if_pos HC2.out, hL])
    subst hE
    obtain ⟨n1, hn1⟩ : ∃ n1, n1 = zs.length - 1 := ⟨_, rfl⟩
    have HAL : Hid (∀ W, Calls Try.prog 65 #[.int .i64 (zs.length : Nat)] W fun e w' => e = .returned (spV 0 (n1 : Nat)) ∧ Fut W w') := Lib.hid (fun W => by
      have h := allOf_any zs.length (by omega) W
      rw [show ((zs.length : Nat) : Int) - 1 = ((n1 : Nat) : Int) by omega] at h
      exact h)
    have HN := Lib.hid (And.intro hz.1 (And.intro hz.2.1 (And.intro hn1 hL)))
    have hLp : 0 < L.length ∧ L.length ≤ 8 := by
      have e1 := F0_len zs 0 (zs.length - 1)
      have e2 := F0_ne zs 0 (zs.length - 1) (by omega)
      rw [← hL] at e1 e2
      have := List.length_pos_iff.2 e2
      omega
    clear hz hn1 HCK HBC HLE HZ HCC hL h1
    go_wp2_with fail
    refine HB2.out.mono ?_
    rintro _ w1 ⟨F, mn, f, rfl, F1, hT, hM, hBd, hD⟩
    obtain ⟨la, lc, e1, e2, e3⟩ := hT 0 n1 (by omega) (by have := HN.out; omega)
    have hFL : F 0 n1 = L := by
      obtain ⟨k1, k2, k3, k4⟩ := HN.out
      rw [k4, ← k3]
      exact done_F k2 hD 0 n1 (by omega) (by omega)
    rw [hFL] at e1 e3
    have HOL : Hid (∀ W, Fut w1 W → Calls Try.prog 69 #[.pointer (some ⟨w.heap.size + 1, 0, none⟩), spV 0 (n1 : Nat)] W fun e w' => e = .returned (.slice la L.length lc) ∧ Fut W w') := Lib.hid (fun W k => ofL_any (w.heap.size + 1) 0 0 n1 (by omega) (by have := HN.out; omega) la L.length lc W ((RowKit.Below.cell k (p := ⟨w.heap.size + 1, 0 + 0 * 8 + n1, none⟩) (World.block_lt_of_cell? _ _ e1)).trans e1))
    obtain ⟨la2, lc2, e4, hI⟩ := e3.ints
    obtain ⟨rfl, _, rfl⟩ : la = la2 ∧ L.length = L.length ∧ lc = lc2 := by simpa using e4
    have HI := Lib.hid hI
    clear hT hM hBd hD e1 e2 e3 e4 hI hFL
    go_upto_region 7 with fail
    have HA2 := Lib.hid (fun p : After w1 => HAL.out p.w')
    have HB3 := Lib.hid (fun p : After w1 => HOL.out p.w' p.F)
    have HF1 := Lib.hid F1
    clear F1
    refine region_fut (by kernel_rfl) (by kernel_rfl) ?_
    repeat (go_big_quiet_step (first | with_reducible rfl | (with_reducible (go_at_call 65; rename_i p; exact after_of (HA2.out p))) | (with_reducible (go_at_call 69; rename_i p; exact after_of (HB3.out p)))))
    refine wpQuiet_nil ?_
    intro w4 hw'
    have F4 := after_fut hw'
    have HF4 := Lib.hid F4
    obtain ⟨b, o, rfl, hb, p0⟩ := (HI.out.fut F4) 0 hLp.1
    obtain ⟨b', o', e5, _, p1⟩ := (HI.out.fut F4) (L.length - 1) (by omega)
    obtain ⟨rfl, rfl⟩ : b = b' ∧ o = o' := by simpa using e5
    rw [Nat.add_zero] at p0
    clear hw' F4 HA2 HB3 e5 HAL HOL HN
    go_upto_region 8 with fail
    obtain ⟨j, hj⟩ : ∃ j, j = L.length - 1 := ⟨_, rfl⟩
    rw [← hj] at p1 HL2
    have hw1 : IntKind.i64.wrap ((L.length : Int) - 1) = ((j : Nat) : Int) := by rw [IntWalk.i64_in _ ⟨by omega, by omega⟩]; omega
    have hjl : j < L.length := by omega
    have hjx : (j : Int) < L.length := by omega
    have h0x : (0 : Int) < L.length := by omega
    generalize nth L 0 = x at *
    generalize nth L j = y at *
    have y0 := cell_after p0
    have y1 := cell_after p1
    clear hj
    refine region_fut (by kernel_rfl) (by kernel_rfl) ?_
    repeat (go_big_quiet_step (first | with_reducible rfl))
    refine wpQuiet_nil ?_
    intro w5 hw'
    have HF5 := Lib.hid (after_fut hw')
    clear hw' y0 y1 p0 p1
    go_wp2_with fail
    go_ret3
    exact ⟨by rw [HL2.out, HC2.out]; rfl, HF1.out.trans (HF4.out.trans HF5.out)⟩
  · have HC2 : Hid (topsC zs = E) := Lib.hid (by rw [HCC.out, if_neg hE])
    have HL2 : Hid (topsE zs = (0, 0)) := Lib.hid (by rw [HLE.out, if_neg (by rw [HC2.out]; exact hE)])
    go_wp2_with fail
    go_ret3
    exact ⟨by rw [HL2.out, HC2.out]; rfl, Fut.rfl⟩
end Go.Proofs.Ytjapconhehdcjaa
