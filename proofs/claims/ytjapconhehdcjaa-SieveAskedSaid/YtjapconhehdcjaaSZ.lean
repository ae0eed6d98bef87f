/- Depths, Asked -/
import Derived.Test.YtjapconhehdcjaaSY
import Derived.Deep.DeepCutAuto
import Derived.Deep.AppendLies
namespace Go.Proofs.Ytjapconhehdcjaa
open Go.RowKit Go.Sort
theorem valid_kinds {n : Int} {zs : List Int} (h : validE n zs = 0) : 1 ≤ n ∧ n ≤ 8 := by
  unfold validE at h
  by_cases hn : 1 ≤ n ∧ n ≤ 8
  · exact hn
  · rw [if_neg hn] at h; omega
def depthsE (n : Int) (zs : List Int) : List Int := if validE n zs = 0 then depE n.toNat zs else []
set_option maxRecDepth 100000 in
theorem depths37_any (n : Int) (a : Option Addr) (cap : Nat) (zs : List Int) (w : World) (hA : IntsAt w a zs) (hlc : zs.length ≤ cap) (hl : zs.length ≤ 1000) :
    Calls Try.prog 37 #[.int .i64 n, .slice a zs.length cap] w fun e w' => TupL (validE n zs) (depthsE n zs) w e w' := by
  have HVA := Lib.hid (valid_any n a cap zs w hA hlc hl)
  have HLE : Hid (depthsE n zs = if validE n zs = 0 then depE n.toNat zs else []) := Lib.hid rfl
  have HK := Lib.hid (valid_kinds (n := n) (zs := zs))
  have HDA : Hid (1 ≤ n ∧ n ≤ 8 → ∀ W, Fut w W → Calls Try.prog 77 #[.int .i64 n, .slice a zs.length cap] W fun e w' => ∃ v, e = .returned v ∧ Owns w' W.heap.size v (depE n.toNat zs) ∧ Fut W w') := Lib.hid (fun hn W k => by
    obtain ⟨m, rfl⟩ : ∃ m : Nat, n = m := ⟨n.toNat, by omega⟩
    rw [Int.toNat_natCast]
    exact depths_any m (by omega) (by omega) a cap zs W (hA.fut k) hl)
  generalize validE n zs = E at *
  generalize depE n.toNat zs = D at *
  have hlx : (zs.length : Int) ≤ 1000 := by omega
  clear hA
  go_enter Try.func37, Try.ntmps37
  go_wp2_with fail
  refine HVA.out.mono ?_
  rintro _ w1 ⟨rfl, F1⟩
  by_cases hE : E = 0
  · have HD2 := Lib.hid (HDA.out (HK.out hE))
    have HL2 : Hid (depthsE n zs = D) := Lib.hid (by rw [HLE.out, if_pos hE])
    subst hE
    go_wp2_with fail
    refine (HD2.out _ F1).mono ?_
    rintro _ w2 ⟨v, rfl, hO, F2⟩
    obtain ⟨l, c, rfl, hI⟩ := hO.ints
    go_wp2_with fail
    go_ret2
    rw [HL2.out]
    exact ⟨l, c, rfl, hI, F1.trans F2⟩
  · have HL2 : Hid (depthsE n zs = []) := Lib.hid (by rw [HLE.out, if_neg hE])
    go_wp2_with fail
    go_ret2
    rw [HL2.out]
    exact ⟨none, 0, rfl, nil_ints _ _, F1⟩
def askedC (n : Int) (zs : List Int) (k : Int) : Int := if validE n zs = 0 then (if inB n k = true then 0 else 2) else validE n zs
def askedE (n : Int) (zs : List Int) (k : Int) : List Int := if askedC n zs k = 0 then askI k 0 (n - 1) zs else []
set_option maxRecDepth 100000 in
theorem asked39_any (n : Int) (a : Option Addr) (cap : Nat) (zs : List Int) (k : Int) (w : World) (hA : IntsAt w a zs) (hlc : zs.length ≤ cap) (hl : zs.length ≤ 1000) :
    Calls Try.prog 39 #[.int .i64 n, .slice a zs.length cap, .int .i64 k] w fun e w' => TupL (askedC n zs k) (askedE n zs k) w e w' := by
  have HVA := Lib.hid (valid_any n a cap zs w hA hlc hl)
  have HCC : Hid (askedC n zs k = if validE n zs = 0 then (if inB n k = true then 0 else 2) else validE n zs) := Lib.hid rfl
  have HLE : Hid (askedE n zs k = if askedC n zs k = 0 then askI k 0 (n - 1) zs else []) := Lib.hid rfl
  have HK := Lib.hid (valid_kinds (n := n) (zs := zs))
  have HDA : Hid (1 ≤ n ∧ n ≤ 8 → ∀ W, Fut w W → Calls Try.prog 79 #[.int .i64 n, .slice a zs.length cap, .int .i64 k] W fun e w' => ∃ v, e = .returned v ∧ Owns w' W.heap.size v (askI k 0 (n - 1) zs) ∧ Fut W w') := Lib.hid (fun hn W q => by
    obtain ⟨m, rfl⟩ : ∃ m : Nat, n = m := ⟨n.toNat, by omega⟩
    exact asked_any m (by omega) (by omega) a cap zs k W (hA.fut q) hl)
  have HIX := Lib.hid (fun W => isIndex_any k n W)
  generalize validE n zs = E at *
  generalize askI k 0 (n - 1) zs = D at *
  generalize inB n k = B at *
  have hlx : (zs.length : Int) ≤ 1000 := by omega
  clear hA
  go_enter Try.func39, Try.ntmps39
  go_wp2_with fail
  refine HVA.out.mono ?_
  rintro _ w1 ⟨rfl, F1⟩
  by_cases hE : E = 0
  · have HD2 := Lib.hid (HDA.out (HK.out hE))
    subst hE
    go_wp2_with fail
    refine (HIX.out _).mono ?_
    rintro _ _ ⟨rfl, rfl⟩
    cases B with
    | true =>
      have HC2 : Hid (askedC n zs k = 0) := Lib.hid (by rw [HCC.out]; rfl)
      have HL2 : Hid (askedE n zs k = D) := Lib.hid (by rw [HLE.out, if_pos HC2.out])
      go_wp2_with fail
      refine (HD2.out _ F1).mono ?_
      rintro _ w2 ⟨v, rfl, hO, F2⟩
      obtain ⟨l, c, rfl, hI⟩ := hO.ints
      go_wp2_with fail
      go_ret2
      rw [HC2.out, HL2.out]
      exact ⟨l, c, rfl, hI, F1.trans F2⟩
    | false =>
      have HC2 : Hid (askedC n zs k = 2) := Lib.hid (by rw [HCC.out]; rfl)
      have HL2 : Hid (askedE n zs k = []) := Lib.hid (by rw [HLE.out, if_neg (by rw [HC2.out]; decide)])
      go_wp2_with fail
      go_ret2
      rw [HC2.out, HL2.out]
      exact ⟨none, 0, rfl, nil_ints _ _, F1⟩
  · have HC2 : Hid (askedC n zs k = E) := Lib.hid (by rw [HCC.out, if_neg hE])
    have HL2 : Hid (askedE n zs k = []) := Lib.hid (by rw [HLE.out, if_neg (by rw [HC2.out]; exact hE)])
    go_wp2_with fail
    go_ret2
    rw [HC2.out, HL2.out]
    exact ⟨none, 0, rfl, nil_ints _ _, F1⟩
end Go.Proofs.Ytjapconhehdcjaa
