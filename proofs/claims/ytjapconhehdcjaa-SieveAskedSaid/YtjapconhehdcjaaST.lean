/- Tree -/
import Derived.Test.YtjapconhehdcjaaSS
import Derived.Deep.DeepCutAuto
import Derived.Deep.AppendLies
namespace Go.Proofs.Ytjapconhehdcjaa
open Go.RowKit Go.Sort
def treeE (n q : Int) : List Int := if 1 ≤ n ∧ n ≤ 8 then (if inB (m0 FA 0 (n.toNat - 1)) q = true then lsI FA (m0 FA) 8 0 (n.toNat - 1) q else []) else []
def treeC (n q : Int) : Int := if 1 ≤ n ∧ n ≤ 8 then (if inB (m0 FA 0 (n.toNat - 1)) q = true then 0 else 2) else 1
set_option maxRecDepth 100000 in
theorem tree_any (n q : Int) (w : World) : Calls Try.prog 33 #[.int .i64 n, .int .i64 q] w fun e w' => TupL (treeC n q) (treeE n q) w e w' := by
  have HKI := Lib.hid (kinds_any n w)
  by_cases hn : 1 ≤ n ∧ n ≤ 8
  · have HTE : Hid (treeE n q = if inB (m0 FA 0 (n.toNat - 1)) q = true then lsI FA (m0 FA) 8 0 (n.toNat - 1) q else []) := Lib.hid (by unfold treeE; rw [if_pos hn])
    have HKE : Hid (treeC n q = if inB (m0 FA 0 (n.toNat - 1)) q = true then 0 else 2) := Lib.hid (by unfold treeC; rw [if_pos hn])
    rw [decide_eq_true hn] at HKI
    obtain ⟨m, rfl⟩ : ∃ m : Nat, n = m := ⟨n.toNat, by omega⟩
    rw [Int.toNat_natCast] at HTE HKE
    have hn1 : 1 ≤ m := by omega
    have hn2 : m ≤ 8 := by omega
    clear hn
    obtain ⟨n1, hn11⟩ : ∃ n1, n1 = m - 1 := ⟨_, rfl⟩
    rw [← hn11] at HTE HKE
    have HAL : Hid (∀ W, Calls Try.prog 65 #[.int .i64 (m : Nat)] W fun e w' => e = .returned (spV 0 (n1 : Nat)) ∧ Fut W w') := Lib.hid (fun W => by
      have h := allOf_any m (by omega) W
      rw [show ((m : Nat) : Int) - 1 = ((n1 : Nat) : Int) by omega] at h
      exact h)
    have HEV := Lib.hid (every_any m hn1 hn2 w)
    have hnb : n1 < m := by omega
    clear hn11
    go_enter Try.func33, Try.ntmps33
    go_wp2_with fail
    refine HKI.out.mono ?_
    rintro _ _ ⟨rfl, rfl⟩
    go_wp2_with fail
    refine HEV.out.mono ?_
    rintro _ w1 ⟨rfl, F1, F, mn, hT, hM, hBd, hD⟩
    obtain ⟨V, hV⟩ : ∃ V, V = m0 FA 0 n1 := ⟨_, rfl⟩
    rw [← hV] at HTE HKE
    have HVB : Hid (V ≤ 1000000) := Lib.hid (by rw [hV, ← all_m hn2 hD 9 0 n1 (by omega) (by omega) (by omega)]; exact (hBd.le 0 n1).2)
    have HOV : Hid (∀ W, Fut w1 W → Calls Try.prog 67 #[.pointer (some ⟨w.heap.size, 64, none⟩), spV 0 (n1 : Nat)] W fun e w' => e = .returned (.int .i64 V) ∧ Fut W w') := Lib.hid (fun W k => by
      have hmm : mn 0 n1 = V := by rw [hV]; exact all_m hn2 hD 9 0 n1 (by omega) (by omega) (by omega)
      rw [← hmm]
      exact of_any w.heap.size 64 0 n1 (by omega) (by omega) (mn 0 n1) W (hM.fut k 0 n1 (by omega) (by omega)).1)
    have HLS : Hid (0 ≤ q → q < V → ∀ W, Fut w1 W → Calls Try.prog 64 #[.pointer (some ⟨w.heap.size, 0, none⟩), spV 0 (n1 : Nat), .int .i64 q] W fun e w' => ∃ v, e = .returned v ∧ Owns w' W.heap.size v (lsI FA (m0 FA) 8 0 n1 q) ∧ Fut W w') := Lib.hid (fun hq0 hq1 W k => by
      have hFF := all_F hn2 hD
      have hmm : ∀ a b, a ≤ b → b < m → mn a b = m0 FA a b := fun a b h4 h5 => all_m hn2 hD 9 a b h4 h5 (by omega)
      have := list_any w.heap.size (w.heap.size + 1) m (by omega) hn2 F mn hBd.le (fun a b h4 h5 => by rw [hFF a b h4 h5]; exact FA_in a b h4) (fun a b h4 h5 => by rw [hFF a b h4 h5]; unfold FA; rw [svP_len]; omega) 8 0 n1 (by omega) hnb (by omega) q hq0 (by have := HVB.out; omega) W (hT.fut k) (hM.fut k)
      rw [lsI_congr hFF hmm FA_in 8 0 n1 (by omega) hnb q] at this
      exact this)
    have HIX := Lib.hid (fun W => isIndex_any q V W)
    clear hT hM hBd hD HEV hV
    go_upto_region 4 with fail
    have HA2 := Lib.hid (fun p : After w1 => HAL.out p.w')
    have HB3 := Lib.hid (fun p : After w1 => HOV.out p.w' p.F)
    have HC3 := Lib.hid (fun p : After w1 => HIX.out p.w')
    have HF1 := Lib.hid F1
    clear F1
    refine region_fut (by kernel_rfl) (by kernel_rfl) ?_
    repeat (go_big_quiet_step (first | with_reducible rfl | (with_reducible (go_at_call 65; rename_i p; exact after_of (HA2.out p))) | (with_reducible (go_at_call 67; rename_i p; exact after_of (HB3.out p))) | (with_reducible (go_at_call 74; rename_i p; exact after_same (HC3.out p)))))
    refine wpQuiet_nil ?_
    intro w4 hw'
    have HF4 := Lib.hid (after_fut hw')
    clear hw' HA2 HB3 HC3 HIX HOV
    cases hib : inB V q with
    | true =>
      rw [hib] at HTE HKE
      have hqq : 0 ≤ q ∧ q < V := by unfold inB at hib; simpa using hib
      have HL2 := Lib.hid (HLS.out hqq.1 hqq.2)
      clear HLS hqq
      go_wp2_with fail
      refine (HAL.out _).mono ?_
      rintro _ w5 ⟨rfl, F5⟩
      go_wp2_with fail
      refine (HL2.out _ (HF4.out.trans F5)).mono ?_
      rintro _ w6 ⟨v, rfl, hO, F6⟩
      obtain ⟨l, c, rfl, hI⟩ := hO.ints
      go_wp2_with fail
      go_ret2
      have e1 := HTE.out
      have e2 := HKE.out
      simp only [if_true] at e1 e2
      rw [e1, e2]
      exact ⟨l, c, rfl, hI, (HF1.out.trans (HF4.out.trans F5)).trans F6⟩
    | false =>
      rw [hib] at HTE HKE
      go_wp2_with fail
      go_ret2
      have e1 := HTE.out
      have e2 := HKE.out
      simp only [Bool.false_eq_true, if_false] at e1 e2
      rw [e1, e2]
      exact ⟨none, 0, rfl, nil_ints _ _, HF1.out.trans HF4.out⟩
  · have HTE : Hid (treeE n q = []) := Lib.hid (by unfold treeE; rw [if_neg hn])
    have HKE : Hid (treeC n q = 1) := Lib.hid (by unfold treeC; rw [if_neg hn])
    rw [decide_eq_false hn] at HKI
    rw [HTE.out, HKE.out]
    clear hn
    go_enter Try.func33, Try.ntmps33
    go_wp2_with fail
    refine HKI.out.mono ?_
    rintro _ _ ⟨rfl, rfl⟩
    go_wp2_with fail
    go_ret2
    exact ⟨none, 0, rfl, nil_ints _ _, Fut.rfl⟩
end Go.Proofs.Ytjapconhehdcjaa
