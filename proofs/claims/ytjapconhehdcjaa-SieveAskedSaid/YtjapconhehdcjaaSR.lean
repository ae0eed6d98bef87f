/- Count -/
import Derived.Test.YtjapconhehdcjaaSQ
import Derived.Deep.DeepCutAuto
import Derived.Deep.AppendLies
namespace Go.Proofs.Ytjapconhehdcjaa
open Go.RowKit Go.Sort
set_option maxRecDepth 100000 in
theorem count_any (a : Option Addr) (cap : Nat) (zs : List Int) (w : World) (hA : IntsAt w a zs) (hlc : zs.length ≤ cap) (hl : zs.length ≤ 1000) :
    Calls Try.prog 22 #[.slice a zs.length cap] w fun e w' => e = .returned (.tuple #[.int .i64 (countE zs), .int .i64 (chkL zs)]) ∧ Fut w w' := by
  have HCK := Lib.hid (check_any a cap zs w hA hl)
  have HBC := Lib.hid (best_call a cap zs w hA hlc)
  have HLE : Hid (countE zs = if chkL zs = 0 then m0 (F0 zs) 0 (zs.length - 1) else 0) := Lib.hid rfl
  have HZ := Lib.hid (chkL_zero (zs := zs))
  generalize chkL zs = E at *
  have hlx : (zs.length : Int) ≤ 1000 := by omega
  clear hA
  go_enter Try.func22, Try.ntmps22
  go_wp2_with fail
  refine HCK.out.mono ?_
  rintro _ _ ⟨rfl, rfl⟩
  by_cases hE : E = 0
  · have HB2 := Lib.hid (HBC.out hE)
    have hz := HZ.out hE
    have HL2 : Hid (countE zs = m0 (F0 zs) 0 (zs.length - 1)) := Lib.hid (by rw [HLE.out, if_pos hE])
    subst hE
    obtain ⟨n1, hn1⟩ : ∃ n1, n1 = zs.length - 1 := ⟨_, rfl⟩
    have HAL : Hid (∀ W, Calls Try.prog 65 #[.int .i64 (zs.length : Nat)] W fun e w' => e = .returned (spV 0 (n1 : Nat)) ∧ Fut W w') := Lib.hid (fun W => by
      have h := allOf_any zs.length (by omega) W
      rw [show ((zs.length : Nat) : Int) - 1 = ((n1 : Nat) : Int) by omega] at h
      exact h)
    have HN := Lib.hid (And.intro hz.1 (And.intro hz.2.1 hn1))
    clear hz hn1 HCK HBC HLE HZ
    go_wp2_with fail
    refine HB2.out.mono ?_
    rintro _ w1 ⟨F, mn, f, rfl, F1, hT, hM, hBd, hD⟩
    have HLS : Hid (∀ W, Fut w1 W → Calls Try.prog 67 #[.pointer (some ⟨w.heap.size + 1, 64, none⟩), spV 0 (n1 : Nat)] W fun e w' => e = .returned (.int .i64 (countE zs)) ∧ Fut W w') := Lib.hid (fun W k => by
      obtain ⟨h1, h2, h3⟩ := HN.out
      have hmm : mn 0 n1 = m0 (F0 zs) 0 n1 := done_m h2 hD 9 0 n1 (by omega) (by omega) (by omega)
      rw [HL2.out, ← h3, ← hmm]
      exact of_any (w.heap.size + 1) 64 0 n1 (by omega) (by omega) (mn 0 n1) W (hM.fut k 0 n1 (by omega) (by omega)).1)
    clear hT hM hBd hD
    go_upto_region 5 with fail
    have HA2 := Lib.hid (fun p : After w1 => HAL.out p.w')
    have HB3 := Lib.hid (fun p : After w1 => HLS.out p.w' p.F)
    have HF1 := Lib.hid F1
    clear F1
    refine region_fut (by kernel_rfl) (by kernel_rfl) ?_
    repeat (go_big_quiet_step (first | with_reducible rfl | (with_reducible (go_at_call 65; rename_i p; exact after_of (HA2.out p))) | (with_reducible (go_at_call 67; rename_i p; exact after_of (HB3.out p)))))
    refine wpQuiet_nil ?_
    intro w4 hw'
    have F4 := after_fut hw'
    clear hw'
    go_wp2_with fail
    go_ret2
    exact ⟨rfl, HF1.out.trans F4⟩
  · have HL2 : Hid (countE zs = 0) := Lib.hid (by rw [HLE.out, if_neg hE])
    go_wp2_with fail
    go_ret2
    exact ⟨by rw [HL2.out]; rfl, Fut.rfl⟩
end Go.Proofs.Ytjapconhehdcjaa
