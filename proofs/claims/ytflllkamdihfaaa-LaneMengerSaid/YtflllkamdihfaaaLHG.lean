/- sign 44: sign_any -/
import Derived.Test.YtflllkamdihfaaaLHA
import Derived.Test.YtflllkamdihfaaaLNC
namespace Go.Proofs.Ytflllkamdihfaaa
open Go.RowKit Go.Sort
/-- the sign after n inversions. -/
def sgN (n : Nat) : Int := if n % 2 = 0 then 1 else -1
theorem sgN_le (n : Nat) : -1 ≤ sgN n ∧ sgN n ≤ 1 := by unfold sgN; split <;> omega
theorem sgN_succ (n : Nat) : sgN (n + 1) = - sgN n := by unfold sgN; split <;> split <;> omega
set_option maxRecDepth 100000 in
set_option maxHeartbeats 4000000 in
theorem sign_any (l : Option Addr) (lc : Nat) (L : List Int) (w : World) (hI : IntsAt w l L) (hl : L.length ≤ 1000) :
    Calls Try.prog 44 #[.slice l L.length lc] w fun e w' => e = .returned (.int .i64 (sgnO L)) ∧ ∃ q, w' = w.drewN q := by
  have HI := Lib.hid hI
  have hlx : (L.length : Int) ≤ 1000 := by omega
  obtain ⟨g, hg⟩ : ∃ g : Nat → Nat → Int, g = fun i k => sgN (invN L i + invK L i k) := ⟨_, rfl⟩
  have HG0 : Hid (g 0 0 = 1) := Lib.hid (by rw [hg]; rfl)
  have HGS := Lib.hid (fun i => show g (i + 1) 0 = g i i by rw [hg]; rfl)
  have HGT := Lib.hid (fun i k (h : nth L i < nth L k) => show g i (k + 1) = - g i k by rw [hg]; show sgN (_ + (_ + if _ then _ else _)) = _; rw [if_pos h, ← Nat.add_assoc, sgN_succ])
  have HGF := Lib.hid (fun i k (h : ¬ nth L i < nth L k) => show g i (k + 1) = g i k by rw [hg]; show sgN (_ + (_ + if _ then _ else _)) = _; rw [if_neg h]; rfl)
  have HGB := Lib.hid (fun i k => show -1 ≤ g i k ∧ g i k ≤ 1 by rw [hg]; exact sgN_le _)
  have HGE : Hid (g L.length 0 = sgnO L) := Lib.hid (by rw [hg]; rfl)
  clear hI hg
  go_enter Try.func44, Try.ntmps44
  go_wp2_with fail
  go_loopw [3, 8] (fun ov iv wr => ∃ i q : Nat, i ≤ L.length ∧ iv = .int .i64 i ∧ ov = .int .i64 (g i 0) ∧ wr = w.drewN q) (fun _ iv _ => L.length - (intOf iv).toNat)
  case atStart => exact ⟨0, 0, Nat.zero_le _, rfl, by rw [HG0.out], rfl⟩
  case round =>
    obtain ⟨i, q, hi, rfl, rfl, rfl⟩ := hrel
    by_cases hil : i < L.length
    · have hix : (i : Int) < L.length := by omega
      obtain ⟨ab, ao, e0, _, ci⟩ := HI.out i hil
      subst e0
      go_wp2_with fail
      go_loopw [3, 12] (fun ov kv wr => ∃ k q : Nat, k ≤ i ∧ kv = .int .i64 k ∧ ov = .int .i64 (g i k) ∧ wr = w.drewN q) (fun _ kv _ => i - (intOf kv).toNat)
      case atStart => exact ⟨0, q, Nat.zero_le _, rfl, rfl, rfl⟩
      case round =>
        obtain ⟨k, q2, hk, rfl, rfl, rfl⟩ := hrel
        by_cases hki : k < i
        · have hkx : (k : Int) < i := by omega
          have hkx2 : (k : Int) < L.length := by omega
          obtain ⟨kb, ko, e1, _, ck⟩ := HI.out k (by omega)
          obtain ⟨rfl, rfl⟩ : ab = kb ∧ ao = ko := by injection e1 with e1; injection e1 with e2 e3; exact ⟨e2, e3⟩
          have p1 : (w.drewN q2).cell? ⟨ab, ao + k, none⟩ = some (.int .i64 (nth L k)) := ck
          have p2 : (w.drewN q2).cell? ⟨ab, ao + i, none⟩ = some (.int .i64 (nth L i)) := ci
          clear e1 ck
          generalize hw : w.drewN q2 = wq at p1 p2
          have HW := Lib.hid hw
          clear hw
          have hb := HGB.out i k
          by_cases hlt : nth L i < nth L k
          · have HN := Lib.hid (HGT.out i k (by simpa using hlt))
            go_wp2_with fail
            go_quiet (fail)
            go_wp2
            go_roundw
            case rel => exact ⟨k + 1, q2 + nq, by omega, by go_num, by rw [HN.out], by rw [← HW.out, World.drewN_drewN]⟩
            case measure => simp [intOf]; omega
          · have HN := Lib.hid (HGF.out i k (by simpa using hlt))
            go_wp2_with fail
            go_quiet (fail)
            go_wp2
            go_roundw
            case rel => exact ⟨k + 1, q2 + nq, by omega, by go_num, by rw [HN.out], by rw [← HW.out, World.drewN_drewN]⟩
            case measure => simp [intOf]; omega
        · obtain rfl : k = i := by omega
          have HN := Lib.hid (HGS.out k)
          generalize hw : w.drewN q2 = w2 at *
          have HW := Lib.hid hw
          clear hw
          go_wp2_with fail
          go_wp2
          exact ⟨⟨k + 1, q2, by omega, by go_num, by rw [HN.out], HW.out.symm⟩, by simp [intOf]; omega⟩
    · obtain rfl : i = L.length := by omega
      go_wp2_with fail
      go_wp2
      go_ret
      exact ⟨by rw [← HGE.out]; rfl, q, rfl⟩
end Go.Proofs.Ytflllkamdihfaaa
