/- Layer 1: lists and equal ones. -/
import Derived.Test.YtdnbdaegahcoeaaR
namespace Go.Proofs.Ytdnbdaegahcoeaa
open Go.RowKit Go.Sort
theorem list_id (v : Value) (w : World) : Calls Try.prog 49 #[v] w fun e w' => e = .returned v ∧ w = w' := by
  go_enter Try.func49, Try.ntmps49
  go_wp2
  go_ret
  exact ⟨rfl, rfl⟩
theorem C_any (w : World) : Calls Try.prog 53 #[] w fun e w' => e = .returned (.slice (some ⟨w.heap.size, 0, none⟩) 3 3) ∧ w' = w.alloc (.cells #[.int .i64 100, .int .i64 200, .int .i64 300] 3) := by
  go_enter Try.func53, Try.ntmps53
  go_wp2_with (go_at_call 49; refine (list_id _ _).mono ?_; rintro e w' ⟨rfl, rfl⟩)
  go_ret
  exact ⟨rfl, rfl⟩
def sameB (xs ys : List Int) : Bool := decide (xs = ys)
theorem same_any (a c : Option Addr) (cap dap : Nat) (xs ys : List Int) (w : World) (hx : xs.length ≤ 9223372036854775807) (_hy : ys.length ≤ 9223372036854775807) (hA : IntsAt w a xs) (hC : IntsAt w c ys) :
    Calls Try.prog 23 #[.slice a xs.length cap, .slice c ys.length dap] w fun e w' => e = .returned (.bool (sameB xs ys)) ∧ ∃ q, w' = w.drewN q := by
  by_cases hl : xs.length = ys.length
  · have hne : ((xs.length : Int) != ys.length) = false := by simp; omega
    have HS : Hid (∀ b, (xs = ys ↔ b = true) → sameB xs ys = b) := fun b h => by unfold sameB; cases b <;> simp_all
    generalize sameB xs ys = r at HS ⊢
    have HL := Lib.hid hl
    have HA := Lib.hid hA
    have HC := Lib.hid hC
    clear hl hA hC
    go_enter Try.func23, Try.ntmps23
    go_wp2
    go_loopw [5] (fun iv wr => ∃ (k q : Nat), k ≤ xs.length ∧ iv = .int .i64 k ∧ wr = w.drewN q ∧ Hid (∀ j, j < k → nth xs j = nth ys j)) (fun iv _ => xs.length - (intOf iv).toNat)
    case atStart => exact ⟨0, 0, Nat.zero_le _, rfl, rfl, fun j hj => absurd hj (Nat.not_lt_zero _)⟩
    case round =>
      obtain ⟨k, q, hk, rfl, rfl, hal⟩ := hrel
      by_cases hlt : k < xs.length
      · obtain ⟨b, off, rfl, hb, hcell⟩ := HA.out k hlt
        obtain ⟨b', off', rfl, hb', hcell'⟩ := HC.out k (by have := HL.out; omega)
        have hky : (k : Int) < ys.length := by have := HL.out; omega
        have hkx : (k : Int) < xs.length := by omega
        have p1 : (w.drewN q).cell? ⟨b, off + k, none⟩ = some (.int .i64 (nth xs k)) := hcell
        have p2 : (w.drewN q).cell? ⟨b', off' + k, none⟩ = some (.int .i64 (nth ys k)) := hcell'
        clear hcell hcell'
        generalize hw : w.drewN q = wq at p1 p2
        have HW := Lib.hid hw
        clear hw
        by_cases he : nth xs k = nth ys k
        · have hne2 : (nth xs k != nth ys k) = false := by simpa using he
          have HN : Hid (∀ j, j < k + 1 → nth xs j = nth ys j) := fun j hj => by
            by_cases e : j = k
            · subst e; exact he
            · exact hal.out j (by omega)
          clear he
          go_wp2_with fail
          go_quiet (fail)
          go_wp2
          go_roundw
          case rel => exact ⟨k + 1, q + nq, by omega, by go_num, by rw [← HW.out, World.drewN_drewN], HN⟩
          case measure => simp [intOf]; omega
        · have hne2 : (nth xs k != nth ys k) = true := by simpa using he
          have E : Hid (r = false) := HS.out false ⟨fun h => absurd (by rw [h]) he, fun h => by cases h⟩
          clear he
          go_wp2_with fail
          go_quiet (fail)
          go_wp2
          go_ret
          exact ⟨ret_bool E.out.symm, q + nq, by rw [← HW.out, World.drewN_drewN]⟩
      · have E : Hid (r = true) := HS.out true ⟨fun _ => rfl, fun _ => by
          apply List.ext_getElem HL.out
          intro j h1 h2
          have := hal.out j (by omega)
          unfold nth at this
          rw [List.getElem?_eq_getElem h1, List.getElem?_eq_getElem h2] at this
          exact this⟩
        clear hal
        go_wp2
        go_ret
        exact ⟨ret_bool E.out.symm, q, rfl⟩
  · have hne : ((xs.length : Int) != ys.length) = true := by simp; omega
    have e : sameB xs ys = false := by unfold sameB; rw [decide_eq_false_iff_not]; intro h; exact hl (by rw [h])
    rw [e]
    clear hl e hA hC
    go_enter Try.func23, Try.ntmps23
    go_wp2
    go_ret
    exact ⟨rfl, 0, rfl⟩
end Go.Proofs.Ytdnbdaegahcoeaa
