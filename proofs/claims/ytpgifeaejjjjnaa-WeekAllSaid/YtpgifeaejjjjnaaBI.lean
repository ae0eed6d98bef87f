/- Layer 3: fits. -/
import Derived.Test.YtpgifeaejjjjnaaBH
namespace Go.Proofs.Ytpgifeaejjjjnaa
open Go.RowKit Go.Sort
/-- is a street neither in a row nor on a day? -/
def fitB (n : Nat) (f : Nat → Nat → Int) (k d : Nat) (s : Int) : Bool := decide (∀ i, i < n → f k i ≠ s ∧ f i d ≠ s)
theorem fits_any {w : World} {B g n : Nat} {bl : Nat → Nat} {f : Nat → Nat → Int} (h : Grid w B g n n bl n f) (hn : n ≤ 1000) (k d : Nat) (hk : k < n) (hd : d < n) (s : Int) :
    Calls Try.prog 137 #[.slice (some ⟨g, 0, none⟩) n n, .int .i64 k, .int .i64 d, .int .i64 s] w fun e w' => e = .returned (.bool (fitB n f k d s)) ∧ w = w' := by
  have H := Lib.hid h
  have hkx : (k : Int) < n := by omega
  have hdx : (d : Int) < n := by omega
  have hnx : (n : Int) ≤ 1000 := by omega
  clear h
  generalize hE : fitB n f k d s = E at *
  have HE := Lib.hid hE
  clear hE
  go_enter Try.func137, Try.ntmps137
  go_wp2_with fail
  go_loopw [12] (fun iv wr => ∃ i : Nat, i ≤ n ∧ iv = .int .i64 i ∧ Hid (∀ j, j < i → f k j ≠ s ∧ f j d ≠ s) ∧ wr = w) (fun iv _ => n - (intOf iv).toNat)
  case atStart => exact ⟨0, Nat.zero_le _, rfl, Lib.hid (fun j hj => absurd hj (Nat.not_lt_zero j)), rfl⟩
  case round =>
    obtain ⟨i, hi, rfl, HQ, rfl⟩ := hrel
    by_cases hlt : i < n
    · have hix : (i : Int) < n := by omega
      have c1 := H.out.cell hk hk
      have c2 := H.out.at hk hlt
      have c3 := H.out.cell hlt hlt
      have c4 := H.out.at hlt hd
      by_cases h1 : f k i = s
      · have hE : E = false := by rw [← HE.out]; unfold fitB; rw [decide_eq_false_iff_not]; exact fun q => (q i hlt).1 h1
        subst hE
        generalize f i d = y at *
        generalize f k i = x at *
        subst h1
        go_wp2
        go_ret
        exact ⟨rfl, rfl⟩
      · by_cases h2 : f i d = s
        · have hE : E = false := by rw [← HE.out]; unfold fitB; rw [decide_eq_false_iff_not]; exact fun q => (q i hlt).2 h2
          subst hE
          generalize f i d = y at *
          generalize f k i = x at *
          subst h2
          go_wp2
          go_ret
          exact ⟨rfl, rfl⟩
        · have HQ2 : Hid (∀ j, j < i + 1 → f k j ≠ s ∧ f j d ≠ s) := Lib.hid (fun j hj => by
            rcases Nat.lt_or_ge j i with q | q
            · exact HQ.out j q
            · obtain rfl : j = i := by omega
              exact ⟨h1, h2⟩)
          generalize f i d = y at *
          generalize f k i = x at *
          have q1 : (x == s) = false := by rw [beq_eq_false_iff_ne]; exact h1
          have q2 : (y == s) = false := by rw [beq_eq_false_iff_ne]; exact h2
          go_wp2
          go_round
          case rel => exact ⟨i + 1, by omega, by go_num, HQ2, trivial⟩
          case measure => simp [intOf]; omega
    · obtain rfl : i = n := by omega
      have hE : E = true := by rw [← HE.out]; unfold fitB; rw [decide_eq_true_eq]; exact HQ.out
      subst hE
      go_wp2
      go_ret
      exact ⟨rfl, rfl⟩
end Go.Proofs.Ytpgifeaejjjjnaa
