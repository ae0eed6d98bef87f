/- TopTolls, for bytes. -/
import Derived.Test.YtimddkofcejijaaWD
namespace Go.Proofs.Ytimddkofcejijaa
open Go.RowKit Go.Sort
theorem tolls_int (c q : Int) (f g : Nat → Int) (w : World) (hc : 0 ≤ c ∧ c ≤ 255) (hq : 0 ≤ q ∧ q ≤ 255) (hf : ∀ i, 0 ≤ f i ∧ f i ≤ 255) (hg : ∀ i, 0 ≤ g i ∧ g i ≤ 255) :
    Calls Try.prog 11 #[.int .u8 c, .int .u8 q, .agg (fC f), .agg (gC g)] w fun e w' => e = .returned (.bool true) ∧ Fut w w' := by
  obtain ⟨c0, rfl⟩ := Int.eq_ofNat_of_zero_le hc.1
  obtain ⟨q1, rfl⟩ := Int.eq_ofNat_of_zero_le hq.1
  exact tolls_any c0 q1 f g w (by omega) (by omega) hf hg
end Go.Proofs.Ytimddkofcejijaa
