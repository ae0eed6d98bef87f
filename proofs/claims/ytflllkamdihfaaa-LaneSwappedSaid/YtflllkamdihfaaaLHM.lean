/- two rows sorted, one after the other -/
import Derived.Test.YtflllkamdihfaaaLHE
import Derived.Test.YtflllkamdihfaaaLGS
import Derived.Test.YtflllkamdihfaaaLDH
import Derived.Test.YtflllkamdihfaaaLHJ
namespace Go.Proofs.Ytflllkamdihfaaa
open Go.RowKit Go.Sort
theorem own_same {w w' : World} {B : Nat} {v : Value} {L : List Int} (h : Owns w B v L) (hk : ∀ k, v.ownBlock = some k → w'.heap[k]? = w.heap[k]?) : Owns w' B v L := by
  refine ⟨h.1, ?_⟩
  rcases h.2 with hn | ⟨g, cap, cur, rfl, h1, hg, rest⟩
  · exact .inl hn
  · exact .inr ⟨g, cap, cur, rfl, h1, by rw [hk g rfl]; exact hg, rest⟩
/-- two rows of one's own are put in order, the first. -/
theorem sort_first {w : World} {B1 B2 n : Nat} {a : Option Addr} {cap : Nat} {L L2 : List Int} {v2 : Value} (h : Owns w B1 (.slice a n cap) L) (hn : n = L.length) (hl : L.length ≤ 1000) (h2 : Owns w B2 v2 L2) (hap : ∀ g, (Value.slice a n cap).ownBlock = some g → g < B2) :
    Calls Try.prog 56 #[.slice a n cap] w fun e w' => e = .returned (.tuple #[]) ∧ IntsAt w' a (srtI L) ∧ Owns w' B2 v2 L2 ∧ RowKit.Below B1 w w' := by
  refine (sort_own h hn hl).mono ?_
  rintro _ w' ⟨rfl, h3, h4, h5⟩
  refine ⟨rfl, h3, own_same h2 (fun k hk => h5 k (World.ownsRow.lt h2 k hk).2 fun e => ?_), h4⟩
  have := hap k e
  have := (World.ownsRow.lt h2 k hk).1
  omega
theorem sort_second {w : World} {B2 n : Nat} {a a1 : Option Addr} {cap : Nat} {L Z : List Int} (h : Owns w B2 (.slice a n cap) L) (hn : n = L.length) (hl : L.length ≤ 1000) (h2 : IntsAt w a1 Z) (hap : ∀ g, a1 = some g → g.block < B2) :
    Calls Try.prog 56 #[.slice a n cap] w fun e w' => e = .returned (.tuple #[]) ∧ IntsAt w' a (srtI L) ∧ IntsAt w' a1 Z ∧ RowKit.Below B2 w w' := by
  refine (sort_own h hn hl).mono ?_
  rintro _ w' ⟨rfl, h3, h4, _⟩
  refine ⟨rfl, h3, fun j hj => ?_, h4⟩
  obtain ⟨b, off, rfl, h6, h7⟩ := h2 j hj
  exact ⟨b, off, rfl, Nat.lt_of_lt_of_le h6 h4.size, (RowKit.Below.cell h4 (p := ⟨b, off + j, none⟩) (show b < B2 from hap ⟨b, off, none⟩ rfl)).trans h7⟩
theorem flat_short {F : List (List Int)} (h3 : F.length ≤ 3) (h : ∀ k, k < F.length → (lth F k).length ≤ 16) : F.flatten.length ≤ 1000 := by
  have := flat_le48 h F.length (Nat.le_refl _)
  rw [List.take_length] at this
  omega
theorem chN_le (F G : List (List Int)) : ∀ k, chN F G k ≤ k
  | 0 => Nat.le_refl _
  | k + 1 => by
    have := chN_le F G k
    rw [chN]
    split <;> omega
end Go.Proofs.Ytflllkamdihfaaa
