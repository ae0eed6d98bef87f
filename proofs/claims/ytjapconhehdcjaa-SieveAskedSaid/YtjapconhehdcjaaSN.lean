/- lists by number -/
import Derived.Test.YtjapconhehdcjaaSM
import Derived.Deep.DeepCutAuto
import Derived.Deep.AppendLies
namespace Go.Proofs.Ytjapconhehdcjaa
open Go.RowKit Go.Sort
/-- the list of the tree with a number, by the tables. -/
def goI (mn : Nat → Nat → Int) (k : Nat → Nat → Int → List Int) (a b : Nat) : List Int → Int → List Int
  | [], _ => []
  | t :: ts, q => if q < mn a t.toNat * mn (t.toNat + 1) b then t :: (k a t.toNat (q / mn (t.toNat + 1) b) ++ k (t.toNat + 1) b (q % mn (t.toNat + 1) b)) else goI mn k a b ts (q - mn a t.toNat * mn (t.toNat + 1) b)
def lsI (F : Nat → Nat → List Int) (mn : Nat → Nat → Int) : Nat → Nat → Nat → Int → List Int
  | 0, _, _, _ => []
  | d + 1, a, b, q => goI mn (lsI F mn d) a b (F a b) q
theorem goI_len (mn : Nat → Nat → Int) (k : Nat → Nat → Int → List Int) (a b : Nat) (hk : ∀ K : Nat, a ≤ K → K < b → ∀ q, (k a K q).length ≤ K - a ∧ (k (K + 1) b q).length ≤ b - (K + 1)) : ∀ (ts : List Int), (∀ t ∈ ts, (a : Int) ≤ t ∧ t < b) → ∀ q, (goI mn k a b ts q).length ≤ b - a
  | [], _, q => by rw [goI]; simp
  | t :: ts, h, q => by
    rw [goI]
    split
    · obtain ⟨h1, h2⟩ := h t (by simp)
      obtain ⟨K, rfl⟩ : ∃ K : Nat, t = K := ⟨t.toNat, by omega⟩
      rw [Int.toNat_natCast]
      have h3 := hk K (by omega) (by omega)
      have h4 := (h3 (q / mn (K + 1) b)).1
      have h5 := (h3 (q % mn (K + 1) b)).2
      rw [List.length_cons, List.length_append]
      omega
    · exact goI_len mn k a b hk ts (fun t ht => h t (by simp [ht])) _
theorem lsI_len {F : Nat → Nat → List Int} (mn : Nat → Nat → Int) {n : Nat} (hF : ∀ a b, a ≤ b → b < n → ∀ l ∈ F a b, (a : Int) ≤ l ∧ l < b) : ∀ d a b, a ≤ b → b < n → ∀ q, (lsI F mn d a b q).length ≤ b - a
  | 0, a, b, _, _, q => by rw [lsI]; simp
  | d + 1, a, b, hab, hb, q => by
    rw [lsI]
    exact goI_len mn _ a b (fun K h1 h2 q => ⟨lsI_len mn hF d a K h1 (by omega) q, lsI_len mn hF d (K + 1) b (by omega) hb q⟩) _ (hF a b hab hb) q
theorem goI_drop {mn : Nat → Nat → Int} {k : Nat → Nat → Int → List Int} {a b : Nat} {L : List Int} {i : Nat} (hi : i < L.length) {K K1 : Nat} (hK : (K : Int) = nth L i) (hK1 : K1 = K + 1) (q : Int) :
    goI mn k a b (L.drop i) q = if q < mn a K * mn K1 b then (K : Int) :: (k a K (q / mn K1 b) ++ k K1 b (q % mn K1 b)) else goI mn k a b (L.drop (i + 1)) (q - mn a K * mn K1 b) := by
  rw [nth_drop L i hi, goI, ← hK, hK1, Int.toNat_natCast]
theorem three_lists {w : World} {s t : Nat} {x : Int} {l7 l13 : Option Addr} {c7 c13 : Nat} {X Y : List Int} (h0 : w.cell? ⟨t, 0, none⟩ = some (.slice (some ⟨s, 0, none⟩) 1 1)) (h1 : w.cell? ⟨t, 1, none⟩ = some (.slice l7 X.length c7)) (h2 : w.cell? ⟨t, 2, none⟩ = some (.slice l13 Y.length c13)) (hs : w.cell? ⟨s, 0, none⟩ = some (.int .i64 x)) (hX : IntsAt w l7 X) (hY : IntsAt w l13 Y) : LstAt w (some ⟨t, 0, none⟩) [[x], X, Y] := fun j hj => by
  have ht : t < w.heap.size := World.block_lt_of_cell? _ _ h0
  match j, hj with
  | 0, _ => exact ⟨t, 0, _, _, rfl, ht, h0, fun i hi => by
      have : i = 0 := by simp [lth_eq] at hi; omega
      subst this
      exact ⟨s, 0, rfl, World.block_lt_of_cell? _ _ hs, hs⟩⟩
  | 1, _ => exact ⟨t, 0, _, _, rfl, ht, h1, hX⟩
  | 2, _ => exact ⟨t, 0, _, _, rfl, ht, h2, hY⟩
end Go.Proofs.Ytjapconhehdcjaa
