/- pure: what Corner answers, by the first number that is there twice or meets another cart (cor_good, cor_bad) -/
import Derived.Test.YtpgifeaejjjjnaaFF
namespace Go.Proofs.Ytpgifeaejjjjnaa
open Go.RowKit Go.Sort
/-- a number of a list that is neither in it before nor in another list on its day. -/
def okB (c : Int) (zss : List (List Int)) (l : List Int) (k : Nat) : Prop := inB c (nth l k) = true ∧ (l.take k).contains (nth l k) = false ∧ tkn zss k (nth l k) = false
theorem am_drop {c : Int} {zss : List (List Int)} {l : List Int} : ∀ k, k ≤ l.length → (∀ j, j < k → okB c zss l j) → amE c zss l = amG c zss l (l.drop k) k
  | 0, _, _ => rfl
  | k + 1, hk, h => by
    rw [am_drop k (by omega) (fun j hj => h j (by omega)), nth_drop l k (by omega), amG]
    obtain ⟨h1, h2, h3⟩ := h k (Nat.lt_succ_self k)
    rw [if_neg (by rw [h1]; decide), if_neg (by rw [h2]; decide), if_neg (by rw [h3]; decide)]
theorem am_bad {c : Int} {zss : List (List Int)} {l : List Int} {k : Nat} (hk : k < l.length) (h : ∀ j, j < k → okB c zss l j) (hi : inB c (nth l k) = true) (hb : (l.take k).contains (nth l k) = true ∨ tkn zss k (nth l k) = true) :
    amE c zss l = if (l.take k).contains (nth l k) = true then 6 else 13 := by
  rw [am_drop k (by omega) h, nth_drop l k hk, amG, if_neg (by rw [hi]; decide)]
  by_cases hc : (l.take k).contains (nth l k) = true
  · rw [if_pos hc, if_pos hc]
  · rw [if_neg hc, if_neg hc, if_pos (hb.resolve_left hc)]
theorem am_good {c : Int} {zss : List (List Int)} {l : List Int} (h : ∀ j, j < l.length → okB c zss l j) : amE c zss l = 0 := by
  rw [am_drop l.length (Nat.le_refl _) h, List.drop_length]; rfl
theorem co_drop {c : Int} {zss : List (List Int)} : ∀ i, i ≤ zss.length → (∀ j, j < i → (lth zss j).length = (lth zss 0).length ∧ ((lth zss j).length : Int) ≤ c ∧ amE c (zss.take j) (lth zss j) = 0) → coG c zss zss 0 = coG c zss (zss.drop i) i
  | 0, _, _ => rfl
  | i + 1, hi, h => by
    rw [co_drop i (by omega) (fun j hj => h j (by omega)), lth_drop zss i (by omega), coG]
    obtain ⟨h1, h2, h3⟩ := h i (Nat.lt_succ_self i)
    rw [if_pos ⟨h1, h2⟩, if_pos h3]
/-- what Corner answers where lists are as long as one another, of streets: the first number that is there twice, or meets another cart. -/
theorem cor_good {n w : Nat} {zss : List (List Int)} (h1 : 1 ≤ n) (h5 : n ≤ 5) (hl : zss.length ≤ n) (hw : w ≤ n) (hlen : ∀ i, i < zss.length → (lth zss i).length = w) (h : ∀ i, i < zss.length → ∀ k, k < w → okB n (zss.take i) (lth zss i) k) : corE n zss = 0 := by
  have hs : sizeE n zss.length = 0 := by
    unfold sizeE
    split
    · omega
    · split
      · omega
      · rfl
  unfold corE
  rw [if_pos hs, co_drop zss.length (Nat.le_refl _) (fun j hj => ⟨by rw [hlen j hj, hlen 0 (by omega)], by rw [hlen j hj]; omega, am_good (fun k hk => h j hj k (by rw [hlen j hj] at hk; exact hk))⟩), List.drop_length]
  rfl
theorem cor_bad {n w i k : Nat} {zss : List (List Int)} (h1 : 1 ≤ n) (h5 : n ≤ 5) (hl : zss.length ≤ n) (hw : w ≤ n) (hlen : ∀ i, i < zss.length → (lth zss i).length = w) (hi : i < zss.length) (hk : k < w) (h : ∀ j, j < i → ∀ k, k < w → okB n (zss.take j) (lth zss j) k) (hb : ∀ j, j < k → okB n (zss.take i) (lth zss i) j)
    (hin : inB n (nth (lth zss i) k) = true) (hbad : ((lth zss i).take k).contains (nth (lth zss i) k) = true ∨ tkn (zss.take i) k (nth (lth zss i) k) = true) :
    corE n zss = if ((lth zss i).take k).contains (nth (lth zss i) k) = true then 6 else 13 := by
  have hs : sizeE n zss.length = 0 := by
    unfold sizeE
    split
    · omega
    · split
      · omega
      · rfl
  have ha := am_bad (c := n) (zss := zss.take i) (l := lth zss i) (k := k) (by rw [hlen i hi]; exact hk) hb hin hbad
  have hne : amE n (zss.take i) (lth zss i) ≠ 0 := by
    rw [ha]; split <;> decide
  unfold corE
  rw [if_pos hs, co_drop i (by omega) (fun j hj => ⟨by rw [hlen j (by omega), hlen 0 (by omega)], by rw [hlen j (by omega)]; omega, am_good (fun k hk => h j hj k (by rw [hlen j (by omega)] at hk; exact hk))⟩), lth_drop zss i hi, coG, if_pos ⟨by rw [hlen i hi, hlen 0 (by omega)], by rw [hlen i hi]; omega⟩, if_neg hne, ha]
end Go.Proofs.Ytpgifeaejjjjnaa
