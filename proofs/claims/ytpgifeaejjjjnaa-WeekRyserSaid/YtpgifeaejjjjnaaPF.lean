/- pure: the least street that bars, from a place on; what the law's search and its answers are (ry_end, ry_bad) -/
import Derived.Test.YtpgifeaejjjjnaaPE
import Derived.Test.YtpgifeaejjjjnaaED
import Derived.Test.YtpgifeaejjjjnaaFC
namespace Go.Proofs.Ytpgifeaejjjjnaa
open Go.RowKit Go.Sort
/-- the least street that bars, from s0 on. -/
def barG (n : Nat) (Q : List (List Int)) (s0 : Nat) : Option Nat := ((List.range n).drop s0).findSome? fun (s : Nat) => if barsE n Q (s : Int) = true then some s else none
def optI : Option Nat → Int
  | some s => s
  | none => -1
theorem barG_end (n : Nat) (Q : List (List Int)) : barG n Q n = none := by
  unfold barG
  rw [List.drop_eq_nil_of_le (by simp)]; rfl
theorem barG_zero (n : Nat) (Q : List (List Int)) : barG n Q 0 = barF n Q := rfl
theorem barG_succ (n : Nat) (Q : List (List Int)) (s : Nat) (h : s < n) : barG n Q s = if barsE n Q (s : Int) = true then some s else barG n Q (s + 1) := by
  unfold barG
  rw [List.drop_eq_getElem_cons (by simpa using h), List.findSome?_cons, List.getElem_range]
  by_cases hb : barsE n Q (s : Int) = true
  · rw [if_pos hb, if_pos hb]
  · rw [if_neg hb, if_neg hb]
theorem prv_at {n R D : Nat} {Q : List (List Int)} (h : corE n Q = 0) (hR : Q.length = R) (hD : ∀ i, i < R → (lth Q i).length = D) (s : Nat) (hs : s < n) :
    barsE n Q (s : Int) = decide ((hasN Q (s : Int) R : Int) < R + D - n ∧ 0 < R) ∧ prvE n Q (s : Int) = if barsE n Q (s : Int) = true then 0 else 14 := by
  constructor
  · rw [← bars_same _ h]
    unfold barR
    rw [hR]
    obtain ⟨c1, _, _, _⟩ := cor_rows h
    rcases Nat.eq_zero_or_pos R with h0 | h0
    · subst h0
      rw [lth_eq, List.getElem?_eq_none (by omega)]
      simp
    · rw [hD 0 h0]
      simp [h0]
  · unfold prvE
    rw [if_pos h, if_pos (by unfold inB; simp; omega)]
theorem grd_take {n : Nat} : ∀ (m : Nat) (z : List (List Int)), (grdF n m z).take z.length = z
  | 0, z => by rw [grdF, List.take_length]
  | m + 1, z => by
    have := grd_take (n := n) m (z ++ [lth (fitL n z) 0])
    rw [grdF]
    rw [List.length_append, List.length_singleton] at this
    have h2 := congrArg (List.take z.length) this
    rw [List.take_take, Nat.min_eq_left (Nat.le_succ _), List.take_left] at h2
    exact h2
theorem ry_end {n : Nat} {Q : List (List Int)} (h : corE n Q = 0) :
    (barF n Q = none → ∃ z, ryR n Q [] = some z ∧ z.length = Q.length ∧ filE n Q = 0 ∧ whyE n Q = 13 ∧ Plan n (filL n Q) ∧ (filL n Q).length = n ∧ (filL n Q).take Q.length = z) ∧
    (∀ s, barF n Q = some s → ryR n Q [] = none ∧ filE n Q = 12 ∧ whyE n Q = 0 ∧ whyS n Q = (s : Int) ∧ filL n Q = []) := by
  have hp := cor_part h
  have e := ry_fl (n := n) Q [] hp (fun i hi => absurd hi (by simp))
  have hb : (barF n Q).isSome = true ↔ ¬ (flR n Q []).isSome = true := by rw [barF_some, flR_bar h]
  constructor
  · intro h0
    have h1 : (flR n Q []).isSome = true := Classical.byContradiction fun hn => by
      have := hb.2 hn
      rw [h0] at this; cases this
    obtain ⟨z, hz⟩ := Option.isSome_iff_exists.1 h1
    obtain ⟨g1, g2, _, _⟩ := flR_good Q [] z hp (fun i hi => absurd hi (by simp)) hz
    rw [List.length_nil, Nat.zero_add] at g2
    have g3 := g1.len
    obtain ⟨p1, p2⟩ := grd_plan (n - z.length) z g1 (by omega)
    have hfl : filL n Q = grdF n (n - z.length) z := by
      rw [(fil_ref n Q).2]
      unfold filRL
      rw [if_pos h, Int.toNat_natCast, hz]; rfl
    refine ⟨z, by rw [e, hz], g2, ?_, ?_, by rw [hfl]; exact p1, by rw [hfl]; exact p2, by rw [hfl, ← g2]; exact grd_take _ _⟩
    · unfold filE
      rw [if_pos h, Int.toNat_natCast, h0]; rfl
    · unfold whyE
      rw [if_pos h, Int.toNat_natCast, h0]; rfl
  · intro s hs
    have h1 : ¬ (flR n Q []).isSome = true := hb.1 (by rw [hs]; rfl)
    refine ⟨by rw [e]; exact Option.not_isSome_iff_eq_none.1 h1, ?_, ?_, ?_, ?_⟩
    · unfold filE
      rw [if_pos h, Int.toNat_natCast, hs]; rfl
    · unfold whyE
      rw [if_pos h, Int.toNat_natCast, hs]; rfl
    · unfold whyS
      rw [if_pos h, Int.toNat_natCast, hs]; rfl
    · unfold filL
      rw [if_pos h, Int.toNat_natCast, hs]; rfl
theorem ry_bad {n : Nat} {Q : List (List Int)} {x : Int} (h : corE n Q = x) (hx : x ≠ 0) : whyE n Q = x ∧ filE n Q = x := by
  subst h
  constructor
  · unfold whyE; rw [if_neg hx]
  · unfold filE; rw [if_neg hx]
/-- what the law wants after so many others. -/
def wanI (Q : List (List Int)) (k : Nat) (s : Int) (j : Nat) : Int := if tkn (Q.take j) k s = true then 13 else 0
theorem wanI_zero (Q : List (List Int)) (k : Nat) (s : Int) : wanI Q k s 0 = 0 := rfl
theorem wanI_succ (Q : List (List Int)) (k : Nat) (s : Int) (j : Nat) (hj : j < Q.length) : wanI Q k s (j + 1) = if nth (lth Q j) k = s then 13 else wanI Q k s j := by
  unfold wanI
  have e : Q.take (j + 1) = Q.take j ++ [lth Q j] := by
    rw [List.take_add_one, lth_eq, List.getElem?_eq_getElem hj]; rfl
  rw [e]
  unfold tkn
  rw [List.any_append]
  by_cases h : nth (lth Q j) k = s
  · rw [if_pos h]; simp [h]
  · rw [if_neg h]; simp [h]
end Go.Proofs.Ytpgifeaejjjjnaa
