/- pure: all that LaneMenger compares -/
import Derived.Test.YtflllkamdihfaaaLIA
import Derived.Test.YtflllkamdihfaaaLNE
import Derived.Test.YtflllkamdihfaaaLHJ
import Derived.Test.YtflllkamdihfaaaLMC
import Derived.Test.YtflllkamdihfaaaLGA
namespace Go.Proofs.Ytflllkamdihfaaa
open Go.RowKit Go.Sort
/-- all ways as sets, as LaneMenger keeps them. -/
def usL (c m : Int) (S Y T : List Int) : List Nat := Y.flatMap fun y => (lwL (stL c m S) S T y).map bsN
/-- bars, as LaneMenger's closure says it. -/
theorem us_bars {r c : Int} {S Y T : List Int} (hc : chkP r c S Y T = 0) {L : List Int} (hL : ∀ x ∈ L, 0 ≤ x ∧ x < 16) : (!(usL c (r * c) S Y T).any fun u => (u &&& bsN L) == 0) = rbrs c (r * c) S Y T L := by
  have hg := chk_all hc
  rw [Bool.eq_iff_iff, rbrs_iff hg, Bool.not_eq_true', List.any_eq_false]
  unfold usL
  constructor
  · intro h y hy t ht w hw
    have hyy := hg.y y hy
    have h1 := h (bsN w) (List.mem_flatMap.2 ⟨y, hy, List.mem_map.2 ⟨w, (lwL_cnd hg.side hyy hg.td).mem_iff.2 ((mem_cnd hg.side hyy).2 ⟨t, ht, hw⟩), rfl⟩⟩)
    rw [beq_iff_eq, bs_meet (wto_short hg.side ⟨hyy.1, hyy.2.1⟩ hw).2 hL] at h1
    simpa using h1
  · intro h u hu
    obtain ⟨y, hy, hu⟩ := List.mem_flatMap.1 hu
    obtain ⟨w, hw, rfl⟩ := List.mem_map.1 hu
    have hyy := hg.y y hy
    obtain ⟨t, ht, hw2⟩ := (mem_cnd hg.side hyy).1 ((lwL_cnd hg.side hyy hg.td).mem_iff.1 hw)
    rw [beq_iff_eq, bs_meet (wto_short hg.side ⟨hyy.1, hyy.2.1⟩ hw2).2 hL, h y hy t ht w hw2]
    simp
/-- what Proves answers for corners in order. -/
theorem prv_ok {r c : Int} {S Y T : List Int} (hc : chkP r c S Y T = 0) {L : List Int} (h1 : ∀ x ∈ L, 0 ≤ x ∧ x < r * c) (h2 : L.Pairwise (· < ·)) : prvE r c S Y T L = if brsP r c S Y T L = true then 0 else 14 := by
  have hg := chk_all hc
  have ha : ascE (r * c) L = 0 := ascF_ok L 0 rfl h1 h2
  unfold prvE brsP
  rw [if_pos hc, if_pos ha, bar_met hg.side S Y T L hg.y]
  by_cases hl : L.length < Y.length
  · rw [if_neg (by omega), decide_eq_true hl, Bool.true_and]
  · rw [if_pos (by omega), decide_eq_false hl, Bool.false_and]; simp
theorem cmb1_step (m i : Nat) (h : i < m) : cmbL (cmb m 0) (m - i) i = [(i : Int)] :: cmbL (cmb m 0) (m - (i + 1)) (i + 1) := by
  rw [show m - i = m - (i + 1) + 1 by omega, cmbL, cmb]; rfl
theorem cmb1_end (m : Nat) : cmbL (cmb m 0) (m - m) m = [] := by rw [Nat.sub_self, cmbL]
theorem cmb2_step (m i : Nat) (h : i < m) : cmbL (cmb m 1) (m - i) i = (cmbL (cmb m 0) (m - (i + 1)) (i + 1)).map ((i : Int) :: ·) ++ cmbL (cmb m 1) (m - (i + 1)) (i + 1) := by
  rw [show m - i = m - (i + 1) + 1 by omega, cmbL, cmb]
theorem cmb2_end (m : Nat) : cmbL (cmb m 1) (m - m) m = [] := by rw [Nat.sub_self, cmbL]
theorem cand_form (m : Nat) : candL m = [] :: (cmbL (cmb m 0) (m - 0) 0 ++ cmbL (cmb m 1) (m - 0) 0) := by
  unfold candL
  rw [cmb, cmb, cmb]; rfl
/-- the law's first list so far. -/
theorem find_snoc (p : List Int → Bool) (P : List (List Int)) (L : List Int) : (P ++ [L]).find? p = if (P.find? p).isSome = true then P.find? p else if p L = true then some L else none := by
  rw [List.find?_append]
  cases h : P.find? p with
  | some x => rfl
  | none =>
    rw [List.find?_cons]
    cases hp : p L <;> rfl
theorem us_le {r c : Int} {S Y T : List Int} (hc : chkP r c S Y T = 0) (k : Nat) (hk : k < Y.length) : (lwL (stL c (r * c) S) S T (nth Y k)).length ≤ 100000 := (lwL_good (chk_all hc) (nth_mem hk)).1
def usT (c m : Int) (S Y T : List Int) (k s : Nat) : List Nat := ((Y.take k).flatMap fun y => (lwL (stL c m S) S T y).map bsN) ++ ((lwL (stL c m S) S T (nth Y k)).take s).map bsN
theorem usT_zero (c m : Int) (S Y T : List Int) (k : Nat) (hk : k < Y.length) : usT c m S Y T (k + 1) 0 = usT c m S Y T k (lwL (stL c m S) S T (nth Y k)).length := by
  unfold usT
  rw [List.take_succ_eq_append_getElem hk, List.flatMap_append, List.take_length, List.take_zero, List.map_nil, List.append_nil, nth_get hk]
  simp
theorem usT_succ (c m : Int) (S Y T : List Int) (k s : Nat) (hs : s < (lwL (stL c m S) S T (nth Y k)).length) : usT c m S Y T k (s + 1) = usT c m S Y T k s ++ [bsN (lth (lwL (stL c m S) S T (nth Y k)) s)] := by
  unfold usT
  rw [List.take_succ_eq_append_getElem hs, List.map_append, ← List.append_assoc, lth_get hs]; rfl
theorem usT_end (c m : Int) (S Y T : List Int) : usT c m S Y T Y.length 0 = usL c m S Y T := by
  unfold usT usL
  rw [List.take_length, List.take_zero, List.map_nil, List.append_nil]
theorem usT_le {r c : Int} {S Y T : List Int} (hc : chkP r c S Y T = 0) (k s : Nat) (hk : k ≤ Y.length) (h0 : k = Y.length → s = 0) : (usT c (r * c) S Y T k s).length ≤ 400000 := by
  have hg := chk_all hc
  unfold usT
  rw [List.length_append]
  have h1 := flat_le (g := fun y => (lwL (stL c (r * c) S) S T y).map bsN) (b := 100000) (Y.take k) (fun y hy => by rw [List.length_map]; exact (lwL_good hg (List.mem_of_mem_take hy)).1)
  have h2 : (Y.take k).length ≤ 3 := by rw [List.length_take]; have := hg.three; omega
  have h3 := Nat.mul_le_mul_right 100000 h2
  have h4 : (((lwL (stL c (r * c) S) S T (nth Y k)).take s).map bsN).length ≤ 100000 := by
    rw [List.length_map, List.length_take]
    rcases Nat.lt_or_eq_of_le hk with q | q
    · have := us_le hc k q; omega
    · have := h0 q; omega
  omega
end Go.Proofs.Ytflllkamdihfaaa
