/- LaneCounts: bounds, rows of families, the reference's families, joined, Count and First -/
import Derived.Test.YtflllkamdihfaaaLCG
import Derived.Test.YtflllkamdihfaaaLBA
import Derived.Test.YtflllkamdihfaaaLCA
import Derived.Test.YtflllkamdihfaaaLBH
import Derived.Test.YtflllkamdihfaaaLBG
import Derived.Test.YtflllkamdihfaaaLMA
namespace Go.Proofs.Ytflllkamdihfaaa
open Go.RowKit Go.Sort
section
/-- how many ways there can be. -/
def gN : Nat → Nat
  | 0 => 0
  | 1 => 1
  | n + 2 => 1 + gN (n + 1) + gN n
theorem gN_up : ∀ n, gN n ≤ gN (n + 1)
  | 0 => by decide
  | 1 => by decide
  | n + 2 => by
    have h1 := gN_up (n + 1)
    have h2 := gN_up n
    show gN (n + 2) ≤ 1 + gN (n + 2) + gN (n + 1)
    omega
theorem gN_mono {a b : Nat} (h : a ≤ b) : gN a ≤ gN b := by
  induction h with
  | refl => exact Nat.le_refl _
  | step _ ih => exact Nat.le_trans ih (gN_up _)
theorem rtL_gN {r c m : Int} (hs : Side r c m) (S : List Int) (tz : Int) : ∀ (f : Nat) (k : Int), 0 ≤ k → k < m → m - k ≤ f → (rtL (stL c m S) tz f k).length ≤ gN (m - k).toNat
  | 0, k, h0, h1, h2 => by omega
  | f + 1, k, h0, h1, h2 => by
    obtain ⟨_, _, hc1, _, _⟩ := id hs
    obtain ⟨j, hj⟩ : ∃ j : Nat, m - k = (j : Int) + 1 := ⟨(m - k - 1).toNat, by omega⟩
    have ih := rtL_gN hs S tz f
    unfold rtL
    rw [List.length_append]
    have hb : (if k = tz then [[k]] else []).length ≤ 1 := by split <;> simp
    have hst : stL c m S k = (if ¬ (k + 1) % c = 0 ∧ atE m S (k + 1) = 0 then [k + 1] else []) ++ (if atE m S (k + c) = 0 then [k + c] else []) := rfl
    rw [hst, List.flatMap_append, List.length_append]
    have hB : ((if atE m S (k + c) = 0 then [k + c] else []).flatMap fun y => (rtL (stL c m S) tz f y).map (k :: ·)).length ≤ gN ((j : Int) + 1 - c).toNat ∧ (m ≤ k + c → ((if atE m S (k + c) = 0 then [k + c] else []).flatMap fun y => (rtL (stL c m S) tz f y).map (k :: ·)).length = 0) := by
      by_cases q : atE m S (k + c) = 0
      · have q2 := atE_zero.1 q
        rw [if_pos q]
        have := ih (k + c) (by omega) q2.2.1 (by omega)
        simp only [List.flatMap_cons, List.flatMap_nil, List.append_nil, List.length_map]
        rw [show m - (k + c) = (j : Int) + 1 - c by omega] at this
        exact ⟨this, fun h => by omega⟩
      · rw [if_neg q]; simp
    have hA : ((if ¬ (k + 1) % c = 0 ∧ atE m S (k + 1) = 0 then [k + 1] else []).flatMap fun y => (rtL (stL c m S) tz f y).map (k :: ·)).length ≤ gN j ∧ (m ≤ k + 1 ∨ c = 1 → ((if ¬ (k + 1) % c = 0 ∧ atE m S (k + 1) = 0 then [k + 1] else []).flatMap fun y => (rtL (stL c m S) tz f y).map (k :: ·)).length = 0) := by
      by_cases q : ¬ (k + 1) % c = 0 ∧ atE m S (k + 1) = 0
      · have q2 := atE_zero.1 q.2
        have hc : c ≠ 1 := fun e => q.1 (by rw [e]; omega)
        rw [if_pos q]
        have := ih (k + 1) (by omega) q2.2.1 (by omega)
        simp only [List.flatMap_cons, List.flatMap_nil, List.append_nil, List.length_map]
        rw [show (m - (k + 1)).toNat = j by omega] at this
        exact ⟨this, fun h => by omega⟩
      · rw [if_neg q]; simp
    have hjn : (m - k).toNat = j + 1 := by omega
    rw [hjn]
    obtain ⟨hA1, hA2⟩ := hA
    obtain ⟨hB1, hB2⟩ := hB
    generalize ((if ¬ (k + 1) % c = 0 ∧ atE m S (k + 1) = 0 then [k + 1] else []).flatMap fun y => (rtL (stL c m S) tz f y).map (k :: ·)).length = pA at *
    generalize ((if atE m S (k + c) = 0 then [k + c] else []).flatMap fun y => (rtL (stL c m S) tz f y).map (k :: ·)).length = pB at *
    generalize (if k = tz then [[k]] else []).length = p0 at *
    match j, hj with
    | 0, hj =>
      have h3 := hA2 (by omega)
      have h4 := hB2 (by omega)
      show _ ≤ 1
      omega
    | i + 1, hj =>
      have e : gN (i + 1 + 1) = 1 + gN (i + 1) + gN i := rfl
      by_cases hc : c = 1
      · have h3 := hA2 (by omega)
        have h4 : gN (((i + 1 : Nat) : Int) + 1 - c).toNat ≤ gN (i + 1) := gN_mono (by omega)
        omega
      · have h4 : gN (((i + 1 : Nat) : Int) + 1 - c).toNat ≤ gN i := gN_mono (by omega)
        omega
theorem fyF_len (st : Int → List Int) (y : Int) (B : Nat) (h : ∀ t, (rtL st t 16 y).length ≤ B) : ∀ (T : List Int) (acc : List (List Int)), (fyF st y T acc).length ≤ acc.length + T.length * B
  | [], acc => by simp [fyF]
  | t :: T, acc => by
    unfold fyF
    have h1 := fyF_len st y B h T (insL acc (rtL st t 16 y))
    have h2 := h t
    rw [insL_len] at h1
    rw [List.length_cons, Nat.succ_mul]
    omega
theorem fyL_le {r c m : Int} (hs : Side r c m) (S T : List Int) (y : Int) (hy : 0 ≤ y ∧ y < m) (hT : T.length ≤ 3) : (fyL (stL c m S) T y).length ≤ 7749 := by
  have hm := side_m hs
  have h := fyF_len (stL c m S) y 2583 (fun t => Nat.le_trans (rtL_gN hs S t 16 y hy.1 hy.2 (by omega)) (Nat.le_trans (gN_mono (show (m - y).toNat ≤ 16 by omega)) (by decide))) T []
  have h2 := Nat.mul_le_mul_right 2583 hT
  simp only [List.length_nil, Nat.zero_add] at h
  exact Nat.le_trans h (Nat.le_trans h2 (by decide))
theorem rfam_le {r c m : Int} (hs : Side r c m) (S Y T : List Int) (hY : ∀ y ∈ Y, 0 ≤ y ∧ y < m) (hT : T.length ≤ 3) : ∀ (n : Nat) (F : List (List Int)), F.length + n = Y.length → (rfamF (stL c m S) Y T n F).length ≤ 7749 ^ n
  | 0, F, _ => by simp [rfamF]
  | n + 1, F, h => by
    unfold rfamF
    have h1 := flat_le (g := fun w => rfamF (stL c m S) Y T n (F ++ [w])) (b := 7749 ^ n) ((fyL (stL c m S) T (nth Y F.length)).filter (apB F)) (fun w _ => rfam_le hs S Y T hY hT n (F ++ [w]) (by rw [List.length_append, List.length_singleton]; omega))
    have h2 := fyL_le hs S T (nth Y F.length) (hY _ (nth_mem (by omega))) hT
    have h3 := List.length_filter_le (apB F) (fyL (stL c m S) T (nth Y F.length))
    have h4 := Nat.mul_le_mul_right (7749 ^ n) (Nat.le_trans h3 h2)
    rw [Nat.pow_succ, Nat.mul_comm (7749 ^ n)]
    omega
/-- what has been found with the first ways of the yard. -/
def rfS (st : Int → List Int) (Y T : List Int) (n : Nat) (F L : List (List Int)) (i : Nat) : List (List (List Int)) := ((L.take i).filter (apB F)).flatMap fun w => rfamF st Y T n (F ++ [w])
theorem rfS_zero (st : Int → List Int) (Y T : List Int) (n : Nat) (F L : List (List Int)) : rfS st Y T n F L 0 = [] := by simp [rfS]
theorem rfS_succ (st : Int → List Int) (Y T : List Int) (n : Nat) (F L : List (List Int)) (i : Nat) (h : i < L.length) : rfS st Y T n F L (i + 1) = rfS st Y T n F L i ++ (if apB F (lth L i) = true then rfamF st Y T n (F ++ [lth L i]) else []) := by
  unfold rfS
  rw [List.take_succ_eq_append_getElem h, List.filter_append, List.flatMap_append]
  have e : L[i] = lth L i := by rw [lth_eq, List.getElem?_eq_getElem h]; rfl
  rw [e]
  congr 1
  by_cases q : apB F (lth L i) = true
  · rw [if_pos q, List.filter_cons_of_pos q]; simp
  · rw [if_neg q, List.filter_cons_of_neg q]; rfl
theorem rfS_end (st : Int → List Int) (Y T : List Int) (n : Nat) (F : List (List Int)) : rfamF st Y T (n + 1) F = rfS st Y T n F (fyL st T (nth Y F.length)) (fyL st T (nth Y F.length)).length := by
  unfold rfS
  rw [List.take_length]; rfl
theorem rfS_le {r c m : Int} (hs : Side r c m) (S Y T : List Int) (hY : ∀ y ∈ Y, 0 ≤ y ∧ y < m) (hT : T.length ≤ 3) (n : Nat) (F : List (List Int)) (h : F.length + (n + 1) = Y.length) (i : Nat) : (rfS (stL c m S) Y T n F (fyL (stL c m S) T (nth Y F.length)) i).length ≤ 7749 ^ (n + 1) := by
  unfold rfS
  have h1 := flat_le (g := fun w => rfamF (stL c m S) Y T n (F ++ [w])) (b := 7749 ^ n) (((fyL (stL c m S) T (nth Y F.length)).take i).filter (apB F)) (fun w _ => rfam_le hs S Y T hY hT n (F ++ [w]) (by rw [List.length_append, List.length_singleton]; omega))
  have h2 := fyL_le hs S T (nth Y F.length) (hY _ (nth_mem (by omega))) hT
  have h3 := List.length_filter_le (apB F) ((fyL (stL c m S) T (nth Y F.length)).take i)
  have h5 : ((fyL (stL c m S) T (nth Y F.length)).take i).length ≤ (fyL (stL c m S) T (nth Y F.length)).length := by rw [List.length_take]; omega
  have h4 := Nat.mul_le_mul_right (7749 ^ n) (Nat.le_trans h3 (Nat.le_trans h5 h2))
  rw [Nat.pow_succ, Nat.mul_comm (7749 ^ n)]
  omega
theorem apB_take {F : List (List Int)} {w : List Int} : apB F w = true ↔ ∀ k, k < F.length → metW (lth F k) w = false := by
  unfold apB
  rw [List.all_eq_true]
  constructor
  · intro h k hk
    rw [Bool.eq_false_iff]
    intro q
    unfold metW at q
    obtain ⟨x, h1, h2⟩ := List.any_eq_true.1 q
    have h3 := h x (by simpa using h2)
    have h4 : onL F x = true := by
      unfold onL
      refine List.any_eq_true.2 ⟨lth F k, ?_, by simpa using h1⟩
      rw [lth_eq, List.getElem?_eq_getElem hk]; exact List.getElem_mem hk
    rw [h4] at h3; cases h3
  · intro h x hx
    cases hq : onL F x
    · rfl
    · exfalso
      unfold onL at hq
      obtain ⟨l, h1, h2⟩ := List.any_eq_true.1 hq
      obtain ⟨k, hk, rfl⟩ := List.getElem_of_mem h1
      have h3 := h k hk
      have h4 : metW (lth F k) w = true := by
        unfold metW
        refine List.any_eq_true.2 ⟨x, ?_, by simpa using hx⟩
        rw [lth_eq, List.getElem?_eq_getElem hk]; simpa using h2
      rw [h4] at h3; cases h3
theorem info35 : (Try.prog.info? 35).map (fun i => (i.zero, i.size, i.bytes)) = some (some (.slice none 0 0), 1, 24) := by kernel_rfl
theorem row_apart {w : World} {B B' : Nat} {t t' : TypeId} {v u : Value} {n n' : Nat} {xs xs' : List Value} (ht : t ≠ t') (h : w.ownsRow B t 1 v n xs) (h' : w.ownsRow B' t' 1 u n' xs') : v.ownBlock = none ∨ v.ownBlock ≠ u.ownBlock := by
  rcases h.2 with ⟨rfl, _⟩ | ⟨g, cap, cur, rfl, _, hg, _⟩
  · exact .inl rfl
  · rcases h'.2 with ⟨rfl, _⟩ | ⟨g', cap', cur', rfl, _, hg', _⟩
    · exact .inr (by simp [Value.ownBlock])
    · refine .inr fun e => ?_
      simp [Value.ownBlock] at e
      rw [e, hg'] at hg
      simp at hg
      exact ht hg.2.symm
/-- a family lies apart from rows of families. -/
theorem OwnX.kept35 {w w' : World} {B B' : Nat} {v u : Value} {L : List (List Int)} {n : Nat} {xs : List Value} (h : OwnX w B v L) (hu : w.ownsRow B' 35 1 u n xs) (g : w.grownBy w' u.ownBlock) : OwnX w' B v L := by
  obtain ⟨vals, h1, h2⟩ := h
  refine ⟨vals, World.ownsRow.kept h1 g (row_apart (by decide) h1 hu), h2.1, fun j hj => ?_⟩
  obtain ⟨a, e, ha⟩ := h2.2 j hj
  exact ⟨a, e, World.ownsRow.kept ha g (row_apart (by decide) ha hu)⟩
def ltH (LL : List (List (List Int))) (k : Nat) : List (List Int) := LL[k]?.getD []
theorem ltH_eq (LL : List (List (List Int))) (k : Nat) : ltH LL k = LL[k]?.getD [] := rfl
def ElemsX (w : World) (vals : List Value) (LL : List (List (List Int))) : Prop := vals.length = LL.length ∧ ∀ j, j < LL.length → ∃ v, vals[j]? = some v ∧ OwnX w 0 v (ltH LL j)
/-- families in a row of one's own. -/
def OwnXX (w : World) (B : Nat) (v : Value) (LL : List (List (List Int))) : Prop := ∃ vals, w.ownsRow B 35 1 v LL.length vals ∧ ElemsX w vals LL
theorem ElemsX.fut {w w' : World} {vals : List Value} {LL : List (List (List Int))} (h : ElemsX w vals LL) (F : Fut w w') : ElemsX w' vals LL :=
  ⟨h.1, fun j hj => by obtain ⟨u, e, hu⟩ := h.2 j hj; exact ⟨u, e, hu.fut F⟩⟩
theorem OwnXX.fut {w w' : World} {B : Nat} {v : Value} {LL : List (List (List Int))} (h : OwnXX w B v LL) (F : Fut w w') : OwnXX w' B v LL := by
  obtain ⟨vals, h1, h2⟩ := h
  exact ⟨vals, row_fut h1 F, h2.fut F⟩
theorem OwnXX.nil (w : World) (B : Nat) : OwnXX w B (.slice none 0 0) [] := ⟨[], World.ownsRow_nil _ _ _ _, rfl, fun j hj => absurd hj (by simp)⟩
theorem OwnXX.one {w : World} {v : Value} {L : List (List Int)} (h : OwnX w 0 v L) : OwnXX (w.alloc (.cells #[v] 35)) w.heap.size (.slice (some ⟨w.heap.size, 0, none⟩) 1 1) [L] :=
  ⟨[v], World.ownsRow_lit (base := w.heap.size) (e := 35) (size := 1) w #[v] 1 (Nat.le_refl _) (by unfold maxLen; omega) rfl, rfl, fun j hj => by
    obtain rfl : j = 0 := by simp at hj; exact hj
    exact ⟨v, rfl, h.fut (Fut.alloc _ _)⟩⟩
theorem ElemsX.cat {w w' : World} {vals vals' : List Value} {LL LL' : List (List (List Int))} {B : Nat} {u : Value} {n : Nat} {xs : List Value} (h : ElemsX w vals LL) (h' : ElemsX w vals' LL') (hu : w.ownsRow B 35 1 u n xs) (g : w.grownBy w' u.ownBlock) : ElemsX w' (vals ++ vals') (LL ++ LL') := by
  refine ⟨by rw [List.length_append, List.length_append, h.1, h'.1], fun j hj => ?_⟩
  rw [List.length_append] at hj
  by_cases hlt : j < LL.length
  · obtain ⟨v, e, hv⟩ := h.2 j hlt
    refine ⟨v, by rw [List.getElem?_append_left (by have := h.1; omega)]; exact e, ?_⟩
    have : ltH (LL ++ LL') j = ltH LL j := by rw [ltH_eq, ltH_eq, List.getElem?_append_left hlt]
    rw [this]
    exact hv.kept35 hu g
  · obtain ⟨v, e, hv⟩ := h'.2 (j - LL.length) (by omega)
    refine ⟨v, by rw [List.getElem?_append_right (by have := h.1; omega), h.1]; exact e, ?_⟩
    have : ltH (LL ++ LL') j = ltH LL' (j - LL.length) := by rw [ltH_eq, ltH_eq, List.getElem?_append_right (by omega)]
    rw [this]
    exact hv.kept35 hu g
theorem ElemsX.cells {w : World} {vals : List Value} {LL : List (List (List Int))} (h : ElemsX w vals LL) : ∀ u ∈ vals, u.oneCell' = true := fun u hu => by
  obtain ⟨j, hj, rfl⟩ := List.getElem_of_mem hu
  obtain ⟨v, e, hv⟩ := h.2 j (by have := h.1; omega)
  rw [List.getElem?_eq_getElem hj] at e
  simp at e
  obtain ⟨a, cap, e2, _⟩ := hv.listsC
  rw [e, e2]; rfl
theorem OwnXX.src {w : World} {B : Nat} {v : Value} {LL : List (List (List Int))} (h : OwnXX w B v LL) : ∃ vals, ElemsX w vals LL ∧ ((v = .slice none 0 0 ∧ LL.length = 0 ∧ vals = []) ∨ ∃ ad c, v = .slice (some ad) LL.length c ∧ vals.length = LL.length * 1 ∧ (∀ j x, vals[j]? = some x → w.cell? (ad.add j) = some x) ∧ ∀ x ∈ vals, x.oneCell' = true) := by
  obtain ⟨vals, h1, h2⟩ := h
  refine ⟨vals, h2, ?_⟩
  have h1' := h1
  rcases h1.2 with ⟨rfl, h0⟩ | ⟨g, cap, cur, rfl, _⟩
  · exact .inl ⟨rfl, h0, List.length_eq_zero_iff.1 (by have := h2.1; omega)⟩
  · exact .inr ⟨_, cap, rfl, by have := h2.1; omega, World.ownsRow.cells h1' (g := g) rfl, h2.cells⟩
theorem OwnXX.form {w : World} {B : Nat} {v : Value} {LL : List (List (List Int))} (h : OwnXX w B v LL) : ∃ l lc, v = .slice l LL.length lc ∧ LL.length ≤ lc ∧ lc ≤ 9223372036854775807 := by
  obtain ⟨vals, h1, h2⟩ := h
  rcases h1.2 with ⟨rfl, h0⟩ | ⟨g, cap, cur, rfl, _, _, h3, h4, _⟩
  · exact ⟨none, 0, by rw [h0], by omega, by omega⟩
  · exact ⟨_, cap, rfl, h3, by unfold maxLen at h4; omega⟩
/-- a family among others. -/
theorem OwnXX.at {w : World} {B : Nat} {l : Option Addr} {lc : Nat} {LL : List (List (List Int))} (h : OwnXX w B (.slice l LL.length lc) LL) (j : Nat) (hj : j < LL.length) : ∃ g v, l = some ⟨g, 0, none⟩ ∧ g < w.heap.size ∧ w.cell? ⟨g, j, none⟩ = some v ∧ OwnX w 0 v (ltH LL j) := by
  obtain ⟨vals, h1, h2⟩ := h
  obtain ⟨g, c, e, _⟩ := h1.form (by omega)
  simp only [Value.slice.injEq, true_and] at e
  obtain ⟨rfl, rfl⟩ := e
  obtain ⟨v, e, hv⟩ := h2.2 j hj
  exact ⟨g, v, rfl, (World.ownsRow.lt h1 g rfl).2, by rw [h1.cellAt j (by omega), e], hv⟩
end
section
theorem Elems.snoc {w : World} {vals : List Value} {L : List (List Int)} {v : Value} {x : List Int} (h : Elems w 0 vals L) (hv : Owns w 0 v x) : Elems w 0 (vals ++ [v]) (L ++ [x]) := by
  have h1 := h.ins hv L.length (Nat.le_refl _)
  rw [List.take_length, List.drop_length] at h1
  have e1 : vals.take L.length = vals := List.take_of_length_le (by have := h.1; omega)
  have e2 : vals.drop L.length = [] := List.drop_of_length_le (by have := h.1; omega)
  rw [e1, e2] at h1
  exact h1
theorem OwnXX.base {w : World} {B B' : Nat} {v : Value} {L : List (List (List Int))} (h : OwnXX w B v L) (hB : B' ≤ B) : OwnXX w B' v L := by
  obtain ⟨vals, h1, h2⟩ := h
  exact ⟨vals, row_base h1 hB, h2⟩
theorem OwnX.at {w : World} {B : Nat} {l : Option Addr} {lc : Nat} {L : List (List Int)} (h : OwnX w B (.slice l L.length lc) L) (j : Nat) (hj : j < L.length) : ∃ g v, l = some ⟨g, 0, none⟩ ∧ g < w.heap.size ∧ w.cell? ⟨g, j, none⟩ = some v ∧ Owns w 0 v (lth L j) := by
  obtain ⟨vals, h1, h2⟩ := h
  obtain ⟨g, c, e, _⟩ := h1.form (by omega)
  simp only [Value.slice.injEq, true_and] at e
  obtain ⟨rfl, rfl⟩ := e
  obtain ⟨v, e, hv⟩ := h2.2 j hj
  exact ⟨g, v, rfl, (World.ownsRow.lt h1 g rfl).2, by rw [h1.cellAt j (by omega), e], hv⟩
set_option maxRecDepth 100000 in
set_option maxHeartbeats 16000000 in
theorem fams_own (r c : Int) (a : Option Addr) (cap : Nat) (S : List Int) (ya : Option Addr) (yc : Nat) (Y : List Int) (ta : Option Addr) (tc : Nat) (T : List Int) (hs : Side r c (r * c)) (hY : ∀ y ∈ Y, 0 ≤ y ∧ y < r * c ∧ y ∉ S) (hy3 : Y.length ≤ 3) (ht1 : 1 ≤ T.length) (ht3 : T.length ≤ 3) : ∀ (n : Nat) (begun : List (List Int)) (bv : Value) (w : World), begun.length + n = Y.length → (∀ k, k < begun.length → (lth begun k).length ≤ 16) → OwnX w 0 bv begun → InPQ w a S ya yc Y ta tc T →
    Calls Try.prog 82 #[parV r c a S.length cap, plaV ya Y.length yc ta T.length tc, bv] w fun e w' => ∃ v, e = .returned v ∧ OwnXX w' w.heap.size v (rfamF (stL c (r * c) S) Y T n begun) ∧ Fut w w' := by
  intro n
  induction n with
  | zero =>
    intro begun bv w hn hb hO hin
    obtain ⟨bl, bc, rfl, hbc1, hbc2, hLB⟩ := hO.listsC
    have hA : Fut w ((w.alloc (.cells #[.int .i64 r, .int .i64 c, .slice a S.length cap] 29)).alloc (.cells #[.slice ya Y.length yc, .slice ta T.length tc] 30)) := (Fut.alloc _ _).trans (Fut.alloc _ _)
    have hBQ := BoxT.new (w.alloc (.cells #[.int .i64 r, .int .i64 c, .slice a S.length cap] 29)) ya Y.length yc ta T.length tc
    rw [World.size_alloc] at hBQ
    have HA := Lib.hid hA
    obtain ⟨_, q0, q1⟩ := hBQ
    have hlx : ((begun.length : Int) == (Y.length : Int)) = true := by rw [beq_iff_eq]; omega
    have hX := OwnXX.base (OwnXX.one (hO.fut hA)) (RowKit.Below.size hA)
    simp only [World.size_alloc] at hX
    have HX := Lib.hid hX
    clear hX
    clear hA hO hLB hin hb hY hs
    go_enter Try.func82, Try.ntmps82
    go_wp2_with fail
    go_ret
    exact ⟨_, rfl, HX.out, HA.out.trans (Fut.alloc _ _)⟩
  | succ n ih =>
    intro begun bv w hn hb hO hin
    obtain ⟨i1, hi1, hy0, hy1, hy2⟩ := info_parts info22
    obtain ⟨i2, hi2, hx0, hx1, hx2⟩ := info_parts info35
    obtain ⟨bl, bc, rfl, hbc1, hbc2, hLB⟩ := hO.listsC
    obtain ⟨bvals, hEB, hSB⟩ := hO.src
    have HEB := Lib.hid hEB
    have HSB : Hid (∀ W, Fut w W → SrcL W (.slice bl begun.length bc) begun.length bvals) := Lib.hid (fun W G => SrcL.fut (w := w) (by
      rcases hSB with ⟨e, e1, e2⟩ | h
      · exact .inl ⟨e, e1, e2⟩
      · exact .inr h) G)
    have hA : Fut w ((w.alloc (.cells #[.int .i64 r, .int .i64 c, .slice a S.length cap] 29)).alloc (.cells #[.slice ya Y.length yc, .slice ta T.length tc] 30)) := (Fut.alloc _ _).trans (Fut.alloc _ _)
    have hBP := (BoxR.new w r c a S.length cap).fut (Fut.alloc _ (.cells #[.slice ya Y.length yc, .slice ta T.length tc] 30))
    have hBQ := BoxT.new (w.alloc (.cells #[.int .i64 r, .int .i64 c, .slice a S.length cap] 29)) ya Y.length yc ta T.length tc
    rw [World.size_alloc] at hBQ
    have hfk : begun.length < Y.length := by omega
    have hbx : (begun.length : Int) < Y.length := by omega
    have hlx : ((begun.length : Int) == (Y.length : Int)) = false := by rw [beq_eq_false_iff_ne]; omega
    have hyk := hY _ (nth_mem hfk)
    have HFY := Lib.hid (fun W (F : Fut w W) => fromYard_own r c a cap S ya yc Y ta tc T (nth Y begun.length) W (hin.fut F) hs hyk ht1 ht3)
    have HIH := Lib.hid (fun (x : List Int) (hx : x.length ≤ 16) bv' W (F : Fut w W) hO' => ih (begun ++ [x]) bv' W (by rw [List.length_append, List.length_singleton]; omega) (fun k hk => by
      rw [List.length_append, List.length_singleton] at hk
      rcases Nat.lt_or_ge k begun.length with q | q
      · rw [lth_eq, List.getElem?_append_left q, ← lth_eq]; exact hb k q
      · obtain rfl : k = begun.length := by omega
        rw [lth_eq, List.getElem?_append_right (Nat.le_refl _), Nat.sub_self]; exact hx) hO' (hin.fut F))
    have HSH := Lib.hid (fun z (hz : z ∈ fyL (stL c (r * c) S) T (nth Y begun.length)) => fyF_short c (r * c) S (nth Y begun.length) T z hz)
    have HLE := Lib.hid (fyL_le hs S T (nth Y begun.length) ⟨hyk.1, hyk.2.1⟩ ht3)
    have HRL := Lib.hid (fun i => Nat.le_trans (rfS_le hs S Y T (fun y hy => ⟨(hY y hy).1, (hY y hy).2.1⟩) ht3 n begun hn i) (Nat.pow_le_pow_right (by decide) (show n + 1 ≤ 3 by omega)))
    have HEND := Lib.hid (rfS_end (stL c (r * c) S) Y T n begun)
    have HSS := Lib.hid (fun i hi => rfS_succ (stL c (r * c) S) Y T n begun (fyL (stL c (r * c) S) T (nth Y begun.length)) i hi)
    have HS0 := Lib.hid (rfS_zero (stL c (r * c) S) Y T n begun (fyL (stL c (r * c) S) T (nth Y begun.length)))
    have HLB := Lib.hid hLB
    have HB16 := Lib.hid hb
    have HBL : Hid (begun.length ≤ 3) := Lib.hid (by omega)
    have HA := Lib.hid hA
    have HBP := Lib.hid hBP
    have HBQ := Lib.hid hBQ
    obtain ⟨yb, yo, rfl, hyb, cy⟩ := hin.y begun.length hfk
    have HCY : Hid (∀ W, Fut w W → W.cell? ⟨yb, yo + begun.length, none⟩ = some (.int .i64 (nth Y begun.length))) := Lib.hid (fun W G => (RowKit.Below.cell G (p := ⟨yb, yo + begun.length, none⟩) hyb).trans cy)
    obtain ⟨_, p0, p1, p2⟩ := hBP
    obtain ⟨_, q0, q1⟩ := hBQ
    have cy1 := HCY.out _ hA
    clear hA hO hEB hSB hLB hin hb hY hs ih hyk cy hyb
    generalize stL c (r * c) S = st at *
    generalize hRR : rfamF st Y T (n + 1) begun = RR at *
    generalize fyL st T (nth Y begun.length) = L at *
    generalize nth Y begun.length = yk at *
    clear hRR
    go_enter Try.func82, Try.ntmps82
    go_wp2_with fail
    generalize hW1 : (w.alloc (.cells #[.int .i64 r, .int .i64 c, .slice a S.length cap] 29)).alloc (.cells #[.slice (some ⟨yb, yo, none⟩) Y.length yc, .slice ta T.length tc] 30) = W1 at *
    have hlp := World.block_lt_of_cell? _ _ p0
    have hlq := World.block_lt_of_cell? _ _ q0
    go_upto_region 4 with fail
    go_region_held3 (fun w' => w'.cell? ⟨w.heap.size, 0, none⟩ = some (.int .i64 r) ∧ w'.cell? ⟨w.heap.size, 1, none⟩ = some (.int .i64 c) ∧ w'.cell? ⟨w.heap.size, 2, none⟩ = some (.slice a S.length cap) ∧ w'.cell? ⟨w.heap.size + 1, 0, none⟩ = some (.slice (some ⟨yb, yo, none⟩) Y.length yc) ∧ w'.cell? ⟨w.heap.size + 1, 1, none⟩ = some (.slice ta T.length tc) ∧ w'.cell? ⟨yb, yo + begun.length, none⟩ = some (.int .i64 yk)) (first | exact hS5 | exact ⟨p0, p1, p2, q0, q1, cy1⟩)
      (first
        | (go_at_call 112; refine (HFY.out _ (HA.out.trans (Fut.drewN W1 1))).mono ?_; rintro _ w5 ⟨v5, rfl, hX5, F5⟩; have FA5 : Fut W1 w5 := Fut.trans (Fut.drewN W1 1) F5; obtain ⟨_, r0, r1, r2⟩ := HBP.out.fut FA5; obtain ⟨_, t0, t1⟩ := HBQ.out.fut FA5; have hS5 : w5.cell? ⟨w.heap.size, 0, none⟩ = some (.int .i64 r) ∧ w5.cell? ⟨w.heap.size, 1, none⟩ = some (.int .i64 c) ∧ w5.cell? ⟨w.heap.size, 2, none⟩ = some (.slice a S.length cap) ∧ w5.cell? ⟨w.heap.size + 1, 0, none⟩ = some (.slice (some ⟨yb, yo, none⟩) Y.length yc) ∧ w5.cell? ⟨w.heap.size + 1, 1, none⟩ = some (.slice ta T.length tc) ∧ w5.cell? ⟨yb, yo + begun.length, none⟩ = some (.int .i64 yk) := ⟨r0, r1, r2, t0, t1, HCY.out w5 (HA.out.trans FA5)⟩))
    have HFW5 := Lib.hid (HA.out.trans FA5)
    have HBP5 := Lib.hid (HBP.out.fut FA5)
    have HBQ5 := Lib.hid (HBQ.out.fut FA5)
    obtain ⟨la, lc, rfl, hlc1, hlc2, _⟩ := hX5.listsC
    have HXL := Lib.hid hX5
    have hlx2 : (L.length : Int) ≤ 7749 := by have := HLE.out; omega
    have hX0 : OwnXX w5 w5.heap.size (.slice none 0 0) (rfS st Y T n begun L 0) := by rw [HS0.out]; exact OwnXX.nil _ _
    have HX00 := Lib.hid hX0
    clear FA5 F5 hS5 r0 r1 r2 t0 t1 p0 p1 p2 q0 q1 cy1 hX5 hX0 HFY HCY hlp hlq HBP HBQ HA
    go_wp2_with fail
    go_loopw [7, 9] (fun ov iv wr => ∃ i : Nat, i ≤ L.length ∧ iv = .int .i64 i ∧ Hid (OwnXX wr w5.heap.size ov (rfS st Y T n begun L i)) ∧ Hid (Fut w5 wr)) (fun _ iv _ => L.length - (intOf iv).toNat)
    case atStart => exact ⟨0, Nat.zero_le _, rfl, HX00, Lib.hid Fut.rfl⟩
    case round =>
      obtain ⟨i, hi, rfl, HX, HFX⟩ := hrel
      obtain ⟨wo, hwo⟩ : ∃ wo, wo = wr := ⟨_, rfl⟩
      subst hwo
      clear HX00
      by_cases hil : i < L.length
      · have hix : (i : Int) < L.length := by omega
        have HSI := Lib.hid (HSS.out i hil)
        obtain ⟨lb, rv, rfl, hlb, cL, hOr⟩ := HXL.out.at i hil
        have HX16 := Lib.hid (HSH.out (lth L i) (by rw [lth_eq, List.getElem?_eq_getElem hil]; exact List.getElem_mem hil))
        obtain ⟨x, hx⟩ : ∃ x, x = lth L i := ⟨_, rfl⟩
        rw [← hx] at hOr HX16 HSI
        obtain ⟨rl, rlc, rfl, hr1, hr2, hIr⟩ := hOr.form
        have HRX := Lib.hid hOr
        have HIR := Lib.hid hIr
        have HCL : Hid (∀ W, Fut w5 W → W.cell? ⟨lb, i, none⟩ = some (.slice rl x.length rlc)) := Lib.hid (fun W G => (RowKit.Below.cell G (p := ⟨lb, i, none⟩) hlb).trans cL)
        have HSZI := Lib.hid (HRL.out (i + 1))
        clear hx hOr hIr cL hlb
        go_wp2_with fail
        go_loopw [10, 11] (fun fv kv wr => ∃ (k : Nat) (b : Bool), k ≤ begun.length ∧ fv = .bool b ∧ kv = .int .i64 k ∧ Hid (b = true ↔ ∀ p, p < k → metW (lth begun p) x = false) ∧ Hid (Fut wo wr)) (fun _ kv _ => begun.length - (intOf kv).toNat)
        case atStart => exact ⟨0, true, Nat.zero_le _, rfl, rfl, Lib.hid ⟨fun _ p hp => by omega, fun _ => rfl⟩, Lib.hid Fut.rfl⟩
        case round =>
          obtain ⟨k, b, hk, rfl, rfl, HK, HFk⟩ := hrel
          have HFo := Lib.hid (HFX.out.trans HFk.out)
          by_cases hkl : k < begun.length
          · have hkx : (k : Int) < begun.length := by omega
            cases b
            · have HK2 : Hid (false = true ↔ ∀ p, p < k + 1 → metW (lth begun p) x = false) := Lib.hid ⟨fun q => (by cases q), fun q => HK.out.2 fun p hp => q p (by omega)⟩
              go_upto_region 12 with fail
              go_quiet (fail)
              have HF6 := Lib.hid (HFk.out.trans (Fut.drewN wr nq))
              generalize wr.drewN nq = w6 at *
              go_wp2_with fail
              go_roundw
              case rel => first
                | exact ⟨k + 1, false, by omega, rfl, by go_num, HK2, HF6⟩
                | ((repeat apply Exists.intro); exact ⟨⟨k + 1, false, by omega, rfl, by go_num, HK2, HF6⟩, rfl⟩)
              case measure => simp [intOf]; omega
            · obtain ⟨fb, fo, kl, klc, rfl, _, dk, _, _, hIk⟩ := (HLB.out.fut (HFW5.out.trans HFo.out)) k hkl
              have dL := HCL.out wr HFo.out
              have HQ := Lib.hid (fun nq => meet_any kl rl klc rlc (lth begun k) x (wr.drewN nq) (hIk.fut (Fut.drewN _ nq)) (HIR.out.fut (HFo.out.trans (Fut.drewN _ nq))) (by have := HB16.out k hkl; omega) (by have := HX16.out; omega))
              have HKT : Hid (metW (lth begun k) x = false → (true = true ↔ ∀ p, p < k + 1 → metW (lth begun p) x = false)) := Lib.hid (fun q => ⟨fun _ p hp => by
                rcases Nat.lt_or_ge p k with q2 | q2
                · exact HK.out.1 rfl p q2
                · obtain rfl : p = k := by omega
                  exact q, fun _ => rfl⟩)
              have HKF : Hid (metW (lth begun k) x = true → (false = true ↔ ∀ p, p < k + 1 → metW (lth begun p) x = false)) := Lib.hid (fun q => ⟨fun e => (by cases e), fun h => by rw [h k (by omega)] at q; exact q⟩)
              clear hIk HK
              generalize (lth begun k).length = kn at *
              generalize metW (lth begun k) x = bm at *
              go_upto_region 12 with fail
              go_quiet (first | (with_reducible (go_at_call 92; exact Calls.quiet_of_same ((HQ.out _).mono fun _ _ ⟨h, h'⟩ => ⟨h, h'.symm⟩))))
              have HF6 := Lib.hid (HFk.out.trans (Fut.drewN wr nq))
              clear HQ dk dL
              generalize wr.drewN nq = w6 at *
              cases bm
              · have HK2 := Lib.hid (HKT.out rfl)
                clear HKT HKF
                go_wp2_with fail
                go_roundw
                case rel => first
                  | exact ⟨k + 1, true, by omega, rfl, by go_num, HK2, HF6⟩
                  | ((repeat apply Exists.intro); exact ⟨⟨k + 1, true, by omega, rfl, by go_num, HK2, HF6⟩, rfl⟩)
                case measure => simp [intOf]; omega
              · have HK2 := Lib.hid (HKF.out rfl)
                clear HKT HKF
                go_wp2_with fail
                go_roundw
                case rel => first
                  | exact ⟨k + 1, false, by omega, rfl, by go_num, HK2, HF6⟩
                  | ((repeat apply Exists.intro); exact ⟨⟨k + 1, false, by omega, rfl, by go_num, HK2, HF6⟩, rfl⟩)
                case measure => simp [intOf]; omega
          · obtain rfl : begun.length = k := by omega
            obtain ⟨w6, hw6⟩ : ∃ w6, w6 = wr := ⟨_, rfl⟩
            subst hw6
            cases b
            · have hap : apB begun x = false := by
                rw [Bool.eq_false_iff]
                intro q
                have := HK.out.2 (apB_take.1 q)
                cases this
              have HXn : Hid (OwnXX w6 w5.heap.size u7 (rfS st Y T n begun L (i + 1))) := Lib.hid (by rw [HSI.out, hap]; simpa using HX.out.fut HFk.out)
              clear hap HK
              go_wp2_with fail
              go_round
              case rel => exact ⟨i + 1, by omega, by go_num, HXn, HFo⟩
              case measure => simp [intOf]; omega
            · have hap : apB begun x = true := apB_take.2 (HK.out.1 rfl)
              obtain ⟨acc, hacc⟩ : ∃ acc, acc = rfS st Y T n begun L i := ⟨_, rfl⟩
              obtain ⟨Res, hres⟩ : ∃ Res, Res = rfamF st Y T n (begun ++ [x]) := ⟨_, rfl⟩
              have HACC : Hid (rfS st Y T n begun L (i + 1) = acc ++ Res) := Lib.hid (by rw [HSI.out, hap, hacc, hres]; rfl)
              have HSZ : Hid (acc.length + Res.length ≤ 465304210749) := Lib.hid (by
                have h1 := HSZI.out
                rw [HACC.out, List.length_append] at h1
                exact Nat.le_trans h1 (by decide))
              have HX6 := HX.out.fut HFk.out
              rw [← hacc] at HX6
              obtain ⟨oa, oc, rfl, _, _⟩ := HX6.form
              have HCALL := Lib.hid (HIH.out x HX16.out)
              rw [← hres] at HCALL
              have FD : Fut w6 w6.drew := below_drewN Fut.rfl 1
              have HF0 := Lib.hid (HFo.out.trans FD)
              have HFw0 := Lib.hid (HFW5.out.trans (HFo.out.trans FD))
              have HX0 := Lib.hid (HX6.fut FD)
              have keep : ∀ W, Fut w5 W → (fun w' => (BoxP w' w.heap.size r c a S.length cap ∧ BoxQ w' (w.heap.size + 1) (some ⟨yb, yo, none⟩) Y.length yc ta T.length tc) ∧ w'.cell? ⟨lb, i, none⟩ = some (.slice rl x.length rlc)) W := fun W G => ⟨⟨HBP5.out.fut G, HBQ5.out.fut G⟩, HCL.out W G⟩
              clear hap hacc hres HX6 FD HK HFo HFk
              go_upto_region 14 with fail
              refine wp_region_held_drew (S := (fun w' => (BoxP w' w.heap.size r c a S.length cap ∧ BoxQ w' (w.heap.size + 1) (some ⟨yb, yo, none⟩) Y.length yc ta T.length tc) ∧ w'.cell? ⟨lb, i, none⟩ = some (.slice rl x.length rlc))) (by kernel_rfl) ?_ (fun hHeld => ?_)
              · exact keep _ HF0.out
              generalize w6.drew = u0 at *
              refine wpAnyH_take (i := 0) (oi := { dst := some 55, op := Op.move (Operand.tmp 7), type := 106, pos := "ref.go:231", after := #[], guard := none }) (v := ?_) rfl (by kernel_rfl) (by kernel_rfl) (by kernel_rfl) (fun _ _ _ h => h) (Or.inl ⟨by rfl, ?_⟩) (by assumption) ?_
              rotate_left
              · (intro w hSw; obtain ⟨⟨⟨_, s0, s1, s2⟩, ⟨_, s3, s4⟩⟩, s5⟩ := hSw; go_simp <;> with_reducible rfl)
              try simp only [Act.put, List.setIfInBounds_toArray, List.set_cons_zero, List.set_cons_succ]
              refine wpAnyH_take (i := 1) (oi := { dst := some 56, op := Op.load 29 (Operand.tmp 3), type := 29, pos := "ref.go:231", after := #[], guard := none }) (v := ?_) rfl (by kernel_rfl) (by kernel_rfl) (by kernel_rfl) (fun _ _ _ h => h) (Or.inl ⟨by rfl, ?_⟩) (by assumption) ?_
              rotate_left
              · (intro w hSw; obtain ⟨⟨⟨_, s0, s1, s2⟩, ⟨_, s3, s4⟩⟩, s5⟩ := hSw; go_simp <;> with_reducible rfl)
              try simp only [Act.put, List.setIfInBounds_toArray, List.set_cons_zero, List.set_cons_succ]
              refine wpAnyH_take (i := 2) (oi := { dst := some 57, op := Op.load 30 (Operand.tmp 4), type := 30, pos := "ref.go:231", after := #[], guard := none }) (v := ?_) rfl (by kernel_rfl) (by kernel_rfl) (by kernel_rfl) (fun _ _ _ h => h) (Or.inl ⟨by rfl, ?_⟩) (by assumption) ?_
              rotate_left
              · (intro w hSw; obtain ⟨⟨⟨_, s0, s1, s2⟩, ⟨_, s3, s4⟩⟩, s5⟩ := hSw; go_simp <;> with_reducible rfl)
              try simp only [Act.put, List.setIfInBounds_toArray, List.set_cons_zero, List.set_cons_succ]
              refine wpAnyH_take (i := 4) (oi := { dst := some 59, op := Op.move (Operand.tmp 2), type := 35, pos := "ref.go:231", after := #[], guard := none }) (v := ?_) rfl (by kernel_rfl) (by kernel_rfl) (by kernel_rfl) (fun _ _ _ h => h) (Or.inl ⟨by rfl, ?_⟩) (by assumption) ?_
              rotate_left
              · (intro w hSw; obtain ⟨⟨⟨_, s0, s1, s2⟩, ⟨_, s3, s4⟩⟩, s5⟩ := hSw; go_simp <;> with_reducible rfl)
              try simp only [Act.put, List.setIfInBounds_toArray, List.set_cons_zero, List.set_cons_succ]
              refine wpAnyH_take (i := 6) (oi := { dst := some 61, op := Op.move (Operand.tmp 8), type := 35, pos := "ref.go:231", after := #[], guard := none }) (v := ?_) rfl (by kernel_rfl) (by kernel_rfl) (by kernel_rfl) (fun _ _ _ h => h) (Or.inl ⟨by rfl, ?_⟩) (by assumption) ?_
              rotate_left
              · (intro w hSw; obtain ⟨⟨⟨_, s0, s1, s2⟩, ⟨_, s3, s4⟩⟩, s5⟩ := hSw; go_simp <;> with_reducible rfl)
              try simp only [Act.put, List.setIfInBounds_toArray, List.set_cons_zero, List.set_cons_succ]
              refine wpAnyH_take (i := 7) (oi := { dst := some 62, op := Op.move (Operand.tmp 9), type := 3, pos := "ref.go:231", after := #[], guard := none }) (v := ?_) rfl (by kernel_rfl) (by kernel_rfl) (by kernel_rfl) (fun _ _ _ h => h) (Or.inl ⟨by rfl, ?_⟩) (by assumption) ?_
              rotate_left
              · (intro w hSw; obtain ⟨⟨⟨_, s0, s1, s2⟩, ⟨_, s3, s4⟩⟩, s5⟩ := hSw; go_simp <;> with_reducible rfl)
              try simp only [Act.put, List.setIfInBounds_toArray, List.set_cons_zero, List.set_cons_succ]
              refine wpAnyH_take (i := 8) (oi := { dst := some 63, op := Op.indexAddr 35 (Operand.tmp 61) (Operand.tmp 62), type := 0, pos := "ref.go:231", after := #[{ on := 6, ground := Ground.data }, { on := 7, ground := Ground.data }], guard := none }) (v := ?_) rfl (by kernel_rfl) (by kernel_rfl) (by kernel_rfl) (fun _ _ _ h => h) (Or.inl ⟨by rfl, ?_⟩) (by assumption) ?_
              rotate_left
              · (intro w hSw; obtain ⟨⟨⟨_, s0, s1, s2⟩, ⟨_, s3, s4⟩⟩, s5⟩ := hSw; go_simp <;> with_reducible rfl)
              try simp only [Act.put, List.setIfInBounds_toArray, List.set_cons_zero, List.set_cons_succ]
              refine wpAnyH_take (i := 9) (oi := { dst := some 64, op := Op.load 22 (Operand.tmp 63), type := 22, pos := "ref.go:231", after := #[{ on := 8, ground := Ground.data }], guard := none }) (v := ?_) rfl (by kernel_rfl) (by kernel_rfl) (by kernel_rfl) (fun _ _ _ h => h) (Or.inl ⟨by rfl, ?_⟩) (by assumption) ?_
              rotate_left
              · (intro w hSw; obtain ⟨⟨⟨_, s0, s1, s2⟩, ⟨_, s3, s4⟩⟩, s5⟩ := hSw; go_simp <;> with_reducible rfl)
              try simp only [Act.put, List.setIfInBounds_toArray, List.set_cons_zero, List.set_cons_succ]
              refine wpAnyH_ready (rs := [3, 10]) (by kernel_rfl) (by simp) ?_
              refine AllReadyH.cons (o := { dst := some 58, op := Op.buildSlice 35 0 #[], type := 35, pos := "ref.go:231", after := #[], guard := none }) rfl (fun K hK => ?_) (AllReadyH.cons (o := { dst := some 65, op := Op.buildSlice 35 1 #[(0, Operand.tmp 64)], type := 35, pos := "ref.go:231", after := #[{ on := 9, ground := Ground.data }], guard := none }) rfl (fun K hK => ?_) (AllReadyH.nil))
              · go_simp
                refine hK.out _ _ ?_ (fun hHeld => ?_)
                · exact keep _ (HF0.out.trans (Fut.alloc u0 (.cells #[] 22)))
                clear hK K
                try simp only [Act.put, List.setIfInBounds_toArray, List.set_cons_zero, List.set_cons_succ]
                refine wpAnyH_ready (rs := [5, 10]) (by kernel_rfl) (by simp) ?_
                refine AllReadyH.cons (o := { dst := some 60, op := Op.call { callee := Callee.builtin Builtin.append, args := #[Operand.tmp 58, Operand.tmp 59], argTypes := #[35, 35] }, type := 35, pos := "ref.go:231", after := #[{ on := 3, ground := Ground.data }, { on := 4, ground := Ground.data }], guard := none }) rfl (fun K hK => ?_) (AllReadyH.cons (o := { dst := some 65, op := Op.buildSlice 35 1 #[(0, Operand.tmp 64)], type := 35, pos := "ref.go:231", after := #[{ on := 9, ground := Ground.data }], guard := none }) rfl (fun K hK => ?_) (AllReadyH.nil))
                · have FW : Fut u0 (u0.alloc (.cells #[] 22)) := Fut.alloc u0 (.cells #[] 22)
                  have HW : (u0.alloc (.cells #[] 22)).ownsRow u0.heap.size 22 1 (.slice (some ⟨u0.heap.size, 0, none⟩) 0 0) 0 [] := World.ownsRow_lit (base := u0.heap.size) (e := 22) (size := 1) u0 #[] 0 (Nat.le_refl _) (by unfold maxLen; omega) rfl
                  refine step_append_src rfl _ _ 35 rfl u0.heap.size 22 i1 (.slice none 0 0) 24 Try.underlying35 hi1 hy0 hy1 hy2 rfl (.slice (some ⟨u0.heap.size, 0, none⟩) 0 0) 0 [] rfl HW _ begun.length bvals rfl (HSB.out _ (HFw0.out.trans FW)) (by have := HBL.out; unfold maxLen; omega) (by have := HBL.out; omega) (RowKit.Below.size FW) ?_
                  intro ava aca wa hown hgrx
                  have hgr : (u0.alloc (.cells #[] 22)).grownBy wa (some u0.heap.size) := hgrx
                  clear hgrx
                  simp only [Nat.zero_add, List.nil_append] at hown
                  simp only [Nat.zero_add]
                  have FA : Fut u0 wa := RowKit.Below.grown FW hgr (RowKit.Below.size FW) fun q hq => (World.ownsRow.lt HW q hq).1
                  have HOa := Lib.hid hown
                  have HFa := Lib.hid FA
                  clear hown hgr HW FW FA
                  refine hK.out _ _ ?_ (fun hHeld => ?_)
                  · exact keep _ (HF0.out.trans (HFa.out))
                  clear hK K
                  try simp only [Act.put, List.setIfInBounds_toArray, List.set_cons_zero, List.set_cons_succ]
                  refine wpAnyH_ready (rs := [10]) (by kernel_rfl) (by simp) ?_
                  refine AllReadyH.cons (o := { dst := some 65, op := Op.buildSlice 35 1 #[(0, Operand.tmp 64)], type := 35, pos := "ref.go:231", after := #[{ on := 9, ground := Ground.data }], guard := none }) rfl (fun K hK => ?_) AllReadyH.nil
                  go_simp
                  refine hK.out _ _ ?_ (fun hHeld => ?_)
                  · exact keep _ (HF0.out.trans (HFa.out.trans (Fut.alloc _ (.cells #[(.slice rl x.length rlc)] 22))))
                  clear hK K
                  try simp only [Act.put, List.setIfInBounds_toArray, List.set_cons_zero, List.set_cons_succ]
                  refine wpAnyH_ready (rs := [11]) (by kernel_rfl) (by simp) ?_
                  refine AllReadyH.cons (o := { dst := some 66, op := Op.call { callee := Callee.builtin Builtin.append, args := #[Operand.tmp 60, Operand.tmp 65], argTypes := #[35, 35] }, type := 35, pos := "ref.go:231", after := #[{ on := 5, ground := Ground.data }, { on := 10, ground := Ground.data }, { on := 5, ground := Ground.chain }], guard := none }) rfl (fun K hK => ?_) AllReadyH.nil
                  have FW : Fut u0 (wa.alloc (.cells #[(.slice rl x.length rlc)] 22)) := HFa.out.trans (Fut.alloc _ (.cells #[(.slice rl x.length rlc)] 22))
                  have HW : (wa.alloc (.cells #[(.slice rl x.length rlc)] 22)).ownsRow u0.heap.size 22 1 (.slice ava begun.length aca) begun.length bvals := World.ownsRow.alloc HOa.out (.cells #[(.slice rl x.length rlc)] 22)
                  refine step_append_src rfl _ _ 35 rfl u0.heap.size 22 i1 (.slice none 0 0) 24 Try.underlying35 hi1 hy0 hy1 hy2 rfl (.slice ava begun.length aca) begun.length bvals rfl HW _ 1 [(.slice rl x.length rlc)] rfl (.inr ⟨⟨wa.heap.size, 0, none⟩, 1, rfl, rfl, cell_one (by simp [go_sem]), by simp [Value.oneCell']⟩) (by have := HBL.out; unfold maxLen; omega) (by have := HBL.out; omega) (RowKit.Below.size FW) ?_
                  intro avb acb wb hown hgr
                  have HFb : Hid (Fut u0 wb) := Lib.hid (RowKit.Below.grown FW hgr (RowKit.Below.size FW) fun q hq => (World.ownsRow.lt HW q hq).1)
                  have HOb : Hid (OwnX wb 0 (.slice avb (begun.length + 1) acb) (begun ++ [x])) := Lib.hid ⟨bvals ++ [(.slice rl x.length rlc)], by rw [List.length_append, List.length_singleton]; exact row_base hown (Nat.zero_le _), (HEB.out.fut (HFw0.out.trans HFb.out)).snoc (HRX.out.fut (HF0.out.trans HFb.out))⟩
                  clear hown hgr HW FW
                  refine hK.out _ _ ?_ (fun hHeld => ?_)
                  · exact keep _ (HF0.out.trans (HFb.out))
                  clear hK K
                  try simp only [Act.put, List.setIfInBounds_toArray, List.set_cons_zero, List.set_cons_succ]
                  refine wpAnyH_ready (rs := [12]) (by kernel_rfl) (by simp) ?_
                  refine AllReadyH.cons (o := { dst := some 67, op := Op.call { callee := Callee.value (Operand.func 82), args := #[Operand.tmp 56, Operand.tmp 57, Operand.tmp 66], argTypes := #[29, 30, 35] }, type := 106, pos := "ref.go:231", after := #[{ on := 1, ground := Ground.data }, { on := 2, ground := Ground.data }, { on := 11, ground := Ground.data }, { on := 11, ground := Ground.chain }], guard := none }) rfl (fun K hK => ?_) AllReadyH.nil
                  go_simp
                  go_at_call 82
                  refine (HCALL.out _ wb (HFw0.out.trans HFb.out) HOb.out).mono ?_
                  rintro _ wd ⟨vd, rfl, hXd, Fd⟩
                  have HFd := Lib.hid (HFb.out.trans Fd)
                  have HXd := Lib.hid (hXd.src)
                  clear hXd Fd
                  try go_wp2_with fail
                  refine hK.out _ _ ?_ (fun hHeld => ?_)
                  · exact keep _ (HF0.out.trans (HFd.out))
                  clear hK K
                  try simp only [Act.put, List.setIfInBounds_toArray, List.set_cons_zero, List.set_cons_succ]
                  refine wpAnyH_ready (rs := [13]) (by kernel_rfl) (by simp) ?_
                  refine AllReadyH.cons (o := { dst := some 68, op := Op.call { callee := Callee.builtin Builtin.append, args := #[Operand.tmp 55, Operand.tmp 67], argTypes := #[106, 106] }, type := 106, pos := "ref.go:231", after := #[{ on := 0, ground := Ground.data }, { on := 12, ground := Ground.data }, { on := 12, ground := Ground.chain }], guard := none }) rfl (fun K hK => ?_) AllReadyH.nil
                  obtain ⟨vals, hrow, hel⟩ := (HX0.out.fut HFd.out)
                  obtain ⟨vals9, hel9, hsrc9⟩ := HXd.out
                  refine step_append_src rfl _ _ 106 rfl w5.heap.size 35 i2 (.slice none 0 0) 24 Try.underlying106 hi2 hx0 hx1 hx2 rfl _ acc.length vals rfl hrow _ Res.length vals9 rfl hsrc9 (by have := HSZ.out; unfold maxLen; omega) (by have := HSZ.out; omega) (RowKit.Below.size (HF0.out.trans HFd.out)) ?_
                  intro ave ace we hown hgr
                  have HXe : Hid (OwnXX we w5.heap.size (.slice ave (acc ++ Res).length ace) (acc ++ Res)) := Lib.hid ⟨vals ++ vals9, by rw [List.length_append]; exact hown, hel.cat hel9 hrow hgr⟩
                  have HFe : Hid (Fut w5 we) := Lib.hid (RowKit.Below.grown (HF0.out.trans HFd.out) hgr (RowKit.Below.size (HF0.out.trans HFd.out)) fun q hq => (World.ownsRow.lt hrow q hq).1)
                  clear hrow hel hel9 hsrc9 hown hgr
                  refine hK.out _ _ ?_ (fun hHeld => ?_)
                  · exact keep _ HFe.out
                  clear hK K
                  try simp only [Act.put, List.setIfInBounds_toArray, List.set_cons_zero, List.set_cons_succ]
                  refine wpAnyH_ready (rs := [14]) (by kernel_rfl) (by simp) ?_
                  refine AllReadyH.cons (o := { dst := some 7, op := Op.assign (Operand.tmp 68), type := 106, pos := "ref.go:231", after := #[{ on := 13, ground := Ground.data }, { on := 13, ground := Ground.chain }, { on := 0, ground := Ground.phase }, { on := 1, ground := Ground.phase }, { on := 2, ground := Ground.phase }, { on := 3, ground := Ground.phase }, { on := 4, ground := Ground.phase }, { on := 5, ground := Ground.phase }, { on := 6, ground := Ground.phase }, { on := 7, ground := Ground.phase }, { on := 8, ground := Ground.phase }, { on := 9, ground := Ground.phase }, { on := 10, ground := Ground.phase }, { on := 11, ground := Ground.phase }, { on := 12, ground := Ground.phase }, { on := 13, ground := Ground.phase }], guard := none }) rfl (fun K hK => ?_) AllReadyH.nil
                  go_simp
                  refine hK.out _ _ ?_ (fun hHeld => ?_)
                  · exact keep _ HFe.out
                  clear hK K
                  try simp only [Act.put, List.setIfInBounds_toArray, List.set_cons_zero, List.set_cons_succ]
                  refine wpAnyH_done (by kernel_rfl) ?_ _
                  clear HFa HOa HFb HOb HFd HXd
                  have hXn : OwnXX we w5.heap.size (.slice ave (acc.length + Res.length) ace) (rfS st Y T n begun L (i + 1)) := by rw [HACC.out, ← List.length_append]; exact HXe.out
                  have HXN := Lib.hid hXn
                  clear hXn HXe
                  go_wp2
                  go_round
                  case rel => exact ⟨i + 1, by omega, by go_num, HXN, HFe⟩
                  case measure => simp [intOf]; omega
                · go_simp
                  refine hK.out _ _ ?_ (fun hHeld => ?_)
                  · exact keep _ (HF0.out.trans ((Fut.alloc u0 (.cells #[] 22)).trans (Fut.alloc _ (.cells #[(.slice rl x.length rlc)] 22))))
                  clear hK K
                  try simp only [Act.put, List.setIfInBounds_toArray, List.set_cons_zero, List.set_cons_succ]
                  refine wpAnyH_ready (rs := [5]) (by kernel_rfl) (by simp) ?_
                  refine AllReadyH.cons (o := { dst := some 60, op := Op.call { callee := Callee.builtin Builtin.append, args := #[Operand.tmp 58, Operand.tmp 59], argTypes := #[35, 35] }, type := 35, pos := "ref.go:231", after := #[{ on := 3, ground := Ground.data }, { on := 4, ground := Ground.data }], guard := none }) rfl (fun K hK => ?_) AllReadyH.nil
                  have FW : Fut u0 ((u0.alloc (.cells #[] 22)).alloc (.cells #[(.slice rl x.length rlc)] 22)) := (Fut.alloc u0 (.cells #[] 22)).trans (Fut.alloc _ (.cells #[(.slice rl x.length rlc)] 22))
                  have HW : ((u0.alloc (.cells #[] 22)).alloc (.cells #[(.slice rl x.length rlc)] 22)).ownsRow u0.heap.size 22 1 (.slice (some ⟨u0.heap.size, 0, none⟩) 0 0) 0 [] := World.ownsRow.alloc (World.ownsRow_lit (base := u0.heap.size) (e := 22) (size := 1) u0 #[] 0 (Nat.le_refl _) (by unfold maxLen; omega) rfl) (.cells #[(.slice rl x.length rlc)] 22)
                  refine step_append_src rfl _ _ 35 rfl u0.heap.size 22 i1 (.slice none 0 0) 24 Try.underlying35 hi1 hy0 hy1 hy2 rfl (.slice (some ⟨u0.heap.size, 0, none⟩) 0 0) 0 [] rfl HW _ begun.length bvals rfl (HSB.out _ (HFw0.out.trans FW)) (by have := HBL.out; unfold maxLen; omega) (by have := HBL.out; omega) (RowKit.Below.size FW) ?_
                  intro ava aca wa hown hgrx
                  have hgr : ((u0.alloc (.cells #[] 22)).alloc (.cells #[(.slice rl x.length rlc)] 22)).grownBy wa (some u0.heap.size) := hgrx
                  clear hgrx
                  simp only [Nat.zero_add, List.nil_append] at hown
                  simp only [Nat.zero_add]
                  have FA : Fut u0 wa := RowKit.Below.grown FW hgr (RowKit.Below.size FW) fun q hq => (World.ownsRow.lt HW q hq).1
                  have n0 : ((u0.alloc (.cells #[] 22)).alloc (.cells #[(.slice rl x.length rlc)] 22)).cell? ⟨(u0.heap.size + 1), 0, none⟩ = some (.slice rl x.length rlc) := by simp [go_sem]
                  have n1 : wa.cell? ⟨(u0.heap.size + 1), 0, none⟩ = some (.slice rl x.length rlc) := (World.cell?_of_block (a := ⟨(u0.heap.size + 1), 0, none⟩) (hgr.block (u0.heap.size + 1) (by simp only [World.size_alloc]; omega) (fun e => by
                    have e2 : (u0.heap.size + 1) = u0.heap.size := Option.some.inj e
                    omega))).trans n0
                  clear n0
                  have HOa := Lib.hid hown
                  have HFa := Lib.hid FA
                  clear hown hgr HW FW FA
                  refine hK.out _ _ ?_ (fun hHeld => ?_)
                  · exact keep _ (HF0.out.trans (HFa.out))
                  clear hK K
                  try simp only [Act.put, List.setIfInBounds_toArray, List.set_cons_zero, List.set_cons_succ]
                  refine wpAnyH_ready (rs := [11]) (by kernel_rfl) (by simp) ?_
                  refine AllReadyH.cons (o := { dst := some 66, op := Op.call { callee := Callee.builtin Builtin.append, args := #[Operand.tmp 60, Operand.tmp 65], argTypes := #[35, 35] }, type := 35, pos := "ref.go:231", after := #[{ on := 5, ground := Ground.data }, { on := 10, ground := Ground.data }, { on := 5, ground := Ground.chain }], guard := none }) rfl (fun K hK => ?_) AllReadyH.nil
                  have FW : Fut u0 wa := HFa.out
                  have HW : wa.ownsRow u0.heap.size 22 1 (.slice ava begun.length aca) begun.length bvals := HOa.out
                  refine step_append_src rfl _ _ 35 rfl u0.heap.size 22 i1 (.slice none 0 0) 24 Try.underlying35 hi1 hy0 hy1 hy2 rfl (.slice ava begun.length aca) begun.length bvals rfl HW _ 1 [(.slice rl x.length rlc)] rfl (.inr ⟨⟨(u0.heap.size + 1), 0, none⟩, 1, rfl, rfl, cell_one n1, by simp [Value.oneCell']⟩) (by have := HBL.out; unfold maxLen; omega) (by have := HBL.out; omega) (RowKit.Below.size FW) ?_
                  intro avb acb wb hown hgr
                  have HFb : Hid (Fut u0 wb) := Lib.hid (RowKit.Below.grown FW hgr (RowKit.Below.size FW) fun q hq => (World.ownsRow.lt HW q hq).1)
                  have HOb : Hid (OwnX wb 0 (.slice avb (begun.length + 1) acb) (begun ++ [x])) := Lib.hid ⟨bvals ++ [(.slice rl x.length rlc)], by rw [List.length_append, List.length_singleton]; exact row_base hown (Nat.zero_le _), (HEB.out.fut (HFw0.out.trans HFb.out)).snoc (HRX.out.fut (HF0.out.trans HFb.out))⟩
                  clear hown hgr HW FW
                  refine hK.out _ _ ?_ (fun hHeld => ?_)
                  · exact keep _ (HF0.out.trans (HFb.out))
                  clear hK K
                  try simp only [Act.put, List.setIfInBounds_toArray, List.set_cons_zero, List.set_cons_succ]
                  refine wpAnyH_ready (rs := [12]) (by kernel_rfl) (by simp) ?_
                  refine AllReadyH.cons (o := { dst := some 67, op := Op.call { callee := Callee.value (Operand.func 82), args := #[Operand.tmp 56, Operand.tmp 57, Operand.tmp 66], argTypes := #[29, 30, 35] }, type := 106, pos := "ref.go:231", after := #[{ on := 1, ground := Ground.data }, { on := 2, ground := Ground.data }, { on := 11, ground := Ground.data }, { on := 11, ground := Ground.chain }], guard := none }) rfl (fun K hK => ?_) AllReadyH.nil
                  go_simp
                  go_at_call 82
                  refine (HCALL.out _ wb (HFw0.out.trans HFb.out) HOb.out).mono ?_
                  rintro _ wd ⟨vd, rfl, hXd, Fd⟩
                  have HFd := Lib.hid (HFb.out.trans Fd)
                  have HXd := Lib.hid (hXd.src)
                  clear hXd Fd
                  try go_wp2_with fail
                  refine hK.out _ _ ?_ (fun hHeld => ?_)
                  · exact keep _ (HF0.out.trans (HFd.out))
                  clear hK K
                  try simp only [Act.put, List.setIfInBounds_toArray, List.set_cons_zero, List.set_cons_succ]
                  refine wpAnyH_ready (rs := [13]) (by kernel_rfl) (by simp) ?_
                  refine AllReadyH.cons (o := { dst := some 68, op := Op.call { callee := Callee.builtin Builtin.append, args := #[Operand.tmp 55, Operand.tmp 67], argTypes := #[106, 106] }, type := 106, pos := "ref.go:231", after := #[{ on := 0, ground := Ground.data }, { on := 12, ground := Ground.data }, { on := 12, ground := Ground.chain }], guard := none }) rfl (fun K hK => ?_) AllReadyH.nil
                  obtain ⟨vals, hrow, hel⟩ := (HX0.out.fut HFd.out)
                  obtain ⟨vals9, hel9, hsrc9⟩ := HXd.out
                  refine step_append_src rfl _ _ 106 rfl w5.heap.size 35 i2 (.slice none 0 0) 24 Try.underlying106 hi2 hx0 hx1 hx2 rfl _ acc.length vals rfl hrow _ Res.length vals9 rfl hsrc9 (by have := HSZ.out; unfold maxLen; omega) (by have := HSZ.out; omega) (RowKit.Below.size (HF0.out.trans HFd.out)) ?_
                  intro ave ace we hown hgr
                  have HXe : Hid (OwnXX we w5.heap.size (.slice ave (acc ++ Res).length ace) (acc ++ Res)) := Lib.hid ⟨vals ++ vals9, by rw [List.length_append]; exact hown, hel.cat hel9 hrow hgr⟩
                  have HFe : Hid (Fut w5 we) := Lib.hid (RowKit.Below.grown (HF0.out.trans HFd.out) hgr (RowKit.Below.size (HF0.out.trans HFd.out)) fun q hq => (World.ownsRow.lt hrow q hq).1)
                  clear hrow hel hel9 hsrc9 hown hgr
                  refine hK.out _ _ ?_ (fun hHeld => ?_)
                  · exact keep _ HFe.out
                  clear hK K
                  try simp only [Act.put, List.setIfInBounds_toArray, List.set_cons_zero, List.set_cons_succ]
                  refine wpAnyH_ready (rs := [14]) (by kernel_rfl) (by simp) ?_
                  refine AllReadyH.cons (o := { dst := some 7, op := Op.assign (Operand.tmp 68), type := 106, pos := "ref.go:231", after := #[{ on := 13, ground := Ground.data }, { on := 13, ground := Ground.chain }, { on := 0, ground := Ground.phase }, { on := 1, ground := Ground.phase }, { on := 2, ground := Ground.phase }, { on := 3, ground := Ground.phase }, { on := 4, ground := Ground.phase }, { on := 5, ground := Ground.phase }, { on := 6, ground := Ground.phase }, { on := 7, ground := Ground.phase }, { on := 8, ground := Ground.phase }, { on := 9, ground := Ground.phase }, { on := 10, ground := Ground.phase }, { on := 11, ground := Ground.phase }, { on := 12, ground := Ground.phase }, { on := 13, ground := Ground.phase }], guard := none }) rfl (fun K hK => ?_) AllReadyH.nil
                  go_simp
                  refine hK.out _ _ ?_ (fun hHeld => ?_)
                  · exact keep _ HFe.out
                  clear hK K
                  try simp only [Act.put, List.setIfInBounds_toArray, List.set_cons_zero, List.set_cons_succ]
                  refine wpAnyH_done (by kernel_rfl) ?_ _
                  clear HFa HOa HFb HOb HFd HXd
                  have hXn : OwnXX we w5.heap.size (.slice ave (acc.length + Res.length) ace) (rfS st Y T n begun L (i + 1)) := by rw [HACC.out, ← List.length_append]; exact HXe.out
                  have HXN := Lib.hid hXn
                  clear hXn HXe
                  go_wp2
                  go_round
                  case rel => exact ⟨i + 1, by omega, by go_num, HXN, HFe⟩
                  case measure => simp [intOf]; omega
              · go_simp
                refine hK.out _ _ ?_ (fun hHeld => ?_)
                · exact keep _ (HF0.out.trans (Fut.alloc u0 (.cells #[(.slice rl x.length rlc)] 22)))
                clear hK K
                try simp only [Act.put, List.setIfInBounds_toArray, List.set_cons_zero, List.set_cons_succ]
                refine wpAnyH_ready (rs := [3]) (by kernel_rfl) (by simp) ?_
                refine AllReadyH.cons (o := { dst := some 58, op := Op.buildSlice 35 0 #[], type := 35, pos := "ref.go:231", after := #[], guard := none }) rfl (fun K hK => ?_) AllReadyH.nil
                go_simp
                refine hK.out _ _ ?_ (fun hHeld => ?_)
                · exact keep _ (HF0.out.trans ((Fut.alloc u0 (.cells #[(.slice rl x.length rlc)] 22)).trans (Fut.alloc _ (.cells #[] 22))))
                clear hK K
                try simp only [Act.put, List.setIfInBounds_toArray, List.set_cons_zero, List.set_cons_succ]
                refine wpAnyH_ready (rs := [5]) (by kernel_rfl) (by simp) ?_
                refine AllReadyH.cons (o := { dst := some 60, op := Op.call { callee := Callee.builtin Builtin.append, args := #[Operand.tmp 58, Operand.tmp 59], argTypes := #[35, 35] }, type := 35, pos := "ref.go:231", after := #[{ on := 3, ground := Ground.data }, { on := 4, ground := Ground.data }], guard := none }) rfl (fun K hK => ?_) AllReadyH.nil
                have FW : Fut u0 ((u0.alloc (.cells #[(.slice rl x.length rlc)] 22)).alloc (.cells #[] 22)) := (Fut.alloc u0 (.cells #[(.slice rl x.length rlc)] 22)).trans (Fut.alloc _ (.cells #[] 22))
                have HW : ((u0.alloc (.cells #[(.slice rl x.length rlc)] 22)).alloc (.cells #[] 22)).ownsRow u0.heap.size 22 1 (.slice (some ⟨(u0.heap.size + 1), 0, none⟩) 0 0) 0 [] := by
                  have h := World.ownsRow_lit (base := u0.heap.size) (e := 22) (size := 1) (u0.alloc (.cells #[(.slice rl x.length rlc)] 22)) #[] 0 (by simp) (by unfold maxLen; omega) rfl
                  rw [World.size_alloc] at h
                  exact row_base h (by omega)
                refine step_append_src rfl _ _ 35 rfl u0.heap.size 22 i1 (.slice none 0 0) 24 Try.underlying35 hi1 hy0 hy1 hy2 rfl (.slice (some ⟨(u0.heap.size + 1), 0, none⟩) 0 0) 0 [] rfl HW _ begun.length bvals rfl (HSB.out _ (HFw0.out.trans FW)) (by have := HBL.out; unfold maxLen; omega) (by have := HBL.out; omega) (RowKit.Below.size FW) ?_
                intro ava aca wa hown hgrx
                have hgr : ((u0.alloc (.cells #[(.slice rl x.length rlc)] 22)).alloc (.cells #[] 22)).grownBy wa (some (u0.heap.size + 1)) := hgrx
                clear hgrx
                simp only [Nat.zero_add, List.nil_append] at hown
                simp only [Nat.zero_add]
                have FA : Fut u0 wa := RowKit.Below.grown FW hgr (RowKit.Below.size FW) fun q hq => (World.ownsRow.lt HW q hq).1
                have n0 : ((u0.alloc (.cells #[(.slice rl x.length rlc)] 22)).alloc (.cells #[] 22)).cell? ⟨u0.heap.size, 0, none⟩ = some (.slice rl x.length rlc) := alloc_old _ _ (alloc_cell u0 _ _)
                have n1 : wa.cell? ⟨u0.heap.size, 0, none⟩ = some (.slice rl x.length rlc) := (World.cell?_of_block (a := ⟨u0.heap.size, 0, none⟩) (hgr.block u0.heap.size (by simp only [World.size_alloc]; omega) (fun e => by
                  have e2 : u0.heap.size = (u0.heap.size + 1) := Option.some.inj e
                  omega))).trans n0
                clear n0
                have HOa := Lib.hid hown
                have HFa := Lib.hid FA
                clear hown hgr HW FW FA
                refine hK.out _ _ ?_ (fun hHeld => ?_)
                · exact keep _ (HF0.out.trans (HFa.out))
                clear hK K
                try simp only [Act.put, List.setIfInBounds_toArray, List.set_cons_zero, List.set_cons_succ]
                refine wpAnyH_ready (rs := [11]) (by kernel_rfl) (by simp) ?_
                refine AllReadyH.cons (o := { dst := some 66, op := Op.call { callee := Callee.builtin Builtin.append, args := #[Operand.tmp 60, Operand.tmp 65], argTypes := #[35, 35] }, type := 35, pos := "ref.go:231", after := #[{ on := 5, ground := Ground.data }, { on := 10, ground := Ground.data }, { on := 5, ground := Ground.chain }], guard := none }) rfl (fun K hK => ?_) AllReadyH.nil
                have FW : Fut u0 wa := HFa.out
                have HW : wa.ownsRow u0.heap.size 22 1 (.slice ava begun.length aca) begun.length bvals := HOa.out
                refine step_append_src rfl _ _ 35 rfl u0.heap.size 22 i1 (.slice none 0 0) 24 Try.underlying35 hi1 hy0 hy1 hy2 rfl (.slice ava begun.length aca) begun.length bvals rfl HW _ 1 [(.slice rl x.length rlc)] rfl (.inr ⟨⟨u0.heap.size, 0, none⟩, 1, rfl, rfl, cell_one n1, by simp [Value.oneCell']⟩) (by have := HBL.out; unfold maxLen; omega) (by have := HBL.out; omega) (RowKit.Below.size FW) ?_
                intro avb acb wb hown hgr
                have HFb : Hid (Fut u0 wb) := Lib.hid (RowKit.Below.grown FW hgr (RowKit.Below.size FW) fun q hq => (World.ownsRow.lt HW q hq).1)
                have HOb : Hid (OwnX wb 0 (.slice avb (begun.length + 1) acb) (begun ++ [x])) := Lib.hid ⟨bvals ++ [(.slice rl x.length rlc)], by rw [List.length_append, List.length_singleton]; exact row_base hown (Nat.zero_le _), (HEB.out.fut (HFw0.out.trans HFb.out)).snoc (HRX.out.fut (HF0.out.trans HFb.out))⟩
                clear hown hgr HW FW
                refine hK.out _ _ ?_ (fun hHeld => ?_)
                · exact keep _ (HF0.out.trans (HFb.out))
                clear hK K
                try simp only [Act.put, List.setIfInBounds_toArray, List.set_cons_zero, List.set_cons_succ]
                refine wpAnyH_ready (rs := [12]) (by kernel_rfl) (by simp) ?_
                refine AllReadyH.cons (o := { dst := some 67, op := Op.call { callee := Callee.value (Operand.func 82), args := #[Operand.tmp 56, Operand.tmp 57, Operand.tmp 66], argTypes := #[29, 30, 35] }, type := 106, pos := "ref.go:231", after := #[{ on := 1, ground := Ground.data }, { on := 2, ground := Ground.data }, { on := 11, ground := Ground.data }, { on := 11, ground := Ground.chain }], guard := none }) rfl (fun K hK => ?_) AllReadyH.nil
                go_simp
                go_at_call 82
                refine (HCALL.out _ wb (HFw0.out.trans HFb.out) HOb.out).mono ?_
                rintro _ wd ⟨vd, rfl, hXd, Fd⟩
                have HFd := Lib.hid (HFb.out.trans Fd)
                have HXd := Lib.hid (hXd.src)
                clear hXd Fd
                try go_wp2_with fail
                refine hK.out _ _ ?_ (fun hHeld => ?_)
                · exact keep _ (HF0.out.trans (HFd.out))
                clear hK K
                try simp only [Act.put, List.setIfInBounds_toArray, List.set_cons_zero, List.set_cons_succ]
                refine wpAnyH_ready (rs := [13]) (by kernel_rfl) (by simp) ?_
                refine AllReadyH.cons (o := { dst := some 68, op := Op.call { callee := Callee.builtin Builtin.append, args := #[Operand.tmp 55, Operand.tmp 67], argTypes := #[106, 106] }, type := 106, pos := "ref.go:231", after := #[{ on := 0, ground := Ground.data }, { on := 12, ground := Ground.data }, { on := 12, ground := Ground.chain }], guard := none }) rfl (fun K hK => ?_) AllReadyH.nil
                obtain ⟨vals, hrow, hel⟩ := (HX0.out.fut HFd.out)
                obtain ⟨vals9, hel9, hsrc9⟩ := HXd.out
                refine step_append_src rfl _ _ 106 rfl w5.heap.size 35 i2 (.slice none 0 0) 24 Try.underlying106 hi2 hx0 hx1 hx2 rfl _ acc.length vals rfl hrow _ Res.length vals9 rfl hsrc9 (by have := HSZ.out; unfold maxLen; omega) (by have := HSZ.out; omega) (RowKit.Below.size (HF0.out.trans HFd.out)) ?_
                intro ave ace we hown hgr
                have HXe : Hid (OwnXX we w5.heap.size (.slice ave (acc ++ Res).length ace) (acc ++ Res)) := Lib.hid ⟨vals ++ vals9, by rw [List.length_append]; exact hown, hel.cat hel9 hrow hgr⟩
                have HFe : Hid (Fut w5 we) := Lib.hid (RowKit.Below.grown (HF0.out.trans HFd.out) hgr (RowKit.Below.size (HF0.out.trans HFd.out)) fun q hq => (World.ownsRow.lt hrow q hq).1)
                clear hrow hel hel9 hsrc9 hown hgr
                refine hK.out _ _ ?_ (fun hHeld => ?_)
                · exact keep _ HFe.out
                clear hK K
                try simp only [Act.put, List.setIfInBounds_toArray, List.set_cons_zero, List.set_cons_succ]
                refine wpAnyH_ready (rs := [14]) (by kernel_rfl) (by simp) ?_
                refine AllReadyH.cons (o := { dst := some 7, op := Op.assign (Operand.tmp 68), type := 106, pos := "ref.go:231", after := #[{ on := 13, ground := Ground.data }, { on := 13, ground := Ground.chain }, { on := 0, ground := Ground.phase }, { on := 1, ground := Ground.phase }, { on := 2, ground := Ground.phase }, { on := 3, ground := Ground.phase }, { on := 4, ground := Ground.phase }, { on := 5, ground := Ground.phase }, { on := 6, ground := Ground.phase }, { on := 7, ground := Ground.phase }, { on := 8, ground := Ground.phase }, { on := 9, ground := Ground.phase }, { on := 10, ground := Ground.phase }, { on := 11, ground := Ground.phase }, { on := 12, ground := Ground.phase }, { on := 13, ground := Ground.phase }], guard := none }) rfl (fun K hK => ?_) AllReadyH.nil
                go_simp
                refine hK.out _ _ ?_ (fun hHeld => ?_)
                · exact keep _ HFe.out
                clear hK K
                try simp only [Act.put, List.setIfInBounds_toArray, List.set_cons_zero, List.set_cons_succ]
                refine wpAnyH_done (by kernel_rfl) ?_ _
                clear HFa HOa HFb HOb HFd HXd
                have hXn : OwnXX we w5.heap.size (.slice ave (acc.length + Res.length) ace) (rfS st Y T n begun L (i + 1)) := by rw [HACC.out, ← List.length_append]; exact HXe.out
                have HXN := Lib.hid hXn
                clear hXn HXe
                go_wp2
                go_round
                case rel => exact ⟨i + 1, by omega, by go_num, HXN, HFe⟩
                case measure => simp [intOf]; omega
      · obtain rfl : L.length = i := by omega
        have HFF := Lib.hid (HFW5.out.trans HFX.out)
        have HXE : Hid (OwnXX wo w.heap.size u7 RR) := Lib.hid (by rw [HEND.out]; exact HX.out.base (RowKit.Below.size HFW5.out))
        go_wp2_with fail
        go_ret
        exact ⟨_, rfl, HXE.out, HFF.out⟩
end
section
theorem rfam_short (c m : Int) (S Y T : List Int) : ∀ (n : Nat) (F G : List (List Int)), (∀ w ∈ F, w.length ≤ 16) → G ∈ rfamF (stL c m S) Y T n F → (∀ w ∈ G, w.length ≤ 16) ∧ G.length = F.length + n
  | 0, F, G, hF, h => by
    obtain rfl : G = F := by simpa [rfamF] using h
    exact ⟨hF, rfl⟩
  | n + 1, F, G, hF, h => by
    unfold rfamF at h
    obtain ⟨x, h1, h2⟩ := List.mem_flatMap.1 h
    have hx := fyF_short c m S (nth Y F.length) T x (List.mem_filter.1 h1).1
    obtain ⟨h3, h4⟩ := rfam_short c m S Y T n (F ++ [x]) G (fun w hw => by
      rcases List.mem_append.1 hw with q | q
      · exact hF w q
      · obtain rfl : w = x := by simpa using q
        exact hx) h2
    exact ⟨h3, by rw [h4, List.length_append, List.length_singleton]; omega⟩
theorem fam_ref {r c : Int} {S Y T : List Int} (h : chkP r c S Y T = 0) : rfamF (stL c (r * c) S) Y T Y.length [] = famL c (r * c) S Y T := by
  have hg := chk_all h
  exact fam_eq (up_stL hg.side S) (asc_stL hg.side S) (side_m hg.side).2 Y T hg.td (fun y hy => ⟨(hg.y y hy).1, (hg.y y hy).2.1⟩) hg.len Y.length [] (by simp) (by simp) (by simp)
theorem src_owns {w : World} {B : Nat} {v : Value} {z : List Int} (h : Owns w B v z) : SrcL w v z.length (z.map (Value.int .i64)) := by
  have h1' := h
  rcases h.2 with ⟨rfl, h0⟩ | ⟨g, cap, cur, rfl, _⟩
  · exact .inl ⟨rfl, h0, by rw [List.length_eq_zero_iff.1 h0]; rfl⟩
  · exact .inr ⟨_, cap, rfl, by simp, World.ownsRow.cells h1' (g := g) rfl, fun x hx => by
      obtain ⟨y, _, rfl⟩ := List.mem_map.1 hx
      rfl⟩
theorem flat_le48 {G : List (List Int)} (h16 : ∀ k, k < G.length → (lth G k).length ≤ 16) : ∀ i, i ≤ G.length → (G.take i).flatten.length ≤ 16 * i
  | 0, _ => by simp
  | i + 1, h => by
    have h1 := flat_le48 h16 i (by omega)
    have h2 := h16 i (by omega)
    rw [flat_take _ _ (by omega), List.length_append]
    omega
set_option maxRecDepth 100000 in
set_option maxHeartbeats 4000000 in
theorem joined_any (G : List (List Int)) (gv : Value) (w : World) (hG : OwnX w 0 gv G) (hl : G.length ≤ 3) (h16 : ∀ k, k < G.length → (lth G k).length ≤ 16) :
    Calls Try.prog 84 #[gv] w fun e w' => ∃ v, e = .returned v ∧ Owns w' w.heap.size v G.flatten ∧ Fut w w' := by
  obtain ⟨i0, hi0, hz0, hz1, hz2⟩ := info_parts info3
  obtain ⟨ga, gc, rfl, _, _, _⟩ := hG.listsC
  have HG := Lib.hid hG
  have H48 := Lib.hid (flat_le48 h16)
  have H16 := Lib.hid h16
  have hlx : (G.length : Int) ≤ 3 := by omega
  clear hG h16
  go_enter Try.func84, Try.ntmps84
  go_wp2_with fail
  go_loopw [3, 4] (fun ov iv wr => ∃ (i : Nat) (ol : List Int) (oa : Option Addr) (oc : Nat), i ≤ G.length ∧ ov = .slice oa ol.length oc ∧ iv = .int .i64 i ∧ Hid (Owns wr w.heap.size (.slice oa ol.length oc) ol) ∧ Hid (ol = (G.take i).flatten) ∧ Hid (Fut w wr)) (fun _ iv _ => G.length - (intOf iv).toNat)
  case atStart => exact ⟨0, [], none, 0, Nat.zero_le _, rfl, rfl, Lib.hid (World.ownsRow_nil _ _ _ _), Lib.hid (by simp), Lib.hid Fut.rfl⟩
  case round =>
    obtain ⟨i, ol, oa, oc, hi, rfl, rfl, HO, HL, HF⟩ := hrel
    by_cases hil : i < G.length
    · have hix : (i : Int) < G.length := by omega
      obtain ⟨g, v, rfl, hg, c1, hv⟩ := HG.out.at i hil
      have c2 := (RowKit.Below.cell HF.out (p := ⟨g, i, none⟩) hg).trans c1
      have HSX := Lib.hid (src_owns (hv.fut HF.out))
      have HXL := Lib.hid (H16.out i hil)
      have HOL : Hid (ol.length ≤ 48) := Lib.hid (by have := H48.out i hi; rw [← HL.out] at this; omega)
      have HLN : Hid (ol ++ lth G i = (G.take (i + 1)).flatten) := Lib.hid (by rw [flat_take _ _ hil, HL.out])
      have HZ := Lib.hid (RowKit.Below.size HF.out)
      clear c1 hg hv
      generalize lth G i = x at *
      go_wp2_with (at_builtin; refine wpList_append_src rfl _ _ 22 rfl w.heap.size 3 i0 (.int .i64 0) 8 Try.underlying22 hi0 hz0 hz1 hz2 rfl (.slice oa ol.length oc) ol.length (ol.map (Value.int .i64)) rfl HO.out _ x.length (x.map (Value.int .i64)) rfl HSX.out (by have := HXL.out; have := HOL.out; unfold maxLen; omega) (by have := HXL.out; have := HOL.out; omega) HZ.out ?_)
      intro av ac w8 hown hgr
      have HO8 : Hid (Owns w8 w.heap.size (.slice av (ol ++ x).length ac) (ol ++ x)) := Lib.hid (by
        unfold Owns
        rw [List.length_append, List.map_append]
        exact hown)
      have HF8 : Hid (Fut w w8) := Lib.hid (RowKit.Below.grown HF.out hgr HZ.out fun q hq => (World.ownsRow.lt HO.out q hq).1)
      clear hown hgr c2
      go_wp2_with fail
      go_roundw
      case rel => first
        | exact ⟨i + 1, ol ++ x, av, ac, by omega, by rw [List.length_append], by go_num, HO8, HLN, HF8⟩
        | ((repeat apply Exists.intro); exact ⟨⟨i + 1, ol ++ x, av, ac, by omega, by rw [List.length_append], by go_num, HO8, HLN, HF8⟩, rfl⟩)
      case measure => simp [intOf]; omega
    · obtain rfl : G.length = i := by omega
      have HE : Hid (Owns wr w.heap.size (.slice oa ol.length oc) G.flatten) := Lib.hid (by
        have := HL.out
        rw [List.take_length] at this
        rw [← this]; exact HO.out)
      go_wp2_with fail
      go_ret
      exact ⟨_, rfl, HE.out, HF.out⟩
set_option maxRecDepth 100000 in
set_option maxHeartbeats 4000000 in
theorem rcount_any (r c : Int) (a : Option Addr) (cap : Nat) (S : List Int) (ya : Option Addr) (yc : Nat) (Y : List Int) (ta : Option Addr) (tc : Nat) (T : List Int) (w : World) (h : InPQ w a S ya yc Y ta tc T) :
    Calls Try.prog 26 #[parV r c a S.length cap, plaV ya Y.length yc ta T.length tc] w fun e w' => e = .returned (.tuple #[.int .i64 (cntN r c S Y T : Nat), .int .i64 (chkP r c S Y T)]) ∧ Fut w w' := by
  have hA : Fut w ((w.alloc (.cells #[.int .i64 r, .int .i64 c, .slice a S.length cap] 29)).alloc (.cells #[.slice ya Y.length yc, .slice ta T.length tc] 30)) := (Fut.alloc _ _).trans (Fut.alloc _ _)
  have hBP := (BoxR.new w r c a S.length cap).fut (Fut.alloc _ (.cells #[.slice ya Y.length yc, .slice ta T.length tc] 30))
  have hBQ := BoxT.new (w.alloc (.cells #[.int .i64 r, .int .i64 c, .slice a S.length cap] 29)) ya Y.length yc ta T.length tc
  rw [World.size_alloc] at hBQ
  have HCK := Lib.hid (fun W (F : Fut w W) => rchk_any r c a cap S ya yc Y ta tc T W (h.fut F))
  have HF1 := Lib.hid hA
  have HBP1 := Lib.hid hBP
  have HBQ1 := Lib.hid hBQ
  obtain ⟨_, p0, p1, p2⟩ := hBP
  obtain ⟨_, q0, q1⟩ := hBQ
  unfold cntN
  by_cases hc : chkP r c S Y T = 0
  · rw [if_pos hc]
    rw [hc] at HCK ⊢
    have hg := chk_all hc
    have HFA := Lib.hid (fun W (F : Fut w W) => fams_own r c a cap S ya yc Y ta tc T hg.side hg.y hg.three (by have := hg.len; have := hg.one; omega) (by have := hg.len; have := hg.three; omega) Y.length [] (.slice none 0 0) W (by simp) (fun k hk => absurd hk (by simp)) (OwnX.nil _ _) (h.fut F))
    rw [fam_ref hc] at HFA
    have HLL := Lib.hid (famL_le hc)
    generalize famL c (r * c) S Y T = LL at *
    clear hg h hA hc
    go_enter Try.func26, Try.ntmps26
    go_wp2_with fail
    refine (HCK.out _ HF1.out).mono ?_
    rintro _ w2 ⟨rfl, F⟩
    have HF2 := Lib.hid (HF1.out.trans F)
    have HBP2 := Lib.hid (HBP1.out.fut F)
    have HBQ2 := Lib.hid (HBQ1.out.fut F)
    clear p0 p1 p2 q0 q1 F
    obtain ⟨_, p0, p1, p2⟩ := HBP2.out
    obtain ⟨_, q0, q1⟩ := HBQ2.out
    go_wp2_with fail
    refine (HFA.out _ HF2.out).mono ?_
    rintro _ w3 ⟨v, rfl, hX, F⟩
    obtain ⟨la, lc, rfl, _, _⟩ := hX.form
    have HF3 := Lib.hid (HF2.out.trans F)
    clear hX F p0 p1 p2 q0 q1
    go_wp2_with fail
    go_ret2
    exact ⟨rfl, HF3.out⟩
  · rw [if_neg hc]
    generalize chkP r c S Y T = ck at *
    clear h hA
    have hcn : (ck != 0) = true := by simpa using hc
    have hcn2 : (ck == 0) = false := by simpa using hc
    go_enter Try.func26, Try.ntmps26
    go_wp2_with fail
    refine (HCK.out _ HF1.out).mono ?_
    rintro _ w2 ⟨rfl, F⟩
    have HF2 := Lib.hid (HF1.out.trans F)
    have HBP2 := Lib.hid (HBP1.out.fut F)
    have HBQ2 := Lib.hid (HBQ1.out.fut F)
    clear p0 p1 p2 q0 q1 F
    obtain ⟨_, p0, p1, p2⟩ := HBP2.out
    obtain ⟨_, q0, q1⟩ := HBQ2.out
    go_wp2_with fail
    go_ret2
    exact ⟨rfl, HF2.out⟩
set_option maxRecDepth 100000 in
set_option maxHeartbeats 4000000 in
theorem rfirst_any (r c : Int) (a : Option Addr) (cap : Nat) (S : List Int) (ya : Option Addr) (yc : Nat) (Y : List Int) (ta : Option Addr) (tc : Nat) (T : List Int) (w : World) (h : InPQ w a S ya yc Y ta tc T) :
    Calls Try.prog 28 #[parV r c a S.length cap, plaV ya Y.length yc ta T.length tc] w (TupLC (fstE r c S Y T) (fstL r c S Y T) w) := by
  have hA : Fut w ((w.alloc (.cells #[.int .i64 r, .int .i64 c, .slice a S.length cap] 29)).alloc (.cells #[.slice ya Y.length yc, .slice ta T.length tc] 30)) := (Fut.alloc _ _).trans (Fut.alloc _ _)
  have hBP := (BoxR.new w r c a S.length cap).fut (Fut.alloc _ (.cells #[.slice ya Y.length yc, .slice ta T.length tc] 30))
  have hBQ := BoxT.new (w.alloc (.cells #[.int .i64 r, .int .i64 c, .slice a S.length cap] 29)) ya Y.length yc ta T.length tc
  rw [World.size_alloc] at hBQ
  have HCK := Lib.hid (fun W (F : Fut w W) => rchk_any r c a cap S ya yc Y ta tc T W (h.fut F))
  have HF1 := Lib.hid hA
  have HBP1 := Lib.hid hBP
  have HBQ1 := Lib.hid hBQ
  obtain ⟨_, p0, p1, p2⟩ := hBP
  obtain ⟨_, q0, q1⟩ := hBQ
  unfold fstE fstL
  by_cases hc : chkP r c S Y T = 0
  · rw [if_pos hc, if_pos hc]
    rw [hc] at HCK
    have hg := chk_all hc
    have HFA := Lib.hid (fun W (F : Fut w W) => fams_own r c a cap S ya yc Y ta tc T hg.side hg.y hg.three (by have := hg.len; have := hg.one; omega) (by have := hg.len; have := hg.three; omega) Y.length [] (.slice none 0 0) W (by simp) (fun k hk => absurd hk (by simp)) (OwnX.nil _ _) (h.fut F))
    have HSH := Lib.hid (fun G (hG : G ∈ rfamF (stL c (r * c) S) Y T Y.length []) => rfam_short c (r * c) S Y T Y.length [] G (by simp) hG)
    rw [fam_ref hc] at HFA HSH
    have HLL := Lib.hid (famL_le hc)
    have HPW := Lib.hid (sendF_pw (asc_stL hg.side S) Y T Y.length [])
    rw [show sendF (stL c (r * c) S) Y T Y.length [] = famL c (r * c) S Y T from rfl] at HPW
    generalize famL c (r * c) S Y T = LL at *
    have HY3 := Lib.hid hg.three
    have HJ := Lib.hid (fun j (hj : j < LL.length) gv W (hO : OwnX W 0 gv (ltH LL j)) => by
      have hm : ltH LL j ∈ LL := by rw [ltH_eq, List.getElem?_eq_getElem hj]; exact List.getElem_mem hj
      obtain ⟨h1, h2⟩ := HSH.out _ hm
      exact joined_any (ltH LL j) gv W hO (by rw [h2]; have := HY3.out; simp; omega) (fun k hk => h1 _ (by rw [lth_eq, List.getElem?_eq_getElem hk]; exact List.getElem_mem hk)))
    have HJL := Lib.hid (fun j (hj : j < LL.length) => show (ltH LL j).flatten.length ≤ 1000 by
      have hm : ltH LL j ∈ LL := by rw [ltH_eq, List.getElem?_eq_getElem hj]; exact List.getElem_mem hj
      obtain ⟨h1, h2⟩ := HSH.out _ hm
      have h3 := flat_le48 (G := ltH LL j) (fun k hk => h1 _ (by rw [lth_eq, List.getElem?_eq_getElem hk]; exact List.getElem_mem hk)) _ (Nat.le_refl _)
      rw [List.take_length] at h3
      have := HY3.out
      simp at h2
      omega)
    have HLS := Lib.hid (fun j (h0 : 0 < j) (hj : j < LL.length) => show lsB (ltH LL j).flatten (ltH LL 0).flatten = false by
      have h1 := List.pairwise_iff_getElem.1 HPW.out 0 j (by omega) hj h0
      have e0 : ltH LL 0 = LL[0] := by rw [ltH_eq, List.getElem?_eq_getElem (by omega)]; rfl
      have e1 : ltH LL j = LL[j] := by rw [ltH_eq, List.getElem?_eq_getElem hj]; rfl
      rw [e0, e1]
      exact lsB_asym _ _ h1)
    clear hg h hA hc HSH HPW HY3
    by_cases hl0 : LL = []
    · subst hl0
      clear HJ HJL HLS HLL
      go_enter Try.func28, Try.ntmps28
      go_wp2_with fail
      refine (HCK.out _ HF1.out).mono ?_
      rintro _ w2 ⟨rfl, F⟩
      have HF2 := Lib.hid (HF1.out.trans F)
      have HBP2 := Lib.hid (HBP1.out.fut F)
      have HBQ2 := Lib.hid (HBQ1.out.fut F)
      clear p0 p1 p2 q0 q1 F
      obtain ⟨_, p0, p1, p2⟩ := HBP2.out
      obtain ⟨_, q0, q1⟩ := HBQ2.out
      go_wp2_with fail
      refine (HFA.out _ HF2.out).mono ?_
      rintro _ w3 ⟨v, rfl, hX, F⟩
      obtain ⟨la, lc, rfl, _, _⟩ := hX.form
      have HF3 := Lib.hid (HF2.out.trans F)
      have HX := Lib.hid hX
      clear hX F p0 p1 p2 q0 q1
      go_wp2_with fail
      go_ret2
      exact TupLC.nil 12 HF3.out
    · rw [if_neg hl0]
      have hlp : 0 < LL.length := List.length_pos_iff.2 hl0
      rw [show LL.head?.getD [] = ltH LL 0 by rw [ltH_eq, List.head?_eq_getElem?]]
      go_enter Try.func28, Try.ntmps28
      go_wp2_with fail
      refine (HCK.out _ HF1.out).mono ?_
      rintro _ w2 ⟨rfl, F⟩
      have HF2 := Lib.hid (HF1.out.trans F)
      have HBP2 := Lib.hid (HBP1.out.fut F)
      have HBQ2 := Lib.hid (HBQ1.out.fut F)
      clear p0 p1 p2 q0 q1 F
      obtain ⟨_, p0, p1, p2⟩ := HBP2.out
      obtain ⟨_, q0, q1⟩ := HBQ2.out
      go_wp2_with fail
      refine (HFA.out _ HF2.out).mono ?_
      rintro _ w3 ⟨v, rfl, hX, F⟩
      obtain ⟨la, lc, rfl, _, _⟩ := hX.form
      have HF3 := Lib.hid (HF2.out.trans F)
      have HX := Lib.hid hX
      clear hX F p0 p1 p2 q0 q1
      have hlx0 : ((LL.length : Int) == 0) = false := by rw [beq_eq_false_iff_ne]; omega
      have hlx1 : (0 : Int) < LL.length := by omega
      have hlx2 : (LL.length : Int) ≤ 281474976710656 := by have := HLL.out; omega
      obtain ⟨g, v0, rfl, hg, cg, hO0⟩ := HX.out.at 0 hlp
      have HO0 := Lib.hid hO0
      clear hO0
      go_wp2_with fail
      clear cg
      go_loopw [8, 9] (fun bv iv wr => ∃ i : Nat, 1 ≤ i ∧ (i ≤ LL.length ∨ i = 1) ∧ bv = v0 ∧ iv = .int .i64 i ∧ Hid (Fut w3 wr)) (fun _ iv _ => LL.length - (intOf iv).toNat)
      case atStart => exact ⟨1, Nat.le_refl _, .inr rfl, rfl, rfl, Lib.hid Fut.rfl⟩
      case round =>
        obtain ⟨i, hi1, hi2, rfl, rfl, HFi⟩ := hrel
        by_cases hil : i < LL.length
        · have hix : (i : Int) < LL.length := by omega
          obtain ⟨g', vi, e, hgi, ci, hOi⟩ := HX.out.at i hil
          simp only [Option.some.injEq, Addr.mk.injEq, and_true] at e
          subst e
          have c1 := (RowKit.Below.cell HFi.out (p := ⟨g, i, none⟩) hgi).trans ci
          have HJ1 := Lib.hid (HJ.out i hil vi wr (hOi.fut HFi.out))
          have HJ0 := Lib.hid (fun W (F : Fut w3 W) => HJ.out 0 hlp u8 W (HO0.out.fut F))
          have HLI := Lib.hid (HLS.out i hi1 hil)
          have HL1 := Lib.hid (HJL.out i hil)
          have HL0 := Lib.hid (HJL.out 0 hlp)
          clear ci hgi hOi
          generalize (ltH LL i).flatten = xi at *
          generalize hx0 : (ltH LL 0).flatten = x0 at *
          go_wp2_with fail
          refine HJ1.out.mono ?_
          rintro _ w4 ⟨j1, rfl, hj1, F4⟩
          obtain ⟨ja, jc, rfl, hI1⟩ := hj1.ints
          have HI1 := Lib.hid hI1
          have HF4 := Lib.hid (HFi.out.trans F4)
          clear hj1 hI1 F4 c1
          go_wp2_with fail
          refine (HJ0.out _ HF4.out).mono ?_
          rintro _ w5 ⟨j0, rfl, hj0, F5⟩
          obtain ⟨ka, kc, rfl, hI0⟩ := hj0.ints
          have HI0 := Lib.hid hI0
          have HI1b := Lib.hid (HI1.out.fut F5)
          have HF5 := Lib.hid (HF4.out.trans F5)
          clear hj0 hI0 F5
          go_wp2_with fail
          refine (less_any ja ka jc kc xi x0 w5 HI1b.out HI0.out HL1.out HL0.out).mono ?_
          rintro _ w6 ⟨rfl, F6⟩
          rw [HLI.out]
          have HF6 := Lib.hid (HF5.out.trans F6)
          clear F6
          go_wp2_with fail
          go_roundw
          case rel => first
            | exact ⟨i + 1, by omega, by omega, rfl, by go_num, HF6⟩
            | ((repeat apply Exists.intro); exact ⟨⟨i + 1, by omega, by omega, rfl, by go_num, HF6⟩, rfl⟩)
          case measure => simp [intOf]; omega
        · have hix : ¬ (i : Int) < LL.length := by omega
          obtain ⟨l0, lc0, rfl, hb1, hb2, hLC⟩ := (HO0.out.fut HFi.out).listsC
          have HLC := Lib.hid hLC
          clear hLC
          go_wp2_with fail
          go_ret2
          exact ⟨l0, lc0, rfl, hb1, hb2, HLC.out, HF3.out.trans HFi.out⟩
  · rw [if_neg hc, if_neg hc]
    generalize chkP r c S Y T = ck at *
    clear h hA
    have hcn : (ck != 0) = true := by simpa using hc
    have hcn2 : (ck == 0) = false := by simpa using hc
    go_enter Try.func28, Try.ntmps28
    go_wp2_with fail
    refine (HCK.out _ HF1.out).mono ?_
    rintro _ w2 ⟨rfl, F⟩
    have HF2 := Lib.hid (HF1.out.trans F)
    have HBP2 := Lib.hid (HBP1.out.fut F)
    have HBQ2 := Lib.hid (HBQ1.out.fut F)
    clear p0 p1 p2 q0 q1 F
    obtain ⟨_, p0, p1, p2⟩ := HBP2.out
    obtain ⟨_, q0, q1⟩ := HBQ2.out
    go_wp2_with fail
    go_ret2
    exact TupLC.nil ck HF2.out
end
end Go.Proofs.Ytflllkamdihfaaa
