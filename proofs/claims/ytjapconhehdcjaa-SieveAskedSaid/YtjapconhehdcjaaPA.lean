/- pure: trees, best trees, lists by number -/
namespace Go.Proofs.Ytjapconhehdcjaa
namespace Sv
inductive Tr where
  | leaf : Tr
  | node : Tr → Tr → Tr
deriving DecidableEq
namespace Tr
def size : Tr → Nat
  | leaf => 1
  | node l r => l.size + r.size
/-- the list of a tree whose first kind is a. -/
def lst : Nat → Tr → List Int
  | _, leaf => []
  | a, node l r => ((a + l.size - 1 : Nat) : Int) :: (lst a l ++ lst (a + l.size) r)
def dep : Tr → List Nat
  | leaf => [0]
  | node l r => (dep l ++ dep r).map (· + 1)
end Tr
theorem size_pos : ∀ t : Tr, 1 ≤ t.size
  | .leaf => Nat.le_refl _
  | .node l r => by have := size_pos l; rw [Tr.size]; omega
theorem lst_len : ∀ (a : Nat) (t : Tr), (t.lst a).length + 1 = t.size
  | _, .leaf => rfl
  | a, .node l r => by
    have h1 := lst_len a l
    have h2 := lst_len (a + l.size) r
    rw [Tr.lst, List.length_cons, List.length_append, Tr.size]; omega
theorem dep_len : ∀ t : Tr, t.dep.length = t.size
  | .leaf => rfl
  | .node l r => by rw [Tr.dep, List.length_map, List.length_append, dep_len l, dep_len r, Tr.size]
/-- all trees of n + 1 kinds, in the order of their lists. -/
def allT : Nat → Nat → List Tr
  | 0, _ => []
  | _ + 1, 0 => [.leaf]
  | f + 1, n + 1 => (List.range (n + 1)).flatMap fun i => (allT f i).flatMap fun l => (allT f (n - i)).map fun r => .node l r
def trs (n : Nat) : List Tr := allT (n + 1) n
theorem flatMap_congr' {α β : Type} {l : List α} {f g : α → List β} (h : ∀ a ∈ l, f a = g a) : l.flatMap f = l.flatMap g := by
  induction l with
  | nil => rfl
  | cons a l ih => rw [List.flatMap_cons, List.flatMap_cons, h a (by simp), ih fun b hb => h b (by simp [hb])]
theorem allT_fuel : ∀ (f f' n : Nat), n < f → n < f' → allT f n = allT f' n
  | 0, _, _, h, _ => by omega
  | _, 0, _, _, h => by omega
  | f + 1, f' + 1, 0, _, _ => rfl
  | f + 1, f' + 1, n + 1, h, h' => by
    rw [allT, allT]
    refine flatMap_congr' fun i hi => ?_
    rw [List.mem_range] at hi
    rw [allT_fuel f f' i (by omega) (by omega), allT_fuel f f' (n - i) (by omega) (by omega)]
theorem trs_zero : trs 0 = [.leaf] := rfl
theorem trs_succ (n : Nat) : trs (n + 1) = (List.range (n + 1)).flatMap fun i => (trs i).flatMap fun l => (trs (n - i)).map fun r => .node l r := by
  unfold trs
  rw [allT]
  refine flatMap_congr' fun i hi => ?_
  rw [List.mem_range] at hi
  rw [allT_fuel (n + 1) (i + 1) i (by omega) (by omega), allT_fuel (n + 1) (n - i + 1) (n - i) (by omega) (by omega)]
theorem mem_trs (n : Nat) : ∀ t : Tr, t ∈ trs n ↔ t.size = n + 1 := by
  induction n using Nat.strongRecOn with
  | ind n ih =>
    intro t
    cases n with
    | zero =>
      rw [trs_zero, List.mem_singleton]
      constructor
      · rintro rfl; rfl
      · intro h
        cases t with
        | leaf => rfl
        | node l r => have := size_pos l; have := size_pos r; rw [Tr.size] at h; omega
    | succ n =>
      rw [trs_succ, List.mem_flatMap]
      constructor
      · rintro ⟨i, hi, h⟩
        obtain ⟨l, hl, h⟩ := List.mem_flatMap.1 h
        obtain ⟨r, hr, rfl⟩ := List.mem_map.1 h
        rw [List.mem_range] at hi
        rw [Tr.size, (ih i (by omega) l).1 hl, (ih (n - i) (by omega) r).1 hr]; omega
      · intro h
        cases t with
        | leaf => rw [Tr.size] at h; omega
        | node l r =>
          have h1 := size_pos l
          have h2 := size_pos r
          rw [Tr.size] at h
          exact ⟨l.size - 1, List.mem_range.2 (by omega), List.mem_flatMap.2 ⟨l, (ih (l.size - 1) (by omega) l).2 (by omega), List.mem_map.2 ⟨r, (ih (n - (l.size - 1)) (by omega) r).2 (by omega), rfl⟩⟩⟩
/-- questions of a tree whose first kind is a, where sm a m is the sum of the loads of a to a + m. -/
def cst (sm : Nat → Nat → Nat) : Nat → Tr → Nat
  | _, .leaf => 0
  | a, .node l r => sm a (l.size + r.size - 1) + cst sm a l + cst sm (a + l.size) r
/-- the least of some numbers; 0 of none. -/
def minL : List Nat → Nat
  | [] => 0
  | [x] => x
  | x :: y :: l => min x (minL (y :: l))
theorem minL_le : ∀ {l : List Nat} {x : Nat}, x ∈ l → minL l ≤ x
  | [y], x, h => by rw [List.mem_singleton.1 h]; exact Nat.le_refl _
  | y :: z :: l, x, h => by
    rw [minL]
    rcases List.mem_cons.1 h with rfl | h
    · omega
    · have := minL_le (l := z :: l) h; omega
theorem minL_mem : ∀ {l : List Nat}, l ≠ [] → minL l ∈ l
  | [y], _ => by simp [minL]
  | y :: z :: l, _ => by
    rw [minL]
    have := minL_mem (l := z :: l) (by simp)
    rcases Nat.le_total y (minL (z :: l)) with h | h
    · rw [Nat.min_eq_left h]; simp
    · rw [Nat.min_eq_right h]; exact List.mem_cons_of_mem _ this
/-- the least questions of a to a + m. -/
def bqF (sm : Nat → Nat → Nat) : Nat → Nat → Nat → Nat
  | 0, _, _ => 0
  | _ + 1, _, 0 => 0
  | f + 1, a, m + 1 => minL ((List.range (m + 1)).map fun i => sm a (m + 1) + bqF sm f a i + bqF sm f (a + i + 1) (m - i))
def bq (sm : Nat → Nat → Nat) (a m : Nat) : Nat := bqF sm (m + 1) a m
theorem bqF_fuel (sm : Nat → Nat → Nat) : ∀ (f f' a m : Nat), m < f → m < f' → bqF sm f a m = bqF sm f' a m
  | 0, _, _, _, h, _ => by omega
  | _, 0, _, _, _, h => by omega
  | f + 1, f' + 1, a, 0, _, _ => rfl
  | f + 1, f' + 1, a, m + 1, h, h' => by
    rw [bqF, bqF]
    congr 1
    refine List.map_congr_left fun i hi => ?_
    rw [List.mem_range] at hi
    rw [bqF_fuel sm f f' a i (by omega) (by omega), bqF_fuel sm f f' (a + i + 1) (m - i) (by omega) (by omega)]
theorem bq_zero (sm : Nat → Nat → Nat) (a : Nat) : bq sm a 0 = 0 := rfl
/-- the questions with a top. -/
def bqT (sm : Nat → Nat → Nat) (a m i : Nat) : Nat := sm a (m + 1) + bq sm a i + bq sm (a + i + 1) (m - i)
theorem bq_succ (sm : Nat → Nat → Nat) (a m : Nat) : bq sm a (m + 1) = minL ((List.range (m + 1)).map (bqT sm a m)) := by
  unfold bq
  rw [bqF]
  congr 1
  refine List.map_congr_left fun i hi => ?_
  rw [List.mem_range] at hi
  unfold bqT bq
  rw [bqF_fuel sm (m + 1) (i + 1) a i (by omega) (by omega), bqF_fuel sm (m + 1) (m - i + 1) (a + i + 1) (m - i) (by omega) (by omega)]
/-- the best tops: those of a to a + m + 1. -/
def topB (sm : Nat → Nat → Nat) (a m : Nat) : List Nat := (List.range (m + 1)).filter fun i => bqT sm a m i == bq sm a (m + 1)
theorem bq_le (sm : Nat → Nat → Nat) : ∀ (m a : Nat) (t : Tr), t.size = m + 1 → bq sm a m ≤ cst sm a t := by
  intro m
  induction m using Nat.strongRecOn with
  | ind m ih =>
    intro a t ht
    cases t with
    | leaf => have : m = 0 := by rw [Tr.size] at ht; omega
              subst this; rw [bq_zero]; exact Nat.zero_le _
    | node l r =>
      have h1 := size_pos l
      have h2 := size_pos r
      rw [Tr.size] at ht
      obtain ⟨m, rfl⟩ : ∃ k, m = k + 1 := ⟨m - 1, by omega⟩
      rw [bq_succ, cst]
      have h3 := ih (l.size - 1) (by omega) a l (by omega)
      have h4 := ih (r.size - 1) (by omega) (a + l.size) r (by omega)
      have h5 := minL_le (l := (List.range (m + 1)).map (bqT sm a m)) (List.mem_map.2 ⟨l.size - 1, List.mem_range.2 (by omega), rfl⟩)
      refine Nat.le_trans h5 ?_
      unfold bqT
      rw [show l.size + r.size - 1 = m + 1 by omega, show a + (l.size - 1) + 1 = a + l.size by omega, show m - (l.size - 1) = r.size - 1 by omega]
      omega
/-- the best trees. -/
def bestF (sm : Nat → Nat → Nat) : Nat → Nat → Nat → List Tr
  | 0, _, _ => []
  | _ + 1, _, 0 => [.leaf]
  | f + 1, a, m + 1 => (topB sm a m).flatMap fun i => (bestF sm f a i).flatMap fun l => (bestF sm f (a + i + 1) (m - i)).map fun r => .node l r
def bestT (sm : Nat → Nat → Nat) (a m : Nat) : List Tr := bestF sm (m + 1) a m
theorem topB_lt {sm : Nat → Nat → Nat} {a m i : Nat} (h : i ∈ topB sm a m) : i < m + 1 := List.mem_range.1 (List.mem_filter.1 h).1
theorem bestF_fuel (sm : Nat → Nat → Nat) : ∀ (f f' a m : Nat), m < f → m < f' → bestF sm f a m = bestF sm f' a m
  | 0, _, _, _, h, _ => by omega
  | _, 0, _, _, _, h => by omega
  | f + 1, f' + 1, a, 0, _, _ => rfl
  | f + 1, f' + 1, a, m + 1, h, h' => by
    rw [bestF, bestF]
    refine flatMap_congr' fun i hi => ?_
    have := topB_lt hi
    rw [bestF_fuel sm f f' a i (by omega) (by omega), bestF_fuel sm f f' (a + i + 1) (m - i) (by omega) (by omega)]
theorem bestT_zero (sm : Nat → Nat → Nat) (a : Nat) : bestT sm a 0 = [.leaf] := rfl
theorem bestT_succ (sm : Nat → Nat → Nat) (a m : Nat) : bestT sm a (m + 1) = (topB sm a m).flatMap fun i => (bestT sm a i).flatMap fun l => (bestT sm (a + i + 1) (m - i)).map fun r => .node l r := by
  unfold bestT
  rw [bestF]
  refine flatMap_congr' fun i hi => ?_
  have := topB_lt hi
  rw [bestF_fuel sm (m + 1) (i + 1) a i (by omega) (by omega), bestF_fuel sm (m + 1) (m - i + 1) (a + i + 1) (m - i) (by omega) (by omega)]
theorem filter_flat {α β : Type} (p : β → Bool) (g : α → List β) : ∀ l : List α, (l.flatMap g).filter p = l.flatMap fun a => (g a).filter p
  | [] => rfl
  | a :: l => by rw [List.flatMap_cons, List.filter_append, filter_flat p g l, List.flatMap_cons]
theorem flat_filter {α β : Type} (p : α → Bool) (g g' : α → List β) : ∀ l : List α, (∀ a ∈ l, p a = true → g a = g' a) → (∀ a ∈ l, p a = false → g a = []) → l.flatMap g = (l.filter p).flatMap g'
  | [], _, _ => rfl
  | a :: l, h1, h2 => by
    have ih := flat_filter p g g' l (fun b hb => h1 b (by simp [hb])) (fun b hb => h2 b (by simp [hb]))
    rw [List.flatMap_cons, ih, List.filter_cons]
    cases hp : p a
    · rw [h2 a (by simp) hp]; simp
    · rw [h1 a (by simp) hp]; simp
/-- the best trees are those of all trees that have the least questions, in their order. -/
theorem best_all (sm : Nat → Nat → Nat) : ∀ (m a : Nat), (trs m).filter (fun t => cst sm a t == bq sm a m) = bestT sm a m := by
  intro m
  induction m using Nat.strongRecOn with
  | ind m ih =>
    intro a
    cases m with
    | zero => rw [trs_zero, bestT_zero]; rfl
    | succ m =>
      rw [trs_succ, bestT_succ, filter_flat]
      unfold topB
      have key : ∀ i, i < m + 1 → ∀ l ∈ trs i, ∀ r ∈ trs (m - i), cst sm a (.node l r) = sm a (m + 1) + cst sm a l + cst sm (a + i + 1) r ∧ bq sm a i ≤ cst sm a l ∧ bq sm (a + i + 1) (m - i) ≤ cst sm (a + i + 1) r := fun i hi l hl r hr => by
        have h1 := (mem_trs _ _).1 hl
        have h2 := (mem_trs _ _).1 hr
        refine ⟨?_, bq_le sm i a l h1, bq_le sm (m - i) _ r h2⟩
        rw [cst, h1, h2, show i + 1 + (m - i + 1) - 1 = m + 1 by omega, show a + (i + 1) = a + i + 1 by omega]
      refine flat_filter _ _ _ _ (fun i hi hp => ?_) (fun i hi hp => ?_)
      · rw [List.mem_range] at hi
        rw [beq_iff_eq] at hp
        unfold bqT at hp
        rw [filter_flat, ← ih i (by omega) a, ← ih (m - i) (by omega) (a + i + 1)]
        refine flat_filter _ _ _ _ (fun l hl hq => ?_) (fun l hl hq => ?_)
        · rw [List.filter_map]
          congr 1
          refine List.filter_congr fun r hr => ?_
          obtain ⟨k1, k2, k3⟩ := key i hi l hl r hr
          rw [beq_iff_eq] at hq
          rw [Function.comp, k1, ← hp, Bool.eq_iff_iff, beq_iff_eq, beq_iff_eq]; omega
        · rw [List.filter_eq_nil_iff]
          intro t ht
          obtain ⟨r, hr, rfl⟩ := List.mem_map.1 ht
          obtain ⟨k1, k2, k3⟩ := key i hi l hl r hr
          rw [beq_eq_false_iff_ne] at hq
          rw [k1, beq_iff_eq]; omega
      · rw [List.mem_range] at hi
        have h5 := minL_le (l := (List.range (m + 1)).map (bqT sm a m)) (List.mem_map.2 ⟨i, List.mem_range.2 hi, rfl⟩)
        rw [← bq_succ] at h5
        rw [beq_eq_false_iff_ne] at hp
        unfold bqT at hp h5
        rw [List.filter_eq_nil_iff]
        intro t ht
        obtain ⟨l, hl, ht⟩ := List.mem_flatMap.1 ht
        obtain ⟨r, hr, rfl⟩ := List.mem_map.1 ht
        obtain ⟨k1, k2, k3⟩ := key i hi l hl r hr
        rw [k1, beq_iff_eq]; omega
theorem topB_ne (sm : Nat → Nat → Nat) (a m : Nat) : topB sm a m ≠ [] := by
  have h := minL_mem (l := (List.range (m + 1)).map (bqT sm a m)) (by simp)
  obtain ⟨i, hi, e⟩ := List.mem_map.1 h
  intro hn
  have : i ∈ topB sm a m := List.mem_filter.2 ⟨hi, by rw [bq_succ, beq_iff_eq]; exact e⟩
  rw [hn] at this; cases this
theorem best_ne (sm : Nat → Nat → Nat) : ∀ (m a : Nat), bestT sm a m ≠ [] := by
  intro m
  induction m using Nat.strongRecOn with
  | ind m ih =>
    intro a
    cases m with
    | zero => simp [bestT_zero]
    | succ m =>
      rw [bestT_succ]
      obtain ⟨i, l, e⟩ := List.exists_cons_of_ne_nil (topB_ne sm a m)
      have hi : i < m + 1 := topB_lt (by rw [e]; simp)
      obtain ⟨x, xs, ex⟩ := List.exists_cons_of_ne_nil (ih i (by omega) a)
      obtain ⟨y, ys, ey⟩ := List.exists_cons_of_ne_nil (ih (m - i) (by omega) (a + i + 1))
      rw [e, List.flatMap_cons, ex, List.flatMap_cons, ey]
      simp
theorem sum_constN {α : Type} (b : Nat) : ∀ l : List α, (l.map fun _ => b).sum = l.length * b
  | [] => by simp
  | _ :: l => by rw [List.map_cons, List.sum_cons, sum_constN b l, List.length_cons, Nat.succ_mul]; omega
/-- how many best trees there are. -/
theorem best_many (sm : Nat → Nat → Nat) (a m : Nat) : (bestT sm a (m + 1)).length = ((topB sm a m).map fun i => (bestT sm a i).length * (bestT sm (a + i + 1) (m - i)).length).sum := by
  rw [bestT_succ, List.length_flatMap]
  congr 1
  refine List.map_congr_left fun i _ => ?_
  rw [List.length_flatMap]
  simp only [List.length_map]
  exact sum_constN _ _
end Sv
namespace Sv
/-- the trees of which each span has one of its tops at the top. -/
def gF (tp : Nat → Nat → List Nat) : Nat → Nat → Nat → List Tr
  | 0, _, _ => []
  | _ + 1, _, 0 => [.leaf]
  | f + 1, a, m + 1 => (tp a m).flatMap fun i => (gF tp f a i).flatMap fun l => (gF tp f (a + i + 1) (m - i)).map fun r => .node l r
def gT (tp : Nat → Nat → List Nat) (a m : Nat) : List Tr := gF tp (m + 1) a m
def TpOk (tp : Nat → Nat → List Nat) : Prop := ∀ a m i, i ∈ tp a m → i < m + 1
theorem gF_fuel {tp : Nat → Nat → List Nat} (ht : TpOk tp) : ∀ (f f' a m : Nat), m < f → m < f' → gF tp f a m = gF tp f' a m
  | 0, _, _, _, h, _ => by omega
  | _, 0, _, _, _, h => by omega
  | f + 1, f' + 1, a, 0, _, _ => rfl
  | f + 1, f' + 1, a, m + 1, h, h' => by
    rw [gF, gF]
    refine flatMap_congr' fun i hi => ?_
    have := ht a m i hi
    rw [gF_fuel ht f f' a i (by omega) (by omega), gF_fuel ht f f' (a + i + 1) (m - i) (by omega) (by omega)]
theorem gT_zero (tp : Nat → Nat → List Nat) (a : Nat) : gT tp a 0 = [.leaf] := rfl
theorem gT_succ {tp : Nat → Nat → List Nat} (ht : TpOk tp) (a m : Nat) : gT tp a (m + 1) = (tp a m).flatMap fun i => (gT tp a i).flatMap fun l => (gT tp (a + i + 1) (m - i)).map fun r => .node l r := by
  unfold gT
  rw [gF]
  refine flatMap_congr' fun i hi => ?_
  have := ht a m i hi
  rw [gF_fuel ht (m + 1) (i + 1) a i (by omega) (by omega), gF_fuel ht (m + 1) (m - i + 1) (a + i + 1) (m - i) (by omega) (by omega)]
def gN (tp : Nat → Nat → List Nat) (a m : Nat) : Nat := (gT tp a m).length
theorem gN_succ {tp : Nat → Nat → List Nat} (ht : TpOk tp) (a m : Nat) : gN tp a (m + 1) = ((tp a m).map fun i => gN tp a i * gN tp (a + i + 1) (m - i)).sum := by
  unfold gN
  rw [gT_succ ht, List.length_flatMap]
  congr 1
  refine List.map_congr_left fun i _ => ?_
  rw [List.length_flatMap]
  simp only [List.length_map]
  exact sum_constN _ _
theorem bestF_g (sm : Nat → Nat → Nat) : ∀ (f a m : Nat), bestF sm f a m = gF (topB sm) f a m
  | 0, _, _ => rfl
  | _ + 1, _, 0 => rfl
  | f + 1, a, m + 1 => by
    rw [bestF, gF]
    refine flatMap_congr' fun i _ => ?_
    rw [bestF_g sm f a i, bestF_g sm f (a + i + 1) (m - i)]
theorem bestT_g (sm : Nat → Nat → Nat) (a m : Nat) : bestT sm a m = gT (topB sm) a m := bestF_g sm _ _ _
theorem topB_ok (sm : Nat → Nat → Nat) : TpOk (topB sm) := fun _ _ _ h => topB_lt h
def tpAll (_ m : Nat) : List Nat := List.range (m + 1)
theorem tpAll_ok : TpOk tpAll := fun _ _ _ h => List.mem_range.1 h
theorem trs_g (m : Nat) : ∀ a, gT tpAll a m = trs m := by
  induction m using Nat.strongRecOn with
  | ind m ih =>
    intro a
    cases m with
    | zero => rfl
    | succ m =>
      rw [gT_succ tpAll_ok, trs_succ]
      refine flatMap_congr' fun i hi => ?_
      have := tpAll_ok a m i hi
      rw [ih i (by omega), ih (m - i) (by omega)]
/-- the list of the tree with a number, as the program finds it. -/
def goN (tp : Nat → Nat → List Nat) (k : Nat → Nat → Nat → List Int) (a m : Nat) : List Nat → Nat → List Int
  | [], _ => []
  | i :: is, q => if q < gN tp a i * gN tp (a + i + 1) (m - i) then ((a + i : Nat) : Int) :: (k a i (q / gN tp (a + i + 1) (m - i)) ++ k (a + i + 1) (m - i) (q % gN tp (a + i + 1) (m - i))) else goN tp k a m is (q - gN tp a i * gN tp (a + i + 1) (m - i))
def lsN (tp : Nat → Nat → List Nat) : Nat → Nat → Nat → Nat → List Int
  | 0, _, _, _ => []
  | _ + 1, _, 0, _ => []
  | f + 1, a, m + 1, q => goN tp (lsN tp f) a m (tp a m) q
theorem get_pair {α β γ : Type} (h : α → β → γ) (R : List β) : ∀ (L : List α) (q : Nat), q < L.length * R.length → ∃ l r, L[q / R.length]? = some l ∧ R[q % R.length]? = some r ∧ (L.flatMap fun l => R.map fun r => h l r)[q]? = some (h l r)
  | [], q, hq => by simp at hq
  | x :: L, q, hq => by
    have hR : 0 < R.length := by
      rcases Nat.eq_zero_or_pos R.length with e | e
      · rw [e] at hq; simp at hq
      · exact e
    rw [List.flatMap_cons]
    by_cases hlt : q < R.length
    · refine ⟨x, R[q], ?_, ?_, ?_⟩
      · rw [Nat.div_eq_of_lt hlt]; rfl
      · rw [Nat.mod_eq_of_lt hlt, List.getElem?_eq_getElem hlt]
      · rw [List.getElem?_append_left (by rw [List.length_map]; exact hlt), List.getElem?_map, List.getElem?_eq_getElem hlt]; rfl
    · rw [List.length_cons, Nat.succ_mul] at hq
      obtain ⟨l, r, h1, h2, h3⟩ := get_pair h R L (q - R.length) (by omega)
      have e1 : q / R.length = (q - R.length) / R.length + 1 := by rw [← Nat.add_div_right _ hR]; congr 1; omega
      have e2 : q % R.length = (q - R.length) % R.length := by rw [← Nat.add_mod_right (q - R.length)]; congr 1; omega
      refine ⟨l, r, ?_, ?_, ?_⟩
      · rw [e1, List.getElem?_cons_succ]; exact h1
      · rw [e2]; exact h2
      · rw [List.getElem?_append_right (by rw [List.length_map]; omega), List.length_map]; exact h3
theorem gT_size {tp : Nat → Nat → List Nat} (ht : TpOk tp) (m : Nat) : ∀ a, ∀ t ∈ gT tp a m, t.size = m + 1 := by
  induction m using Nat.strongRecOn with
  | ind m ih =>
    intro a t h
    cases m with
    | zero => rw [gT_zero, List.mem_singleton] at h; rw [h]; rfl
    | succ m =>
      rw [gT_succ ht] at h
      obtain ⟨i, hi, h⟩ := List.mem_flatMap.1 h
      obtain ⟨l, hl, h⟩ := List.mem_flatMap.1 h
      obtain ⟨r, hr, rfl⟩ := List.mem_map.1 h
      have := ht a m i hi
      rw [Tr.size, ih i (by omega) a l hl, ih (m - i) (by omega) _ r hr]; omega
/-- the program finds the tree with a number. -/
theorem lsN_get {tp : Nat → Nat → List Nat} (ht : TpOk tp) : ∀ (f a m q : Nat), m < f → q < gN tp a m → ∃ t, (gT tp a m)[q]? = some t ∧ lsN tp f a m q = t.lst a
  | 0, _, _, _, h, _ => by omega
  | f + 1, a, 0, q, _, hq => by
    have : q = 0 := by unfold gN at hq; rw [gT_zero] at hq; simpa using hq
    subst this
    exact ⟨.leaf, rfl, rfl⟩
  | f + 1, a, m + 1, q, hf, hq => by
    rw [lsN, gT_succ ht]
    unfold gN at hq
    rw [gT_succ ht] at hq
    have : ∀ (is : List Nat), (∀ i ∈ is, i < m + 1) → ∀ q, q < (is.flatMap fun i => (gT tp a i).flatMap fun l => (gT tp (a + i + 1) (m - i)).map fun r => Tr.node l r).length → ∃ t, (is.flatMap fun i => (gT tp a i).flatMap fun l => (gT tp (a + i + 1) (m - i)).map fun r => Tr.node l r)[q]? = some t ∧ goN tp (lsN tp f) a m is q = t.lst a := fun is => by
      induction is with
      | nil => intro _ q hq; simp at hq
      | cons i is ih =>
        intro hi q hq
        have hi0 := hi i (by simp)
        have hlen : ((gT tp a i).flatMap fun l => (gT tp (a + i + 1) (m - i)).map fun r => Tr.node l r).length = gN tp a i * gN tp (a + i + 1) (m - i) := by
          rw [List.length_flatMap]; simp only [List.length_map]; exact sum_constN _ _
        rw [List.flatMap_cons] at hq ⊢
        rw [goN]
        by_cases hlt : q < gN tp a i * gN tp (a + i + 1) (m - i)
        · rw [if_pos hlt]
          obtain ⟨l, r, h1, h2, h3⟩ := get_pair Tr.node (gT tp (a + i + 1) (m - i)) (gT tp a i) q hlt
          refine ⟨_, by rw [List.getElem?_append_left (by rw [hlen]; exact hlt)]; exact h3, ?_⟩
          have hR : 0 < gN tp (a + i + 1) (m - i) := by
            rcases Nat.eq_zero_or_pos (gN tp (a + i + 1) (m - i)) with e | e
            · rw [e] at hlt; omega
            · exact e
          obtain ⟨l', e1, e2⟩ := lsN_get ht f a i (q / gN tp (a + i + 1) (m - i)) (by omega) (Nat.div_lt_of_lt_mul (by rw [Nat.mul_comm]; exact hlt))
          obtain ⟨r', e3, e4⟩ := lsN_get ht f (a + i + 1) (m - i) (q % gN tp (a + i + 1) (m - i)) (by omega) (Nat.mod_lt _ hR)
          have el : l' = l := by unfold gN at e1; rw [h1] at e1; exact (Option.some.inj e1).symm
          have er : r' = r := by unfold gN at e3; rw [h2] at e3; exact (Option.some.inj e3).symm
          rw [e2, e4, el, er, Tr.lst]
          have hs := gT_size ht i a l (List.mem_of_getElem? h1)
          rw [hs, show a + (i + 1) - 1 = a + i by omega, show a + (i + 1) = a + i + 1 by omega]
        · rw [if_neg hlt]
          rw [List.length_append, hlen] at hq
          obtain ⟨t, h1, h2⟩ := ih (fun j hj => hi j (by simp [hj])) (q - gN tp a i * gN tp (a + i + 1) (m - i)) (by omega)
          exact ⟨t, by rw [List.getElem?_append_right (by rw [hlen]; omega), hlen]; exact h1, h2⟩
    exact this (tp a m) (fun i hi => ht a m i hi) q hq
end Sv
end Go.Proofs.Ytjapconhehdcjaa
