/- pure: the program's tables are the best trees; tops move to one side -/
import Derived.Test.YtjapconhehdcjaaPB
import Derived.Test.YtjapconhehdcjaaSU
namespace Go.Proofs.Ytjapconhehdcjaa
namespace Sv
theorem minL_snoc : ∀ (l : List Nat) (x : Nat), l ≠ [] → minL (l ++ [x]) = min (minL l) x
  | [y], x, _ => rfl
  | y :: z :: l, x, _ => by
    show minL (y :: ((z :: l) ++ [x])) = _
    have ih := minL_snoc (z :: l) x (by simp)
    have e : (z :: l) ++ [x] = z :: (l ++ [x]) := rfl
    rw [e, minL, ← e, ih, minL, Nat.min_assoc]
theorem bst_min {G : Nat → Int} {a : Nat} {g : Nat → Nat} : ∀ i, (∀ j, j < i + 1 → G (a + j) = (g j : Int)) →
    (bst G a (i + 1)).1 = ((minL ((List.range (i + 1)).map g) : Nat) : Int) ∧ (bst G a (i + 1)).2 = ((List.range (i + 1)).filter fun j => g j == minL ((List.range (i + 1)).map g)).map fun j => ((a + j : Nat) : Int)
  | 0, h => by
    rw [bst, if_pos (.inl rfl), h 0 (by omega)]
    refine ⟨rfl, ?_⟩
    have : (List.range (0 + 1)).map g = [g 0] := rfl
    rw [this, minL]
    simp
  | i + 1, h => by
    obtain ⟨h1, h2⟩ := bst_min i (fun j hj => h j (by omega))
    have hne : (List.range (i + 1)).map g ≠ [] := by simp
    have hlast : (List.range (i + 1 + 1)).map g = (List.range (i + 1)).map g ++ [g (i + 1)] := by
      rw [List.range_succ, List.map_append]; rfl
    have hm := minL_snoc ((List.range (i + 1)).map g) (g (i + 1)) hne
    rw [← hlast] at hm
    have hmem := minL_mem hne
    obtain ⟨j0, hj0, e0⟩ := List.mem_map.1 hmem
    have hle : ∀ j, j < i + 1 → minL ((List.range (i + 1)).map g) ≤ g j := fun j hj => minL_le (List.mem_map.2 ⟨j, List.mem_range.2 hj, rfl⟩)
    have hn2 : (bst G a (i + 1)).2 ≠ [] := by
      rw [h2]
      intro e
      have : j0 ∈ (List.range (i + 1)).filter fun j => g j == minL ((List.range (i + 1)).map g) := List.mem_filter.2 ⟨hj0, by simpa using e0⟩
      rw [List.map_eq_nil_iff] at e
      rw [e] at this; cases this
    have hs : (List.range (i + 1 + 1)) = List.range (i + 1) ++ [i + 1] := List.range_succ
    rw [bst]
    generalize minL ((List.range (i + 1)).map g) = M at *
    rw [hm]
    rcases Nat.lt_trichotomy (g (i + 1)) M with c | c | c
    · rw [if_pos (.inr (by rw [h1, h (i + 1) (by omega)]; omega)), Nat.min_eq_right (by omega), h (i + 1) (by omega)]
      refine ⟨rfl, ?_⟩
      rw [hs, List.filter_append]
      have : (List.range (i + 1)).filter (fun j => g j == g (i + 1)) = [] := by
        rw [List.filter_eq_nil_iff]
        intro j hj
        have := hle j (List.mem_range.1 hj)
        simp; omega
      rw [this]
      simp
    · rw [if_neg (by rintro (e | e); exact hn2 e; rw [h1, h (i + 1) (by omega)] at e; omega), if_pos (by rw [h1, h (i + 1) (by omega), c]), Nat.min_eq_left (by omega)]
      refine ⟨h1, ?_⟩
      rw [hs, List.filter_append, List.map_append, ← h2]
      simp [c]
    · rw [if_neg (by rintro (e | e); exact hn2 e; rw [h1, h (i + 1) (by omega)] at e; omega), if_neg (by rw [h1, h (i + 1) (by omega)]; omega), Nat.min_eq_left (by omega)]
      refine ⟨h1, ?_⟩
      rw [hs, List.filter_append, List.map_append, ← h2]
      have : ¬ g (i + 1) = M := by omega
      simp [this]
/-- the sum of a span's loads. -/
def smN (zs : List Int) (a m : Nat) : Nat := (spS zs (a, a + m)).toNat
theorem spS_nn {zs : List Int} (hz : ∀ z ∈ zs, 0 ≤ z) (q : Nat × Nat) : 0 ≤ spS zs q := by
  unfold spS
  have : ∀ l : List Int, (∀ z ∈ l, 0 ≤ z) → 0 ≤ l.sum := by
    intro l
    induction l with
    | nil => intro _; simp
    | cons x l ih => intro h; rw [List.sum_cons]; have := ih fun z hz => h z (by simp [hz]); have := h x (by simp); omega
  exact this _ fun z hm => hz z (List.mem_of_mem_take (List.mem_of_mem_drop hm))
/-- the program's least questions are the least ones. -/
theorem f0_link {zs : List Int} (hz : ∀ z ∈ zs, 0 ≤ z) : ∀ (m a : Nat), f0 zs a (a + m) = ((bq (smN zs) a m : Nat) : Int) := by
  intro m
  induction m using Nat.strongRecOn with
  | ind m ih =>
    intro a
    rw [f0_eq]
    unfold bT
    show (bst (qG (spS zs (a, a + m)) (f0 zs) a (a + m)) a (a + m - a)).1 = _
    rw [Nat.add_sub_cancel_left]
    cases m with
    | zero => rw [bq_zero]; rfl
    | succ m =>
      have hG : ∀ j, j < m + 1 → qG (spS zs (a, a + (m + 1))) (f0 zs) a (a + (m + 1)) (a + j) = ((bqT (smN zs) a m j : Nat) : Int) := fun j hj => by
        unfold qG bqT
        have h1 := ih j (by omega) a
        have h2 := ih (m - j) (by omega) (a + j + 1)
        rw [show a + j + 1 + (m - j) = a + (m + 1) by omega] at h2
        have h3 : (smN zs a (m + 1) : Int) = spS zs (a, a + (m + 1)) := Int.toNat_of_nonneg (spS_nn hz _)
        rw [h1, h2, ← h3]; omega
      rw [(bst_min m hG).1, bq_succ]
theorem F0_link {zs : List Int} (hz : ∀ z ∈ zs, 0 ≤ z) (m a : Nat) : F0 zs a (a + (m + 1)) = (topB (smN zs) a m).map fun j => ((a + j : Nat) : Int) := by
  unfold F0 bT
  show (bst (qG (spS zs (a, a + (m + 1))) (f0 zs) a (a + (m + 1))) a (a + (m + 1) - a)).2 = _
  rw [Nat.add_sub_cancel_left]
  have hG : ∀ j, j < m + 1 → qG (spS zs (a, a + (m + 1))) (f0 zs) a (a + (m + 1)) (a + j) = ((bqT (smN zs) a m j : Nat) : Int) := fun j hj => by
    unfold qG bqT
    have h1 := f0_link hz j a
    have h2 := f0_link hz (m - j) (a + j + 1)
    rw [show a + j + 1 + (m - j) = a + (m + 1) by omega] at h2
    have h3 : (smN zs a (m + 1) : Int) = spS zs (a, a + (m + 1)) := Int.toNat_of_nonneg (spS_nn hz _)
    rw [h1, h2, ← h3]; omega
  rw [(bst_min m hG).2]
  unfold topB
  rw [← bq_succ]
theorem F0_one (zs : List Int) (a : Nat) : F0 zs a a = [] := by
  unfold F0 bT
  show (bst _ a (a - a)).2 = _
  rw [Nat.sub_self]; rfl
/-- tables of tops, by ends or by widths. -/
def TpEq (F : Nat → Nat → List Int) (tp : Nat → Nat → List Nat) : Prop := (∀ a, F a a = []) ∧ ∀ a m, F a (a + (m + 1)) = (tp a m).map fun j => ((a + j : Nat) : Int)
theorem tpeq0 {zs : List Int} (hz : ∀ z ∈ zs, 0 ≤ z) : TpEq (F0 zs) (topB (smN zs)) := ⟨F0_one zs, fun a m => F0_link hz m a⟩
theorem tpeqA : TpEq FA tpAll := ⟨fun a => by unfold FA; rw [Nat.sub_self]; rfl, fun a m => by unfold FA tpAll svP; rw [Nat.add_sub_cancel_left]⟩
theorem TpEq.inn {F : Nat → Nat → List Int} {tp : Nat → Nat → List Nat} (h : TpEq F tp) (ht : TpOk tp) : ∀ a b, a ≤ b → ∀ l ∈ F a b, (a : Int) ≤ l ∧ l < b := fun a b hab l hl => by
  rcases Nat.eq_or_lt_of_le hab with rfl | hlt
  · rw [h.1] at hl; cases hl
  · obtain ⟨m, rfl⟩ : ∃ m, b = a + (m + 1) := ⟨b - a - 1, by omega⟩
    rw [h.2] at hl
    obtain ⟨j, hj, rfl⟩ := List.mem_map.1 hl
    have := ht a m j hj
    omega
theorem sum_cast : ∀ l : List Nat, ((l.sum : Nat) : Int) = (l.map fun (x : Nat) => (x : Int)).sum
  | [] => rfl
  | x :: l => by rw [List.sum_cons, List.map_cons, List.sum_cons, ← sum_cast l]; omega
theorem m0_link {F : Nat → Nat → List Int} {tp : Nat → Nat → List Nat} (h : TpEq F tp) (ht : TpOk tp) : ∀ (m a : Nat), m0 F a (a + m) = ((gN tp a m : Nat) : Int) := by
  intro m
  induction m using Nat.strongRecOn with
  | ind m ih =>
    intro a
    rw [m0_eq (h.inn ht) (by omega)]
    unfold manyE
    cases m with
    | zero => rw [if_pos (by omega), Nat.add_zero, h.1]; rfl
    | succ m =>
      rw [if_neg (by omega), h.2, gN_succ ht, sum_cast, List.map_map, List.map_map, Int.zero_add]
      congr 1
      refine List.map_congr_left fun j hj => ?_
      have := ht a m j hj
      show mulE (m0 F) a (a + (m + 1)) ((a + j : Nat) : Int) = _
      unfold mulE
      rw [Int.toNat_natCast, ih j (by omega) a]
      have h2 := ih (m - j) (by omega) (a + j + 1)
      rw [show a + j + 1 + (m - j) = a + (m + 1) by omega] at h2
      rw [h2]
      show _ = ((gN tp a j * gN tp (a + j + 1) (m - j) : Nat) : Int)
      omega
theorem goI_link {F : Nat → Nat → List Int} {tp : Nat → Nat → List Nat} (h : TpEq F tp) (ht : TpOk tp) (k : Nat → Nat → Int → List Int) (k' : Nat → Nat → Nat → List Int) (a m : Nat) (hk : ∀ j, j < m + 1 → (∀ q : Nat, k a (a + j) q = k' a j q) ∧ ∀ q : Nat, k (a + j + 1) (a + (m + 1)) q = k' (a + j + 1) (m - j) q) : ∀ (is : List Nat), (∀ i ∈ is, i < m + 1) → ∀ q : Nat, goI (m0 F) k a (a + (m + 1)) (is.map fun j => ((a + j : Nat) : Int)) q = goN tp k' a m is q
  | [], _, q => rfl
  | i :: is, hi, q => by
    have hi0 := hi i (by simp)
    rw [List.map_cons, goI, goN, Int.toNat_natCast, m0_link h ht i a]
    have h2 := m0_link h ht (m - i) (a + i + 1)
    rw [show a + i + 1 + (m - i) = a + (m + 1) by omega] at h2
    rw [h2]
    have e : ((gN tp a i : Nat) : Int) * ((gN tp (a + i + 1) (m - i) : Nat) : Int) = ((gN tp a i * gN tp (a + i + 1) (m - i) : Nat) : Int) := by simp
    rw [e]
    by_cases hq : q < gN tp a i * gN tp (a + i + 1) (m - i)
    · rw [if_pos (by omega), if_pos hq]
      have e1 : ((q : Nat) : Int) / ((gN tp (a + i + 1) (m - i) : Nat) : Int) = ((q / gN tp (a + i + 1) (m - i) : Nat) : Int) := by simp
      have e2 : ((q : Nat) : Int) % ((gN tp (a + i + 1) (m - i) : Nat) : Int) = ((q % gN tp (a + i + 1) (m - i) : Nat) : Int) := by simp
      rw [e1, e2, (hk i hi0).1, (hk i hi0).2]
    · rw [if_neg (by omega), if_neg hq, ← goI_link h ht k k' a m hk is (fun j hj => hi j (by simp [hj]))]
      congr 1
      omega
theorem lsI_link {F : Nat → Nat → List Int} {tp : Nat → Nat → List Nat} (h : TpEq F tp) (ht : TpOk tp) : ∀ (f m a q : Nat), lsI F (m0 F) f a (a + m) q = lsN tp f a m q
  | 0, _, _, _ => rfl
  | f + 1, 0, a, q => by rw [lsI, lsN, Nat.add_zero, h.1]; rfl
  | f + 1, m + 1, a, q => by
    rw [lsI, lsN, h.2]
    refine goI_link h ht _ _ a m (fun j hj => ⟨fun q => lsI_link h ht f j a q, fun q => ?_⟩) (tp a m) (fun i hi => ht a m i hi) q
    have := lsI_link h ht f (m - j) (a + j + 1) q
    rw [show a + j + 1 + (m - j) = a + (m + 1) by omega] at this
    exact this
end Sv
namespace Sv
/-- loads by depths. -/
def dotI : List Int → List Nat → Int
  | z :: zs, d :: ds => z * (d : Int) + dotI zs ds
  | _, _ => 0
theorem dotI_nil (zs : List Int) : dotI zs [] = 0 := by cases zs <;> rfl
theorem dotI_app : ∀ (zs : List Int) (d e : List Nat), d.length ≤ zs.length → dotI zs (d ++ e) = dotI zs d + dotI (zs.drop d.length) e
  | zs, [], e, _ => by rw [dotI_nil, List.nil_append, Int.zero_add]; rfl
  | [], x :: d, e, h => by simp at h
  | z :: zs, x :: d, e, h => by
    rw [List.cons_append, dotI, dotI, dotI_app zs d e (by simpa using h), List.length_cons, List.drop_succ_cons]; omega
theorem dotI_succ : ∀ (zs : List Int) (d : List Nat), d.length ≤ zs.length → dotI zs (d.map (· + 1)) = dotI zs d + (zs.take d.length).sum
  | zs, [], _ => by rw [List.map_nil, dotI_nil]; simp
  | [], x :: d, h => by simp at h
  | z :: zs, x :: d, h => by
    rw [List.map_cons, dotI, dotI, dotI_succ zs d (by simpa using h), List.length_cons, List.take_succ_cons, List.sum_cons]
    have : z * ((x + 1 : Nat) : Int) = z * (x : Int) + z := by rw [show ((x + 1 : Nat) : Int) = (x : Int) + 1 by omega, Int.mul_add, Int.mul_one]
    omega
/-- a tree's questions are its depths' times its loads. -/
theorem cst_dot {zs : List Int} (hz : ∀ z ∈ zs, 0 ≤ z) : ∀ (t : Tr) (a : Nat), a + t.size ≤ zs.length → ((cst (smN zs) a t : Nat) : Int) = dotI (zs.drop a) t.dep
  | .leaf, a, h => by
    rw [Tr.size] at h
    rw [cst, Tr.dep]
    cases e : zs.drop a with
    | nil => rfl
    | cons x l => show _ = x * ((0 : Nat) : Int) + dotI l []; rw [dotI_nil]; simp
  | .node l r, a, h => by
    have h1 := size_pos l
    have h2 := size_pos r
    rw [Tr.size] at h
    rw [cst, Tr.dep, dotI_succ _ _ (by rw [List.length_append, dep_len, dep_len, List.length_drop]; omega), dotI_app _ _ _ (by rw [dep_len, List.length_drop]; omega), dep_len, List.drop_drop, List.length_append, dep_len, dep_len, ← cst_dot hz l a (by omega), ← cst_dot hz r (a + l.size) (by omega)]
    have h3 : (smN zs a (l.size + r.size - 1) : Int) = spS zs (a, a + (l.size + r.size - 1)) := Int.toNat_of_nonneg (spS_nn hz _)
    have h4 : spS zs (a, a + (l.size + r.size - 1)) = ((zs.drop a).take (l.size + r.size)).sum := by
      unfold spS
      show ((zs.take (a + (l.size + r.size - 1) + 1)).drop a).sum = _
      rw [show a + (l.size + r.size - 1) + 1 = a + (l.size + r.size) by omega, List.drop_take, show a + (l.size + r.size) - a = l.size + r.size by omega]
    omega
/-- a tree's questions. -/
def qst (zs : List Int) (t : Tr) : Int := dotI zs t.dep
theorem qst_cst {zs : List Int} (hz : ∀ z ∈ zs, 0 ≤ z) (t : Tr) (h : t.size ≤ zs.length) : qst zs t = ((cst (smN zs) 0 t : Nat) : Int) := by
  unfold qst
  have := cst_dot hz t 0 (by omega)
  rw [List.drop_zero] at this
  exact this.symm
/-- the best trees of loads. -/
def bstT (zs : List Int) : List Tr := bestT (smN zs) 0 (zs.length - 1)
theorem bst_all {zs : List Int} (hz : ∀ z ∈ zs, 0 ≤ z) (h1 : 1 ≤ zs.length) : bstT zs = (trs (zs.length - 1)).filter fun t => qst zs t == f0 zs 0 (zs.length - 1) := by
  unfold bstT
  rw [← best_all]
  refine List.filter_congr fun t ht => ?_
  have hs := (mem_trs _ _).1 ht
  have e := f0_link hz (zs.length - 1) 0
  rw [Nat.zero_add] at e
  rw [e, qst_cst hz t (by omega), Bool.eq_iff_iff, beq_iff_eq, beq_iff_eq]; omega
theorem bst_le {zs : List Int} (hz : ∀ z ∈ zs, 0 ≤ z) (h1 : 1 ≤ zs.length) {t : Tr} (ht : t.size = zs.length) : f0 zs 0 (zs.length - 1) ≤ qst zs t := by
  have e := f0_link hz (zs.length - 1) 0
  rw [Nat.zero_add] at e
  have := bq_le (smN zs) (zs.length - 1) 0 t (by omega)
  rw [e, qst_cst hz t (by omega)]; omega
theorem bst_ne (zs : List Int) : bstT zs ≠ [] := best_ne _ _ _
theorem bst_mem {zs : List Int} (hz : ∀ z ∈ zs, 0 ≤ z) (h1 : 1 ≤ zs.length) {t : Tr} (ht : t ∈ bstT zs) : t.size = zs.length ∧ qst zs t = f0 zs 0 (zs.length - 1) := by
  rw [bst_all hz h1] at ht
  obtain ⟨h2, h3⟩ := List.mem_filter.1 ht
  have := (mem_trs _ _).1 h2
  exact ⟨by omega, by simpa using h3⟩
theorem bst_list {zs : List Int} (hz : ∀ z ∈ zs, 0 ≤ z) (h1 : 1 ≤ zs.length) (h8 : zs.length ≤ 8) (q : Nat) (hq : q < (bstT zs).length) : ∃ t, (bstT zs)[q]? = some t ∧ lsI (F0 zs) (m0 (F0 zs)) 8 0 (zs.length - 1) q = t.lst 0 := by
  have e := lsI_link (tpeq0 hz) (topB_ok _) 8 (zs.length - 1) 0 q
  rw [Nat.zero_add] at e
  rw [e]
  unfold bstT at hq ⊢
  rw [bestT_g] at hq ⊢
  exact lsN_get (topB_ok _) 8 0 (zs.length - 1) q (by omega) hq
theorem bst_first {zs : List Int} (hz : ∀ z ∈ zs, 0 ≤ z) (h1 : 1 ≤ zs.length) (h8 : zs.length ≤ 8) : ∃ t, (bstT zs).head? = some t ∧ lsI (F0 zs) (m0 (F0 zs)) 8 0 (zs.length - 1) 0 = t.lst 0 := by
  obtain ⟨t, h2, h3⟩ := bst_list hz h1 h8 0 (List.length_pos_iff.2 (bst_ne zs))
  exact ⟨t, by rw [List.head?_eq_getElem?]; exact h2, h3⟩
theorem bst_count {zs : List Int} (hz : ∀ z ∈ zs, 0 ≤ z) : m0 (F0 zs) 0 (zs.length - 1) = (((bstT zs).length : Nat) : Int) := by
  have e := m0_link (tpeq0 hz) (topB_ok _) (zs.length - 1) 0
  rw [Nat.zero_add] at e
  rw [e]
  unfold bstT gN
  rw [bestT_g]
/-- the top of a tree. -/
def topN : Tr → Int
  | .leaf => 0
  | .node l _ => ((l.size - 1 : Nat) : Int)
theorem lst_top (t : Tr) : nth (t.lst 0) 0 = topN t := by
  cases t with
  | leaf => rfl
  | node l r => unfold nth; simp [Tr.lst, topN]
theorem head_flat {α β : Type} (g : α → List β) : ∀ l : List α, (∀ a ∈ l, g a ≠ []) → (l.flatMap g).head? = l.head?.bind fun a => (g a).head?
  | [], _ => rfl
  | a :: l, h => by
    rw [List.flatMap_cons]
    obtain ⟨x, xs, e⟩ := List.exists_cons_of_ne_nil (h a (by simp))
    rw [e]; simp [e]
theorem last_flat {α β : Type} (g : α → List β) : ∀ l : List α, (∀ a ∈ l, g a ≠ []) → (l.flatMap g).getLast? = l.getLast?.bind fun a => (g a).getLast?
  | [], _ => rfl
  | [a], h => by simp
  | a :: b :: l, h => by
    have ih := last_flat g (b :: l) fun c hc => h c (by simp [hc])
    have hne : (b :: l).flatMap g ≠ [] := by
      rw [List.flatMap_cons]
      obtain ⟨x, xs, e⟩ := List.exists_cons_of_ne_nil (h b (by simp))
      rw [e]; simp
    rw [List.flatMap_cons, List.getLast?_append, ih]
    have h2 : ((b :: l).flatMap g).getLast? ≠ none := by rw [Ne, List.getLast?_eq_none_iff]; exact hne
    rw [ih] at h2
    cases e : (b :: l).getLast?.bind fun a => (g a).getLast? with
    | none => exact absurd e h2
    | some x => rw [Option.some_or, List.getLast?_cons_cons, e]
theorem best_tops (sm : Nat → Nat → Nat) (m : Nat) {t u : Tr} (ht : (bestT sm 0 (m + 1)).head? = some t) (hu : (bestT sm 0 (m + 1)).getLast? = some u) : (topB sm 0 m).head?.map (fun (i : Nat) => (i : Int)) = some (topN t) ∧ (topB sm 0 m).getLast?.map (fun (i : Nat) => (i : Int)) = some (topN u) := by
  have hne : ∀ i ∈ topB sm 0 m, ((bestT sm 0 i).flatMap fun l => (bestT sm (0 + i + 1) (m - i)).map fun r => Tr.node l r) ≠ [] := fun i _ => by
    obtain ⟨x, xs, ex⟩ := List.exists_cons_of_ne_nil (best_ne sm i 0)
    obtain ⟨y, ys, ey⟩ := List.exists_cons_of_ne_nil (best_ne sm (m - i) (0 + i + 1))
    rw [ex, List.flatMap_cons, ey]; simp
  have htop : ∀ i ∈ topB sm 0 m, ∀ v, v ∈ ((bestT sm 0 i).flatMap fun l => (bestT sm (0 + i + 1) (m - i)).map fun r => Tr.node l r) → topN v = (i : Int) := fun i _ v hv => by
    obtain ⟨l, hl, hv⟩ := List.mem_flatMap.1 hv
    obtain ⟨r, hr, rfl⟩ := List.mem_map.1 hv
    have : l ∈ trs i := by
      rw [← best_all sm i 0] at hl
      exact (List.mem_filter.1 hl).1
    have := (mem_trs _ _).1 this
    rw [topN]; omega
  rw [bestT_succ] at ht hu
  rw [head_flat _ _ hne] at ht
  rw [last_flat _ _ hne] at hu
  constructor
  · cases e : (topB sm 0 m).head? with
    | none => rw [e] at ht; cases ht
    | some i =>
      rw [e] at ht
      have hi : i ∈ topB sm 0 m := List.mem_of_mem_head? (by rw [e]; rfl)
      rw [Option.map_some, htop i hi t (List.mem_of_mem_head? ht)]
  · cases e : (topB sm 0 m).getLast? with
    | none => rw [e] at hu; cases hu
    | some i =>
      rw [e] at hu
      have hi : i ∈ topB sm 0 m := List.mem_of_getLast? e
      rw [Option.map_some, htop i hi u (List.mem_of_getLast? hu)]
end Sv
namespace Sv
/-- by ends: least questions. -/
def Bq (sm : Nat → Nat → Nat) (i j : Nat) : Nat := bq sm i (j - i)
def Cq (sm : Nat → Nat → Nat) (i j k : Nat) : Nat := sm i (j - i) + Bq sm i k + Bq sm (k + 1) j
theorem bqT_cq (sm : Nat → Nat → Nat) (a m i : Nat) (hi : i < m + 1) : bqT sm a m i = Cq sm a (a + (m + 1)) (a + i) := by
  unfold bqT Cq Bq
  rw [show a + (m + 1) - a = m + 1 by omega, show a + i - a = i by omega, show a + (m + 1) - (a + i + 1) = m - i by omega]
theorem Bq_le (sm : Nat → Nat → Nat) {i j k : Nat} (h1 : i ≤ k) (h2 : k < j) : Bq sm i j ≤ Cq sm i j k := by
  obtain ⟨m, rfl⟩ : ∃ m, j = i + (m + 1) := ⟨j - i - 1, by omega⟩
  obtain ⟨q, rfl⟩ : ∃ q, k = i + q := ⟨k - i, by omega⟩
  rw [← bqT_cq sm i m q (by omega)]
  unfold Bq
  rw [show i + (m + 1) - i = m + 1 by omega, bq_succ]
  exact minL_le (List.mem_map.2 ⟨q, List.mem_range.2 (by omega), rfl⟩)
theorem Bq_eq (sm : Nat → Nat → Nat) {i j : Nat} (h : i < j) : ∃ k, i ≤ k ∧ k < j ∧ Bq sm i j = Cq sm i j k := by
  obtain ⟨m, rfl⟩ : ∃ m, j = i + (m + 1) := ⟨j - i - 1, by omega⟩
  have := minL_mem (l := (List.range (m + 1)).map (bqT sm i m)) (by simp)
  rw [← bq_succ] at this
  obtain ⟨q, hq, e⟩ := List.mem_map.1 this
  have hq := List.mem_range.1 hq
  refine ⟨i + q, by omega, by omega, ?_⟩
  rw [← bqT_cq sm i m q hq, e]
  unfold Bq
  rw [show i + (m + 1) - i = m + 1 by omega]
theorem Bq_self (sm : Nat → Nat → Nat) (i : Nat) : Bq sm i i = 0 := by unfold Bq; rw [Nat.sub_self]; rfl
/-- sums of spans. -/
structure Sms (sm : Nat → Nat → Nat) : Prop where
  qi : ∀ i i' j j', i ≤ i' → i' ≤ j → j ≤ j' → sm i (j - i) + sm i' (j' - i') = sm i' (j - i') + sm i (j' - i)
  mono : ∀ i i' j j', i ≤ i' → i' ≤ j → j ≤ j' → sm i' (j - i') ≤ sm i (j' - i)
theorem Bq_qi {sm : Nat → Nat → Nat} (hs : Sms sm) : ∀ n i i' j j', j' - i ≤ n → i ≤ i' → i' ≤ j → j ≤ j' → Bq sm i j + Bq sm i' j' ≤ Bq sm i' j + Bq sm i j' := by
  intro n
  induction n with
  | zero =>
    intro i i' j j' h1 h2 h3 h4
    obtain rfl : i = i' := by omega
    obtain rfl : i = j := by omega
    obtain rfl : i = j' := by omega
    omega
  | succ n ih =>
    intro i i' j j' h1 h2 h3 h4
    rcases Nat.eq_or_lt_of_le h2 with rfl | h2'
    · omega
    rcases Nat.eq_or_lt_of_le h4 with rfl | h4'
    · omega
    rcases Nat.eq_or_lt_of_le h3 with rfl | h3'
    · -- i < i' = j < j'
      obtain ⟨k, k1, k2, k3⟩ := Bq_eq sm (show i < j' by omega)
      have z := Bq_self sm i'
      by_cases hk : k < i'
      · have a1 := Bq_le sm k1 hk
        have a2 := ih (k + 1) i' i' j' (by omega) (by omega) (by omega) (by omega)
        have a3 := hs.mono i i i' j' (by omega) (by omega) (by omega)
        unfold Cq at a1 k3
        omega
      · have a1 := Bq_le sm (show i' ≤ k by omega) k2
        have a2 := ih i i' i' k (by omega) (by omega) (by omega) (by omega)
        have a3 := hs.mono i i' j' j' (by omega) (by omega) (by omega)
        unfold Cq at a1 k3
        omega
    · obtain ⟨y, y1, y2, y3⟩ := Bq_eq sm h3'
      obtain ⟨z, z1, z2, z3⟩ := Bq_eq sm (show i < j' by omega)
      have w := hs.qi i i' j j' h2 h3 h4
      by_cases hzy : z ≤ y
      · have a1 := Bq_le sm z1 (show z < j by omega)
        have a2 := Bq_le sm y1 (show y < j' by omega)
        have a3 := ih (z + 1) (y + 1) j j' (by omega) (by omega) (by omega) (by omega)
        unfold Cq at a1 a2 y3 z3
        omega
      · have a1 := Bq_le sm (show i ≤ y by omega) y2
        have a2 := Bq_le sm (show i' ≤ z by omega) z2
        have a3 := ih i i' y z (by omega) (by omega) (by omega) (by omega)
        unfold Cq at a1 a2 y3 z3
        omega
/-- k is a best top of i to j. -/
def IsTop (sm : Nat → Nat → Nat) (i j k : Nat) : Prop := i ≤ k ∧ k < j ∧ Cq sm i j k = Bq sm i j
theorem isTop_iff (sm : Nat → Nat → Nat) (a m k : Nat) : k ∈ topB sm a m ↔ IsTop sm a (a + (m + 1)) (a + k) := by
  unfold topB IsTop
  rw [List.mem_filter, List.mem_range]
  constructor
  · rintro ⟨h1, h2⟩
    rw [beq_iff_eq, bqT_cq sm a m k h1] at h2
    refine ⟨by omega, by omega, ?_⟩
    rw [h2]; unfold Bq; rw [show a + (m + 1) - a = m + 1 by omega]
  · rintro ⟨h1, h2, h3⟩
    refine ⟨by omega, ?_⟩
    rw [beq_iff_eq, bqT_cq sm a m k (by omega), h3]; unfold Bq; rw [show a + (m + 1) - a = m + 1 by omega]
/-- a kind more behind: if k is a top before and k2 < k is one behind, each is a top both times. -/
theorem top_right {sm : Nat → Nat → Nat} (hs : Sms sm) {i j k k2 : Nat} (h1 : IsTop sm i j k) (h2 : IsTop sm i (j + 1) k2) (hk : k2 < k) : IsTop sm i (j + 1) k ∧ IsTop sm i j k2 := by
  obtain ⟨a1, a2, a3⟩ := h1
  obtain ⟨b1, b2, b3⟩ := h2
  have q := Bq_qi hs (j + 1) (k2 + 1) (k + 1) j (j + 1) (by omega) (by omega) (by omega) (by omega)
  have c1 := Bq_le sm (show i ≤ k2 by omega) (show k2 < j by omega)
  have c2 := Bq_le sm (show i ≤ k by omega) (show k < j + 1 by omega)
  unfold IsTop
  unfold Cq at *
  omega
theorem top_left {sm : Nat → Nat → Nat} (hs : Sms sm) {i j k k2 : Nat} (h1 : IsTop sm (i + 1) j k) (h2 : IsTop sm i j k2) (hk : k < k2) : IsTop sm i j k ∧ IsTop sm (i + 1) j k2 := by
  obtain ⟨a1, a2, a3⟩ := h1
  obtain ⟨b1, b2, b3⟩ := h2
  have q := Bq_qi hs (j + 1) i (i + 1) k k2 (by omega) (by omega) (by omega) (by omega)
  have c1 := Bq_le sm (show i ≤ k by omega) (show k < j by omega)
  have c2 := Bq_le sm (show i + 1 ≤ k2 by omega) (show k2 < j by omega)
  unfold IsTop
  unfold Cq at *
  omega
theorem sum_split (l : List Int) (k : Nat) : (l.take k).sum + (l.drop k).sum = l.sum := by
  rw [← List.sum_append, List.take_append_drop]
theorem sms_loads {zs : List Int} (hz : ∀ z ∈ zs, 0 ≤ z) : Sms (smN zs) := by
  have hP : ∀ i j, i ≤ j → ((smN zs i (j - i) : Nat) : Int) = (zs.take (j + 1)).sum - (zs.take i).sum := fun i j hij => by
    unfold smN
    rw [Int.toNat_of_nonneg (spS_nn hz _)]
    unfold spS
    show ((zs.take (i + (j - i) + 1)).drop i).sum = _
    rw [show i + (j - i) + 1 = j + 1 by omega]
    have := sum_split (zs.take (j + 1)) i
    rw [List.take_take, Nat.min_eq_left (by omega)] at this
    omega
  have hm : ∀ i j, i ≤ j → (zs.take i).sum ≤ (zs.take j).sum := fun i j hij => by
    have := sum_split (zs.take j) i
    rw [List.take_take, Nat.min_eq_left hij] at this
    have h2 : 0 ≤ ((zs.take j).drop i).sum := by
      have := spS_nn hz (i, j - 1)
      unfold spS at this
      rcases Nat.eq_zero_or_pos j with rfl | hj
      · simp
      · simp only at this; rwa [show j - 1 + 1 = j by omega] at this
    omega
  constructor
  · intro i i' j j' h1 h2 h3
    have e1 := hP i j (by omega)
    have e2 := hP i' j' (by omega)
    have e3 := hP i' j (by omega)
    have e4 := hP i j' (by omega)
    omega
  · intro i i' j j' h1 h2 h3
    have e3 := hP i' j (by omega)
    have e4 := hP i j' (by omega)
    have m1 := hm i i' h1
    have m2 := hm (j + 1) (j' + 1) (by omega)
    omega
/-- only the sums within matter. -/
theorem bq_congr {sm sm' : Nat → Nat → Nat} (c c' : Nat) : ∀ (m a : Nat), (∀ i k, a ≤ i → i + k ≤ a + m → sm (c + i) k = sm' (c' + i) k) → bq sm (c + a) m = bq sm' (c' + a) m := by
  intro m
  induction m using Nat.strongRecOn with
  | ind m ih =>
    intro a h
    cases m with
    | zero => rw [bq_zero, bq_zero]
    | succ m =>
      rw [bq_succ, bq_succ]
      congr 1
      refine List.map_congr_left fun i hi => ?_
      rw [List.mem_range] at hi
      unfold bqT
      rw [h a (m + 1) (by omega) (by omega), ih i (by omega) a (fun i' k h1 h2 => h i' k h1 (by omega)), show c + a + i + 1 = c + (a + i + 1) by omega, show c' + a + i + 1 = c' + (a + i + 1) by omega, ih (m - i) (by omega) (a + i + 1) (fun i' k h1 h2 => h i' k (by omega) (by omega))]
theorem topB_congr {sm sm' : Nat → Nat → Nat} (c c' m : Nat) (h : ∀ i k, i + k ≤ m + 1 → sm (c + i) k = sm' (c' + i) k) : topB sm c m = topB sm' c' m := by
  unfold topB
  have e := bq_congr (sm := sm) (sm' := sm') c c' (m + 1) 0 (fun i k _ h2 => h i k (by omega))
  simp only [Nat.add_zero] at e
  rw [e]
  refine List.filter_congr fun i hi => ?_
  rw [List.mem_range] at hi
  unfold bqT
  have e1 := bq_congr (sm := sm) (sm' := sm') c c' i 0 (fun i' k _ h2 => h i' k (by omega))
  have e2 := bq_congr (sm := sm) (sm' := sm') c c' (m - i) (i + 1) (fun i' k _ h2 => h i' k (by omega))
  have e3 := h 0 (m + 1) (by omega)
  simp only [Nat.add_zero] at e1 e3
  rw [e1, e3, Nat.add_assoc c i 1, Nat.add_assoc c' i 1, e2]
end Sv
end Go.Proofs.Ytjapconhehdcjaa
