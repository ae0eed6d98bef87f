/- pure: the first meeting, rests exchanged, orders and signs -/
import Derived.Test.YtflllkamdihfaaaLGA
import Derived.Test.YtflllkamdihfaaaLMB
import Derived.Test.YtflllkamdihfaaaLDC
namespace Go.Proofs.Ytflllkamdihfaaa
open Go.RowKit Go.Sort
/-- the first meeting, said outright. -/
structure Fst (F : List (List Int)) (i j : Nat) (x : Int) (a b : List Int) : Prop where
  hi : i < F.length
  hj : j < F.length
  ne : j ≠ i
  e : lth F i = a ++ x :: b
  xj : x ∈ lth F j
  amin : ∀ y ∈ a, ∀ k, k < F.length → k ≠ i → y ∉ lth F k
  jmin : ∀ k, k < j → k ≠ i → x ∉ lth F k
  imin : ∀ i', i' < i → ∀ k, k < F.length → k ≠ i' → ∀ y ∈ lth F i', y ∉ lth F k
theorem fm3_at {F : List (List Int)} {i j : Nat} {x : Int} (hj : j ≠ i) (hx : x ∈ lth F j) (hm : ∀ k, k < j → k ≠ i → x ∉ lth F k) : ∀ (f j0 : Nat), j0 ≤ j → j < j0 + f → fm3 F i x f j0 = some (i, j, x)
  | 0, j0, h1, h2 => by omega
  | f + 1, j0, h1, h2 => by
    rw [fm3]
    rcases Nat.lt_or_eq_of_le h1 with q | rfl
    · rw [if_neg (fun e => hm j0 q e.1 (by simpa using e.2))]
      exact fm3_at hj hx hm f (j0 + 1) (by omega) (by omega)
    · rw [if_pos ⟨hj, by simpa using hx⟩]
theorem Fst.some {F : List (List Int)} {i j : Nat} {x : Int} {a b : List Int} (h : Fst F i j x a b) : fmE F = Option.some (i, j, x) := by
  have h2 : fm2 F i (lth F i) = Option.some (i, j, x) := by
    rw [h.e]
    have : ∀ a', (∀ y ∈ a', y ∈ a) → fm2 F i (a' ++ x :: b) = Option.some (i, j, x) := fun a' => by
      induction a' with
      | nil =>
        intro _
        rw [List.nil_append, fm2, fm3_at h.ne h.xj h.jmin F.length 0 (Nat.zero_le _) (by have := h.hj; omega)]
      | cons y a' ih =>
        intro hs
        rw [List.cons_append, fm2, fm3_none F.length 0 (fun k _ hk hne => by
          rw [Bool.eq_false_iff]; intro q
          exact h.amin y (hs y (by simp)) k (by omega) hne (by simpa using q))]
        exact ih (fun z hz => hs z (by simp [hz]))
    exact this a (fun y hy => hy)
  have : ∀ f i0, i0 ≤ i → i < i0 + f → fm1 F f i0 = Option.some (i, j, x) := fun f => by
    induction f with
    | zero => intro i0 h1 h2; omega
    | succ f ih =>
      intro i0 h1 h3
      rw [fm1]
      rcases Nat.lt_or_eq_of_le h1 with q | rfl
      · rw [fm2_none _ (fun y hy => fm3_none F.length 0 (fun k _ hk hne => by
          rw [Bool.eq_false_iff]; intro q2
          exact h.imin i0 q k (by omega) hne y hy (by simpa using q2)))]
        exact ih (i0 + 1) (by omega) (by omega)
      · rw [h2]
  exact this F.length 0 (Nat.zero_le _) (by have := h.hi; omega)
theorem fm3_spec {F : List (List Int)} {i : Nat} {x : Int} {p : Nat × Nat × Int} : ∀ (f j0 : Nat), fm3 F i x f j0 = some p → ∃ j, p = (i, j, x) ∧ j0 ≤ j ∧ j < j0 + f ∧ j ≠ i ∧ x ∈ lth F j ∧ ∀ k, j0 ≤ k → k < j → k ≠ i → x ∉ lth F k
  | 0, _, h => by rw [fm3] at h; cases h
  | f + 1, j0, h => by
    rw [fm3] at h
    by_cases hc : j0 ≠ i ∧ (lth F j0).contains x = true
    · rw [if_pos hc] at h
      cases h
      exact ⟨j0, rfl, Nat.le_refl _, by omega, hc.1, by simpa using hc.2, fun k h1 h2 => by omega⟩
    · rw [if_neg hc] at h
      obtain ⟨j, h1, h2, h3, h4, h5, h6⟩ := fm3_spec f (j0 + 1) h
      refine ⟨j, h1, by omega, by omega, h4, h5, fun k k1 k2 k3 => ?_⟩
      rcases Nat.lt_or_eq_of_le k1 with q | rfl
      · exact h6 k q k2 k3
      · exact fun q => hc ⟨k3, by simpa using q⟩
theorem fm3_out {F : List (List Int)} {i : Nat} {x : Int} (h : fm3 F i x F.length 0 = none) : ∀ k, k < F.length → k ≠ i → x ∉ lth F k := fun k hk hne hx => by
  have := fm3_some F.length 0 k (Nat.zero_le _) (by omega) hne (by simpa using hx)
  rw [h] at this; cases this
theorem fm2_spec {F : List (List Int)} {i : Nat} {p : Nat × Nat × Int} : ∀ (l : List Int), fm2 F i l = some p → ∃ j x a b, p = (i, j, x) ∧ l = a ++ x :: b ∧ j < F.length ∧ j ≠ i ∧ x ∈ lth F j ∧ (∀ k, k < j → k ≠ i → x ∉ lth F k) ∧ ∀ y ∈ a, ∀ k, k < F.length → k ≠ i → y ∉ lth F k
  | [], h => by rw [fm2] at h; cases h
  | y :: t, h => by
    rw [fm2] at h
    cases h3 : fm3 F i y F.length 0 with
    | some r =>
      rw [h3] at h
      cases h
      obtain ⟨j, h1, _, h2, h4, h5, h6⟩ := fm3_spec _ _ h3
      exact ⟨j, y, [], t, h1, rfl, by omega, h4, h5, fun k hk => h6 k (Nat.zero_le _) hk, fun z hz => by cases hz⟩
    | none =>
      rw [h3] at h
      obtain ⟨j, x, a, b, h1, rfl, h4, h5, h6, h7, h8⟩ := fm2_spec t h
      refine ⟨j, x, y :: a, b, h1, rfl, h4, h5, h6, h7, fun z hz => ?_⟩
      rcases List.mem_cons.1 hz with rfl | hz
      · exact fm3_out h3
      · exact h8 z hz
theorem fm2_out {F : List (List Int)} {i : Nat} : ∀ (l : List Int), fm2 F i l = none → ∀ y ∈ l, ∀ k, k < F.length → k ≠ i → y ∉ lth F k
  | [], _, y, hy => by cases hy
  | z :: t, h, y, hy => by
    rw [fm2] at h
    cases h3 : fm3 F i z F.length 0 with
    | some r => rw [h3] at h; cases h
    | none =>
      rw [h3] at h
      rcases List.mem_cons.1 hy with rfl | hy
      · exact fm3_out h3
      · exact fm2_out t h y hy
theorem fmE_spec {F : List (List Int)} {i j : Nat} {x : Int} (h : fmE F = some (i, j, x)) : ∃ a b, Fst F i j x a b := by
  have : ∀ f i0, i0 + f = F.length → (∀ i', i' < i0 → ∀ k, k < F.length → k ≠ i' → ∀ y ∈ lth F i', y ∉ lth F k) → fm1 F f i0 = some (i, j, x) → ∃ a b, Fst F i j x a b := fun f => by
    induction f with
    | zero => intro i0 _ _ h; rw [fm1] at h; cases h
    | succ f ih =>
      intro i0 hn hm h
      rw [fm1] at h
      cases h2 : fm2 F i0 (lth F i0) with
      | some r =>
        rw [h2] at h
        cases h
        obtain ⟨j', x', a, b, h3, h4, h5, h6, h7, h8, h9⟩ := fm2_spec _ h2
        cases h3
        exact ⟨a, b, by omega, h5, h6, h4, h7, h9, h8, hm⟩
      | none =>
        rw [h2] at h
        refine ih (i0 + 1) (by omega) (fun i' hi' k hk hne y hy => ?_) h
        rcases Nat.lt_or_eq_of_le (Nat.lt_succ_iff.1 hi') with q | rfl
        · exact hm i' q k hk hne y hy
        · exact fm2_out _ h2 y hy k hk hne
  exact this F.length 0 (by omega) (fun i' h => by omega) h
/-- the family with the rests of two ways exchanged. -/
def xch (F : List (List Int)) (i j : Nat) (u v : List Int) : List (List Int) := (F.set i u).set j v
theorem lth_xch {F : List (List Int)} {i j : Nat} (u v : List Int) (hi : i < F.length) (hj : j < F.length) (hne : j ≠ i) (k : Nat) : lth (xch F i j u v) k = if k = j then v else if k = i then u else lth F k := by
  unfold xch lth
  by_cases h : k = j
  · subst h; rw [if_pos rfl, List.getElem?_set_self (by rw [List.length_set]; exact hj)]; rfl
  · rw [if_neg h, List.getElem?_set_ne (fun e => h e.symm)]
    by_cases h2 : k = i
    · subst h2; rw [if_pos rfl, List.getElem?_set_self hi]; rfl
    · rw [if_neg h2, List.getElem?_set_ne (fun e => h2 e.symm)]
theorem xch_len (F : List (List Int)) (i j : Nat) (u v : List Int) : (xch F i j u v).length = F.length := by unfold xch; simp
theorem Fst.lt {F : List (List Int)} {i j : Nat} {x : Int} {a b : List Int} (h : Fst F i j x a b) : i < j := by
  rcases Nat.lt_or_gt_of_ne h.ne with q | q
  · exact absurd (by rw [h.e]; simp) (h.imin j q i h.hi (fun e => h.ne e.symm) x h.xj)
  · exact q
/-- the first meeting stays. -/
theorem Fst.xch {F : List (List Int)} {i j : Nat} {x : Int} {a b c d : List Int} (h : Fst F i j x a b) (hj : lth F j = c ++ x :: d) (hp : (lth F i).Pairwise (· < ·)) : Fst (xch F i j (a ++ x :: d) (c ++ x :: b)) i j x a d := by
  have L := lth_xch (a ++ x :: d) (c ++ x :: b) h.hi h.hj h.ne
  have hij := h.lt
  refine ⟨by rw [xch_len]; exact h.hi, by rw [xch_len]; exact h.hj, h.ne, by rw [L, if_neg (fun e => h.ne e.symm), if_pos rfl], by rw [L, if_pos rfl]; simp, fun y hy k hk hne => ?_, fun k hk hne => ?_, fun i' hi' k hk hne y hy => ?_⟩
  · rw [xch_len] at hk
    rw [L]
    by_cases h1 : k = j
    · rw [if_pos h1]
      intro q
      rcases List.mem_append.1 q with q | q
      · exact h.amin y hy j h.hj h.ne (by rw [hj]; simp [q])
      · rw [h.e, List.pairwise_append] at hp
        have := hp.2.2 y hy y q
        omega
    · rw [if_neg h1, if_neg hne]; exact h.amin y hy k hk hne
  · rw [L, if_neg (by omega), if_neg hne]; exact h.jmin k hk hne
  · rw [xch_len] at hk
    rw [L, if_neg (by omega), if_neg (by omega)] at hy
    rw [L]
    by_cases h1 : k = j
    · rw [if_pos h1]
      intro q
      rcases List.mem_append.1 q with q | q
      · exact h.imin i' hi' j h.hj (by omega) y hy (by rw [hj]; simp [q])
      · exact h.imin i' hi' i h.hi (by omega) y hy (by rw [h.e]; simp only [List.mem_append]; exact .inr q)
    · rw [if_neg h1]
      by_cases h2 : k = i
      · rw [if_pos h2]
        intro q
        rcases List.mem_append.1 q with q | q
        · exact h.imin i' hi' i h.hi (by omega) y hy (by rw [h.e]; simp [q])
        · exact h.imin i' hi' j h.hj (by omega) y hy (by rw [hj]; simp only [List.mem_append]; exact .inr q)
      · rw [if_neg h2]; exact h.imin i' hi' k hk hne y hy
theorem set_self {α : Type} {l : List α} {i : Nat} {u : α} (h : l[i]? = some u) : l.set i u = l := by
  refine List.ext_getElem? fun k => ?_
  by_cases e : i = k
  · subst e
    rw [List.getElem?_set_self (by rw [List.getElem?_eq_some_iff] at h; exact h.1), h]
  · rw [List.getElem?_set_ne e]
/-- exchanged twice: as it was. -/
theorem xch_back {F : List (List Int)} {i j : Nat} (u v : List Int) (hi : i < F.length) (hj : j < F.length) (hne : j ≠ i) : xch (xch F i j u v) i j (lth F i) (lth F j) = F := by
  refine List.ext_getElem? fun k => ?_
  have hl : ∀ (G : List (List Int)) k, k < G.length → G[k]? = some (lth G k) := fun G k h => by unfold lth; rw [List.getElem?_eq_getElem h]; rfl
  by_cases hk : k < F.length
  · rw [hl _ k (by rw [xch_len, xch_len]; exact hk), hl F k hk, lth_xch _ _ (by rw [xch_len]; exact hi) (by rw [xch_len]; exact hj) hne, lth_xch _ _ hi hj hne]
    by_cases h1 : k = j
    · rw [if_pos h1, h1]
    · rw [if_neg h1, if_neg h1]
      by_cases h2 : k = i
      · rw [if_pos h2, h2]
      · rw [if_neg h2, if_neg h2]
  · rw [List.getElem?_eq_none (by rw [xch_len, xch_len]; omega), List.getElem?_eq_none (by omega)]
theorem idx_at {x : Int} {b : List Int} : ∀ (a : List Int) (k : Nat), x ∉ a → idxF x (a ++ x :: b) k = (k + a.length : Nat)
  | [], k, _ => by simp [idxF]
  | y :: a, k, h => by
    rw [List.cons_append, idxF, if_neg (fun e => h (by simp [e])), idx_at a (k + 1) (fun q => h (by simp [q]))]
    simp; omega
theorem split_at {x : Int} : ∀ {l : List Int}, x ∈ l → ∃ c d, l = c ++ x :: d ∧ x ∉ c
  | y :: t, h => by
    by_cases e : y = x
    · exact ⟨[], t, by rw [e]; rfl, by simp⟩
    · rcases List.mem_cons.1 h with q | q
      · exact absurd q.symm e
      · obtain ⟨c, d, h1, h2⟩ := split_at q
        exact ⟨y :: c, d, by rw [h1]; rfl, fun q2 => by
          rcases List.mem_cons.1 q2 with q3 | q3
          · exact e q3.symm
          · exact h2 q3⟩
/-- what the code exchanges. -/
theorem swp_xch {F : List (List Int)} {i j : Nat} {x : Int} {a b c d : List Int} (h : Fst F i j x a b) (hj : lth F j = c ++ x :: d) (ha : x ∉ a) (hc : x ∉ c) : swpL F i j (idxE (lth F i) x).toNat (idxE (lth F j) x).toNat = xch F i j (a ++ x :: d) (c ++ x :: b) := by
  unfold swpL xch idxE
  rw [h.e, hj, idx_at a 0 ha, idx_at c 0 hc]
  simp
theorem Wy.app {st : Int → List Int} : ∀ (a : List Int) (x : Int) (b : List Int), Wy st (a ++ x :: b) ↔ Wy st (a ++ [x]) ∧ Wy st (x :: b)
  | [], x, b => by simp [Wy]
  | [y], x, b => by simp [Wy]
  | y :: z :: a, x, b => by
    have ih := Wy.app (st := st) (z :: a) x b
    show (z ∈ st y ∧ Wy st (z :: a ++ x :: b)) ↔ (z ∈ st y ∧ Wy st (z :: a ++ [x])) ∧ Wy st (x :: b)
    rw [ih]
    exact ⟨fun ⟨h1, h2, h3⟩ => ⟨⟨h1, h2⟩, h3⟩, fun ⟨⟨h1, h2⟩, h3⟩ => ⟨h1, h2, h3⟩⟩
/-- a way from a corner to another one. -/
def Wto (st : Int → List Int) (y t : Int) (w : List Int) : Prop := Wy st w ∧ w.head? = some y ∧ w.getLast? = some t
theorem Wto.ne {st : Int → List Int} {y t : Int} {w : List Int} (h : Wto st y t w) : w ≠ [] := fun e => by rw [e] at h; exact h.1
theorem Wto.swap {st : Int → List Int} {y t y' t' x : Int} {a b c d : List Int} (h : Wto st y t (a ++ x :: b)) (h' : Wto st y' t' (c ++ x :: d)) : Wto st y t' (a ++ x :: d) := by
  obtain ⟨h1, h2, h3⟩ := h
  obtain ⟨g1, g2, g3⟩ := h'
  refine ⟨(Wy.app a x d).2 ⟨((Wy.app a x b).1 h1).1, ((Wy.app c x d).1 g1).2⟩, ?_, ?_⟩
  · cases a with
    | nil => simpa using h2
    | cons z a => simpa using h2
  · rw [List.getLast?_append, List.getLast?_cons] at g3 ⊢
    simpa using g3
theorem lst_last {w : List Int} {t : Int} (h : w.getLast? = some t) : lst w = t := by
  have hne : w ≠ [] := fun e => by rw [e] at h; cases h
  have e := lst_eq' hne
  rw [e, List.getLast?_append] at h
  simpa using h
theorem nth_head {w : List Int} {y : Int} (h : w.head? = some y) : nth w 0 = y := by
  cases w with
  | nil => cases h
  | cons z t => simp at h; rw [nth_eq]; simp [h]
theorem idxF_nd {l : List Int} (hd : l.Nodup) (x : Int) (i : Nat) (hi : i < l.length) (hx : l[i] = x) : idxE l x = i := by
  have e : l = l.take i ++ x :: l.drop (i + 1) := by rw [← hx]; simp
  have hn : x ∉ l.take i := fun q => by
    obtain ⟨j, hj, e2⟩ := List.getElem_of_mem q
    rw [List.length_take] at hj
    rw [List.getElem_take] at e2
    exact List.pairwise_iff_getElem.1 hd j i (by omega) hi (by omega) (e2.trans hx.symm)
  unfold idxE
  rw [e, idx_at _ 0 hn]
  simp; omega
theorem cwF_ok {c m : Int} {S all : List Int} : ∀ (l : List Int) (k : Nat), all.drop k = l → (∀ x ∈ l, atE m S x = 0) → (∀ j, 0 < j → j < all.length → nth all j ∈ stL c m S (nth all (j - 1))) → cwF c m S all l k = 0
  | [], _, _, _, _ => rfl
  | x :: t, k, h, hb, hs => by
    have hk : k < all.length := by
      refine Classical.byContradiction fun q => ?_
      rw [List.drop_of_length_le (by omega)] at h; cases h
    have hc := List.drop_eq_getElem_cons hk
    rw [h] at hc
    have hx : nth all k = x := by rw [nth_eq, List.getElem?_eq_getElem hk]; exact (List.cons.inj hc).1.symm
    unfold cwF
    rw [if_pos (hb x (by simp)), if_pos ?_]
    · exact cwF_ok t (k + 1) (List.cons.inj hc).2.symm (fun y hy => hb y (by simp [hy])) hs
    · rcases Nat.eq_zero_or_pos k with q | q
      · exact .inl q
      · refine .inr ?_
        have := hs k q hk
        rw [hx] at this
        simpa using this
theorem Wy.step {st : Int → List Int} : ∀ (w : List Int), Wy st w → ∀ j, 0 < j → j < w.length → nth w j ∈ st (nth w (j - 1))
  | [], h, _, _, _ => absurd h (by simp [Wy])
  | [_], _, j, h1, h2 => by simp at h2; omega
  | k :: y :: t, h, j, h1, h2 => by
    match j, h1 with
    | 1, _ => exact h.1
    | j + 2, _ =>
      have := Wy.step (y :: t) h.2 (j + 1) (by omega) (by simpa using h2)
      exact this
theorem Wto.good {c m : Int} {S : List Int} {y t : Int} {w : List Int} (h : Wto (stL c m S) y t w) (hy : 0 ≤ y ∧ y < m ∧ y ∉ S) : (∀ x ∈ w, atE m S x = 0) ∧ cwE c m S w = 0 := by
  have h1 : ∀ x ∈ w, atE m S x = 0 := fun x hx => by
    obtain ⟨j, hj, rfl⟩ := List.getElem_of_mem hx
    have e : nth w j = w[j] := by rw [nth_eq, List.getElem?_eq_getElem hj]; rfl
    rcases Nat.eq_zero_or_pos j with q | q
    · subst q
      rw [← e, nth_head h.2.1]; exact atE_zero.2 hy
    · have := Wy.step w h.1 j q hj
      rw [e] at this
      have h2 := mem_stL.1 this
      exact atE_zero.2 h2.2
  refine ⟨h1, ?_⟩
  unfold cwE
  rw [if_neg h.ne]
  exact cwF_ok w 0 rfl h1 (Wy.step w h.1)
/-- a family with its order. -/
structure GdF (c m : Int) (S Y T : List Int) (F : List (List Int)) (o : List Int) : Prop where
  fl : F.length = Y.length
  ol : o.length = Y.length
  nd : o.Nodup
  ob : ∀ k, k < Y.length → 0 ≤ nth o k ∧ nth o k < T.length
  w : ∀ k, k < Y.length → Wto (stL c m S) (nth Y k) (nth T (nth o k).toNat) (lth F k)
theorem orG_good {c m : Int} {S Y T : List Int} {F : List (List Int)} {o : List Int} (hT : T.Nodup) (hY : ∀ y ∈ Y, 0 ≤ y ∧ y < m ∧ y ∉ S) (h : GdF c m S Y T F o) : ∀ (f k : Nat), k + f = Y.length → orG c m S Y T F f k (o.take k) = (0, o)
  | 0, k, hk => by
    unfold orG
    rw [List.take_of_length_le (by have := h.ol; omega)]
  | f + 1, k, hk => by
    have hw := h.w k (by omega)
    have hb := h.ob k (by omega)
    have hy := hY _ (nth_mem (l := Y) (k := k) (by omega))
    unfold orG
    rw [if_pos (hw.good hy).2]
    have e1 : nth (lth F k) 0 = nth Y k := nth_head hw.2.1
    have e2 : nth (lth F k) ((lth F k).length - 1) = nth T (nth o k).toNat := lst_last hw.2.2
    have hlt : (nth o k).toNat < T.length := by omega
    have e3 : idxE T (nth T (nth o k).toNat) = nth o k := by
      rw [idxF_nd hT _ (nth o k).toNat hlt (by rw [nth_eq T, List.getElem?_eq_getElem hlt]; rfl)]; omega
    rw [e2, e3, if_pos ⟨e1, hb.1⟩]
    have hko : k < o.length := by have := h.ol; omega
    have e4 : nth o k = o[k] := by rw [nth_eq, List.getElem?_eq_getElem hko]; rfl
    have hno : ¬ (o.take k).contains (nth o k) = true := fun q => by
      rw [List.contains_iff_mem] at q
      obtain ⟨j, hj, e⟩ := List.getElem_of_mem q
      rw [List.length_take] at hj
      rw [List.getElem_take] at e
      exact List.pairwise_iff_getElem.1 h.nd j k (by omega) hko (by omega) (e.trans e4)
    rw [if_neg hno, e4, List.take_append_getElem hko]
    exact orG_good hT hY h f (k + 1) (by omega)
theorem ord_good {r c : Int} {S Y T : List Int} {F : List (List Int)} {o : List Int} (hc : chkP r c S Y T = 0) (h : GdF c (r * c) S Y T F o) : ordP r c S Y T F = (0, o) := by
  have hg := chk_all hc
  unfold ordP
  rw [if_pos hc, if_pos h.fl]
  have := orG_good hg.td hg.y h F.length 0 (by have := h.fl; omega)
  simpa using this
/-- the order with two of its numbers exchanged. -/
def oxc (o : List Int) (i j : Nat) : List Int := (o.set i (nth o j)).set j (nth o i)
theorem nth_oxc {o : List Int} {i j : Nat} (hi : i < o.length) (hj : j < o.length) (k : Nat) : nth (oxc o i j) k = if k = j then nth o i else if k = i then nth o j else nth o k := by
  unfold oxc
  rw [nth_eq, nth_eq, nth_eq, nth_eq]
  by_cases h : k = j
  · subst h; rw [if_pos rfl, List.getElem?_set_self (by rw [List.length_set]; exact hj)]; rfl
  · rw [if_neg h, List.getElem?_set_ne (fun e => h e.symm)]
    by_cases h2 : k = i
    · subst h2; rw [if_pos rfl, List.getElem?_set_self hi]; rfl
    · rw [if_neg h2, List.getElem?_set_ne (fun e => h2 e.symm)]
theorem nd_nth {o : List Int} : o.Nodup ↔ ∀ a b, a < o.length → b < o.length → nth o a = nth o b → a = b := by
  have e : ∀ k (h : k < o.length), nth o k = o[k] := fun k h => by rw [nth_eq, List.getElem?_eq_getElem h]; rfl
  constructor
  · intro h a b ha hb q
    rw [e a ha, e b hb] at q
    rcases Nat.lt_trichotomy a b with l | l | l
    · exact absurd q (List.pairwise_iff_getElem.1 h a b ha hb l)
    · exact l
    · exact absurd q.symm (List.pairwise_iff_getElem.1 h b a hb ha l)
  · intro h
    refine List.pairwise_iff_getElem.2 fun a b ha hb hl q => ?_
    have := h a b ha hb (by rw [e a ha, e b hb]; exact q)
    omega
/-- what is exchanged is a family with the order exchanged. -/
theorem GdF.xch {c m : Int} {S Y T : List Int} {F : List (List Int)} {o : List Int} (h : GdF c m S Y T F o) {i j : Nat} {x : Int} {a b p q : List Int} (hi : i < Y.length) (hj : j < Y.length) (hne : j ≠ i) (ei : lth F i = a ++ x :: b) (ej : lth F j = p ++ x :: q) :
    GdF c m S Y T (xch F i j (a ++ x :: q) (p ++ x :: b)) (oxc o i j) := by
  have hil : i < o.length := by have := h.ol; omega
  have hjl : j < o.length := by have := h.ol; omega
  have N := nth_oxc hil hjl
  have L := lth_xch (F := F) (i := i) (j := j) (a ++ x :: q) (p ++ x :: b) (by have := h.fl; omega) (by have := h.fl; omega) hne
  have hl : (oxc o i j).length = o.length := by unfold oxc; simp
  have hwi := h.w i hi
  have hwj := h.w j hj
  rw [ei] at hwi
  rw [ej] at hwj
  refine ⟨by rw [xch_len]; exact h.fl, by rw [hl]; exact h.ol, ?_, fun k hk => ?_, fun k hk => ?_⟩
  · rw [nd_nth, hl]
    have hd := nd_nth.1 h.nd
    intro u v hu hv e
    rw [N, N] at e
    by_cases u1 : u = j
    · rw [if_pos u1] at e
      by_cases v1 : v = j
      · omega
      · rw [if_neg v1] at e
        by_cases v2 : v = i
        · rw [if_pos v2] at e; have := hd _ _ hil hjl e; omega
        · rw [if_neg v2] at e; have := hd _ _ hil hv e; omega
    · rw [if_neg u1] at e
      by_cases u2 : u = i
      · rw [if_pos u2] at e
        by_cases v1 : v = j
        · rw [if_pos v1] at e; have := hd _ _ hjl hil e; omega
        · rw [if_neg v1] at e
          by_cases v2 : v = i
          · omega
          · rw [if_neg v2] at e; have := hd _ _ hjl hv e; omega
      · rw [if_neg u2] at e
        by_cases v1 : v = j
        · rw [if_pos v1] at e; have := hd _ _ hu hil e; omega
        · rw [if_neg v1] at e
          by_cases v2 : v = i
          · rw [if_pos v2] at e; have := hd _ _ hu hjl e; omega
          · rw [if_neg v2] at e; exact hd _ _ hu hv e
  · rw [N]
    split
    · exact h.ob i hi
    · split
      · exact h.ob j hj
      · exact h.ob k hk
  · rw [N, L]
    by_cases k1 : k = j
    · rw [if_pos k1, if_pos k1, k1]; exact hwj.swap hwi
    · rw [if_neg k1, if_neg k1]
      by_cases k2 : k = i
      · rw [if_pos k2, if_pos k2, k2]; exact hwi.swap hwj
      · rw [if_neg k2, if_neg k2]; exact h.w k hk
/-- how many pairs of an order's numbers have the greater one first. -/
def invK (o : List Int) (i : Nat) : Nat → Nat
  | 0 => 0
  | k + 1 => invK o i k + if nth o i < nth o k then 1 else 0
def invN (o : List Int) : Nat → Nat
  | 0 => 0
  | i + 1 => invN o i + invK o i i
def sgnO (o : List Int) : Int := if invN o o.length % 2 = 0 then 1 else -1
theorem sgn_oxc {o : List Int} (hd : o.Nodup) (h3 : o.length ≤ 3) {i j : Nat} (hij : i < j) (hj : j < o.length) : sgnO (oxc o i j) = - sgnO o := by
  match o, h3 with
  | [], _ => simp at hj
  | [u], _ => simp at hj; omega
  | [u, v], _ =>
    obtain ⟨rfl, rfl⟩ : i = 0 ∧ j = 1 := by simp at hj; omega
    simp at hd
    simp [sgnO, oxc, invN, invK, nth]
    by_cases h1 : u < v <;> by_cases h2 : v < u <;> simp [h1, h2] <;> omega
  | [u, v, w], _ =>
    simp at hd
    rcases (by simp at hj; omega : (i = 0 ∧ j = 1) ∨ (i = 0 ∧ j = 2) ∨ (i = 1 ∧ j = 2)) with ⟨rfl, rfl⟩ | ⟨rfl, rfl⟩ | ⟨rfl, rfl⟩
    all_goals
      simp [sgnO, oxc, invN, invK, nth]
      by_cases h1 : u < v <;> by_cases h2 : v < w <;> by_cases h3 : u < w <;> by_cases h4 : v < u <;> by_cases h5 : w < v <;> by_cases h6 : w < u <;> simp [h1, h2, h3, h4, h5, h6] <;> omega
end Go.Proofs.Ytflllkamdihfaaa
