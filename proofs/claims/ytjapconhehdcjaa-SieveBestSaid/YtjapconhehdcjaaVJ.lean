/- pure: depths that shrink -/
import Derived.Test.YtjapconhehdcjaaVD
import Derived.Test.YtjapconhehdcjaaMSC
import Derived.Lib.Slices
namespace Go.Proofs.Ytjapconhehdcjaa
open Go.RowKit Go.Sort
namespace Sv
/-- depths that a tree has. -/
def IsD (l : List Int) : Prop := ∃ t : Tr, l = castL t.dep
theorem castL_app (a b : List Nat) : castL (a ++ b) = castL a ++ castL b := by unfold castL; rw [List.map_append]
theorem castL_cons (a : Nat) (b : List Nat) : castL (a :: b) = (a : Int) :: castL b := rfl
theorem castL_mem {l : List Nat} {x : Int} (h : x ∈ castL l) : ∃ d ∈ l, x = (d : Int) := by
  unfold castL at h
  obtain ⟨d, h1, h2⟩ := List.mem_map.1 h
  exact ⟨d, h1, h2.symm⟩
theorem castL_inj : ∀ {a b : List Nat}, castL a = castL b → a = b
  | [], [], _ => rfl
  | x :: a, y :: b, h => by
    rw [castL_cons, castL_cons] at h
    injection h with h1 h2
    rw [castL_inj h2, show x = y by omega]
  | [], _ :: _, h => by cases h
  | _ :: _, [], h => by cases h
/-- a greatest depth, the first one, and the one behind it. -/
theorem isD_deep {l : List Int} (h : IsD l) (hl : 2 ≤ l.length) : ∃ (a b : List Int) (d : Int), l = a ++ d :: d :: b ∧ 0 < d ∧ (∀ x ∈ a, x < d) ∧ (∀ x ∈ b, x ≤ d) ∧ IsD (a ++ (d - 1) :: b) := by
  obtain ⟨t, rfl⟩ := h
  rw [castL_len, dep_len] at hl
  obtain ⟨d1, d2, D, u, e1, e2, e3, e4⟩ := deepest t hl
  refine ⟨castL d1, castL d2, ((D + 1 : Nat) : Int), ?_, by omega, ?_, ?_, u, ?_⟩
  · rw [e1, castL_app, castL_cons, castL_cons]
  · intro x hx
    obtain ⟨d, h1, rfl⟩ := castL_mem hx
    have := e3 d h1
    omega
  · intro x hx
    obtain ⟨d, h1, rfl⟩ := castL_mem hx
    have := e4 d h1
    omega
  · rw [e2, castL_app, castL_cons, show ((D + 1 : Nat) : Int) - 1 = (D : Int) by omega]
theorem cast_split : ∀ {a b : List Int} {e : List Nat}, a ++ b = castL e → ∃ f g, e = f ++ g ∧ a = castL f ∧ b = castL g
  | [], b, e, h => ⟨[], e, rfl, rfl, h⟩
  | x :: a, b, [], h => by cases h
  | x :: a, b, d :: e, h => by
    rw [castL_cons, List.cons_append] at h
    injection h with h1 h2
    obtain ⟨f, g, e1, e2, e3⟩ := cast_split h2
    exact ⟨d :: f, g, by rw [e1]; rfl, by rw [castL_cons, h1, e2], e3⟩
theorem isD_expand {a b : List Int} {d : Int} (h : IsD (a ++ (d - 1) :: b)) : IsD (a ++ d :: d :: b) := by
  obtain ⟨t, ht⟩ := h
  obtain ⟨f, g, e1, rfl, e3⟩ := cast_split ht
  cases g with
  | nil => cases e3
  | cons D g =>
    rw [castL_cons] at e3
    injection e3 with e4 e5
    obtain ⟨u, hu⟩ := expand t f g D e1
    refine ⟨u, ?_⟩
    rw [hu, castL_app, castL_cons, castL_cons, e5, show ((D + 1 : Nat) : Int) = d by omega]
theorem isD_one (x : Int) : IsD [x] ↔ x = 0 := by
  constructor
  · rintro ⟨t, ht⟩
    have hs : t.size = 1 := by have := congrArg List.length ht; rw [castL_len, dep_len] at this; simpa using this.symm
    cases t with
    | leaf => injection ht
    | node l r => have := size_pos l; have := size_pos r; rw [Tr.size] at hs; omega
  · rintro rfl; exact ⟨.leaf, rfl⟩
theorem fold_max : ∀ (l : List Int) (x : Int), (x ≤ l.foldl max x ∧ ∀ y ∈ l, y ≤ l.foldl max x) ∧ (l.foldl max x = x ∨ l.foldl max x ∈ l)
  | [], x => ⟨⟨Int.le_refl _, by simp⟩, .inl rfl⟩
  | a :: l, x => by
    obtain ⟨⟨h1, h2⟩, h3⟩ := fold_max l (max x a)
    rw [List.foldl_cons]
    refine ⟨⟨by omega, fun y hy => ?_⟩, ?_⟩
    · rcases List.mem_cons.1 hy with rfl | hy
      · omega
      · exact h2 y hy
    · rcases h3 with h3 | h3
      · rcases Int.le_total x a with q | q
        · right; rw [h3, Int.max_eq_right q]; simp
        · left; rw [h3, Int.max_eq_left q]
      · right; exact List.mem_cons_of_mem _ h3
theorem max_spec {l : List Int} (h : l ≠ []) : Lib.maxOf l ∈ l ∧ ∀ y ∈ l, y ≤ Lib.maxOf l := by
  cases l with
  | nil => exact absurd rfl h
  | cons a l =>
    unfold Lib.maxOf
    show (a :: l).foldl max a ∈ a :: l ∧ ∀ y ∈ a :: l, y ≤ (a :: l).foldl max a
    obtain ⟨⟨h1, h2⟩, h3⟩ := fold_max (a :: l) a
    exact ⟨by rcases h3 with h3 | h3; rw [h3]; simp; exact h3, h2⟩
theorem parts2 (l : List Int) (k : Nat) (hk : k + 1 < l.length) : l = l.take k ++ nth l k :: nth l (k + 1) :: l.drop (k + 2) ∧ ∀ x, (l.set k x).take (k + 1) ++ (l.set k x).drop (k + 2) = l.take k ++ x :: l.drop (k + 2) := by
  have e1 := nth_drop l k (by omega)
  have e2 := nth_drop l (k + 1) hk
  refine ⟨by rw [← e2, ← e1, List.take_append_drop], fun x => ?_⟩
  have hs : l.set k x = l.take k ++ x :: l.drop (k + 1) := by
    conv => lhs; rw [← List.take_append_drop k l, e1]
    rw [List.set_append, if_neg (by rw [List.length_take]; omega), List.length_take, Nat.min_eq_left (by omega), Nat.sub_self, List.set_cons_zero]
  have hA : (l.take k ++ [x]).length = k + 1 := by rw [List.length_append, List.length_take]; simp; omega
  rw [hs, show l.take k ++ x :: l.drop (k + 1) = (l.take k ++ [x]) ++ l.drop (k + 1) by simp, List.take_left' hA, List.drop_append, List.drop_eq_nil_of_le (by omega), hA, show k + 2 - (k + 1) = 1 by omega, List.nil_append, List.drop_drop]
  simp
/-- depths shrink to one just if they have a tree: a step keeps that. -/
theorem shrink_iff {l : List Int} {k : Nat} {d : Int} (hk : k + 1 < l.length) (h1 : nth l k = d) (h2 : nth l (k + 1) = d) (hmax : ∀ y ∈ l, y ≤ d) (hfst : ∀ j, j < k → nth l j ≠ d) (hd : d ≠ 0) : IsD l ↔ IsD (l.take k ++ (d - 1) :: l.drop (k + 2)) := by
  have e := (parts2 l k hk).1
  rw [h1, h2] at e
  constructor
  · intro h
    obtain ⟨a, b, c, q1, q2, q3, q4, q5⟩ := isD_deep h (by omega)
    have hcd : c = d := by
      have a1 := hmax c (by rw [q1]; simp)
      have a2 : d ∈ l := by rw [e]; simp
      rw [q1] at a2
      rcases List.mem_append.1 a2 with a2 | a2
      · have := q3 d a2; omega
      · rcases List.mem_cons.1 a2 with a2 | a2
        · exact a2.symm
        · rcases List.mem_cons.1 a2 with a2 | a2
          · exact a2.symm
          · have := q4 d a2; omega
    subst hcd
    have hak : a.length = k := by
      rcases Nat.lt_trichotomy a.length k with q | q | q
      · have := hfst a.length q
        rw [q1, nth_eq, List.getElem?_append_right (Nat.le_refl _), Nat.sub_self] at this
        exact absurd rfl this
      · exact q
      · have : nth l k = c := h1
        rw [q1, nth_eq, List.getElem?_append_left q, List.getElem?_eq_getElem q] at this
        have a3 := q3 (a[k]) (List.getElem_mem q)
        simp at this
        omega
    have hta : l.take k = a := by rw [q1, ← hak, List.take_left']; rfl
    have htb : l.drop (k + 2) = b := by rw [q1, ← hak, List.drop_append, List.drop_eq_nil_of_le (by omega), show a.length + 2 - a.length = 2 by omega]; rfl
    rw [hta, htb]
    exact q5
  · intro h
    rw [e]
    exact isD_expand h
theorem shrink_stuck {l : List Int} (hl : 2 ≤ l.length) {k : Nat} {d : Int} (hk : k < l.length) (h1 : nth l k = d) (hmax : ∀ y ∈ l, y ≤ d) (hfst : ∀ j, j < k → nth l j ≠ d) (hs : d = 0 ∨ k + 1 = l.length ∨ nth l (k + 1) ≠ d) : ¬ IsD l := by
  intro h
  obtain ⟨a, b, c, q1, q2, q3, q4, _⟩ := isD_deep h hl
  have hd : d ∈ l := by rw [← h1]; exact nth_mem hk
  have hcd : c = d := by
    have a1 := hmax c (by rw [q1]; simp)
    rw [q1] at hd
    rcases List.mem_append.1 hd with a2 | a2
    · have := q3 d a2; omega
    · rcases List.mem_cons.1 a2 with a2 | a2
      · exact a2.symm
      · rcases List.mem_cons.1 a2 with a2 | a2
        · exact a2.symm
        · have := q4 d a2; omega
  subst hcd
  have hak : a.length = k := by
    rcases Nat.lt_trichotomy a.length k with q | q | q
    · have := hfst a.length q
      rw [q1, nth_eq, List.getElem?_append_right (Nat.le_refl _), Nat.sub_self] at this
      exact absurd rfl this
    · exact q
    · rw [q1, nth_eq, List.getElem?_append_left q, List.getElem?_eq_getElem q] at h1
      have a3 := q3 (a[k]) (List.getElem_mem q)
      simp at h1
      omega
  have h2 : nth l (k + 1) = c := by
    rw [q1, nth_eq, ← hak, List.getElem?_append_right (by omega), show a.length + 1 - a.length = 1 by omega]; rfl
  have h3 : l.length = a.length + 2 + b.length := by rw [q1]; simp; omega
  rcases hs with q | q | q
  · omega
  · omega
  · exact q h2
end Sv
theorem made_iff (ds : List Int) : (∃ zs, Sv.madeO ds = some zs) ↔ Sv.IsD ds := by
  constructor
  · rintro ⟨zs, h⟩
    obtain ⟨t, _, h2, _⟩ := Sv.made_some h
    exact ⟨t, h2⟩
  · rintro ⟨t, rfl⟩
    exact ⟨_, Sv.made_tree t⟩
/-- what Made answers for depths that are in their bounds. -/
theorem made_vals {ds : List Int} (h1 : 1 ≤ ds.length) (h8 : ds.length ≤ 8) (hb : ∀ z ∈ ds, 0 ≤ z ∧ z < ds.length) : (Sv.IsD ds → ∃ t : Sv.Tr, t.size = ds.length ∧ ds = castL t.dep ∧ madeC ds = 0 ∧ madeE ds = t.lst 0) ∧ (¬ Sv.IsD ds → madeC ds = 12 ∧ madeE ds = []) := by
  have hok : madeC ds = match Sv.madeO ds with | none => 12 | some _ => 0 := madeC_ok (by omega) h8 fun j hj => by
    have := hb _ (nth_mem hj)
    unfold inB; simp; omega
  constructor
  · intro h
    obtain ⟨zs, hz⟩ := (made_iff ds).2 h
    obtain ⟨t, e1, e2, e3⟩ := Sv.made_some hz
    rw [hz] at hok
    refine ⟨t, e1, e2, hok, ?_⟩
    unfold madeE
    rw [hok, hz, ← e3]; rfl
  · intro h
    have hn : Sv.madeO ds = none := by
      cases e : Sv.madeO ds with
      | none => rfl
      | some zs => exact absurd ((made_iff ds).1 ⟨zs, e⟩) h
    rw [hn] at hok
    refine ⟨hok, ?_⟩
    unfold madeE
    rw [hok]; rfl
end Go.Proofs.Ytjapconhehdcjaa
