/- pure: the least questions in any order -/
import Derived.Test.YtjapconhehdcjaaPC
import Derived.Test.YtjapconhehdcjaaLE
namespace Go.Proofs.Ytjapconhehdcjaa
namespace Sv
/-- the least questions in any order: the two smallest are joined. -/
def huf : Nat → List Int → Int
  | 0, _ => 0
  | f + 1, l => match srtI l with
    | x :: y :: r => (x + y) + huf f ((x + y) :: r)
    | _ => 0
theorem huf_perm (f : Nat) {l l' : List Int} (h : l.Perm l') : huf f l = huf f l' := by
  cases f with
  | zero => rfl
  | succ f => rw [huf, huf, srt_eq_of_perm h]
theorem srt_two {l r : List Int} {x y : Int} (h : l.Perm (x :: y :: r)) (hx : x ≤ y) (hy : ∀ z ∈ r, y ≤ z) : srtI l = x :: y :: srtI r := by
  refine le_eq _ _ (srt_le _) ?_ ((srt_perm l).trans (h.trans ((List.Perm.cons _ (List.Perm.cons _ (srt_perm r).symm)))))
  have hm : ∀ z ∈ srtI r, y ≤ z := fun z hz => hy z ((srt_perm r).mem_iff.1 hz)
  refine List.pairwise_cons.2 ⟨fun z hz => ?_, List.pairwise_cons.2 ⟨hm, srt_le r⟩⟩
  rcases List.mem_cons.1 hz with rfl | hz
  · exact hx
  · have := hm z hz; omega
/-- one step, wherever the two smallest stand. -/
theorem huf_step (f : Nat) {l r : List Int} {x y : Int} (h : l.Perm (x :: y :: r)) (hx : x ≤ y) (hy : ∀ z ∈ r, y ≤ z) : huf (f + 1) l = (x + y) + huf f ((x + y) :: r) := by
  rw [huf, srt_two h hx hy]
  show (x + y) + huf f ((x + y) :: srtI r) = _
  rw [huf_perm f (List.Perm.cons _ (srt_perm r))]
theorem srt_one {l : List Int} (h : l.length = 1) : ∃ x, srtI l = [x] := List.length_eq_one_iff.1 (by rw [srt_len, h])
theorem huf_one (f : Nat) {l : List Int} (h : l.length = 1) : huf f l = 0 := by
  cases f with
  | zero => rfl
  | succ f =>
    obtain ⟨x, e⟩ := srt_one h
    rw [huf, e]
theorem srt_parts {l : List Int} (h : 2 ≤ l.length) : ∃ x y r, srtI l = x :: y :: r ∧ l.Perm (x :: y :: r) ∧ x ≤ y ∧ ∀ z ∈ r, y ≤ z := by
  have hl := srt_len l
  have hp := srt_perm l
  have hs := srt_le l
  match e : srtI l, hl with
  | [], hl => simp at hl; omega
  | [x], hl => simp at hl; omega
  | x :: y :: r, _ =>
    rw [e] at hp hs
    obtain ⟨h1, h2⟩ := List.pairwise_cons.1 hs
    exact ⟨x, y, r, rfl, hp.symm, h1 y (by simp), (List.pairwise_cons.1 h2).1⟩
/-- two deepest kinds that are neighbours, the first ones. -/
theorem deepest : ∀ t : Tr, 2 ≤ t.size → ∃ (d1 d2 : List Nat) (D : Nat) (u : Tr), t.dep = d1 ++ (D + 1) :: (D + 1) :: d2 ∧ u.dep = d1 ++ D :: d2 ∧ (∀ x ∈ d1, x < D + 1) ∧ ∀ x ∈ d2, x ≤ D + 1
  | .leaf, h => by rw [Tr.size] at h; omega
  | .node .leaf .leaf, _ => ⟨[], [], 0, .leaf, rfl, rfl, by simp, by simp⟩
  | .node (.node a b) .leaf, _ => by
    have h1 := size_pos a
    have h2 := size_pos b
    obtain ⟨d1, d2, D, u, e1, e2, e3, e4⟩ := deepest (.node a b) (by rw [Tr.size]; omega)
    refine ⟨d1.map (· + 1), d2.map (· + 1) ++ [1], D + 1, .node u .leaf, ?_, ?_, ?_, ?_⟩
    · rw [Tr.dep, e1]; simp [Tr.dep]
    · rw [Tr.dep, e2]; simp [Tr.dep]
    · intro x hx; obtain ⟨z, hz, rfl⟩ := List.mem_map.1 hx; have := e3 z hz; omega
    · intro x hx
      rcases List.mem_append.1 hx with hx | hx
      · obtain ⟨z, hz, rfl⟩ := List.mem_map.1 hx; have := e4 z hz; omega
      · rw [List.mem_singleton.1 hx]; omega
  | .node .leaf (.node a b), _ => by
    have h1 := size_pos a
    have h2 := size_pos b
    obtain ⟨d1, d2, D, u, e1, e2, e3, e4⟩ := deepest (.node a b) (by rw [Tr.size]; omega)
    refine ⟨1 :: d1.map (· + 1), d2.map (· + 1), D + 1, .node .leaf u, ?_, ?_, ?_, ?_⟩
    · rw [Tr.dep, e1]; simp [Tr.dep]
    · rw [Tr.dep, e2]; simp [Tr.dep]
    · intro x hx
      rcases List.mem_cons.1 hx with rfl | hx
      · omega
      · obtain ⟨z, hz, rfl⟩ := List.mem_map.1 hx; have := e3 z hz; omega
    · intro x hx; obtain ⟨z, hz, rfl⟩ := List.mem_map.1 hx; have := e4 z hz; omega
  | .node (.node a b) (.node c d), _ => by
    have h1 := size_pos a
    have h2 := size_pos b
    have h3 := size_pos c
    have h4 := size_pos d
    obtain ⟨d1, d2, D, u, e1, e2, e3, e4⟩ := deepest (.node a b) (by rw [Tr.size]; omega)
    obtain ⟨f1, f2, F, v, g1, g2, g3, g4⟩ := deepest (.node c d) (by rw [Tr.size]; omega)
    by_cases hDF : F ≤ D
    · refine ⟨d1.map (· + 1), d2.map (· + 1) ++ (Tr.node c d).dep.map (· + 1), D + 1, .node u (.node c d), ?_, ?_, ?_, ?_⟩
      · rw [Tr.dep, e1]; simp
      · rw [Tr.dep, e2]; simp
      · intro x hx; obtain ⟨z, hz, rfl⟩ := List.mem_map.1 hx; have := e3 z hz; omega
      · intro x hx
        rcases List.mem_append.1 hx with hx | hx
        · obtain ⟨z, hz, rfl⟩ := List.mem_map.1 hx; have := e4 z hz; omega
        · obtain ⟨z, hz, rfl⟩ := List.mem_map.1 hx
          rw [g1] at hz
          rcases List.mem_append.1 hz with hz | hz
          · have := g3 z hz; omega
          · rcases List.mem_cons.1 hz with rfl | hz
            · omega
            · rcases List.mem_cons.1 hz with rfl | hz
              · omega
              · have := g4 z hz; omega
    · refine ⟨(Tr.node a b).dep.map (· + 1) ++ f1.map (· + 1), f2.map (· + 1), F + 1, .node (.node a b) v, ?_, ?_, ?_, ?_⟩
      · rw [Tr.dep, g1]; simp
      · rw [Tr.dep, g2]; simp
      · intro x hx
        rcases List.mem_append.1 hx with hx | hx
        · obtain ⟨z, hz, rfl⟩ := List.mem_map.1 hx
          rw [e1] at hz
          rcases List.mem_append.1 hz with hz | hz
          · have := e3 z hz; omega
          · rcases List.mem_cons.1 hz with rfl | hz
            · omega
            · rcases List.mem_cons.1 hz with rfl | hz
              · omega
              · have := e4 z hz; omega
        · obtain ⟨z, hz, rfl⟩ := List.mem_map.1 hx; have := g3 z hz; omega
      · intro x hx; obtain ⟨z, hz, rfl⟩ := List.mem_map.1 hx; have := g4 z hz; omega
/-- a kind is divided into two. -/
theorem expand : ∀ (t : Tr) (d1 d2 : List Nat) (D : Nat), t.dep = d1 ++ D :: d2 → ∃ u : Tr, u.dep = d1 ++ (D + 1) :: (D + 1) :: d2
  | .leaf, d1, d2, D, h => by
    rw [Tr.dep] at h
    cases d1 with
    | nil => injection h with h1 h2; exact ⟨.node .leaf .leaf, by rw [← h1, ← h2]; rfl⟩
    | cons x l => injection h with _ h; simp at h
  | .node l r, d1, d2, D, h => by
    rw [Tr.dep, List.map_append] at h
    rcases List.append_eq_append_iff.1 h with ⟨cs, h1, h2⟩ | ⟨bs, h1, h2⟩
    · -- d1 = dep l + as
      have hD : ∃ E, D = E + 1 := by
        have : D ∈ r.dep.map (· + 1) := by rw [h2]; simp
        obtain ⟨E, _, rfl⟩ := List.mem_map.1 this
        exact ⟨E, rfl⟩
      obtain ⟨E, rfl⟩ := hD
      obtain ⟨e1, e2, h3, h4, h5⟩ := List.map_eq_append_iff.1 h2
      obtain ⟨z, e3, rfl, h6, h7⟩ := List.map_eq_cons_iff.1 h5
      obtain rfl : z = E := by omega
      obtain ⟨u, hu⟩ := expand r e1 e3 z h3
      refine ⟨.node l u, ?_⟩
      rw [Tr.dep, hu, h1, ← h4, ← h7]; simp
    · cases bs with
      | nil =>
        -- D :: d2 = dep r
        rw [List.append_nil] at h1
        rw [List.nil_append] at h2
        obtain ⟨z, e3, h3, rfl, h7⟩ := List.map_eq_cons_iff.1 h2.symm
        obtain ⟨u, hu⟩ := expand r [] e3 z h3
        refine ⟨.node l u, ?_⟩
        rw [Tr.dep, hu, ← h1, ← h7]; simp
      | cons b bs =>
        injection h2 with h2 h3
        subst h2
        obtain ⟨e1, e2, h4, h5, h6⟩ := List.map_eq_append_iff.1 h1
        obtain ⟨z, e3, rfl, h7, h8⟩ := List.map_eq_cons_iff.1 h6
        obtain ⟨u, hu⟩ := expand l e1 e3 z h4
        refine ⟨.node u r, ?_⟩
        rw [Tr.dep, hu, ← h7, ← h5, h3, ← h8]; simp
end Sv
namespace Sv
/-- depths that some tree has, in some order. -/
def PD (ds : List Nat) : Prop := ∃ t : Tr, t.dep.Perm ds
theorem PD.perm {a b : List Nat} (h : PD a) (p : a.Perm b) : PD b := by
  obtain ⟨t, ht⟩ := h
  exact ⟨t, ht.trans p⟩
theorem PD.deepest {ds : List Nat} (h : PD ds) (hl : 2 ≤ ds.length) : ∃ D r, ds.Perm ((D + 1) :: (D + 1) :: r) ∧ (∀ x ∈ r, x ≤ D + 1) ∧ PD (D :: r) := by
  obtain ⟨t, ht⟩ := h
  obtain ⟨d1, d2, D, u, e1, e2, e3, e4⟩ := Sv.deepest t (by rw [← dep_len, ht.length_eq]; exact hl)
  refine ⟨D, d1 ++ d2, ?_, ?_, u, ?_⟩
  · refine ht.symm.trans ?_
    rw [e1]
    exact List.perm_middle.trans (List.Perm.cons _ List.perm_middle)
  · intro x hx
    rcases List.mem_append.1 hx with hx | hx
    · have := e3 x hx; omega
    · exact e4 x hx
  · rw [e2]; exact List.perm_middle
theorem PD.expand {D : Nat} {r : List Nat} (h : PD (D :: r)) : PD ((D + 1) :: (D + 1) :: r) := by
  obtain ⟨t, ht⟩ := h
  have hm : D ∈ t.dep := ht.mem_iff.2 (by simp)
  obtain ⟨d1, d2, e⟩ := List.append_of_mem hm
  obtain ⟨u, hu⟩ := Sv.expand t d1 d2 D e
  refine ⟨u, ?_⟩
  rw [hu]
  rw [e] at ht
  have h2 : (d1 ++ d2).Perm r := (List.Perm.cons_inv (List.perm_middle.symm.trans ht))
  exact (List.perm_middle.trans (List.Perm.cons _ List.perm_middle)).trans (List.Perm.cons _ (List.Perm.cons _ h2))
theorem PD.one {ds : List Nat} (h : PD ds) (hl : ds.length = 1) : ds = [0] := by
  obtain ⟨t, ht⟩ := h
  have : t.size = 1 := by rw [← dep_len, ht.length_eq, hl]
  cases t with
  | leaf => exact List.perm_singleton.1 ht.symm
  | node l r => have := size_pos l; have := size_pos r; rw [Tr.size] at *; omega
theorem PD.ne {ds : List Nat} (h : PD ds) : 1 ≤ ds.length := by
  obtain ⟨t, ht⟩ := h
  rw [← ht.length_eq, dep_len]; exact size_pos t
/-- loads times depths, of pairs. -/
def cP : List (Int × Nat) → Int
  | [] => 0
  | p :: ps => p.1 * (p.2 : Int) + cP ps
theorem cP_perm {a b : List (Int × Nat)} (h : a.Perm b) : cP a = cP b := by
  induction h with
  | nil => rfl
  | cons x _ ih => rw [cP, cP, ih]
  | swap x y l => rw [cP, cP, cP, cP]; omega
  | trans _ _ h1 h2 => exact h1.trans h2
theorem perm_lift {α β : Type} (f : α → β) : ∀ {l m : List β}, l.Perm m → ∀ {ps : List α}, ps.map f = l → ∃ qs : List α, ps.Perm qs ∧ qs.map f = m := by
  intro l m h
  induction h with
  | nil => intro ps e; exact ⟨ps, List.Perm.refl _, e⟩
  | cons x _ ih =>
    intro ps e
    obtain ⟨p, qs, rfl, e1, e2⟩ := List.map_eq_cons_iff.1 e
    obtain ⟨rs, h1, h2⟩ := ih e2
    exact ⟨p :: rs, List.Perm.cons _ h1, by rw [List.map_cons, e1, h2]⟩
  | swap x y l =>
    intro ps e
    obtain ⟨p, qs, rfl, e1, e2⟩ := List.map_eq_cons_iff.1 e
    obtain ⟨q, rs, rfl, e3, e4⟩ := List.map_eq_cons_iff.1 e2
    exact ⟨q :: p :: rs, List.Perm.swap _ _ _, by rw [List.map_cons, List.map_cons, e1, e3, e4]⟩
  | trans _ _ h1 h2 =>
    intro ps e
    obtain ⟨qs, a1, a2⟩ := h1 e
    obtain ⟨rs, b1, b2⟩ := h2 a2
    exact ⟨rs, a1.trans b1, b2⟩
theorem swap_le {m d w x : Int} (h1 : d ≤ m) (h2 : x ≤ w) : m * x + w * d ≤ w * m + x * d := by
  have := Int.mul_nonneg (show 0 ≤ m - d by omega) (show 0 ≤ w - x by omega)
  have e : (m - d) * (w - x) = w * m + x * d - (m * x + w * d) := by grind
  omega
/-- the smallest load is put where it is deepest. -/
theorem exch (m : Nat) (x : Int) : ∀ (q : List (Int × Nat)) (w : Int), (∀ p ∈ q, p.2 ≤ m) → x ∈ w :: q.map Prod.fst → (∀ z ∈ w :: q.map Prod.fst, x ≤ z) → ∃ q', q'.map Prod.snd = q.map Prod.snd ∧ (w :: q.map Prod.fst).Perm (x :: q'.map Prod.fst) ∧ x * (m : Int) + cP q' ≤ w * (m : Int) + cP q
  | [], w, _, hx, _ => by
    have : x = w := by simpa using hx
    subst this
    exact ⟨[], rfl, List.Perm.refl _, Int.le_refl _⟩
  | p :: q, w, hm, hx, hle => by
    by_cases hw : x = w
    · subst hw
      exact ⟨p :: q, rfl, List.Perm.refl _, Int.le_refl _⟩
    by_cases hp : x = p.1
    · subst hp
      refine ⟨(w, p.2) :: q, rfl, List.Perm.swap _ _ _, ?_⟩
      rw [cP, cP]
      have := swap_le (m := (m : Int)) (d := (p.2 : Int)) (w := w) (x := p.1) (by have := hm p (by simp); omega) (hle w (by simp))
      have e : (m : Int) * p.1 = p.1 * m := Int.mul_comm _ _
      simp only
      omega
    · have hx2 : x ∈ w :: q.map Prod.fst := by
        rcases List.mem_cons.1 hx with e | e
        · exact absurd e hw
        · rw [List.map_cons] at e
          rcases List.mem_cons.1 e with e | e
          · exact absurd e hp
          · exact List.mem_cons_of_mem _ e
      obtain ⟨q', h1, h2, h3⟩ := exch m x q w (fun r hr => hm r (by simp [hr])) hx2 (fun z hz => hle z (by
        rcases List.mem_cons.1 hz with rfl | hz
        · simp
        · rw [List.map_cons]; exact List.mem_cons_of_mem _ (List.mem_cons_of_mem _ hz)))
      refine ⟨p :: q', by rw [List.map_cons, List.map_cons, h1], ?_, by rw [cP, cP]; omega⟩
      rw [List.map_cons, List.map_cons]
      exact (List.Perm.swap _ _ _).trans ((List.Perm.cons _ h2).trans (List.Perm.swap _ _ _))
/-- nothing is better than to join the two smallest. -/
theorem huf_le : ∀ (n : Nat) (zs : List Int) (ps : List (Int × Nat)), zs.length = n → PD (ps.map Prod.snd) → (ps.map Prod.fst).Perm zs → huf n zs ≤ cP ps
  | 0, zs, ps, hl, hP, hp => by
    have := hP.ne
    rw [List.length_map] at this
    have h2 := hp.length_eq
    rw [List.length_map] at h2; omega
  | 1, zs, ps, hl, hP, hp => by
    have h2 := hp.length_eq
    rw [List.length_map, hl] at h2
    obtain ⟨p, rfl⟩ := List.length_eq_one_iff.1 h2
    have := hP.one rfl
    have h3 : p.2 = 0 := by simpa using this
    rw [huf_one 1 hl, cP, cP, h3]; simp
  | n + 2, zs, ps, hl, hP, hp => by
    have hlen : ps.length = n + 2 := by have := hp.length_eq; rw [List.length_map, hl] at this; exact this
    obtain ⟨D, r, h1, h2, h3⟩ := hP.deepest (by rw [List.length_map]; omega)
    obtain ⟨qs, k1, k2⟩ := perm_lift Prod.snd h1 rfl
    obtain ⟨p, qs, rfl, e1, k2⟩ := List.map_eq_cons_iff.1 k2
    obtain ⟨q, qs, rfl, e2, k3⟩ := List.map_eq_cons_iff.1 k2
    obtain ⟨x, y, r0, _, hz, hxy, hy⟩ := srt_parts (l := zs) (by omega)
    have hpz : (p.1 :: (q :: qs).map Prod.fst).Perm (x :: y :: r0) := ((k1.map Prod.fst).symm.trans hp).trans hz
    have hmx : ∀ s ∈ q :: qs, s.2 ≤ D + 1 := fun s hs => by
      rcases List.mem_cons.1 hs with rfl | hs
      · omega
      · exact h2 _ (by rw [← k3]; exact List.mem_map.2 ⟨s, hs, rfl⟩)
    obtain ⟨q', a1, a2, a3⟩ := exch (D + 1) x (q :: qs) p.1 hmx (hpz.mem_iff.2 (by simp)) (fun z hz => by
      rcases List.mem_cons.1 (hpz.mem_iff.1 hz) with rfl | hz
      · omega
      · rcases List.mem_cons.1 hz with rfl | hz
        · exact hxy
        · have := hy z hz; omega)
    rw [List.map_cons] at a1
    obtain ⟨s, q2, rfl, b1, b2⟩ := List.map_eq_cons_iff.1 a1
    have hp2 : (s.1 :: q2.map Prod.fst).Perm (y :: r0) := (List.Perm.cons_inv (a2.symm.trans hpz))
    obtain ⟨q3, c1, c2, c3⟩ := exch (D + 1) y q2 s.1 (fun s2 hs2 => h2 _ (by rw [← k3, ← b2]; exact List.mem_map.2 ⟨s2, hs2, rfl⟩)) (hp2.mem_iff.2 (by simp)) (fun z hz => by
      rcases List.mem_cons.1 (hp2.mem_iff.1 hz) with rfl | hz
      · omega
      · exact hy z hz)
    have hp3 : (q3.map Prod.fst).Perm r0 := List.Perm.cons_inv (c2.symm.trans hp2)
    have ih := huf_le (n + 1) ((x + y) :: r0) ((x + y, D) :: q3) (by have := hz.length_eq; rw [hl] at this; simp at this; rw [List.length_cons]; omega) (by rw [List.map_cons, c1, b2, k3]; exact h3) (by rw [List.map_cons]; exact List.Perm.cons _ hp3)
    rw [huf_step (n + 1) hz hxy hy, cP_perm k1]
    rw [cP] at ih
    rw [cP] at a3
    have ec : cP (p :: q :: qs) = p.1 * ((D + 1 : Nat) : Int) + cP (q :: qs) := by rw [cP, e1]
    have es : s.2 = D + 1 := b1.trans e2
    rw [es] at a3
    have m1 : x * ((D + 1 : Nat) : Int) = x * (D : Int) + x := by rw [show ((D + 1 : Nat) : Int) = (D : Int) + 1 by omega, Int.mul_add, Int.mul_one]
    have m2 : y * ((D + 1 : Nat) : Int) = y * (D : Int) + y := by rw [show ((D + 1 : Nat) : Int) = (D : Int) + 1 by omega, Int.mul_add, Int.mul_one]
    have m3 : (x + y) * (D : Int) = x * (D : Int) + y * (D : Int) := Int.add_mul _ _ _
    simp only at ih
    omega
/-- so good a tree there is, for the loads in some order. -/
theorem huf_some : ∀ (n : Nat) (zs : List Int), zs.length = n + 1 → ∃ ps : List (Int × Nat), PD (ps.map Prod.snd) ∧ (ps.map Prod.fst).Perm zs ∧ cP ps = huf (n + 1) zs
  | 0, zs, hl => by
    obtain ⟨x, rfl⟩ := List.length_eq_one_iff.1 hl
    exact ⟨[(x, 0)], ⟨.leaf, List.Perm.refl _⟩, List.Perm.refl _, by rw [huf_one 1 rfl, cP, cP]; simp⟩
  | n + 1, zs, hl => by
    obtain ⟨x, y, r0, _, hz, hxy, hy⟩ := srt_parts (l := zs) (by omega)
    obtain ⟨ps, h1, h2, h3⟩ := huf_some n ((x + y) :: r0) (by have := hz.length_eq; rw [hl] at this; simp at this; rw [List.length_cons]; omega)
    obtain ⟨qs, k1, k2⟩ := perm_lift Prod.fst h2 rfl
    obtain ⟨p, qs, rfl, e1, k3⟩ := List.map_eq_cons_iff.1 k2
    have hP : PD (p.2 :: qs.map Prod.snd) := h1.perm (k1.map Prod.snd)
    refine ⟨(x, p.2 + 1) :: (y, p.2 + 1) :: qs, hP.expand, ?_, ?_⟩
    · rw [List.map_cons, List.map_cons, k3]; exact hz.symm
    · rw [huf_step (n + 1) hz hxy hy, ← h3, cP_perm k1, cP, cP, cP, e1]
      have m1 : x * ((p.2 + 1 : Nat) : Int) = x * (p.2 : Int) + x := by rw [show ((p.2 + 1 : Nat) : Int) = (p.2 : Int) + 1 by omega, Int.mul_add, Int.mul_one]
      have m2 : y * ((p.2 + 1 : Nat) : Int) = y * (p.2 : Int) + y := by rw [show ((p.2 + 1 : Nat) : Int) = (p.2 : Int) + 1 by omega, Int.mul_add, Int.mul_one]
      have m3 : (x + y) * (p.2 : Int) = x * (p.2 : Int) + y * (p.2 : Int) := Int.add_mul _ _ _
      simp only
      omega
theorem cP_zip : ∀ (zs : List Int) (ds : List Nat), zs.length = ds.length → cP (zs.zip ds) = dotI zs ds
  | [], [], _ => rfl
  | z :: zs, d :: ds, h => by rw [List.zip_cons_cons, cP, dotI, cP_zip zs ds (by simpa using h)]
  | [], _ :: _, h => by simp at h
  | _ :: _, [], h => by simp at h
theorem zip_fst : ∀ (zs : List Int) (ds : List Nat), zs.length = ds.length → (zs.zip ds).map Prod.fst = zs
  | [], [], _ => rfl
  | z :: zs, d :: ds, h => by rw [List.zip_cons_cons, List.map_cons, zip_fst zs ds (by simpa using h)]
  | [], _ :: _, h => by simp at h
  | _ :: _, [], h => by simp at h
theorem zip_snd : ∀ (zs : List Int) (ds : List Nat), zs.length = ds.length → (zs.zip ds).map Prod.snd = ds
  | [], [], _ => rfl
  | z :: zs, d :: ds, h => by rw [List.zip_cons_cons, List.map_cons, zip_snd zs ds (by simpa using h)]
  | [], _ :: _, h => by simp at h
  | _ :: _, [], h => by simp at h
/-- no tree is better than in any order. -/
theorem huf_tree (zs : List Int) (t : Tr) (h : t.size = zs.length) : huf zs.length zs ≤ qst zs t := by
  unfold qst
  have hl : zs.length = t.dep.length := by rw [dep_len, h]
  rw [← cP_zip zs t.dep hl]
  refine huf_le zs.length zs _ rfl ?_ ?_
  · rw [zip_snd zs t.dep hl]; exact ⟨t, List.Perm.refl _⟩
  · rw [zip_fst zs t.dep hl]
/-- depths that fall have a tree, if they have one in some order. -/
theorem falling : ∀ (n : Nat) (ds : List Nat), ds.length = n → ds.Pairwise (· ≥ ·) → PD ds → ∃ t : Tr, t.dep = ds
  | 0, ds, hl, _, hP => by have := hP.ne; omega
  | 1, ds, hl, _, hP => ⟨.leaf, (hP.one hl).symm⟩
  | n + 2, ds, hl, hs, hP => by
    obtain ⟨D, r, h1, h2, h3⟩ := hP.deepest (by omega)
    have hmx : ∀ x ∈ ds, x ≤ D + 1 := fun x hx => by
      rcases List.mem_cons.1 (h1.mem_iff.1 hx) with rfl | hx
      · omega
      · rcases List.mem_cons.1 hx with rfl | hx
        · omega
        · exact h2 x hx
    -- the greatest ones come first
    have hsplit : ∀ l : List Nat, l.Pairwise (· ≥ ·) → (∀ x ∈ l, x ≤ D + 1) → ∃ c low, l = List.replicate c (D + 1) ++ low ∧ ∀ x ∈ low, x ≤ D := by
      intro l
      induction l with
      | nil => intro _ _; exact ⟨0, [], rfl, by simp⟩
      | cons a l ih =>
        intro hp hm
        obtain ⟨p1, p2⟩ := List.pairwise_cons.1 hp
        by_cases ha : a = D + 1
        · obtain ⟨c, low, e, h⟩ := ih p2 fun x hx => hm x (by simp [hx])
          exact ⟨c + 1, low, by rw [List.replicate_succ, List.cons_append, ← e, ha], h⟩
        · refine ⟨0, a :: l, rfl, fun x hx => ?_⟩
          have := hm a (by simp)
          rcases List.mem_cons.1 hx with rfl | hx
          · omega
          · have := p1 x hx; omega
    obtain ⟨c, low, rfl, hlow⟩ := hsplit ds hs hmx
    have hc : 2 ≤ c := by
      have e := h1.count_eq (D + 1)
      rw [List.count_append, List.count_replicate_self, List.count_cons_self, List.count_cons_self] at e
      have : low.count (D + 1) = 0 := List.count_eq_zero.2 fun hx => by have := hlow _ hx; omega
      omega
    obtain ⟨c, rfl⟩ : ∃ k, c = k + 2 := ⟨c - 2, by omega⟩
    have hr : r.Perm (List.replicate c (D + 1) ++ low) := by
      have := h1.symm
      rw [List.replicate_succ, List.replicate_succ, List.cons_append, List.cons_append] at this
      exact List.Perm.cons_inv (List.Perm.cons_inv this)
    have hP2 : PD (List.replicate c (D + 1) ++ D :: low) := h3.perm ((List.Perm.cons _ hr).trans List.perm_middle.symm)
    have hs2 : (List.replicate c (D + 1) ++ D :: low).Pairwise (· ≥ ·) := by
      obtain ⟨p1, p2, p3⟩ := List.pairwise_append.1 hs
      refine List.pairwise_append.2 ⟨?_, List.pairwise_cons.2 ⟨hlow, p2⟩, fun a ha b hb => ?_⟩
      · rw [List.replicate_succ, List.replicate_succ] at p1
        exact (List.pairwise_cons.1 (List.pairwise_cons.1 p1).2).2
      · have := List.eq_of_mem_replicate ha
        rcases List.mem_cons.1 hb with rfl | hb
        · omega
        · have := hlow b hb; omega
    obtain ⟨t, ht⟩ := falling (n + 1) _ (by simp at hl ⊢; omega) hs2 hP2
    obtain ⟨u, hu⟩ := expand t _ _ _ ht
    refine ⟨u, hu.trans ?_⟩
    have e : ∀ (k : Nat) (m : List Nat), List.replicate k (D + 1) ++ (D + 1) :: m = (D + 1) :: (List.replicate k (D + 1) ++ m) := by
      intro k
      induction k with
      | zero => intro m; rfl
      | succ k ih => intro m; rw [List.replicate_succ, List.cons_append, ih]; rfl
    rw [e, e, List.replicate_succ, List.replicate_succ]; rfl
end Sv
namespace Sv
/-- the smaller a load, the deeper: nothing is better. -/
theorem rearr : ∀ (zs : List Int) (ds : List Nat) (ps : List (Int × Nat)), zs.Pairwise (· ≤ ·) → ds.Pairwise (· ≥ ·) → (ps.map Prod.fst).Perm zs → (ps.map Prod.snd).Perm ds → dotI zs ds ≤ cP ps
  | [], ds, ps, _, _, h1, _ => by
    have : ps = [] := List.map_eq_nil_iff.1 h1.eq_nil
    subst this
    cases ds <;> exact Int.le_refl _
  | z :: zs, [], ps, _, _, h1, h2 => by
    have : ps = [] := List.map_eq_nil_iff.1 h2.eq_nil
    subst this
    have := h1.length_eq; simp at this
  | z :: zs, d :: ds, ps, hz, hd, h1, h2 => by
    obtain ⟨z1, z2⟩ := List.pairwise_cons.1 hz
    obtain ⟨d1, d2⟩ := List.pairwise_cons.1 hd
    obtain ⟨qs, k1, k2⟩ := perm_lift Prod.snd h2 rfl
    obtain ⟨p, qs, rfl, e1, k3⟩ := List.map_eq_cons_iff.1 k2
    have hp : (p.1 :: qs.map Prod.fst).Perm (z :: zs) := (k1.map Prod.fst).symm.trans h1
    obtain ⟨q', a1, a2, a3⟩ := exch d z qs p.1 (fun s hs => d1 _ (by rw [← k3]; exact List.mem_map.2 ⟨s, hs, rfl⟩)) (hp.mem_iff.2 (by simp)) (fun x hx => by
      rcases List.mem_cons.1 (hp.mem_iff.1 hx) with rfl | hx
      · omega
      · exact z1 x hx)
    have ih := rearr zs ds q' z2 d2 (List.Perm.cons_inv (a2.symm.trans hp)) (by rw [a1, k3])
    rw [dotI, cP_perm k1, cP, e1]
    omega
theorem sort_desc : ∀ l : List Nat, ∃ m : List Nat, l.Perm m ∧ m.Pairwise (· ≥ ·) := fun l => by
  refine ⟨l.mergeSort (fun a b => decide (b ≤ a)), (List.mergeSort_perm _ _).symm, ?_⟩
  have h := List.pairwise_mergeSort (le := fun a b : Nat => decide (b ≤ a)) (fun a b c h1 h2 => by simp at *; omega) (fun a b => by simp; omega) l
  exact h.imp (fun h => by simpa using h)
/-- if loads rise, the order of sizes is as good as any. -/
theorem huf_rise (n : Nat) (zs : List Int) (hl : zs.length = n + 1) (hz : zs.Pairwise (· ≤ ·)) : ∃ t : Tr, t.size = zs.length ∧ qst zs t = huf zs.length zs := by
  obtain ⟨ps, h1, h2, h3⟩ := huf_some n zs hl
  obtain ⟨ds, k1, k2⟩ := sort_desc (ps.map Prod.snd)
  have hlen : ds.length = zs.length := by rw [← k1.length_eq, List.length_map, ← h2.length_eq, List.length_map]
  obtain ⟨t, ht⟩ := falling ds.length ds rfl k2 (h1.perm k1)
  have hs : t.size = zs.length := by rw [← dep_len, ht, hlen]
  refine ⟨t, hs, ?_⟩
  have a1 := rearr zs ds ps hz k2 h2 k1
  have a2 := huf_tree zs t hs
  unfold qst at *
  rw [ht] at *
  rw [h3, ← hl] at a1
  omega
/-- a tree read from its end. -/
def mir : Tr → Tr
  | .leaf => .leaf
  | .node l r => .node (mir r) (mir l)
theorem mir_dep : ∀ t : Tr, (mir t).dep = t.dep.reverse
  | .leaf => rfl
  | .node l r => by rw [mir, Tr.dep, Tr.dep, mir_dep l, mir_dep r, ← List.map_reverse, List.reverse_append]
theorem mir_size (t : Tr) : (mir t).size = t.size := by rw [← dep_len, mir_dep, List.length_reverse, dep_len]
theorem mir_mir : ∀ t : Tr, mir (mir t) = t
  | .leaf => rfl
  | .node l r => by rw [mir, mir, mir_mir l, mir_mir r]
theorem dotI_rev : ∀ (zs : List Int) (ds : List Nat), zs.length = ds.length → dotI zs.reverse ds.reverse = dotI zs ds
  | [], [], _ => rfl
  | z :: zs, d :: ds, h => by
    have h' : zs.length = ds.length := by simpa using h
    rw [List.reverse_cons, List.reverse_cons, dotI_app _ _ _ (by simp; omega), dotI]
    have e1 : dotI (zs.reverse ++ [z]) ds.reverse = dotI zs.reverse ds.reverse := by
      have : ∀ (a b : List Int) (c : List Nat), a.length = c.length → dotI (a ++ b) c = dotI a c := by
        intro a b
        induction a with
        | nil => intro c hc; have : c = [] := List.length_eq_zero_iff.1 hc.symm; subst this; rw [dotI_nil, dotI_nil]
        | cons x a ih =>
          intro c hc
          cases c with
          | nil => simp at hc
          | cons y c => rw [List.cons_append, dotI, dotI, ih c (by simpa using hc)]
      exact this _ _ _ (by simp; omega)
    have e2 : (zs.reverse ++ [z]).drop ds.reverse.length = [z] := by rw [List.drop_append, List.drop_eq_nil_of_le (by simp; omega)]; simp [h']
    rw [e1, e2, dotI_rev zs ds h', dotI, dotI_nil]; omega
  | [], _ :: _, h => by simp at h
  | _ :: _, [], h => by simp at h
theorem qst_mir (zs : List Int) (t : Tr) (h : t.size = zs.length) : qst zs.reverse (mir t) = qst zs t := by
  unfold qst
  rw [mir_dep, dotI_rev _ _ (by rw [dep_len, h])]
/-- depths that rise have a tree, if they have one in some order. -/
theorem rising (ds : List Nat) (hs : ds.Pairwise (· ≤ ·)) (hP : PD ds) : ∃ t : Tr, t.dep = ds := by
  obtain ⟨t, ht⟩ := falling ds.reverse.length ds.reverse rfl (by rw [List.pairwise_reverse]; exact hs.imp (fun h => h)) (hP.perm (List.reverse_perm ds).symm)
  exact ⟨mir t, by rw [mir_dep, ht, List.reverse_reverse]⟩
/-- the measure of depths. -/
def meas (L : Nat) (ds : List Nat) : Nat := (ds.map fun d => 2 ^ (L - d)).sum
theorem meas_tree : ∀ (t : Tr) (L : Nat), (∀ d ∈ t.dep, d ≤ L) → meas L t.dep = 2 ^ L
  | .leaf, L, _ => by unfold meas; simp [Tr.dep]
  | .node l r, L, h => by
    rw [Tr.dep] at h ⊢
    have hL : 1 ≤ L := by
      obtain ⟨x, xs, e⟩ := List.exists_cons_of_ne_nil (l := l.dep) (by intro e; have := dep_len l; have := size_pos l; rw [e] at *; simp at *; omega)
      have := h (x + 1) (by rw [e]; simp)
      omega
    obtain ⟨K, rfl⟩ : ∃ K, L = K + 1 := ⟨L - 1, by omega⟩
    have h1 := meas_tree l K fun d hd => by have := h (d + 1) (List.mem_map.2 ⟨d, List.mem_append_left _ hd, rfl⟩); omega
    have h2 := meas_tree r K fun d hd => by have := h (d + 1) (List.mem_map.2 ⟨d, List.mem_append_right _ hd, rfl⟩); omega
    unfold meas at *
    rw [List.map_map, List.map_append, List.sum_append]
    have e : ∀ ds : List Nat, (ds.map ((fun d => 2 ^ (K + 1 - d)) ∘ fun x => x + 1)) = ds.map fun d => 2 ^ (K - d) := fun ds => List.map_congr_left fun d _ => by
      show 2 ^ (K + 1 - (d + 1)) = _
      rw [Nat.add_sub_add_right]
    rw [e, e, h1, h2, Nat.pow_succ]; omega
theorem dep_lt : ∀ t : Tr, ∀ d ∈ t.dep, d < t.size
  | .leaf, d, h => by rw [Tr.dep, List.mem_singleton] at h; rw [h, Tr.size]; omega
  | .node l r, d, h => by
    have h1 := size_pos l
    have h2 := size_pos r
    rw [Tr.dep] at h
    obtain ⟨x, hx, rfl⟩ := List.mem_map.1 h
    rw [Tr.size]
    rcases List.mem_append.1 hx with hx | hx
    · have := dep_lt l x hx; omega
    · have := dep_lt r x hx; omega
/-- places that lie apart by their widths, in order. -/
def Far : List (Nat × Nat) → Prop
  | [] => True
  | [_] => True
  | p :: q :: l => p.1 + 2 ^ p.2 + 2 ^ q.2 ≤ q.1 ∧ Far (q :: l)
theorem Far.tail {p : Nat × Nat} {l : List (Nat × Nat)} (h : Far (p :: l)) : Far l := by
  cases l with
  | nil => trivial
  | cons q l => exact h.2
theorem far_lt : ∀ (l : List (Nat × Nat)) (p : Nat × Nat), Far (p :: l) → ∀ q ∈ l, p.1 + 2 ^ p.2 + 2 ^ q.2 ≤ q.1
  | q :: l, p, h, s, hs => by
    rcases List.mem_cons.1 hs with rfl | hs
    · exact h.1
    · have := far_lt l q h.2 s hs
      have := h.1
      have := Nat.two_pow_pos q.2
      omega
theorem Far.split (M : Nat) : ∀ l : List (Nat × Nat), Far l → ∃ a b, l = a ++ b ∧ Far a ∧ Far b ∧ (∀ p ∈ a, p.1 < M) ∧ ∀ p ∈ b, M ≤ p.1
  | [], _ => ⟨[], [], rfl, trivial, trivial, by simp, by simp⟩
  | p :: l, h => by
    by_cases hp : p.1 < M
    · obtain ⟨a, b, e, h1, h2, h3, h4⟩ := Far.split M l h.tail
      refine ⟨p :: a, b, by rw [e]; rfl, ?_, h2, fun q hq => ?_, h4⟩
      · cases a with
        | nil => trivial
        | cons q a => rw [e] at h; exact ⟨h.1, h1⟩
      · rcases List.mem_cons.1 hq with rfl | hq
        · exact hp
        · exact h3 q hq
    · refine ⟨[], p :: l, rfl, trivial, h, by simp, fun q hq => ?_⟩
      rcases List.mem_cons.1 hq with rfl | hq
      · omega
      · have := far_lt l p h q hq
        have := Nat.two_pow_pos p.2
        have := Nat.two_pow_pos q.2
        omega
/-- depths that are at most so great by their widths. -/
def Fit (k : Nat) : List (Nat × Nat) → List Nat → Prop
  | [], [] => True
  | p :: l, d :: ds => (d = 0 ∨ d + p.2 ≤ k) ∧ Fit k l ds
  | _, _ => False
theorem Fit.app {k : Nat} : ∀ {a b : List (Nat × Nat)} {c d : List Nat}, Fit k a c → Fit k b d → Fit k (a ++ b) (c ++ d)
  | [], b, [], d, _, h => h
  | p :: a, b, x :: c, d, h, h2 => ⟨h.1, Fit.app h.2 h2⟩
  | [], _, _ :: _, _, h, _ => absurd h (by simp [Fit])
  | _ :: _, _, [], _, h, _ => absurd h (by simp [Fit])
theorem Fit.up {k : Nat} : ∀ {a : List (Nat × Nat)} {c : List Nat}, Fit k a c → (∀ p ∈ a, p.2 ≤ k) → Fit (k + 1) a (c.map (· + 1))
  | [], [], _, _ => trivial
  | p :: a, x :: c, h, hp => ⟨.inr (by show x + 1 + p.2 ≤ k + 1; have := h.1; have := hp p (by simp); omega), Fit.up h.2 fun q hq => hp q (by simp [hq])⟩
  | [], _ :: _, h, _ => absurd h (by simp [Fit])
  | _ :: _, [], h, _ => absurd h (by simp [Fit])
theorem Fit.mono {k : Nat} : ∀ {a : List (Nat × Nat)} {c : List Nat}, Fit k a c → Fit (k + 1) a c
  | [], [], _ => trivial
  | p :: a, x :: c, h => ⟨by have := h.1; omega, Fit.mono h.2⟩
  | [], _ :: _, h => absurd h (by simp [Fit])
  | _ :: _, [], h => absurd h (by simp [Fit])
theorem far_fit : ∀ (k A : Nat) (l : List (Nat × Nat)), l ≠ [] → Far l → (∀ p ∈ l, A ≤ p.1 ∧ p.1 < A + 2 ^ k) → ∃ t : Tr, Fit k l t.dep
  | k, A, [], hn, _, _ => absurd rfl hn
  | k, A, [p], _, _, _ => ⟨.leaf, ⟨.inl rfl, trivial⟩⟩
  | 0, A, p :: q :: l, _, h, hb => by
    have h1 := hb p (by simp)
    have h2 := hb q (by simp)
    have h3 := h.1
    have := Nat.two_pow_pos p.2
    have := Nat.two_pow_pos q.2
    omega
  | k + 1, A, p :: q :: l, _, h, hb => by
    obtain ⟨a, b, e, h1, h2, h3, h4⟩ := h.split (A + 2 ^ k)
    have hk : 2 ^ (k + 1) = 2 ^ k + 2 ^ k := by rw [Nat.pow_succ]; omega
    have hba : ∀ s ∈ a, A ≤ s.1 ∧ s.1 < A + 2 ^ k := fun s hs => ⟨(hb s (by rw [e]; exact List.mem_append_left _ hs)).1, h3 s hs⟩
    have hbb : ∀ s ∈ b, A + 2 ^ k ≤ s.1 ∧ s.1 < A + 2 ^ k + 2 ^ k := fun s hs => ⟨h4 s hs, by have := (hb s (by rw [e]; exact List.mem_append_right _ hs)).2; omega⟩
    have hw : ∀ s ∈ p :: q :: l, s.2 ≤ k := fun s hs => by
      have hs2 : 2 ^ s.2 < 2 ^ (k + 1) := by
        rcases List.mem_cons.1 hs with rfl | hs'
        · have := (hb s (by simp)).1
          have := (hb q (by simp)).2
          have := h.1
          have := Nat.two_pow_pos q.2
          omega
        · have := far_lt (q :: l) p h s hs'
          have := (hb p (by simp)).1
          have := (hb s hs).2
          have := Nat.two_pow_pos p.2
          omega
      have := (Nat.pow_lt_pow_iff_right (by omega)).1 hs2
      omega
    by_cases ha : a = []
    · subst ha
      rw [List.nil_append] at e
      obtain ⟨t, ht⟩ := far_fit k (A + 2 ^ k) b (by rw [← e]; simp) h2 hbb
      exact ⟨t, by rw [e]; exact ht.mono⟩
    · by_cases hbn : b = []
      · subst hbn
        rw [List.append_nil] at e
        obtain ⟨t, ht⟩ := far_fit k A a ha h1 hba
        exact ⟨t, by rw [e]; exact ht.mono⟩
      · obtain ⟨t, ht⟩ := far_fit k A a ha h1 hba
        obtain ⟨u, hu⟩ := far_fit k (A + 2 ^ k) b hbn h2 hbb
        refine ⟨.node t u, ?_⟩
        rw [e, Tr.dep, List.map_append]
        exact Fit.app (ht.up fun s hs => hw s (by rw [e]; exact List.mem_append_left _ hs)) (hu.up fun s hs => hw s (by rw [e]; exact List.mem_append_right _ hs))
/-- the middles of the widths, twice. -/
def mids (L : Nat) : Nat → List Nat → List (Nat × Nat)
  | _, [] => []
  | s, d :: ds => (2 * s + 2 ^ (L - d), L - d) :: mids L (s + 2 ^ (L - d)) ds
theorem mids_far (L : Nat) : ∀ (ds : List Nat) (s : Nat), Far (mids L s ds)
  | [], _ => trivial
  | [d], _ => trivial
  | d :: e :: ds, s => by
    refine ⟨?_, mids_far L (e :: ds) (s + 2 ^ (L - d))⟩
    show 2 * s + 2 ^ (L - d) + 2 ^ (L - d) + 2 ^ (L - e) ≤ 2 * (s + 2 ^ (L - d)) + 2 ^ (L - e)
    omega
theorem mids_in (L : Nat) : ∀ (ds : List Nat) (s : Nat), ∀ p ∈ mids L s ds, 2 * s ≤ p.1 ∧ p.1 < 2 * (s + meas L ds)
  | [], _, p, h => by simp [mids] at h
  | d :: ds, s, p, h => by
    have hp := Nat.two_pow_pos (L - d)
    have hm : meas L (d :: ds) = 2 ^ (L - d) + meas L ds := by unfold meas; rw [List.map_cons, List.sum_cons]
    rw [mids] at h
    rcases List.mem_cons.1 h with rfl | h
    · show 2 * s ≤ 2 * s + 2 ^ (L - d) ∧ 2 * s + 2 ^ (L - d) < _
      omega
    · have := mids_in L ds _ p h; omega
theorem mids_fit (L : Nat) : ∀ (ds es : List Nat) (s : Nat), (∀ d ∈ ds, d ≤ L) → Fit (L + 1) (mids L s ds) es → es.length = ds.length ∧ ∀ zs : List Int, (∀ z ∈ zs, 0 ≤ z) → zs.length = ds.length → dotI zs es ≤ dotI zs ds + zs.sum
  | [], [], s, _, _ => ⟨rfl, fun zs _ hl => by
      have : zs = [] := List.length_eq_zero_iff.1 hl
      subst this; simp [dotI]⟩
  | d :: ds, e :: es, s, hd, h => by
    obtain ⟨h1, h2⟩ := mids_fit L ds es _ (fun x hx => hd x (by simp [hx])) h.2
    refine ⟨by rw [List.length_cons, List.length_cons, h1], fun zs hz hl => ?_⟩
    cases zs with
    | nil => simp at hl
    | cons z zs =>
      have h3 := h2 zs (fun x hx => hz x (by simp [hx])) (by simpa using hl)
      have h4 := hd d (by simp)
      have h5 : e ≤ d + 1 := by
        have := h.1
        simp only at this
        omega
      rw [dotI, dotI, List.sum_cons]
      have := Int.mul_le_mul_of_nonneg_left (show (e : Int) ≤ (d : Int) + 1 by omega) (hz z (by simp))
      rw [Int.mul_add, Int.mul_one] at this
      omega
  | [], _ :: _, s, _, h => absurd h (by simp [mids, Fit])
  | _ :: _, [], s, _, h => absurd h (by simp [mids, Fit])
/-- depths of any order: in the order of sizes each kind is at most one deeper. -/
theorem in_order (ds : List Nat) (hP : PD ds) : ∃ t : Tr, t.size = ds.length ∧ ∀ zs : List Int, (∀ z ∈ zs, 0 ≤ z) → zs.length = ds.length → dotI zs t.dep ≤ dotI zs ds + zs.sum := by
  obtain ⟨u, hu⟩ := hP
  have hL : ∀ d ∈ ds, d ≤ u.size := fun d hd => by have := dep_lt u d (hu.mem_iff.2 hd); omega
  have hm : meas u.size ds = 2 ^ u.size := by
    rw [← meas_tree u u.size fun d hd => hL d (hu.mem_iff.1 hd)]
    unfold meas
    exact (hu.symm.map _).sum_nat
  have hne : ds ≠ [] := by intro e; subst e; have := hu.length_eq; rw [dep_len] at this; have := size_pos u; simp at *; omega
  have hne2 : mids u.size 0 ds ≠ [] := by
    cases ds with
    | nil => exact absurd rfl hne
    | cons d ds => rw [mids]; simp
  obtain ⟨t, ht⟩ := far_fit (u.size + 1) 0 (mids u.size 0 ds) hne2 (mids_far _ _ _) fun p hp => by
    have := mids_in u.size ds 0 p hp
    rw [hm] at this
    rw [Nat.pow_succ]; omega
  obtain ⟨h1, h2⟩ := mids_fit u.size ds t.dep 0 hL ht
  exact ⟨t, by rw [← dep_len, h1], h2⟩
theorem cP_dot : ∀ qs : List (Int × Nat), cP qs = dotI (qs.map Prod.fst) (qs.map Prod.snd)
  | [] => rfl
  | q :: qs => by rw [cP, List.map_cons, List.map_cons, dotI, cP_dot qs]
/-- in the order of sizes hardly more questions than in any order. -/
theorem huf_near (n : Nat) (zs : List Int) (hl : zs.length = n + 1) (hz : ∀ z ∈ zs, 0 ≤ z) : ∃ t : Tr, t.size = zs.length ∧ qst zs t ≤ huf zs.length zs + zs.sum := by
  obtain ⟨ps, h1, h2, h3⟩ := huf_some n zs hl
  obtain ⟨qs, k1, k2⟩ := perm_lift Prod.fst h2 rfl
  have hlen : (qs.map Prod.snd).length = zs.length := by rw [← k2, List.length_map, List.length_map]
  obtain ⟨t, e1, e2⟩ := in_order (qs.map Prod.snd) (h1.perm (k1.map Prod.snd))
  refine ⟨t, by rw [e1, hlen], ?_⟩
  have h4 := e2 zs hz hlen.symm
  have e5 : cP qs = dotI zs (qs.map Prod.snd) := by rw [← k2]; exact cP_dot qs
  rw [← e5, ← cP_perm k1, h3, ← hl] at h4
  exact h4
end Sv
end Go.Proofs.Ytjapconhehdcjaa
