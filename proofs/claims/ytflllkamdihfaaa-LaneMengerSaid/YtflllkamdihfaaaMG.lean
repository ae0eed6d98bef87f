/- pure: Menger for ascending arcs -/
namespace Go.Proofs.Ytflllkamdihfaaa.Mg
/-- a way over arcs. -/
def Wa (E : List (Int × Int)) : List Int → Prop
  | [] => True
  | [_] => True
  | x :: y :: w => (x, y) ∈ E ∧ Wa E (y :: w)
def Pth (E : List (Int × Int)) (A B : List Int) (p : List Int) : Prop := Wa E p ∧ (∃ a ∈ A, p.head? = some a) ∧ ∃ b ∈ B, p.getLast? = some b
def Dj (p q : List Int) : Prop := ∀ v ∈ p, v ∉ q
theorem wa_split {E : List (Int × Int)} : ∀ (u : List Int) (v : Int) (w : List Int), Wa E (u ++ v :: w) ↔ Wa E (u ++ [v]) ∧ Wa E (v :: w)
  | [], v, w => by simp [Wa]
  | [x], v, w => by simp [Wa]
  | x :: y :: u, v, w => by
    have := wa_split (E := E) (y :: u) v w
    simp only [List.cons_append, Wa] at this ⊢
    rw [this, and_assoc]
theorem wa_asc {E : List (Int × Int)} (hE : ∀ e ∈ E, e.1 < e.2) : ∀ p, Wa E p → p.Pairwise (· < ·)
  | [], _ => List.Pairwise.nil
  | [x], _ => List.pairwise_singleton _ _
  | x :: y :: w, h => by
    have h2 := wa_asc hE (y :: w) h.2
    have h1 := hE _ h.1
    refine List.pairwise_cons.2 ⟨fun z hz => ?_, h2⟩
    rcases List.mem_cons.1 hz with rfl | hz
    · exact h1
    · have := (List.pairwise_cons.1 h2).1 z hz
      simp only at h1; omega
theorem wa_less_x {x y : Int} {E : List (Int × Int)} : ∀ p, Wa ((x, y) :: E) p → x ∉ p.dropLast → Wa E p
  | [], _, _ => trivial
  | [_], _, _ => trivial
  | a :: b :: w, h, hx => by
    rw [List.dropLast_cons_cons] at hx
    simp only [List.mem_cons, not_or] at hx
    refine ⟨?_, wa_less_x (b :: w) h.2 hx.2⟩
    rcases List.mem_cons.1 h.1 with e | e
    · exact absurd (congrArg Prod.fst e).symm hx.1
    · exact e
theorem wa_less_y {x y : Int} {E : List (Int × Int)} : ∀ p, Wa ((x, y) :: E) p → y ∉ p.tail → Wa E p
  | [], _, _ => trivial
  | [_], _, _ => trivial
  | a :: b :: w, h, hy => by
    simp only [List.tail_cons, List.mem_cons, not_or] at hy
    refine ⟨?_, wa_less_y (b :: w) h.2 hy.2⟩
    rcases List.mem_cons.1 h.1 with e | e
    · exact absurd (congrArg Prod.snd e).symm hy.1
    · exact e
theorem wa_more {e : Int × Int} {E : List (Int × Int)} : ∀ p, Wa E p → Wa (e :: E) p
  | [], _ => trivial
  | [_], _ => trivial
  | _ :: b :: w, h => ⟨List.mem_cons_of_mem _ h.1, wa_more (b :: w) h.2⟩
theorem first_in {P : List Int} : ∀ {p : List Int} {z : Int}, z ∈ p → z ∈ P → ∃ u v w, p = u ++ v :: w ∧ v ∈ P ∧ ∀ q ∈ u, q ∉ P
  | a :: p, z, hz, hP => by
    by_cases ha : a ∈ P
    · exact ⟨[], a, p, rfl, ha, fun q hq => by cases hq⟩
    · rcases List.mem_cons.1 hz with rfl | hz
      · exact absurd hP ha
      · obtain ⟨u, v, w, rfl, h1, h2⟩ := first_in hz hP
        exact ⟨a :: u, v, w, rfl, h1, fun q hq => (List.mem_cons.1 hq).elim (fun e => e ▸ ha) (h2 q)⟩
theorem last_in {P : List Int} : ∀ {p : List Int} {z : Int}, z ∈ p → z ∈ P → ∃ u v w, p = u ++ v :: w ∧ v ∈ P ∧ ∀ q ∈ w, q ∉ P
  | a :: p, z, hz, hP => by
    by_cases hq : ∃ q ∈ p, q ∈ P
    · obtain ⟨q, h1, h2⟩ := hq
      obtain ⟨u, v, w, rfl, h3, h4⟩ := last_in h1 h2
      exact ⟨a :: u, v, w, rfl, h3, h4⟩
    · refine ⟨[], a, p, rfl, ?_, fun q hq' hq2 => hq ⟨q, hq', hq2⟩⟩
      rcases List.mem_cons.1 hz with rfl | hz
      · exact hP
      · exact absurd ⟨z, hz, hP⟩ hq
theorem fill_all : ∀ (l P : List Int), l.Nodup → (∀ x ∈ l, x ∈ P) → P.length ≤ l.length → (∀ p ∈ P, p ∈ l) ∧ P.Nodup
  | [], P, _, _, hl => by
    have : P = [] := List.eq_nil_of_length_eq_zero (by simpa using hl)
    subst this
    exact ⟨fun p hp => (by cases hp), List.nodup_nil⟩
  | a :: l, P, hn, hs, hl => by
    have ha := hs a (by simp)
    rw [List.nodup_cons] at hn
    have hp := List.perm_cons_erase ha
    have hlen := List.length_erase_of_mem ha
    have hpos := List.length_pos_of_mem ha
    rw [List.length_cons] at hl
    obtain ⟨h1, h2⟩ := fill_all l (P.erase a) hn.2 (fun x hx => (List.mem_erase_of_ne (fun e => by subst e; exact hn.1 hx)).2 (hs x (by simp [hx]))) (by omega)
    refine ⟨fun p hpP => ?_, hp.symm.nodup (List.nodup_cons.2 ⟨fun h => hn.1 (h1 a h), h2⟩)⟩
    by_cases e : p = a
    · simp [e]
    · exact List.mem_cons_of_mem _ (h1 p ((List.mem_erase_of_ne e).2 hpP))
theorem dj_eq : ∀ {F : List (List Int)}, F.Pairwise Dj → ∀ {a b : List Int} {v : Int}, a ∈ F → b ∈ F → v ∈ a → v ∈ b → a = b
  | c :: F, h, a, b, v, ha, hb, h1, h2 => by
    rw [List.pairwise_cons] at h
    rcases List.mem_cons.1 ha with rfl | ka <;> rcases List.mem_cons.1 hb with rfl | kb
    · rfl
    · exact absurd h2 (h.1 _ kb v h1)
    · exact absurd h1 (h.1 _ ka v h2)
    · exact dj_eq h.2 ka kb h1 h2
/-- the ends of so many ways that lie apart are all that there are. -/
theorem ends_all {F : List (List Int)} {P : List Int} (g : List Int → Option Int) (hg : ∀ p v, g p = some v → v ∈ p) (hF : F.Pairwise Dj) (he : ∀ p ∈ F, ∃ v ∈ P, g p = some v) (hl : P.length ≤ F.length) : P.Nodup ∧ ∃ f : Int → List Int, ∀ v ∈ P, f v ∈ F ∧ g (f v) = some v := by
  have hn : (F.map fun p => (g p).getD 0).Nodup := by
    rw [List.nodup_iff_pairwise_ne, List.pairwise_map]
    refine hF.imp_of_mem fun {a b} ha hb hab e => ?_
    obtain ⟨v, _, h1⟩ := he a ha
    obtain ⟨u, _, h2⟩ := he b hb
    simp only [h1, h2, Option.getD_some] at e
    subst e
    exact hab _ (hg _ _ h1) (hg _ _ h2)
  obtain ⟨h1, h2⟩ := fill_all _ P hn (fun x hx => by
    obtain ⟨p, hp, rfl⟩ := List.mem_map.1 hx
    obtain ⟨v, hv, h1⟩ := he p hp
    rw [h1]; exact hv) (by rw [List.length_map]; exact hl)
  refine ⟨h2, ?_⟩
  have h3 : ∀ v ∈ P, ∃ p ∈ F, g p = some v := fun v hv => by
    obtain ⟨p, hp, e⟩ := List.mem_map.1 (h1 v hv)
    obtain ⟨u, _, h4⟩ := he p hp
    rw [h4] at e
    exact ⟨p, hp, by rw [h4, ← e]; rfl⟩
  classical
  exact ⟨fun v => if h : v ∈ P then Classical.choose (h3 v h) else [], fun v hv => by
    simp only [hv, dif_pos]
    exact Classical.choose_spec (h3 v hv)⟩
theorem mem_drop_last {α : Type} {a : α} {l : List α} (h : a ∈ l.dropLast) : a ∈ l := (List.dropLast_sublist l).mem h
theorem head_mem (p : List Int) (v : Int) (h : p.head? = some v) : v ∈ p := List.mem_of_mem_head? (by rw [h]; simp)
theorem last_mem (p : List Int) (v : Int) (h : p.getLast? = some v) : v ∈ p := List.mem_of_mem_getLast? (by rw [h]; simp)
theorem last_form {p : List Int} {v : Int} (h : p.getLast? = some v) : ∃ u, p = u ++ [v] := by
  refine ⟨p.dropLast, ?_⟩
  have hp : p ≠ [] := fun e => by rw [e] at h; cases h
  rw [List.getLast?_eq_some_getLast hp] at h
  have := List.dropLast_concat_getLast hp
  rw [Option.some.inj h] at this
  exact this.symm
theorem head_form {p : List Int} {v : Int} (h : p.head? = some v) : ∃ u, p = v :: u := by
  match p, h with
  | x :: u, h => exact ⟨u, by rw [Option.some.inj h]⟩
theorem last_app (u : List Int) (v : Int) (w : List Int) : (u ++ v :: w).getLast? = (v :: w).getLast? := by
  rw [List.getLast?_append]
  cases h : (v :: w).getLast? with
  | none => simp at h
  | some x => rfl
theorem menger : ∀ (E : List (Int × Int)), (∀ e ∈ E, e.1 < e.2) → ∀ (A B : List Int) (k : Nat), (∀ X : List Int, X.length < k → ∃ p, Pth E A B p ∧ ∀ v ∈ p, v ∉ X) →
    ∃ F : List (List Int), F.length = k ∧ (∀ p ∈ F, Pth E A B p) ∧ F.Pairwise Dj
  | [], _, A, B, k, H => by
    have h1 : ∀ j, j ≤ k → ∃ l : List Int, l.length = j ∧ l.Nodup ∧ ∀ v ∈ l, v ∈ A ∧ v ∈ B := fun j => by
      induction j with
      | zero => exact fun _ => ⟨[], rfl, List.nodup_nil, fun v hv => by cases hv⟩
      | succ j ih =>
        intro hj
        obtain ⟨l, h1, h2, h3⟩ := ih (by omega)
        obtain ⟨p, ⟨hw, ⟨a, ha, e1⟩, b, hb, e2⟩, hv⟩ := H l (by omega)
        match p, hw, e1, e2, hv with
        | [x], _, e1, e2, hv =>
          have e1 : x = a := by simpa using e1
          have e2 : x = b := by simpa using e2
          subst e1; subst e2
          exact ⟨x :: l, by simp [h1], List.nodup_cons.2 ⟨hv x (by simp), h2⟩, fun v hv => (List.mem_cons.1 hv).elim (fun e => e ▸ ⟨ha, hb⟩) (h3 v)⟩
        | x :: y :: w, hw, _, _, _ => exact absurd hw.1 (by simp)
    obtain ⟨l, h1, h2, h3⟩ := h1 k (Nat.le_refl _)
    refine ⟨l.map fun v => [v], by simp [h1], fun p hp => ?_, ?_⟩
    · obtain ⟨v, hv, rfl⟩ := List.mem_map.1 hp
      exact ⟨trivial, ⟨v, (h3 v hv).1, rfl⟩, v, (h3 v hv).2, rfl⟩
    · rw [List.pairwise_map]
      exact h2.imp fun {a b} hab v hv hv2 => hab (by simp at hv hv2; rw [← hv, hv2])
  | (x, y) :: E, hE, A, B, k, H => by
    have hE' : ∀ e ∈ E, e.1 < e.2 := fun e he => hE e (List.mem_cons_of_mem _ he)
    have IH := menger E hE'
    by_cases hall : ∀ X : List Int, X.length < k → ∃ p, Pth E A B p ∧ ∀ v ∈ p, v ∉ X
    · obtain ⟨F, h1, h2, h3⟩ := IH A B k hall
      exact ⟨F, h1, fun p hp => ⟨wa_more p (h2 p hp).1, (h2 p hp).2⟩, h3⟩
    · have hex : ∃ X : List Int, X.length < k ∧ ∀ p, Pth E A B p → ∃ v ∈ p, v ∈ X := by
        refine Classical.byContradiction fun hn => hall fun X hX => Classical.byContradiction fun hq => hn ⟨X, hX, fun p hp => Classical.byContradiction fun hr => hq ⟨p, hp, fun v hv hvX => hr ⟨v, hv, hvX⟩⟩⟩
      obtain ⟨X, hX, sep⟩ := hex
      have hk : k = X.length + 1 := by
        refine Classical.byContradiction fun hn => ?_
        obtain ⟨p, hp, hv⟩ := H (x :: X) (by rw [List.length_cons]; omega)
        obtain ⟨v, h1, h2⟩ := sep p ⟨wa_less_x p hp.1 fun h => hv x (mem_drop_last h) (by simp), hp.2⟩
        exact hv v h1 (by simp [h2])
      obtain ⟨F1, l1, p1, d1⟩ := IH A (x :: X) k fun Z hZ => by
        obtain ⟨p, hp, hv⟩ := H Z hZ
        have hm : ∃ z ∈ p, z ∈ x :: X := Classical.byContradiction fun hn => by
          obtain ⟨v, h1, h2⟩ := sep p ⟨wa_less_x p hp.1 fun h => hn ⟨x, mem_drop_last h, by simp⟩, hp.2⟩
          exact hn ⟨v, h1, by simp [h2]⟩
        obtain ⟨z, hz, hzP⟩ := hm
        obtain ⟨u, v, w, rfl, hvP, hu⟩ := first_in hz hzP
        refine ⟨u ++ [v], ⟨wa_less_x _ ((wa_split u v w).1 hp.1).1 ?_, ?_, v, hvP, by simp⟩, fun q hq => hv q ?_⟩
        · rw [List.dropLast_concat]; exact fun h => hu x h (by simp)
        · obtain ⟨a, ha, e⟩ := hp.2.1
          refine ⟨a, ha, ?_⟩
          cases u with
          | nil => simpa using e
          | cons b u => simpa using e
        · rcases List.mem_append.1 hq with h | h
          · simp [h]
          · simp at h; simp [h]
      obtain ⟨F2, l2, p2, d2⟩ := IH (y :: X) B k fun Z hZ => by
        obtain ⟨p, hp, hv⟩ := H Z hZ
        have hm : ∃ z ∈ p, z ∈ y :: X := Classical.byContradiction fun hn => by
          obtain ⟨v, h1, h2⟩ := sep p ⟨wa_less_y p hp.1 fun h => hn ⟨y, List.mem_of_mem_tail h, by simp⟩, hp.2⟩
          exact hn ⟨v, h1, by simp [h2]⟩
        obtain ⟨z, hz, hzP⟩ := hm
        obtain ⟨u, v, w, rfl, hvP, hu⟩ := last_in hz hzP
        refine ⟨v :: w, ⟨wa_less_y _ ((wa_split u v w).1 hp.1).2 (fun h => hu y h (by simp)), ⟨v, hvP, rfl⟩, ?_⟩, fun q hq => hv q (by simp at hq ⊢; rcases hq with h | h <;> simp [h])⟩
        obtain ⟨b, hb, e⟩ := hp.2.2
        exact ⟨b, hb, by rw [← last_app u v w]; exact e⟩
      obtain ⟨n1, fa, hfa⟩ := ends_all (P := x :: X) (fun p => p.getLast?) last_mem d1 (fun p hp => (p1 p hp).2.2) (by rw [List.length_cons]; omega)
      obtain ⟨n2, fb, hfb⟩ := ends_all (P := y :: X) (fun p => p.head?) head_mem d2 (fun p hp => (p2 p hp).2.1) (by rw [List.length_cons]; omega)
      have ua : ∀ {s t v : Int}, s ∈ x :: X → t ∈ x :: X → v ∈ fa s → v ∈ fa t → s = t := fun {s t v} hs ht h1 h2 => by
        have e := dj_eq d1 (hfa s hs).1 (hfa t ht).1 h1 h2
        have h3 := (hfa s hs).2
        rw [e, (hfa t ht).2] at h3
        exact (Option.some.inj h3).symm
      have ub : ∀ {s t v : Int}, s ∈ y :: X → t ∈ y :: X → v ∈ fb s → v ∈ fb t → s = t := fun {s t v} hs ht h1 h2 => by
        have e := dj_eq d2 (hfb s hs).1 (hfb t ht).1 h1 h2
        have h3 := (hfb s hs).2
        rw [e, (hfb t ht).2] at h3
        exact (Option.some.inj h3).symm
      have meet : ∀ {s t v : Int}, s ∈ x :: X → t ∈ y :: X → v ∈ fa s → v ∈ fb t → s = t ∧ s ∈ X := fun {s t v} hs ht h1 h2 => by
        obtain ⟨u, w, e1⟩ := List.append_of_mem h1
        obtain ⟨u', w', e2⟩ := List.append_of_mem h2
        have q1 := p1 _ (hfa s hs).1
        have q2 := p2 _ (hfb t ht).1
        have a1 := wa_asc hE' _ q1.1
        have a2 := wa_asc hE' _ q2.1
        have last1 := (hfa s hs).2
        have head2 := (hfb t ht).2
        rw [e1] at q1 a1
        rw [e2] at q2 a2
        simp only [e1] at last1
        simp only [e2] at head2
        have hq : Pth E A B (u ++ v :: w') := by
          refine ⟨(wa_split _ _ _).2 ⟨((wa_split _ _ _).1 q1.1).1, ((wa_split _ _ _).1 q2.1).2⟩, ?_, ?_⟩
          · obtain ⟨a, ha, e⟩ := q1.2.1
            refine ⟨a, ha, ?_⟩
            cases u with
            | nil => simpa using e
            | cons b u => simpa using e
          · obtain ⟨b, hb, e⟩ := q2.2.2
            exact ⟨b, hb, by rw [last_app] at e ⊢; exact e⟩
        obtain ⟨z, hz, hzX⟩ := sep _ hq
        have hzx : z ∈ x :: X := by simp [hzX]
        have hzy : z ∈ y :: X := by simp [hzX]
        have hcase : z ∈ u ++ [v] ∨ z ∈ v :: w' := by simp at hz ⊢; rcases hz with h | h | h <;> simp [h]
        rcases hcase with h | h
        · have hzs : z ∈ fa s := by rw [e1]; simp at h ⊢; rcases h with h | h <;> simp [h]
          have e3 := ua hzx hs (last_mem _ _ (hfa z hzx).2) hzs
          subst e3
          have e4 : z = v := by
            rcases List.mem_append.1 h with h | h
            · have := (List.pairwise_append.1 a1).2.2 z h z (by rw [last_app] at last1; exact last_mem _ _ last1)
              omega
            · simpa using h
          subst e4
          exact ⟨ub hzy ht (head_mem _ _ (hfb z hzy).2) h2, hzX⟩
        · have hzs : z ∈ fb t := by rw [e2]; simp at h ⊢; rcases h with h | h <;> simp [h]
          have e3 := ub hzy ht (head_mem _ _ (hfb z hzy).2) hzs
          subst e3
          have e4 : z = v := by
            cases u' with
            | nil => simp at head2; exact head2.symm
            | cons b u' =>
              have hb : b = z := by simpa using head2
              subst hb
              have := (List.pairwise_append.1 a2).2.2 b (by simp) b h
              omega
          subst e4
          have e5 := ua hs hzx h1 (last_mem _ _ (hfa z hzx).2)
          exact ⟨e5, e5 ▸ hzX⟩
      rw [List.nodup_cons] at n1 n2
      have tl : ∀ {s v : Int}, v ∈ (fb s).tail → v ∈ fb s := fun {s v} h => List.mem_of_mem_tail h
      refine ⟨(X.map fun s => fa s ++ (fb s).tail) ++ [fa x ++ fb y], by simp [hk], fun p hp => ?_, ?_⟩
      · rcases List.mem_append.1 hp with hp | hp
        · obtain ⟨s, hs, rfl⟩ := List.mem_map.1 hp
          have hs1 : s ∈ x :: X := by simp [hs]
          have hs2 : s ∈ y :: X := by simp [hs]
          have q1 := p1 _ (hfa s hs1).1
          have q2 := p2 _ (hfb s hs2).1
          obtain ⟨u, e1⟩ := last_form (hfa s hs1).2
          obtain ⟨w, e2⟩ := head_form (hfb s hs2).2
          rw [e1] at q1
          rw [e2] at q2
          rw [e1, e2, List.tail_cons, List.append_assoc, List.singleton_append]
          refine ⟨wa_more _ ((wa_split _ _ _).2 ⟨q1.1, q2.1⟩), ?_, ?_⟩
          · obtain ⟨a, ha, e⟩ := q1.2.1
            refine ⟨a, ha, ?_⟩
            cases u with
            | nil => simpa using e
            | cons b u => simpa using e
          · obtain ⟨b, hb, e⟩ := q2.2.2
            exact ⟨b, hb, by rw [last_app]; exact e⟩
        · rw [List.mem_singleton.1 hp]
          have hs1 : x ∈ x :: X := by simp
          have hs2 : y ∈ y :: X := by simp
          have q1 := p1 _ (hfa x hs1).1
          have q2 := p2 _ (hfb y hs2).1
          obtain ⟨u, e1⟩ := last_form (hfa x hs1).2
          obtain ⟨w, e2⟩ := head_form (hfb y hs2).2
          rw [e1] at q1
          rw [e2] at q2
          rw [e1, e2, List.append_assoc, List.singleton_append]
          refine ⟨(wa_split _ _ _).2 ⟨wa_more _ q1.1, ⟨by simp, wa_more _ q2.1⟩⟩, ?_, ?_⟩
          · obtain ⟨a, ha, e⟩ := q1.2.1
            refine ⟨a, ha, ?_⟩
            cases u with
            | nil => simpa using e
            | cons b u => simpa using e
          · obtain ⟨b, hb, e⟩ := q2.2.2
            exact ⟨b, hb, by rw [last_app, List.getLast?_cons_cons]; exact e⟩
      · rw [List.pairwise_append]
        refine ⟨?_, List.pairwise_singleton _ _, ?_⟩
        · rw [List.pairwise_map]
          refine n1.2.imp_of_mem fun {s t} hs ht hst v hv hv2 => ?_
          have hs1 : s ∈ x :: X := by simp [hs]
          have hs2 : s ∈ y :: X := by simp [hs]
          have ht1 : t ∈ x :: X := by simp [ht]
          have ht2 : t ∈ y :: X := by simp [ht]
          rcases List.mem_append.1 hv with h1 | h1 <;> rcases List.mem_append.1 hv2 with h2 | h2
          · exact hst (ua hs1 ht1 h1 h2)
          · exact hst (meet hs1 ht2 h1 (tl h2)).1
          · exact hst (meet ht1 hs2 h2 (tl h1)).1.symm
          · exact hst (ub hs2 ht2 (tl h1) (tl h2))
        · intro a ha b hb v hv hv2
          obtain ⟨s, hs, rfl⟩ := List.mem_map.1 ha
          rw [List.mem_singleton.1 hb] at hv2
          have hs1 : s ∈ x :: X := by simp [hs]
          have hs2 : s ∈ y :: X := by simp [hs]
          have hx1 : x ∈ x :: X := by simp
          have hy2 : y ∈ y :: X := by simp
          rcases List.mem_append.1 hv with h1 | h1 <;> rcases List.mem_append.1 hv2 with h2 | h2
          · exact n1.1 (ua hs1 hx1 h1 h2 ▸ hs)
          · have h3 := meet hs1 hy2 h1 h2
            exact n2.1 (h3.1 ▸ hs)
          · have h3 := meet hx1 hs2 h2 (tl h1)
            exact n1.1 h3.2
          · exact n2.1 (ub hs2 hy2 (tl h1) h2 ▸ hs)
end Go.Proofs.Ytflllkamdihfaaa.Mg
