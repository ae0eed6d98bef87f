/- Layer 2: Euler's theorem: a way through all streets. -/
import Derived.Test.YtimddkofcejijaaRA
namespace Go.Proofs.Ytimddkofcejijaa
open Go.RowKit Go.Sort
/-- the sum of the first m numbers of a list by rule. -/
def sm : Nat → (Nat → Nat) → Nat
  | 0, _ => 0
  | m + 1, f => sm m f + f m
theorem sm_succ (m : Nat) (f : Nat → Nat) : sm (m + 1) f = sm m f + f m := rfl
theorem sm_add (f g : Nat → Nat) : ∀ m, sm m (fun i => f i + g i) = sm m f + sm m g
  | 0 => rfl
  | m + 1 => by rw [sm_succ, sm_succ, sm_succ, sm_add f g m]; omega
theorem sm_congr {f g : Nat → Nat} : ∀ m, (∀ i, i < m → f i = g i) → sm m f = sm m g
  | 0, _ => rfl
  | m + 1, h => by rw [sm_succ, sm_succ, sm_congr m (fun i hi => h i (by omega)), h m (by omega)]
theorem sm_le {f g : Nat → Nat} : ∀ m, (∀ i, i < m → f i ≤ g i) → sm m f ≤ sm m g
  | 0, _ => Nat.le_refl _
  | m + 1, h => by
    rw [sm_succ, sm_succ]
    have := sm_le m (fun i hi => h i (by omega))
    have := h m (by omega)
    omega
theorem sm_lt {f g : Nat → Nat} : ∀ m, (∀ i, i < m → f i ≤ g i) → (∃ i, i < m ∧ f i < g i) → sm m f < sm m g
  | 0, _, ⟨i, hi, _⟩ => by omega
  | m + 1, h, ⟨i, hi, hl⟩ => by
    rw [sm_succ, sm_succ]
    have h1 := sm_le m (fun i hi => h i (by omega))
    have h2 := h m (by omega)
    rcases Nat.lt_or_ge i m with h3 | h3
    · have := sm_lt m (fun i hi => h i (by omega)) ⟨i, h3, hl⟩
      omega
    · have : i = m := by omega
      subst this
      omega
theorem sm_pos {f : Nat → Nat} : ∀ m, 0 < sm m f → ∃ i, i < m ∧ 0 < f i
  | 0, h => by cases h
  | m + 1, h => by
    rw [sm_succ] at h
    rcases Nat.eq_zero_or_pos (f m) with h1 | h1
    · obtain ⟨i, hi, h2⟩ := sm_pos (f := f) m (by omega)
      exact ⟨i, by omega, h2⟩
    · exact ⟨m, by omega, h1⟩
theorem sm_one (k : Nat) : ∀ m, sm m (fun i => if i = k then 1 else 0) = if k < m then 1 else 0
  | 0 => rfl
  | m + 1 => by
    rw [sm_succ, sm_one k m]
    by_cases h1 : k < m
    · rw [if_pos h1, if_neg (by omega), if_pos (by omega)]
    · by_cases h2 : m = k
      · rw [if_neg h1, if_pos h2, if_pos (by omega)]
      · rw [if_neg h1, if_neg h2, if_neg (by omega)]
theorem sm_zero {f : Nat → Nat} : ∀ m, (∀ i, i < m → f i = 0) → sm m f = 0
  | 0, _ => rfl
  | m + 1, h => by rw [sm_succ, sm_zero m (fun i hi => h i (by omega)), h m (by omega)]
def ind (x v : Nat) : Nat := if x = v then 1 else 0
section
variable (e1 e2 : Nat → Nat) (m : Nat)
def oth (i x : Nat) : Nat := if e1 i = x then e2 i else e1 i
def touches (i x : Nat) : Prop := e1 i = x ∨ e2 i = x
instance (i x : Nat) : Decidable (touches e1 e2 i x) := inferInstanceAs (Decidable (_ ∨ _))
/-- where one comes by streets one after the other. -/
def wk : Nat → List Nat → Option Nat
  | x, [] => some x
  | x, i :: t => if touches e1 e2 i x then wk (oth e1 e2 i x) t else none
/-- how many streets a corner has. -/
def dg (K : Nat → Nat) (v : Nat) : Nat := sm m fun i => K i * (ind (e1 i) v + ind (e2 i) v)
def Par (K : Nat → Nat) (x y : Nat) : Prop := ∀ v, (dg e1 e2 m K v + ind x v + ind y v) % 2 = 0
def less1 (K : Nat → Nat) (i : Nat) : Nat → Nat := fun j => if j = i then K j - 1 else K j
def Conn (K : Nat → Nat) (x : Nat) : Prop := ∀ T : Nat → Prop, T x → (∀ i, i < m → 0 < K i → (T (e1 i) ↔ T (e2 i))) → ∀ i, i < m → 0 < K i → T (e1 i)
/-- a way through some of the streets. -/
def Trail (K : Nat → Nat) (x y : Nat) (t : List Nat) : Prop := wk e1 e2 x t = some y ∧ (∀ i ∈ t, i < m) ∧ ∀ i, t.count i ≤ K i
/-- a way through all of them. -/
def Full (K : Nat → Nat) (x y : Nat) (t : List Nat) : Prop := wk e1 e2 x t = some y ∧ (∀ i ∈ t, i < m) ∧ ∀ i, i < m → t.count i = K i
variable {e1 e2 m}
theorem wk_app : ∀ (t s : List Nat) (x : Nat), wk e1 e2 x (t ++ s) = (wk e1 e2 x t).bind fun y => wk e1 e2 y s
  | [], _, _ => rfl
  | i :: t, s, x => by
    show (if touches e1 e2 i x then wk e1 e2 (oth e1 e2 i x) (t ++ s) else none) = (if touches e1 e2 i x then wk e1 e2 (oth e1 e2 i x) t else none).bind fun y => wk e1 e2 y s
    by_cases h : touches e1 e2 i x
    · rw [if_pos h, if_pos h]; exact wk_app t s _
    · rw [if_neg h, if_neg h]; rfl
theorem dg_less {K : Nat → Nat} {i : Nat} (hi : i < m) (hK : 0 < K i) (v : Nat) : dg e1 e2 m K v = dg e1 e2 m (less1 K i) v + (ind (e1 i) v + ind (e2 i) v) := by
  unfold dg
  have h1 : sm m (fun j => K j * (ind (e1 j) v + ind (e2 j) v)) = sm m (fun j => less1 K i j * (ind (e1 j) v + ind (e2 j) v) + (if j = i then 1 else 0) * (ind (e1 i) v + ind (e2 i) v)) := by
    refine sm_congr m fun j _ => ?_
    unfold less1
    by_cases h : j = i
    · subst h
      rw [if_pos rfl, if_pos rfl, Nat.one_mul]
      conv => lhs; rw [show K j = K j - 1 + 1 by omega, Nat.add_mul, Nat.one_mul]
    · rw [if_neg h, if_neg h, Nat.zero_mul, Nat.add_zero]
  rw [h1, sm_add]
  have h2 : ∀ (c : Nat) (m : Nat), sm m (fun j => (if j = i then 1 else 0) * c) = (if i < m then 1 else 0) * c := by
    intro c m
    induction m with
    | zero => simp [sm]
    | succ m ih =>
      rw [sm_succ, ih]
      by_cases h3 : i < m
      · rw [if_pos h3, if_neg (by omega), if_pos (by omega)]; omega
      · by_cases h4 : m = i
        · rw [if_neg h3, if_pos h4, if_pos (by omega)]; omega
        · rw [if_neg h3, if_neg h4, if_neg (by omega)]; omega
  rw [h2, if_pos hi, Nat.one_mul]
theorem tot_less {K : Nat → Nat} {i : Nat} (hi : i < m) (hK : 0 < K i) : sm m K = sm m (less1 K i) + 1 := by
  have h1 : sm m K = sm m (fun j => less1 K i j + if j = i then 1 else 0) := by
    refine sm_congr m fun j _ => ?_
    unfold less1
    by_cases h : j = i
    · subst h; rw [if_pos rfl, if_pos rfl]; omega
    · rw [if_neg h, if_neg h]; omega
  rw [h1, sm_add, sm_one, if_pos hi]
theorem ind_oth {i x : Nat} (hne : e1 i ≠ e2 i) (ht : touches e1 e2 i x) (v : Nat) : ind (e1 i) v + ind (e2 i) v = ind x v + ind (oth e1 e2 i x) v := by
  unfold oth
  rcases ht with h | h
  · rw [if_pos h, h]
  · have : e1 i ≠ x := fun e => hne (by rw [e, h])
    rw [if_neg this, h]; omega
theorem par_less {K : Nat → Nat} {i x y : Nat} (hne : e1 i ≠ e2 i) (hi : i < m) (hK : 0 < K i) (ht : touches e1 e2 i x) (h : Par e1 e2 m K x y) : Par e1 e2 m (less1 K i) (oth e1 e2 i x) y := fun v => by
  have h1 := h v
  rw [dg_less hi hK v, ind_oth hne ht v] at h1
  omega
theorem dg_pos {K : Nat → Nat} {v : Nat} (h : 0 < dg e1 e2 m K v) : ∃ i, i < m ∧ 0 < K i ∧ touches e1 e2 i v := by
  obtain ⟨i, hi, h1⟩ := sm_pos m h
  refine ⟨i, hi, Nat.pos_of_ne_zero fun e => by rw [e] at h1; omega, ?_⟩
  by_cases ha : e1 i = v
  · exact Or.inl ha
  · by_cases hb : e2 i = v
    · exact Or.inr hb
    · unfold ind at h1
      rw [if_neg ha, if_neg hb] at h1
      omega
theorem trail_some (hne : ∀ i, i < m → e1 i ≠ e2 i) : ∀ (n : Nat) (K : Nat → Nat) (x y : Nat), sm m K = n → Par e1 e2 m K x y → (x ≠ y ∨ ∃ i, i < m ∧ 0 < K i ∧ touches e1 e2 i x) → ∃ t, t ≠ [] ∧ Trail e1 e2 m K x y t := by
  intro n
  induction n with
  | zero =>
    intro K x y hn hP hor
    exfalso
    have hz : ∀ i, i < m → K i = 0 := fun i hi => by
      refine Nat.eq_zero_of_not_pos fun h => ?_
      have := tot_less hi h
      omega
    rcases hor with h | ⟨i, hi, h, _⟩
    · have h1 := hP x
      have h2 : dg e1 e2 m K x = 0 := sm_zero m fun i hi => by rw [hz i hi, Nat.zero_mul]
      unfold ind at h1
      rw [h2, if_pos rfl, if_neg (fun e => h e.symm)] at h1
      omega
    · have := hz i hi; omega
  | succ n ih =>
    intro K x y hn hP hor
    have hex : ∃ i, i < m ∧ 0 < K i ∧ touches e1 e2 i x := by
      rcases hor with h | h
      · refine dg_pos ?_
        have h1 := hP x
        unfold ind at h1
        rw [if_pos rfl, if_neg (fun e => h e.symm)] at h1
        omega
      · exact h
    obtain ⟨i, hi, hK, ht⟩ := hex
    have hP' := par_less (hne i hi) hi hK ht hP
    have hn' := tot_less hi hK
    by_cases hz : oth e1 e2 i x = y
    · refine ⟨[i], by simp, ?_, by simpa using hi, fun j => ?_⟩
      · show (if touches e1 e2 i x then some (oth e1 e2 i x) else none) = some y
        rw [if_pos ht, hz]
      · rw [List.count_singleton]
        by_cases h : i = j
        · subst h; simp; exact hK
        · rw [if_neg (by simpa using h)]; omega
    · obtain ⟨t, _, h1, h2, h3⟩ := ih (less1 K i) _ y (by omega) hP' (Or.inl hz)
      refine ⟨i :: t, by simp, ?_, fun j hj => ?_, fun j => ?_⟩
      · show (if touches e1 e2 i x then wk e1 e2 (oth e1 e2 i x) t else none) = some y
        rw [if_pos ht]; exact h1
      · rcases List.mem_cons.1 hj with rfl | hj
        · exact hi
        · exact h2 j hj
      · have := h3 j
        rw [List.count_cons]
        unfold less1 at this
        by_cases h : j = i
        · subst h; rw [if_pos rfl] at this; simp; omega
        · rw [if_neg h] at this; rw [if_neg (by simpa using fun e : i = j => h e.symm)]; omega
theorem trail_par (hne : ∀ i, i < m → e1 i ≠ e2 i) : ∀ (t : List Nat) (x y : Nat), wk e1 e2 x t = some y → (∀ i ∈ t, i < m) → Par e1 e2 m (fun i => t.count i) x y
  | [], x, y, h, _ => fun v => by
    have : x = y := by simpa [wk] using h
    subst this
    have h2 : dg e1 e2 m (fun i => ([] : List Nat).count i) v = 0 := sm_zero m fun i _ => by simp
    omega
  | i :: t, x, y, h, hm => fun v => by
    have hi := hm i (List.mem_cons_self ..)
    unfold wk at h
    by_cases ht : touches e1 e2 i x
    · rw [if_pos ht] at h
      have ih := trail_par hne t _ y h (fun j hj => hm j (List.mem_cons_of_mem _ hj)) v
      have h1 := dg_less (e1 := e1) (e2 := e2) (K := fun j => (i :: t).count j) hi (by simp) v
      have h2 : less1 (fun j => (i :: t).count j) i = fun j => t.count j := by
        funext j
        unfold less1
        by_cases e : j = i
        · subst e; rw [if_pos rfl]; simp
        · rw [if_neg e]
          show (i :: t).count j = t.count j
          rw [List.count_cons, if_neg (by simpa using fun e' : i = j => e e'.symm)]; omega
      rw [h2, ind_oth (hne i hi) ht v] at h1
      rw [h1]
      omega
    · rw [if_neg ht] at h; cases h
theorem len_count : ∀ (t : List Nat), (∀ i ∈ t, i < m) → t.length = sm m fun i => t.count i
  | [], _ => (sm_zero m fun i _ => by simp).symm
  | k :: t, h => by
    have ih := len_count t fun i hi => h i (List.mem_cons_of_mem _ hi)
    have h1 : sm m (fun i => (k :: t).count i) = sm m (fun i => t.count i + if i = k then 1 else 0) := by
      refine sm_congr m fun i _ => ?_
      rw [List.count_cons]
      by_cases e : i = k
      · subst e; simp
      · rw [if_neg e, if_neg (by simpa using fun e' : k = i => e e'.symm)]
    rw [h1, sm_add, sm_one, if_pos (h k (List.mem_cons_self ..)), List.length_cons, ih]
def Vis (e1 e2 : Nat → Nat) (t : List Nat) (x v : Nat) : Prop := ∃ t1 t2, t = t1 ++ t2 ∧ wk e1 e2 x t1 = some v
theorem vis_ends {t : List Nat} {x y i : Nat} (h : wk e1 e2 x t = some y) (hi : i ∈ t) : Vis e1 e2 t x (e1 i) ∧ Vis e1 e2 t x (e2 i) := by
  obtain ⟨t1, t2, rfl⟩ := List.append_of_mem hi
  rw [wk_app] at h
  obtain ⟨u, hu, h2⟩ := Option.bind_eq_some_iff.1 h
  unfold wk at h2
  by_cases ht : touches e1 e2 i u
  · have hv : Vis e1 e2 (t1 ++ i :: t2) x u := ⟨t1, i :: t2, rfl, hu⟩
    have ho : Vis e1 e2 (t1 ++ i :: t2) x (oth e1 e2 i u) := ⟨t1 ++ [i], t2, by simp, by
      rw [wk_app, hu]
      show (if touches e1 e2 i u then some (oth e1 e2 i u) else none) = _
      rw [if_pos ht]⟩
    unfold oth at ho
    rcases ht with h3 | h3
    · rw [if_pos h3] at ho
      exact ⟨by rw [h3]; exact hv, ho⟩
    · by_cases h4 : e1 i = u
      · rw [if_pos h4] at ho
        exact ⟨by rw [h4]; exact hv, ho⟩
      · rw [if_neg h4] at ho
        exact ⟨ho, by rw [h3]; exact hv⟩
  · rw [if_neg ht] at h2; cases h2
/-- a way through some streets that leaves some can be made longer. -/
theorem trail_more (hne : ∀ i, i < m → e1 i ≠ e2 i) {K : Nat → Nat} {x y : Nat} (hP : Par e1 e2 m K x y) (hC : Conn e1 e2 m K x) {t : List Nat} (hT : Trail e1 e2 m K x y t) (hl : ∃ i, i < m ∧ t.count i < K i) : ∃ t', Trail e1 e2 m K x y t' ∧ t.length < t'.length := by
  obtain ⟨h1, h2, h3⟩ := hT
  obtain ⟨i0, hi0, hlt0⟩ := hl
  have hPt := trail_par hne t x y h1 h2
  have hEv : ∀ v, Par e1 e2 m (fun i => K i - t.count i) v v := fun v u => by
    have a := hP u
    have b := hPt u
    have c : dg e1 e2 m K u = dg e1 e2 m (fun i => K i - t.count i) u + dg e1 e2 m (fun i => t.count i) u := by
      unfold dg
      rw [← sm_add]
      refine sm_congr m fun i _ => ?_
      rw [← Nat.add_mul]
      have := h3 i
      rw [Nat.sub_add_cancel this]
    omega
  have hex : ∃ i w, i < m ∧ 0 < K i - t.count i ∧ touches e1 e2 i w ∧ Vis e1 e2 t x w := by
    refine Classical.byContradiction fun hn => ?_
    have hno : ∀ i w, i < m → 0 < K i - t.count i → touches e1 e2 i w → ¬ Vis e1 e2 t x w := fun i w a b c d => hn ⟨i, w, a, b, c, d⟩
    have hcl : ∀ i, i < m → 0 < K i → (Vis e1 e2 t x (e1 i) ↔ Vis e1 e2 t x (e2 i)) := fun i hi hK => by
      have key : (Vis e1 e2 t x (e1 i) ∨ Vis e1 e2 t x (e2 i)) → (Vis e1 e2 t x (e1 i) ∧ Vis e1 e2 t x (e2 i)) := fun hor => by
        have hz : ¬ 0 < K i - t.count i := fun hp => by
          rcases hor with h | h
          · exact hno i _ hi hp (Or.inl rfl) h
          · exact hno i _ hi hp (Or.inr rfl) h
        exact vis_ends h1 (List.count_pos_iff.1 (by omega))
      exact ⟨fun h => (key (Or.inl h)).2, fun h => (key (Or.inr h)).1⟩
    have := hC (Vis e1 e2 t x) ⟨[], t, rfl, rfl⟩ hcl i0 hi0 (by omega)
    exact hno i0 _ hi0 (by omega) (Or.inl rfl) this
  obtain ⟨i, w, hi, hK, ht, t1, t2, rfl, hw⟩ := hex
  obtain ⟨s, hs0, s1, s2, s3⟩ := trail_some hne _ _ w w rfl (hEv w) (Or.inr ⟨i, hi, hK, ht⟩)
  rw [wk_app, hw] at h1
  refine ⟨t1 ++ (s ++ t2), ⟨?_, fun j hj => ?_, fun j => ?_⟩, ?_⟩
  · rw [wk_app, hw]
    show wk e1 e2 w (s ++ t2) = _
    rw [wk_app, s1]
    exact h1
  · rcases List.mem_append.1 hj with h | h
    · exact h2 j (List.mem_append_left _ h)
    · rcases List.mem_append.1 h with h | h
      · exact s2 j h
      · exact h2 j (List.mem_append_right _ h)
  · have a := h3 j
    have b : s.count j ≤ K j - (t1 ++ t2).count j := s3 j
    rw [List.count_append] at a b ⊢
    rw [List.count_append]
    omega
  · have : 0 < s.length := List.length_pos_iff.2 hs0
    simp
    omega
/-- Euler: a way through all streets, where the corners have the right number of streets and all streets hang together. -/
theorem euler (hne : ∀ i, i < m → e1 i ≠ e2 i) {K : Nat → Nat} {x y : Nat} (hP : Par e1 e2 m K x y) (hC : Conn e1 e2 m K x) : ∃ t, Full e1 e2 m K x y t := by
  have hex : ∃ t, Trail e1 e2 m K x y t := by
    by_cases h : x = y
    · subst h
      exact ⟨[], rfl, (fun i hi => by cases hi), (fun i => by simp)⟩
    · obtain ⟨t, _, h1⟩ := trail_some hne _ K x y rfl hP (Or.inl h)
      exact ⟨t, h1⟩
  obtain ⟨t, ht⟩ := hex
  generalize hd : sm m K - t.length = d
  induction d using Nat.strongRecOn generalizing t with
  | ind d ih =>
    by_cases hl : ∃ i, i < m ∧ t.count i < K i
    · obtain ⟨t', h1, h2⟩ := trail_more hne hP hC ht hl
      have h3 : t.length < sm m K := by
        rw [len_count t ht.2.1]
        exact sm_lt m (fun i _ => ht.2.2 i) hl
      exact ih (sm m K - t'.length) (by omega) t' h1 rfl
    · refine ⟨t, ht.1, ht.2.1, fun i hi => ?_⟩
      have := ht.2.2 i
      rcases Nat.lt_or_ge (t.count i) (K i) with h | h
      · exact absurd ⟨i, hi, h⟩ hl
      · omega
/-- where a way leads through all streets, they hang together. -/
theorem full_conn {K : Nat → Nat} {x y : Nat} {t : List Nat} (h : Full e1 e2 m K x y t) : Conn e1 e2 m K x := fun T hx hT i hi hK => by
  obtain ⟨h1, h2, h3⟩ := h
  have key : ∀ (t : List Nat) (x : Nat), T x → wk e1 e2 x t = some y → (∀ i ∈ t, i < m ∧ 0 < K i) → ∀ i ∈ t, T (e1 i) := by
    intro t
    induction t with
    | nil => intro x _ _ _ i hi; cases hi
    | cons k t ih =>
      intro x hx hw hm i hi
      unfold wk at hw
      by_cases ht : touches e1 e2 k x
      · rw [if_pos ht] at hw
        have hk := hm k (List.mem_cons_self ..)
        have hb := hT k hk.1 hk.2
        have hT1 : T (e1 k) := by
          rcases ht with h | h
          · rw [h]; exact hx
          · exact hb.2 (by rw [h]; exact hx)
        have hT2 := hb.1 hT1
        have ho : T (oth e1 e2 k x) := by
          unfold oth
          split
          · exact hT2
          · exact hT1
        rcases List.mem_cons.1 hi with rfl | hi
        · exact hT1
        · exact ih _ ho hw (fun j hj => hm j (List.mem_cons_of_mem _ hj)) i hi
      · rw [if_neg ht] at hw; cases hw
  refine key t x hx h1 (fun j hj => ⟨h2 j hj, ?_⟩) i ?_
  · rw [← h3 j (h2 j hj)]; exact List.count_pos_iff.2 hj
  · exact List.count_pos_iff.1 (by rw [h3 i hi]; exact hK)
end
end Go.Proofs.Ytimddkofcejijaa
