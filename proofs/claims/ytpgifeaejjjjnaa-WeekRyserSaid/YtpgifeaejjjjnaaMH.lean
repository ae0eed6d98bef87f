/- M. Hall's count and Ryser's theorem. -/
import Derived.Test.YtpgifeaejjjjnaaCM
namespace Go.Proofs.Ytpgifeaejjjjnaa
open Go.RowKit Go.Sort
namespace Mh
def fac : Nat → Nat
  | 0 => 1
  | n + 1 => (n + 1) * fac n
theorem fac_pos : ∀ n, 0 < fac n
  | 0 => Nat.one_pos
  | n + 1 => Nat.mul_pos (Nat.succ_pos n) (fac_pos n)
/-- how many streets a day may have. -/
def cn (N : Nat) (B : Nat → Bool) : Nat := (List.range N).countP B
/-- whether a street is one of those that some of these days may have. -/
def un (I : List Nat) (A : Nat → Nat → Bool) (p : Nat → Bool) (s : Nat) : Bool := I.any fun d => p d && A d s
def Hall (N : Nat) (I : List Nat) (A : Nat → Nat → Bool) : Prop := ∀ p, I.countP p ≤ cn N (un I A p)
/-- different streets for these days. -/
def Sdr (N : Nat) (I : List Nat) (A : Nat → Nat → Bool) (f : Nat → Nat) : Prop := (∀ d ∈ I, A d (f d) = true ∧ f d < N) ∧ ∀ d ∈ I, ∀ e ∈ I, d ≠ e → f d ≠ f e
theorem cn_mono {N : Nat} {B C : Nat → Bool} (h : ∀ s, B s = true → C s = true) : cn N B ≤ cn N C := List.countP_mono_left fun s _ => h s
theorem countP_or {α : Type} (l : List α) (f g : α → Bool) : l.countP (fun a => f a || g a) ≤ l.countP f + l.countP g := by
  induction l with
  | nil => simp
  | cons a l ih =>
    rw [List.countP_cons, List.countP_cons, List.countP_cons]
    cases f a <;> cases g a <;> simp <;> omega
theorem cn_or (N : Nat) (B C : Nat → Bool) : cn N (fun s => B s || C s) ≤ cn N B + cn N C := countP_or _ _ _
theorem countP_split {α : Type} (l : List α) (f p : α → Bool) : l.countP f = l.countP (fun a => p a && f a) + l.countP (fun a => !p a && f a) := by
  induction l with
  | nil => rfl
  | cons a l ih =>
    rw [List.countP_cons, List.countP_cons, List.countP_cons, ih]
    cases f a <;> cases p a <;> simp <;> omega
theorem un_iff {I : List Nat} {A : Nat → Nat → Bool} {p : Nat → Bool} {s : Nat} : un I A p s = true ↔ ∃ d ∈ I, p d = true ∧ A d s = true := by
  unfold un
  rw [List.any_eq_true]
  constructor
  · rintro ⟨d, h1, h2⟩; rw [Bool.and_eq_true] at h2; exact ⟨d, h1, h2⟩
  · rintro ⟨d, h1, h2⟩; exact ⟨d, h1, by rw [Bool.and_eq_true]; exact h2⟩
theorem cn_one {N x : Nat} (h : x < N) : cn N (fun s => s == x) = 1 := by
  unfold cn
  have : (List.range N).countP (fun s => s == x) = (List.range N).count x := rfl
  rw [this, List.count_range]; simp [h]
/-- from all choices for one day. -/
theorem join_day {N m d0 : Nat} {I' : List Nat} {A : Nat → Nat → Bool} (hnd : d0 ∉ I')
    (hx : ∀ x, x < N → A d0 x = true → ∃ Q : List (Nat → Nat), m ≤ Q.length ∧ (∀ f ∈ Q, Sdr N I' (fun d s => A d s && s != x) f) ∧ Q.Pairwise fun f g => ∃ d ∈ I', f d ≠ g d) :
    ∀ xs : List Nat, xs.Nodup → (∀ x ∈ xs, x < N ∧ A d0 x = true) → ∃ Q : List (Nat → Nat), xs.length * m ≤ Q.length ∧ (∀ f ∈ Q, Sdr N (d0 :: I') A f ∧ f d0 ∈ xs) ∧ Q.Pairwise fun f g => ∃ d ∈ d0 :: I', f d ≠ g d := by
  intro xs
  induction xs with
  | nil => intro _ _; exact ⟨[], by simp, fun f hf => absurd hf List.not_mem_nil, List.Pairwise.nil⟩
  | cons x xs ih =>
    intro hn hm
    rw [List.nodup_cons] at hn
    obtain ⟨Q1, h1, h2, h3⟩ := ih hn.2 fun y hy => hm y (List.mem_cons_of_mem _ hy)
    obtain ⟨hxN, hxA⟩ := hm x (List.mem_cons_self ..)
    obtain ⟨Q2, g1, g2, g3⟩ := hx x hxN hxA
    have hne : ∀ d ∈ I', d ≠ d0 := fun d hd e => hnd (e ▸ hd)
    refine ⟨(Q2.map fun f d => if d = d0 then x else f d) ++ Q1, ?_, fun f hf => ?_, ?_⟩
    · rw [List.length_append, List.length_map, List.length_cons, Nat.add_mul, Nat.one_mul]; omega
    · rcases List.mem_append.1 hf with hf | hf
      · obtain ⟨q, hq, rfl⟩ := List.mem_map.1 hf
        obtain ⟨s1, s2⟩ := g2 q hq
        have s1' : ∀ d ∈ I', A d (q d) = true ∧ q d ≠ x ∧ q d < N := fun d hd => by
          have := s1 d hd
          rw [Bool.and_eq_true, bne_iff_ne] at this
          exact ⟨this.1.1, this.1.2, this.2⟩
        refine ⟨⟨fun d hd => ?_, fun d hd e he hde => ?_⟩, ?_⟩
        · rcases List.mem_cons.1 hd with rfl | hd
          · simp [hxA, hxN]
          · simp only [if_neg (hne d hd)]; exact ⟨(s1' d hd).1, (s1' d hd).2.2⟩
        · by_cases hd0 : d = d0
          · by_cases he0 : e = d0
            · exact absurd (hd0.trans he0.symm) hde
            · have he1 := (List.mem_cons.1 he).resolve_left he0
              simp only [if_pos hd0, if_neg he0]; exact fun e' => (s1' e he1).2.1 e'.symm
          · have hd1 := (List.mem_cons.1 hd).resolve_left hd0
            by_cases he0 : e = d0
            · simp only [if_pos he0, if_neg hd0]; exact (s1' d hd1).2.1
            · have he1 := (List.mem_cons.1 he).resolve_left he0
              simp only [if_neg hd0, if_neg he0]; exact s2 d hd1 e he1 hde
        · simp
      · exact ⟨(h2 f hf).1, List.mem_cons_of_mem _ (h2 f hf).2⟩
    · rw [List.pairwise_append]
      refine ⟨?_, h3, fun f hf g hg => ?_⟩
      · rw [List.pairwise_map]
        refine List.Pairwise.imp (fun {a b} hab => ?_) g3
        obtain ⟨d, hd, hne2⟩ := hab
        exact ⟨d, List.mem_cons_of_mem _ hd, by simp only [if_neg (hne d hd)]; exact hne2⟩
      · obtain ⟨q, hq, rfl⟩ := List.mem_map.1 hf
        refine ⟨d0, List.mem_cons_self .., ?_⟩
        have := (h2 g hg).2
        simp only [ite_true]
        intro e
        rw [← e] at this
        exact hn.1 this
/-- M. Hall's theorem: where days have at least k streets each, and no few of them too few, there are at least k! ways. -/
theorem mhall (N : Nat) : ∀ (m : Nat) (I : List Nat) (A : Nat → Nat → Bool) (k : Nat), I.length = m → I.Nodup → Hall N I A → k ≤ m → (∀ d ∈ I, k ≤ cn N (A d)) →
    ∃ Q : List (Nat → Nat), fac k ≤ Q.length ∧ (∀ f ∈ Q, Sdr N I A f) ∧ Q.Pairwise fun f g => ∃ d ∈ I, f d ≠ g d := by
  intro m
  induction m using Nat.strongRecOn with
  | _ m ih =>
    intro I A k hl hnd hH hk hA
    -- one street at least
    have key : ∀ k, 1 ≤ k → k ≤ m → (∀ d ∈ I, k ≤ cn N (A d)) → ∃ Q : List (Nat → Nat), fac k ≤ Q.length ∧ (∀ f ∈ Q, Sdr N I A f) ∧ Q.Pairwise fun f g => ∃ d ∈ I, f d ≠ g d := by
      intro k hk1 hk hA
      by_cases hc : ∃ p, 0 < I.countP p ∧ I.countP p < m ∧ cn N (un I A p) = I.countP p
      · obtain ⟨p, hp0, hpm, hpe⟩ := hc
        have hJl : (I.filter p).length = I.countP p := (List.countP_eq_length_filter ..).symm
        have hsplit : I.length = I.countP p + (I.filter fun d => !p d).length := by
          rw [← List.countP_eq_length_filter]
          have h := List.length_eq_countP_add_countP (l := I) p
          rw [h]
          congr 1
          exact List.countP_congr fun d _ => by cases p d <;> simp
        -- the days that have just as many streets
        have hHJ : Hall N (I.filter p) A := fun q => by
          rw [List.countP_filter]
          have h1 := hH fun d => q d && p d
          refine Nat.le_trans h1 (cn_mono fun s hs => ?_)
          obtain ⟨d, hd, hq, hs⟩ := un_iff.1 hs
          rw [Bool.and_eq_true] at hq
          exact un_iff.2 ⟨d, List.mem_filter.2 ⟨hd, hq.2⟩, hq.1, hs⟩
        have hkJ : k ≤ I.countP p := by
          obtain ⟨d, hd, hpd⟩ := List.countP_pos_iff.1 hp0
          refine Nat.le_trans (hA d hd) ?_
          rw [← hpe]
          exact cn_mono fun s hs => un_iff.2 ⟨d, hd, hpd, hs⟩
        obtain ⟨QJ, j1, j2, j3⟩ := ih (I.countP p) hpm (I.filter p) A k hJl (hnd.sublist List.filter_sublist) hHJ hkJ fun d hd => hA d (List.mem_filter.1 hd).1
        -- the others
        have hHR : Hall N (I.filter fun d => !p d) (fun d s => A d s && !un I A p s) := fun q => by
          have h1 := hH fun d => p d || q d
          have h2 := countP_split I (fun d => p d || q d) p
          have h3 : I.countP (fun d => p d && (p d || q d)) = I.countP p := List.countP_congr fun d _ => by cases p d <;> cases q d <;> simp
          have h4 : I.countP (fun d => !p d && (p d || q d)) = (I.filter fun d => !p d).countP q := by
            rw [List.countP_filter]
            exact List.countP_congr fun d _ => by cases p d <;> cases q d <;> simp
          have h5 : cn N (un I A fun d => p d || q d) ≤ cn N (un I A p) + cn N (un (I.filter fun d => !p d) (fun d s => A d s && !un I A p s) q) := by
            refine Nat.le_trans (cn_mono fun s hs => ?_) (cn_or N _ _)
            obtain ⟨d, hd, hpq, hs⟩ := un_iff.1 hs
            rw [Bool.or_eq_true]
            by_cases hu : un I A p s = true
            · exact .inl hu
            · refine .inr (un_iff.2 ⟨d, ?_⟩)
              have hpd : p d = false := by
                cases h : p d
                · rfl
                · exact absurd (un_iff.2 ⟨d, hd, h, hs⟩) hu
              rw [hpd, Bool.false_or] at hpq
              refine ⟨List.mem_filter.2 ⟨hd, by rw [hpd]; rfl⟩, hpq, ?_⟩
              have hu2 : un I A p s = false := by simpa using hu
              rw [hs, hu2]; rfl
          omega
        obtain ⟨QR, r1, r2, _⟩ := ih (I.filter fun d => !p d).length (by omega) (I.filter fun d => !p d) _ 0 rfl (hnd.sublist List.filter_sublist) hHR (Nat.zero_le _) fun _ _ => Nat.zero_le _
        obtain ⟨g, QR', rfl⟩ : ∃ g QR', QR = g :: QR' := by
          cases QR with
          | nil => exact absurd r1 (by simp [fac])
          | cons g QR' => exact ⟨g, QR', rfl⟩
        obtain ⟨g1, g2⟩ := r2 g (List.mem_cons_self ..)
        refine ⟨QJ.map fun f d => if p d then f d else g d, by rw [List.length_map]; exact j1, fun h hh => ?_, ?_⟩
        · obtain ⟨f, hf, rfl⟩ := List.mem_map.1 hh
          obtain ⟨f1, f2⟩ := j2 f hf
          have hJ : ∀ d ∈ I, p d = true → A d (f d) = true ∧ f d < N := fun d hd hpd => f1 d (List.mem_filter.2 ⟨hd, hpd⟩)
          have hR : ∀ d ∈ I, p d = false → (A d (g d) = true ∧ un I A p (g d) = false) ∧ g d < N := fun d hd hpd => by
            have := g1 d (List.mem_filter.2 ⟨hd, by rw [hpd]; rfl⟩)
            rw [Bool.and_eq_true] at this
            exact ⟨⟨this.1.1, by simpa using this.1.2⟩, this.2⟩
          refine ⟨fun d hd => ?_, fun d hd e he hde => ?_⟩
          · cases hpd : p d
            · simp only [hpd, Bool.false_eq_true, if_false]; exact ⟨(hR d hd hpd).1.1, (hR d hd hpd).2⟩
            · simp only [hpd, if_true]; exact hJ d hd hpd
          · cases hpd : p d <;> cases hpe2 : p e <;> simp only [hpd, hpe2, Bool.false_eq_true, if_false, if_true]
            · exact g2 d (List.mem_filter.2 ⟨hd, by rw [hpd]; rfl⟩) e (List.mem_filter.2 ⟨he, by rw [hpe2]; rfl⟩) hde
            · intro h
              have h1 := (hR d hd hpd).1.2
              rw [h] at h1
              rw [un_iff.2 ⟨e, he, hpe2, (hJ e he hpe2).1⟩] at h1; cases h1
            · intro h
              have h1 := (hR e he hpe2).1.2
              rw [← h] at h1
              rw [un_iff.2 ⟨d, hd, hpd, (hJ d hd hpd).1⟩] at h1; cases h1
            · exact f2 d (List.mem_filter.2 ⟨hd, hpd⟩) e (List.mem_filter.2 ⟨he, hpe2⟩) hde
        · rw [List.pairwise_map]
          refine List.Pairwise.imp (fun {a b} hab => ?_) j3
          obtain ⟨d, hd, hne⟩ := hab
          obtain ⟨hd1, hd2⟩ := List.mem_filter.1 hd
          exact ⟨d, hd1, by simp only [hd2, if_true]; exact hne⟩
      · cases I with
        | nil => simp at hl; omega
        | cons d0 I' =>
          rw [List.nodup_cons] at hnd
          rw [List.length_cons] at hl
          obtain ⟨k', rfl⟩ : ∃ k', k = k' + 1 := ⟨k - 1, by omega⟩
          have hx : ∀ x, x < N → A d0 x = true → ∃ Q : List (Nat → Nat), fac k' ≤ Q.length ∧ (∀ f ∈ Q, Sdr N I' (fun d s => A d s && s != x) f) ∧ Q.Pairwise fun f g => ∃ d ∈ I', f d ≠ g d := by
            intro x hxN _
            refine ih I'.length (by omega) I' _ k' rfl hnd.2 (fun q => ?_) (by omega) fun d hd => ?_
            · rcases Nat.eq_zero_or_pos (I'.countP q) with h0 | h0
              · rw [h0]; exact Nat.zero_le _
              · have hcp : (d0 :: I').countP (fun d => q d && d != d0) = I'.countP q := by
                  rw [List.countP_cons]
                  have e1 : (q d0 && d0 != d0) = false := by simp
                  rw [e1, if_neg (by decide), Nat.add_zero]
                  exact List.countP_congr fun d hd => by
                    have : (d != d0) = true := bne_iff_ne.2 fun e => hnd.1 (e ▸ hd)
                    rw [this, Bool.and_true]
                have hlt : I'.countP q < m := Nat.lt_of_le_of_lt List.countP_le_length (by omega)
                have h1 := hH fun d => q d && d != d0
                have h2 : cn N (un (d0 :: I') A fun d => q d && d != d0) ≠ I'.countP q := fun e => hc ⟨fun d => q d && d != d0, by rw [hcp]; exact h0, by rw [hcp]; exact hlt, by rw [hcp]; exact e⟩
                have h3 : cn N (un (d0 :: I') A fun d => q d && d != d0) ≤ cn N (un I' (fun d s => A d s && s != x) q) + 1 := by
                  rw [← cn_one hxN]
                  refine Nat.le_trans (cn_mono fun s hs => ?_) (cn_or N _ _)
                  obtain ⟨d, hd, hq, hs⟩ := un_iff.1 hs
                  rw [Bool.and_eq_true, bne_iff_ne] at hq
                  rw [Bool.or_eq_true]
                  by_cases hsx : s = x
                  · exact .inr (by simp [hsx])
                  · refine .inl (un_iff.2 ⟨d, ?_, hq.1, by rw [hs]; simp [hsx]⟩)
                    rcases List.mem_cons.1 hd with rfl | hd
                    · exact absurd rfl hq.2
                    · exact hd
                rw [hcp] at h1
                omega
            · have h1 := hA d (List.mem_cons_of_mem _ hd)
              have h2 : cn N (A d) ≤ cn N (fun s => A d s && s != x) + 1 := by
                rw [← cn_one hxN]
                refine Nat.le_trans (cn_mono fun s hs => ?_) (cn_or N _ _)
                by_cases hsx : s = x <;> simp [hsx, hs]
              omega
          obtain ⟨Q, q1, q2, q3⟩ := join_day (m := fac k') hnd.1 hx ((List.range N).filter (A d0)) (List.nodup_range.sublist List.filter_sublist) fun x hx => by
            obtain ⟨h1, h2⟩ := List.mem_filter.1 hx
            exact ⟨List.mem_range.1 h1, h2⟩
          refine ⟨Q, Nat.le_trans ?_ q1, fun f hf => (q2 f hf).1, q3⟩
          rw [← List.countP_eq_length_filter]
          exact Nat.mul_le_mul_right _ (hA d0 (List.mem_cons_self ..))
    rcases Nat.eq_zero_or_pos k with h0 | h0
    · subst h0
      rcases Nat.eq_zero_or_pos m with hm | hm
      · subst hm
        have : I = [] := List.length_eq_zero_iff.1 hl
        subst this
        exact ⟨[fun _ => 0], by simp [fac], fun f _ => ⟨fun d hd => absurd hd List.not_mem_nil, fun d hd => absurd hd List.not_mem_nil⟩, by simp⟩
      · exact key 1 (Nat.le_refl _) hm fun d hd => by
          have h1 := hH fun e => e == d
          have h2 : 1 ≤ I.countP fun e => e == d := List.countP_pos_iff.2 ⟨d, hd, by simp⟩
          refine Nat.le_trans h2 (Nat.le_trans h1 (cn_mono fun s hs => ?_))
          obtain ⟨e, _, he, hs⟩ := un_iff.1 hs
          rw [beq_iff_eq] at he
          rw [← he]; exact hs
    · exact key k h0 hk hA
theorem sum_addN (f g : Nat → Nat) : ∀ l : List Nat, (l.map fun s => f s + g s).sum = (l.map f).sum + (l.map g).sum
  | [] => rfl
  | s :: l => by simp only [List.map_cons, List.sum_cons, sum_addN f g l]; omega
theorem sum_leN {f g : Nat → Nat} : ∀ {l : List Nat}, (∀ s ∈ l, f s ≤ g s) → (l.map f).sum ≤ (l.map g).sum
  | [], _ => Nat.le_refl _
  | s :: l, h => by
    simp only [List.map_cons, List.sum_cons]
    have := h s (List.mem_cons_self ..)
    have := sum_leN (l := l) fun t ht => h t (List.mem_cons_of_mem _ ht)
    omega
theorem sum_if (B : Nat → Bool) (k : Nat) : ∀ l : List Nat, (l.map fun s => if B s then k else 0).sum = l.countP B * k
  | [] => by simp
  | s :: l => by
    simp only [List.map_cons, List.sum_cons, sum_if B k l, List.countP_cons, Nat.add_mul]
    cases B s <;> simp <;> omega
theorem swap (L : List Nat) (R : Nat → Nat → Bool) : ∀ I : List Nat, (I.map fun d => L.countP (R d)).sum = (L.map fun s => I.countP fun d => R d s).sum
  | [] => by
    simp only [List.map_nil, List.sum_nil, List.countP_nil]
    induction L with
    | nil => rfl
    | cons a l ih => rw [List.map_cons, List.sum_cons, ← ih]; rfl
  | d :: I => by
    rw [List.map_cons, List.sum_cons, swap L R I]
    have h1 : L.countP (R d) = (L.map fun s => if R d s then 1 else 0).sum := by rw [sum_if, Nat.mul_one]
    rw [h1, ← sum_addN]
    congr 1
    refine List.map_congr_left fun s _ => ?_
    rw [List.countP_cons]; omega
/-- where each day has k streets, and each street k days, no few days have too few streets. -/
theorem regular {N k : Nat} {I : List Nat} {A : Nat → Nat → Bool} (hk : 0 < k) (h1 : ∀ d ∈ I, k ≤ cn N (A d)) (h2 : ∀ s, s < N → (I.countP fun d => A d s) ≤ k) : Hall N I A := fun p => by
  have e := swap (List.range N) (fun d s => p d && A d s) I
  have l1 : I.countP p * k ≤ (I.map fun d => (List.range N).countP fun s => p d && A d s).sum := by
    rw [← sum_if]
    refine sum_leN fun d hd => ?_
    cases hp : p d
    · simp
    · simp only [Bool.true_and, if_true]; exact h1 d hd
  have l2 : ((List.range N).map fun s => I.countP fun d => p d && A d s).sum ≤ cn N (un I A p) * k := by
    unfold cn
    rw [← sum_if]
    refine sum_leN fun s hs => ?_
    by_cases hu : un I A p s = true
    · rw [if_pos hu]
      refine Nat.le_trans (List.countP_mono_left fun d _ h => ?_) (h2 s (List.mem_range.1 hs))
      rw [Bool.and_eq_true] at h; exact h.2
    · rw [if_neg hu]
      refine Nat.le_of_eq (List.countP_eq_zero.2 fun d hd h => hu ?_)
      rw [Bool.and_eq_true] at h
      exact un_iff.2 ⟨d, hd, h⟩
  exact Nat.le_of_mul_le_mul_right (Nat.le_trans l1 (e ▸ l2)) hk
theorem swapW (M : Nat → Nat → Nat) (L : List Nat) : ∀ I : List Nat, (I.map fun d => (L.map (M d)).sum).sum = (L.map fun s => (I.map fun d => M d s).sum).sum
  | [] => by
    simp only [List.map_nil, List.sum_nil]
    induction L with
    | nil => rfl
    | cons a l ih => rw [List.map_cons, List.sum_cons, ← ih]; rfl
  | d :: I => by
    simp only [List.map_cons, List.sum_cons]
    rw [swapW M L I, ← sum_addN]
theorem regularW {N k : Nat} {I : List Nat} {M : Nat → Nat → Nat} (hk : 0 < k) (h1 : ∀ d ∈ I, k ≤ ((List.range N).map (M d)).sum) (h2 : ∀ s, s < N → (I.map fun d => M d s).sum ≤ k) : Hall N I (fun d s => decide (0 < M d s)) := fun p => by
  have e := swapW (fun d s => if p d then M d s else 0) (List.range N) I
  have l1 : I.countP p * k ≤ (I.map fun d => ((List.range N).map fun s => if p d then M d s else 0).sum).sum := by
    rw [← sum_if]
    refine sum_leN fun d hd => ?_
    cases hp : p d
    · simp
    · simp only [if_true]; exact h1 d hd
  have l2 : ((List.range N).map fun s => (I.map fun d => if p d then M d s else 0).sum).sum ≤ cn N (un I (fun d s => decide (0 < M d s)) p) * k := by
    unfold cn
    rw [← sum_if]
    refine sum_leN fun s hs => ?_
    by_cases hu : un I (fun d s => decide (0 < M d s)) p s = true
    · rw [if_pos hu]
      refine Nat.le_trans (sum_leN fun d _ => ?_) (h2 s (List.mem_range.1 hs))
      split <;> omega
    · rw [if_neg hu]
      have hz : ∀ l : List Nat, (∀ d ∈ l, (if p d then M d s else 0) = 0) → (l.map fun d => if p d then M d s else 0).sum = 0 := fun l => by
        induction l with
        | nil => intro _; rfl
        | cons a l ih =>
          intro h
          rw [List.map_cons, List.sum_cons, h a (List.mem_cons_self ..), ih fun d hd => h d (List.mem_cons_of_mem _ hd)]
      refine Nat.le_of_eq (hz I fun d hd => ?_)
      by_cases hp : p d = true
      · rw [if_pos hp]
        refine Nat.eq_zero_of_not_pos fun h => hu (un_iff.2 ⟨d, hd, hp, decide_eq_true h⟩)
      · rw [if_neg hp]
  exact Nat.le_of_mul_le_mul_right (Nat.le_trans l1 (e ▸ l2)) hk
/-- one way at least. -/
theorem some_sdr {N : Nat} {I : List Nat} {A : Nat → Nat → Bool} (hnd : I.Nodup) (hH : Hall N I A) : ∃ f, Sdr N I A f := by
  obtain ⟨Q, q1, q2, _⟩ := mhall N I.length I A 0 rfl hnd hH (Nat.zero_le _) fun _ _ => Nat.zero_le _
  cases Q with
  | nil => exact absurd q1 (by simp [fac])
  | cons f Q => exact ⟨f, q2 f (List.mem_cons_self ..)⟩
theorem nodup_le {α : Type} [BEq α] [LawfulBEq α] : ∀ {l m : List α}, l.Nodup → l ⊆ m → l.length ≤ m.length
  | [], _, _, _ => Nat.zero_le _
  | a :: t, m, hn, hs => by
    rw [List.nodup_cons] at hn
    have ha := hs (List.mem_cons_self ..)
    have h1 := nodup_le (l := t) (m := m.erase a) hn.2 fun x hx => (List.mem_erase_of_ne (by rintro rfl; exact hn.1 hx)).2 (hs (List.mem_cons_of_mem _ hx))
    have h2 := List.length_erase_of_mem ha
    have h3 := List.length_pos_of_mem ha
    rw [List.length_cons]; omega
/-- different numbers below n for n places are all of them. -/
theorem onto {n : Nat} {f : Nat → Nat} (hlt : ∀ i, i < n → f i < n) (hne : ∀ i j, i < n → j < n → i ≠ j → f i ≠ f j) : ∀ s, s < n → ∃ i, i < n ∧ f i = s := by
  intro s hs
  apply Classical.byContradiction
  intro hno
  have hno : ∀ i, i < n → f i ≠ s := fun i hi e => hno ⟨i, hi, e⟩
  have hnd : ((List.range n).map f).Nodup := by
    rw [List.nodup_iff_pairwise_ne, List.pairwise_map]
    refine List.Pairwise.imp_of_mem (fun {a b} ha hb hab => ?_) (List.nodup_iff_pairwise_ne.1 List.nodup_range)
    exact hne a b (List.mem_range.1 ha) (List.mem_range.1 hb) hab
  have hnd2 : (s :: (List.range n).map f).Nodup := by
    rw [List.nodup_cons]
    refine ⟨fun h => ?_, hnd⟩
    obtain ⟨i, hi, e⟩ := List.mem_map.1 h
    exact hno i (List.mem_range.1 hi) e
  have hsub : (s :: (List.range n).map f) ⊆ List.range n := fun x hx => by
    rcases List.mem_cons.1 hx with rfl | hx
    · exact List.mem_range.2 hs
    · obtain ⟨i, hi, rfl⟩ := List.mem_map.1 hx
      exact List.mem_range.2 (hlt i (List.mem_range.1 hi))
  have := nodup_le hnd2 hsub
  simp at this
  omega

/-- a list that has each number s so often. -/
def rep (e : Nat → Nat) : Nat → List Nat
  | 0 => []
  | m + 1 => rep e m ++ List.replicate (e m) m
theorem rep_count (e : Nat → Nat) (s : Nat) : ∀ m, (rep e m).count s = if s < m then e s else 0
  | 0 => by simp [rep]
  | m + 1 => by
    show (rep e m ++ List.replicate (e m) m).count s = _
    rw [List.count_append, rep_count e s m, List.count_replicate]
    by_cases h : m = s
    · subst h; simp
    · have hb : (m == s) = false := by simpa using h
      rw [hb]
      by_cases h2 : s < m
      · rw [if_pos h2, if_pos (show s < m + 1 by omega)]; rfl
      · rw [if_neg h2, if_neg (show ¬ s < m + 1 by omega)]; rfl
theorem rep_len (e : Nat → Nat) : ∀ m, (rep e m).length = ((List.range m).map e).sum
  | 0 => rfl
  | m + 1 => by
    show (rep e m ++ List.replicate (e m) m).length = _
    rw [List.length_append, rep_len e m, List.length_replicate, List.range_succ, List.map_append, List.sum_append]
    simp
/-- so many places of a list, one after the other. -/
def chunk (D : List Nat) (k j : Nat) : List Nat := (D.drop (j * k)).take k
theorem chunk_count (D : List Nat) (k s : Nat) : ∀ m, ((List.range m).map fun j => (chunk D k j).count s).sum = (D.take (m * k)).count s
  | 0 => by simp
  | m + 1 => by
    rw [List.range_succ, List.map_append, List.sum_append, chunk_count D k s m, Nat.add_mul, Nat.one_mul, List.take_add, List.count_append]
    simp [chunk]
theorem sum_count (D : List Nat) (n : Nat) (h : ∀ x ∈ D, x < n) : ((List.range n).map fun s => D.count s).sum = D.length := by
  induction D with
  | nil =>
    have : ∀ l : List Nat, (l.map fun _ => (0 : Nat)).sum = 0 := fun l => by induction l with | nil => rfl | cons a l ih => rw [List.map_cons, List.sum_cons, ih]
    simpa using this (List.range n)
  | cons x D ih =>
    have h1 : ((List.range n).map fun s => (x :: D).count s) = (List.range n).map fun s => D.count s + if x == s then 1 else 0 := List.map_congr_left fun s _ => by rw [List.count_cons]
    rw [h1, sum_addN, ih fun y hy => h y (List.mem_cons_of_mem _ hy)]
    have h2 : ((List.range n).map fun s => if x == s then 1 else 0).sum = (List.range n).countP (fun s => x == s) * 1 := sum_if (fun s => x == s) 1 _
    have h3 : (List.range n).countP (fun s => x == s) = (List.range n).count x := by
      unfold List.count
      exact List.countP_congr fun s _ => by rw [beq_iff_eq, beq_iff_eq]; exact eq_comm
    rw [h2, h3, List.count_range, List.length_cons]
    have := h x (List.mem_cons_self ..)
    simp [this]
def has (c : Nat → Nat → Nat) (w i s : Nat) : Bool := (List.range w).any fun j => c i j == s
theorem has_iff {c : Nat → Nat → Nat} {w i s : Nat} : has c w i s = true ↔ ∃ j, j < w ∧ c i j = s := by
  unfold has
  rw [List.any_eq_true]
  constructor
  · rintro ⟨j, h1, h2⟩; exact ⟨j, List.mem_range.1 h1, by simpa using h2⟩
  · rintro ⟨j, h1, h2⟩; exact ⟨j, List.mem_range.2 h1, by simpa using h2⟩
def nOf (c : Nat → Nat → Nat) (r w s : Nat) : Nat := (List.range r).countP fun i => has c w i s
theorem row_has {c : Nat → Nat → Nat} {n w i : Nat} (hlt : ∀ j, j < w → c i j < n) (hne : ∀ j j', j < w → j' < w → j ≠ j' → c i j ≠ c i j') : (List.range n).countP (has c w i) = w := by
  have hnd : ((List.range w).map (c i)).Nodup := by
    rw [List.nodup_iff_pairwise_ne, List.pairwise_map]
    refine List.Pairwise.imp_of_mem (fun {a b} ha hb hab => ?_) (List.nodup_iff_pairwise_ne.1 List.nodup_range)
    exact hne a b (List.mem_range.1 ha) (List.mem_range.1 hb) hab
  have h1 := nodup_le hnd (m := (List.range n).filter (has c w i)) fun x hx => by
    obtain ⟨j, hj, rfl⟩ := List.mem_map.1 hx
    have hj := List.mem_range.1 hj
    exact List.mem_filter.2 ⟨List.mem_range.2 (hlt j hj), has_iff.2 ⟨j, hj, rfl⟩⟩
  have h2 := nodup_le (l := (List.range n).filter (has c w i)) (m := (List.range w).map (c i)) (List.nodup_range.sublist List.filter_sublist) fun x hx => by
    obtain ⟨j, hj, rfl⟩ := has_iff.1 (List.mem_filter.1 hx).2
    exact List.mem_map.2 ⟨j, List.mem_range.2 hj, rfl⟩
  rw [List.length_map, List.length_range] at h1 h2
  rw [List.countP_eq_length_filter]; omega
theorem sum_const (a : Nat) : ∀ l : List Nat, (l.map fun _ => a).sum = l.length * a
  | [] => by simp
  | x :: l => by rw [List.map_cons, List.sum_cons, sum_const a l, List.length_cons, Nat.add_mul]; omega
/-- one column more. -/
theorem add_column {n r w : Nat} (c : Nat → Nat → Nat) (hw : w < n) (hr : r ≤ n) (hlt : ∀ i j, i < r → j < w → c i j < n) (hrow : ∀ i, i < r → ∀ j j', j < w → j' < w → j ≠ j' → c i j ≠ c i j')
    (hP : ∀ s, s < n → r + w ≤ nOf c r w s + n) :
    ∃ g : Nat → Nat, (∀ i, i < r → g i < n ∧ ∀ j, j < w → c i j ≠ g i) ∧ (∀ i i', i < r → i' < r → i ≠ i' → g i ≠ g i') ∧ ∀ s, s < n → r + w + 1 ≤ (nOf c r w s + if (List.range r).any (fun i => g i == s) then 1 else 0) + n := by
  obtain ⟨q, rfl⟩ : ∃ q, n = r + q := ⟨n - r, by omega⟩
  obtain ⟨k, hk⟩ : ∃ k, r + q = w + k := ⟨r + q - w, by omega⟩
  have hk0 : 0 < k := by omega
  -- how often the other rows have a street
  obtain ⟨e, he⟩ : ∃ e : Nat → Nat, ∀ s, s < r + q → e s + (r + w) = nOf c r w s + (r + q) := ⟨fun s => nOf c r w s + (r + q) - (r + w), fun s hs => by have := hP s hs; dsimp only; omega⟩
  have hN : ((List.range (r + q)).map (nOf c r w)).sum = r * w := by
    have h := swap (List.range (r + q)) (fun i s => has c w i s) (List.range r)
    unfold nOf
    rw [← h]
    have h2 : ((List.range r).map fun i => (List.range (r + q)).countP (has c w i)) = (List.range r).map fun _ => w := List.map_congr_left fun i hi => row_has (fun j hj => hlt i j (List.mem_range.1 hi) hj) (hrow i (List.mem_range.1 hi))
    rw [h2, sum_const, List.length_range]
  have hD : (rep e (r + q)).length = q * k := by
    rw [rep_len]
    have h1 : ((List.range (r + q)).map fun s => e s + (r + w)).sum = ((List.range (r + q)).map fun s => nOf c r w s + (r + q)).sum := congrArg List.sum (List.map_congr_left fun s hs => he s (List.mem_range.1 hs))
    rw [sum_addN e (fun _ => r + w), sum_addN (nOf c r w) (fun _ => r + q), sum_const, sum_const, List.length_range, hN] at h1
    -- e + (r+q)(r+w) = rw + (r+q)(r+q)
    have h3 : (r + q) * (r + q) = (r + q) * w + (r + q) * k := by rw [← Nat.mul_add, ← hk]
    have h4 : (r + q) * (r + w) = (r + q) * r + (r + q) * w := Nat.mul_add ..
    have h5 : (r + q) * k = r * k + q * k := Nat.add_mul ..
    have h6 : (r + q) * r = r * w + r * k := by rw [hk, Nat.add_mul, Nat.mul_comm w r, Nat.mul_comm k r]
    have h7 : ((List.range (r + q)).map fun s => e s).sum = ((List.range (r + q)).map e).sum := rfl
    omega
  let M : Nat → Nat → Nat := fun i s => if i < r then (if has c w i s then 0 else 1) else (chunk (rep e (r + q)) k (i - r)).count s
  have hM1 : ∀ i s, i < r → M i s = if has c w i s then 0 else 1 := fun i s h => if_pos h
  have hM2 : ∀ j s, M (r + j) s = (chunk (rep e (r + q)) k j).count s := fun j s => by
    show (if r + j < r then _ else (chunk (rep e (r + q)) k (r + j - r)).count s) = _
    rw [if_neg (by omega), Nat.add_sub_cancel_left]
  have hmem : ∀ x ∈ rep e (r + q), x < r + q := fun x hx => by
    have h1 := rep_count e x (r + q)
    have h2 : 0 < (rep e (r + q)).count x := List.count_pos_iff.2 hx
    apply Classical.byContradiction
    intro hn
    rw [if_neg hn] at h1; omega
  have hH : Hall (r + q) (List.range (r + q)) (fun d s => decide (0 < M d s)) := by
    refine regularW hk0 (fun i hi => ?_) fun s hs => ?_
    · have hi := List.mem_range.1 hi
      by_cases hir : i < r
      · have h1 : ((List.range (r + q)).map (M i)) = (List.range (r + q)).map fun s => if !has c w i s then 1 else 0 := List.map_congr_left fun s _ => by
          rw [hM1 i s hir]; cases has c w i s <;> rfl
        rw [h1, sum_if, Nat.mul_one]
        have h2 := row_has (fun j hj => hlt i j hir hj) (hrow i hir)
        have h3 := List.length_eq_countP_add_countP (l := List.range (r + q)) (has c w i)
        have h4 : (List.range (r + q)).countP (fun a => decide ¬has c w i a = true) = (List.range (r + q)).countP fun s => !has c w i s := List.countP_congr fun s _ => by cases has c w i s <;> simp
        rw [List.length_range, h2, h4] at h3
        omega
      · obtain ⟨j, rfl⟩ : ∃ j, i = r + j := ⟨i - r, by omega⟩
        have hj : j < q := by omega
        have h1 : ((List.range (r + q)).map (M (r + j))) = (List.range (r + q)).map fun s => (chunk (rep e (r + q)) k j).count s := List.map_congr_left fun s _ => hM2 j s
        rw [h1, sum_count (chunk (rep e (r + q)) k j) _ fun x hx => hmem x (List.mem_of_mem_drop (List.mem_of_mem_take hx))]
        unfold chunk
        rw [List.length_take, List.length_drop, hD]
        have h2 : (j + 1) * k ≤ q * k := Nat.mul_le_mul_right k (by omega)
        rw [Nat.add_mul, Nat.one_mul] at h2
        omega
    · rw [List.range_add, List.map_append, List.sum_append, List.map_map]
      have h1 : ((List.range r).map fun i => M i s) = (List.range r).map fun i => if !has c w i s then 1 else 0 := List.map_congr_left fun i hi => by
        rw [hM1 i s (List.mem_range.1 hi)]; cases has c w i s <;> rfl
      have h2 : ((List.range q).map ((fun i => M i s) ∘ fun x => r + x)) = (List.range q).map fun j => (chunk (rep e (r + q)) k j).count s := List.map_congr_left fun j _ => hM2 j s
      rw [h1, h2, sum_if, Nat.mul_one, chunk_count]
      have h3 := List.length_eq_countP_add_countP (l := List.range r) (fun i => has c w i s)
      have h4 : (List.range r).countP (fun a => decide ¬has c w a s = true) = (List.range r).countP fun i => !has c w i s := List.countP_congr fun i _ => by cases has c w i s <;> simp
      rw [List.length_range, h4] at h3
      have h5 : ((rep e (r + q)).take (q * k)).count s ≤ (rep e (r + q)).count s := (List.take_sublist ..).count_le s
      rw [rep_count, if_pos hs] at h5
      have h6 := he s hs
      have h7 : nOf c r w s = (List.range r).countP fun i => has c w i s := rfl
      omega
  obtain ⟨f, f1, f2⟩ := some_sdr List.nodup_range hH
  have hf1 : ∀ i, i < r + q → 0 < M i (f i) ∧ f i < r + q := fun i hi => by
    have := f1 i (List.mem_range.2 hi)
    exact ⟨of_decide_eq_true this.1, this.2⟩
  have hf2 : ∀ i j, i < r + q → j < r + q → i ≠ j → f i ≠ f j := fun i j hi hj hij => f2 i (List.mem_range.2 hi) j (List.mem_range.2 hj) hij
  refine ⟨f, fun i hi => ⟨(hf1 i (by omega)).2, fun j hj h => ?_⟩, fun i i' hi hi' hne => hf2 i i' (by omega) (by omega) hne, fun s hs => ?_⟩
  · have h1 := (hf1 i (by omega)).1
    rw [hM1 i (f i) hi, if_pos (has_iff.2 ⟨j, hj, h⟩)] at h1
    omega
  · by_cases ht : nOf c r w s + (r + q) = r + w
    · obtain ⟨i, hi, hfi⟩ := onto (fun i hi => (hf1 i hi).2) hf2 s hs
      have hir : i < r := by
        apply Classical.byContradiction
        intro hn
        obtain ⟨j, rfl⟩ : ∃ j, i = r + j := ⟨i - r, by omega⟩
        have h1 := (hf1 (r + j) hi).1
        rw [hM2, hfi] at h1
        have h2 := List.count_pos_iff.1 h1
        have h3 : s ∈ rep e (r + q) := List.mem_of_mem_drop (List.mem_of_mem_take h2)
        have h4 := List.count_pos_iff.2 h3
        rw [rep_count, if_pos hs] at h4
        have := he s hs
        omega
      rw [if_pos (List.any_eq_true.2 ⟨i, List.mem_range.2 hir, by simpa using hfi⟩)]
      omega
    · have := hP s hs
      omega
/-- rows of different numbers, no two of which have the same one in the same place. -/
def Lat (n r w : Nat) (c : Nat → Nat → Nat) : Prop := (∀ i j, i < r → j < w → c i j < n) ∧ (∀ i, i < r → ∀ j j', j < w → j' < w → j ≠ j' → c i j ≠ c i j') ∧ ∀ j, j < w → ∀ i i', i < r → i' < r → i ≠ i' → c i j ≠ c i' j
def addC (c : Nat → Nat → Nat) (g : Nat → Nat) (w i j : Nat) : Nat := if j = w then g i else c i j
def addR (c : Nat → Nat → Nat) (f : Nat → Nat) (r i j : Nat) : Nat := if i = r then f j else c i j
theorem columns {n r : Nat} (hr : r ≤ n) : ∀ (m w : Nat) (c : Nat → Nat → Nat), w + m = n → Lat n r w c → (∀ s, s < n → r + w ≤ nOf c r w s + n) → ∃ c', (∀ i j, i < r → j < w → c' i j = c i j) ∧ Lat n r n c'
  | 0, w, c, hw, h, _ => by
    obtain rfl : w = n := by omega
    exact ⟨c, fun _ _ _ _ => rfl, h⟩
  | m + 1, w, c, hw, h, hP => by
    obtain ⟨h1, h2, h3⟩ := h
    obtain ⟨g, g1, g2, g3⟩ := add_column c (show w < n by omega) hr h1 h2 hP
    have hc2 : ∀ i j, j < w → addC c g w i j = c i j := fun i j hj => if_neg (by omega)
    have hcw : ∀ i, addC c g w i w = g i := fun i => if_pos rfl
    have hhas : ∀ i s, has (addC c g w) (w + 1) i s = (has c w i s || g i == s) := fun i s => by
      rw [Bool.eq_iff_iff, Bool.or_eq_true, has_iff, has_iff, beq_iff_eq]
      constructor
      · rintro ⟨j, hj, e⟩
        by_cases hjw : j = w
        · subst hjw; rw [hcw] at e; exact .inr e
        · rw [hc2 i j (by omega)] at e; exact .inl ⟨j, by omega, e⟩
      · rintro (⟨j, hj, e⟩ | e)
        · exact ⟨j, by omega, by rw [hc2 i j hj]; exact e⟩
        · exact ⟨w, by omega, by rw [hcw]; exact e⟩
    have hlat : Lat n r (w + 1) (addC c g w) := by
      refine ⟨fun i j hi hj => ?_, fun i hi j j' hj hj' hne => ?_, fun j hj i i' hi hi' hne => ?_⟩
      · by_cases hjw : j = w
        · subst hjw; rw [hcw]; exact (g1 i hi).1
        · rw [hc2 i j (by omega)]; exact h1 i j hi (by omega)
      · by_cases hjw : j = w
        · subst hjw
          rw [hcw, hc2 i j' (by omega)]
          exact fun e => (g1 i hi).2 j' (by omega) e.symm
        · rw [hc2 i j (by omega)]
          by_cases hjw' : j' = w
          · subst hjw'; rw [hcw]; exact (g1 i hi).2 j (by omega)
          · rw [hc2 i j' (by omega)]; exact h2 i hi j j' (by omega) (by omega) hne
      · by_cases hjw : j = w
        · subst hjw; rw [hcw, hcw]; exact g2 i i' hi hi' hne
        · rw [hc2 i j (by omega), hc2 i' j (by omega)]; exact h3 j (by omega) i i' hi hi' hne
    obtain ⟨c', e1, e2⟩ := columns hr m (w + 1) _ (by omega) hlat fun s hs => by
      have h4 := g3 s hs
      have h5 : nOf c r w s + (if (List.range r).any (fun i => g i == s) then 1 else 0) ≤ nOf (addC c g w) r (w + 1) s := by
        have h6 := countP_split (List.range r) (fun i => has c w i s || g i == s) fun i => has c w i s
        have h7 : (List.range r).countP (fun i => has c w i s && (has c w i s || g i == s)) = nOf c r w s := List.countP_congr fun i _ => by cases has c w i s <;> simp
        have h8 : nOf (addC c g w) r (w + 1) s = (List.range r).countP (fun i => has c w i s || g i == s) := List.countP_congr fun i _ => by rw [hhas]
        rw [h8, h6, h7]
        refine Nat.add_le_add_left ?_ _
        by_cases ha : (List.range r).any (fun i => g i == s) = true
        · rw [if_pos ha]
          obtain ⟨i, hi, hgi⟩ := List.any_eq_true.1 ha
          refine List.countP_pos_iff.2 ⟨i, hi, ?_⟩
          have hn : has c w i s = false := by
            cases hh : has c w i s
            · rfl
            · obtain ⟨j, hj, e⟩ := has_iff.1 hh
              exact absurd (e.trans (by simpa using hgi : g i = s).symm) ((g1 i (List.mem_range.1 hi)).2 j hj)
          rw [hn, hgi]; rfl
        · rw [if_neg ha]; exact Nat.zero_le _
      omega
    exact ⟨c', fun i j hi hj => by rw [e1 i j hi (by omega), hc2 i j hj], e2⟩
/-- what is free on a day. -/
def fr (c : Nat → Nat → Nat) (r d s : Nat) : Bool := !has (fun d i => c i d) r d s
theorem fr_iff {c : Nat → Nat → Nat} {r d s : Nat} : fr c r d s = true ↔ ∀ i, i < r → c i d ≠ s := by
  unfold fr
  rw [Bool.not_eq_true', ← Bool.not_eq_true, has_iff]
  exact ⟨fun h i hi e => h ⟨i, hi, e⟩, fun h ⟨i, hi, e⟩ => h i hi e⟩
theorem count_not {n : Nat} (B : Nat → Bool) : (List.range n).countP (fun s => !B s) + (List.range n).countP B = n := by
  have h3 := List.length_eq_countP_add_countP (l := List.range n) B
  have h4 : (List.range n).countP (fun a => decide ¬B a = true) = (List.range n).countP fun s => !B s := List.countP_congr fun s _ => by cases B s <;> simp
  rw [List.length_range, h4] at h3
  omega
/-- as many streets are free on each day as carts are missing, and each street is free on as many days. -/
theorem lat_free {n r : Nat} {c : Nat → Nat → Nat} (h : Lat n r n c) (hr : r ≤ n) : (∀ d, d < n → cn n (fr c r d) = n - r) ∧ ∀ s, s < n → ((List.range n).countP fun d => fr c r d s) = n - r := by
  obtain ⟨h1, h2, h3⟩ := h
  refine ⟨fun d hd => ?_, fun s hs => ?_⟩
  · have e1 := row_has (c := fun d i => c i d) (n := n) (w := r) (i := d) (fun i hi => h1 i d hi hd) (fun i i' hi hi' hne => h3 d hd i i' hi hi' hne)
    have e2 := count_not (n := n) (has (fun d i => c i d) r d)
    unfold cn
    have e3 : (List.range n).countP (fr c r d) = (List.range n).countP fun s => !has (fun d i => c i d) r d s := rfl
    omega
  · have e2 := count_not (n := n) (fun d => has (fun d i => c i d) r d s)
    have e3 : (List.range n).countP (fun d => fr c r d s) = (List.range n).countP fun d => !has (fun d i => c i d) r d s := rfl
    -- each row has the street on just one day
    have hon : ∀ i, i < r → ∃ d, d < n ∧ c i d = s := fun i hi => onto (fun d hd => h1 i d hi hd) (fun d d' hd hd' hne => h2 i hi d d' hd hd' hne) s hs
    obtain ⟨D, hD⟩ : ∃ D : Nat → Nat, ∀ i, i < r → D i < n ∧ c i (D i) = s := by
      refine ⟨fun i => if hi : i < r then Classical.choose (hon i hi) else 0, fun i hi => ?_⟩
      simp only [dif_pos hi]
      exact Classical.choose_spec (hon i hi)
    have hnd : ((List.range r).map D).Nodup := by
      rw [List.nodup_iff_pairwise_ne, List.pairwise_map]
      refine List.Pairwise.imp_of_mem (fun {a b} ha hb hab => ?_) (List.nodup_iff_pairwise_ne.1 List.nodup_range)
      have ha := List.mem_range.1 ha
      have hb := List.mem_range.1 hb
      intro e
      have e1 := (hD a ha).2
      have e2 := (hD b hb).2
      rw [e] at e1
      exact h3 (D b) (hD b hb).1 a b ha hb hab (e1.trans e2.symm)
    have l1 := nodup_le hnd (m := (List.range n).filter fun d => has (fun d i => c i d) r d s) fun x hx => by
      obtain ⟨i, hi, rfl⟩ := List.mem_map.1 hx
      have hi := List.mem_range.1 hi
      exact List.mem_filter.2 ⟨List.mem_range.2 (hD i hi).1, has_iff.2 ⟨i, hi, (hD i hi).2⟩⟩
    have l2 := nodup_le (l := (List.range n).filter fun d => has (fun d i => c i d) r d s) (m := (List.range r).map D) (List.nodup_range.sublist List.filter_sublist) fun d hd => by
      obtain ⟨hdn, hh⟩ := List.mem_filter.1 hd
      obtain ⟨i, hi, e⟩ := has_iff.1 hh
      refine List.mem_map.2 ⟨i, List.mem_range.2 hi, ?_⟩
      apply Classical.byContradiction
      intro hne
      exact h2 i hi (D i) d (hD i hi).1 (List.mem_range.1 hdn) hne ((hD i hi).2.trans e.symm)
    rw [List.length_map, List.length_range, ← List.countP_eq_length_filter] at l1 l2
    omega
/-- rows that fit: as many at least as there are orders of what is missing. -/
theorem lat_rows {n r : Nat} {c : Nat → Nat → Nat} (h : Lat n r n c) (hr : r < n) :
    ∃ Q : List (Nat → Nat), fac (n - r) ≤ Q.length ∧ (∀ f ∈ Q, Sdr n (List.range n) (fr c r) f) ∧ Q.Pairwise fun f g => ∃ d ∈ List.range n, f d ≠ g d := by
  obtain ⟨h1, h2⟩ := lat_free h (by omega)
  exact mhall n n (List.range n) (fr c r) (n - r) List.length_range List.nodup_range (regular (k := n - r) (by omega) (fun d hd => Nat.le_of_eq (h1 d (List.mem_range.1 hd)).symm) fun s hs => Nat.le_of_eq (h2 s hs)) (by omega) fun d hd => Nat.le_of_eq (h1 d (List.mem_range.1 hd)).symm
/-- one row more. -/
theorem add_row {n r : Nat} {c : Nat → Nat → Nat} (h : Lat n r n c) (hr : r < n) : ∃ f : Nat → Nat, Lat n (r + 1) n (addR c f r) := by
  obtain ⟨Q, q1, q2, _⟩ := lat_rows h hr
  obtain ⟨h1, h2, h3⟩ := h
  cases Q with
  | nil => exact absurd q1 (by have := fac_pos (n - r); simp; omega)
  | cons f Q =>
    obtain ⟨f1, f2⟩ := q2 f (List.mem_cons_self ..)
    unfold addR
    refine ⟨f, fun i j hi hj => ?_, fun i hi j j' hj hj' hne => ?_, fun j hj i i' hi hi' hne => ?_⟩
    · by_cases e : i = r
      · simp only [if_pos e]; exact (f1 j (List.mem_range.2 hj)).2
      · simp only [if_neg e]; exact h1 i j (by omega) hj
    · by_cases e : i = r
      · simp only [if_pos e]; exact f2 j (List.mem_range.2 hj) j' (List.mem_range.2 hj') hne
      · simp only [if_neg e]; exact h2 i (by omega) j j' hj hj' hne
    · have hf := fr_iff.1 (f1 j (List.mem_range.2 hj)).1
      by_cases e : i = r
      · have e' : ¬ i' = r := fun h => hne (e.trans h.symm)
        simp only [if_pos e, if_neg e']
        exact fun he => hf i' (by omega) he.symm
      · by_cases e' : i' = r
        · simp only [if_neg e, if_pos e']; exact hf i (by omega)
        · simp only [if_neg e, if_neg e']; exact h3 j hj i i' (by omega) (by omega) hne
theorem rows {n : Nat} : ∀ (m r : Nat) (c : Nat → Nat → Nat), r + m = n → Lat n r n c → ∃ c', (∀ i j, i < r → c' i j = c i j) ∧ Lat n n n c'
  | 0, r, c, hr, h => by
    obtain rfl : r = n := by omega
    exact ⟨c, fun _ _ _ => rfl, h⟩
  | m + 1, r, c, hr, h => by
    obtain ⟨f, hf⟩ := add_row h (by omega)
    obtain ⟨c', e1, e2⟩ := rows m (r + 1) _ (by omega) hf
    exact ⟨c', fun i j hi => by rw [e1 i j (by omega)]; exact if_neg (by omega), e2⟩
/-- Ryser's theorem: a corner that no street bars can be completed. -/
theorem ryser {n r w : Nat} {c : Nat → Nat → Nat} (hr : r ≤ n) (hw : w ≤ n) (h : Lat n r w c) (hP : ∀ s, s < n → r + w ≤ nOf c r w s + n) : ∃ c', (∀ i j, i < r → j < w → c' i j = c i j) ∧ Lat n n n c' := by
  obtain ⟨c1, e1, l1⟩ := columns hr (n - w) w c (by omega) h hP
  obtain ⟨c2, e2, l2⟩ := rows (n - r) r c1 (by omega) l1
  exact ⟨c2, fun i j hi hj => by rw [e2 i j hi, e1 i j hi hj], l2⟩
/-- .. and only such a corner. -/
theorem ryser_only {n r w : Nat} {c c' : Nat → Nat → Nat} (hr : r ≤ n) (hw : w ≤ n) (he : ∀ i j, i < r → j < w → c' i j = c i j) (h : Lat n n n c') : ∀ s, s < n → r + w ≤ nOf c r w s + n := fun s hs => by
  obtain ⟨h1, h2, h3⟩ := h
  -- the days on which the first rows have the street are r, at most n - w of them behind the first w
  have hon : ∀ i, i < r → ∃ d, d < n ∧ c' i d = s := fun i hi => onto (fun d hd => h1 i d (by omega) hd) (fun d d' hd hd' hne => h2 i (by omega) d d' hd hd' hne) s hs
  obtain ⟨D, hD⟩ : ∃ D : Nat → Nat, ∀ i, i < r → D i < n ∧ c' i (D i) = s := by
    refine ⟨fun i => if hi : i < r then Classical.choose (hon i hi) else 0, fun i hi => ?_⟩
    simp only [dif_pos hi]
    exact Classical.choose_spec (hon i hi)
  have hnot : ∀ i, i < r → has c w i s = false → w ≤ D i := fun i hi hh => by
    apply Classical.byContradiction
    intro hn
    have : has c w i s = true := has_iff.2 ⟨D i, by omega, by rw [← he i (D i) hi (by omega)]; exact (hD i hi).2⟩
    rw [hh] at this; cases this
  have hnd : (((List.range r).filter fun i => !has c w i s).map D).Nodup := by
    rw [List.nodup_iff_pairwise_ne, List.pairwise_map]
    refine List.Pairwise.imp_of_mem (fun {a b} ha hb hab => ?_) (List.nodup_iff_pairwise_ne.1 (List.nodup_range.sublist List.filter_sublist))
    have ha := List.mem_range.1 (List.mem_filter.1 ha).1
    have hb := List.mem_range.1 (List.mem_filter.1 hb).1
    intro e
    have e1 := (hD a ha).2
    have e2 := (hD b hb).2
    rw [e] at e1
    exact h3 (D b) (hD b hb).1 a b (by omega) (by omega) hab (e1.trans e2.symm)
  have l1 := nodup_le hnd (m := List.range' w (n - w)) fun x hx => by
    obtain ⟨i, hi, rfl⟩ := List.mem_map.1 hx
    obtain ⟨hi1, hi2⟩ := List.mem_filter.1 hi
    have hi1 := List.mem_range.1 hi1
    have h4 := hnot i hi1 (by simpa using hi2)
    have h5 := (hD i hi1).1
    exact List.mem_range'_1.2 (by omega)
  rw [List.length_map, List.length_range', ← List.countP_eq_length_filter] at l1
  have e2 := count_not (n := r) (fun i => has c w i s)
  have e3 : nOf c r w s = (List.range r).countP fun i => has c w i s := rfl
  omega
end Mh
end Go.Proofs.Ytpgifeaejjjjnaa
