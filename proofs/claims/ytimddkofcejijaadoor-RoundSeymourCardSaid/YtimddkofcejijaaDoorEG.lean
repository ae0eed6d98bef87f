/- Layer 2: the greedy proof is the reference's packing. -/
import Derived.Test.YtimddkofcejijaaDoorRX
namespace Go.Proofs.YtimddkofcejijaaDoor
open Go.RowKit Go.Sort
theorem within_iff {e f : Nat} : e &&& f = e ↔ ∀ i, e.testBit i = true → f.testBit i = true := by
  constructor
  · intro h i hi
    rw [← h, Nat.testBit_and, Bool.and_eq_true] at hi
    exact hi.2
  · intro h
    refine Nat.eq_of_testBit_eq fun i => ?_
    rw [Nat.testBit_and]
    cases he : e.testBit i
    · rfl
    · rw [h i he]; rfl
theorem disj_iff {e d : Nat} : e &&& d = 0 ↔ ∀ i, ¬ (e.testBit i = true ∧ d.testBit i = true) := by
  constructor
  · intro h i hi
    have : (e &&& d).testBit i = true := by rw [Nat.testBit_and, hi.1, hi.2]; rfl
    rw [h, Nat.zero_testBit] at this; cases this
  · intro h
    refine Nat.eq_of_testBit_eq fun i => ?_
    rw [Nat.testBit_and, Nat.zero_testBit]
    cases he : e.testBit i
    · rfl
    · cases hd : d.testBit i
      · rfl
      · exact absurd ⟨he, hd⟩ (h i)
theorem within_dif {e f d : Nat} : e &&& dif f d = e ↔ e &&& f = e ∧ e &&& d = 0 := by
  rw [within_iff, within_iff, disj_iff]
  constructor
  · intro h
    refine ⟨fun i hi => ?_, fun i hi => ?_⟩
    · have := h i hi; rw [dif_bit, Bool.and_eq_true] at this; exact this.1
    · have := h i hi.1; rw [dif_bit, Bool.and_eq_true] at this; simp [hi.2] at this
  · rintro ⟨h1, h2⟩ i hi
    rw [dif_bit, h1 i hi, Bool.true_and]
    cases hd : d.testBit i
    · rfl
    · exact absurd ⟨hi, hd⟩ (h2 i)
theorem dif_comm (f c d : Nat) : dif (dif f c) d = dif (dif f d) c := Nat.eq_of_testBit_eq fun i => by
  rw [dif_bit, dif_bit, dif_bit, dif_bit]
  cases f.testBit i <;> cases c.testBit i <;> cases d.testBit i <;> rfl
theorem and_swap {a b : Nat} (h : a &&& b = 0) : b &&& a = 0 := by rw [Nat.and_comm]; exact h
/-- as many sets as possible out of a list, no two of which meet: with the first one, and without it. -/
def packF : Nat → List Nat → List Nat
  | 0, _ => []
  | _ + 1, [] => []
  | n + 1, c :: t => if 1 + (packF n (t.filter fun d => c &&& d == 0)).length < (packF n t).length then packF n t else c :: packF n (t.filter fun d => c &&& d == 0)
theorem packF_mem : ∀ (n : Nat) (l : List Nat), (∀ x ∈ packF n l, x ∈ l) ∧ (packF n l).Pairwise fun a b => a &&& b = 0
  | 0, _ => ⟨fun x hx => (by cases hx), List.Pairwise.nil⟩
  | _ + 1, [] => ⟨fun x hx => (by cases hx), List.Pairwise.nil⟩
  | n + 1, c :: t => by
    obtain ⟨h1, h2⟩ := packF_mem n t
    obtain ⟨h3, h4⟩ := packF_mem n (t.filter fun d => c &&& d == 0)
    unfold packF
    split
    · exact ⟨fun x hx => List.mem_cons_of_mem _ (h1 x hx), h2⟩
    · refine ⟨fun x hx => ?_, List.pairwise_cons.2 ⟨fun d hd => ?_, h4⟩⟩
      · rcases List.mem_cons.1 hx with rfl | hx
        · exact List.mem_cons_self ..
        · exact List.mem_cons_of_mem _ (List.mem_filter.1 (h3 x hx)).1
      · simpa using (List.mem_filter.1 (h3 d hd)).2
theorem packF_max : ∀ (n : Nat) (l D : List Nat), l.length ≤ n → (∀ d ∈ D, d ≠ 0) → D.Pairwise (fun a b => a &&& b = 0) → (∀ d ∈ D, d ∈ l) → D.length ≤ (packF n l).length
  | 0, l, D, hl, _, _, hm => by
    have : l = [] := List.length_eq_zero_iff.1 (by omega)
    subst this
    cases D with
    | nil => simp
    | cons d D => have := hm d (List.mem_cons_self ..); cases this
  | n + 1, [], D, _, _, _, hm => by
    cases D with
    | nil => simp
    | cons d D => have := hm d (List.mem_cons_self ..); cases this
  | n + 1, c :: t, D, hl, h0, hp, hm => by
    rw [List.length_cons] at hl
    unfold packF
    have hmax : D.length ≤ max (1 + (packF n (t.filter fun d => c &&& d == 0)).length) (packF n t).length := by
      by_cases hc : c ∈ D
      · have hperm := List.perm_cons_erase hc
        have hp2 : (c :: D.erase c).Pairwise fun a b => a &&& b = 0 := (hperm.pairwise_iff (fun h => and_swap h)).1 hp
        rw [List.pairwise_cons] at hp2
        have hne : ∀ d ∈ D.erase c, d ≠ c := fun d hd e => by
          subst e
          have := hp2.1 d hd
          rw [Nat.and_self] at this
          exact h0 d hc this
        have := packF_max n (t.filter fun d => c &&& d == 0) (D.erase c) (Nat.le_trans (List.length_filter_le _ _) (by omega)) (fun d hd => h0 d (List.mem_of_mem_erase hd)) hp2.2 (fun d hd => by
          have hd2 := List.mem_of_mem_erase hd
          rcases List.mem_cons.1 (hm d hd2) with e | h
          · exact absurd e (hne d hd)
          · exact List.mem_filter.2 ⟨h, by simpa using hp2.1 d hd⟩)
        have hlen := List.length_erase_of_mem hc
        have hpos : 0 < D.length := List.length_pos_of_mem hc
        omega
      · have := packF_max n t D (by omega) h0 hp (fun d hd => by
          rcases List.mem_cons.1 (hm d hd) with e | h
          · exact absurd (e ▸ hd) hc
          · exact h)
        omega
    split
    · omega
    · rw [List.length_cons]; omega
theorem packF_fuel : ∀ (n m : Nat) (l : List Nat), l.length ≤ n → l.length ≤ m → packF n l = packF m l
  | 0, 0, _, _, _ => rfl
  | 0, m + 1, l, h, _ => by
    have : l = [] := List.length_eq_zero_iff.1 (by omega)
    subst this; rfl
  | n + 1, 0, l, _, h => by
    have : l = [] := List.length_eq_zero_iff.1 (by omega)
    subst this; rfl
  | n + 1, m + 1, [], _, _ => rfl
  | n + 1, m + 1, c :: t, hn, hm => by
    rw [List.length_cons] at hn hm
    unfold packF
    rw [packF_fuel n m t (by omega) (by omega), packF_fuel n m (t.filter fun d => c &&& d == 0) (Nat.le_trans (List.length_filter_le _ _) (by omega)) (Nat.le_trans (List.length_filter_le _ _) (by omega))]
def packS (l : List Nat) : List Nat := packF l.length l
theorem packS_cons (c : Nat) (t : List Nat) : packS (c :: t) = if 1 + (packS (t.filter fun d => c &&& d == 0)).length < (packS t).length then packS t else c :: packS (t.filter fun d => c &&& d == 0) := by
  have e : packF t.length (t.filter fun d => c &&& d == 0) = packS (t.filter fun d => c &&& d == 0) := packF_fuel _ _ _ (List.length_filter_le _ _) (Nat.le_refl _)
  show (if 1 + (packF t.length (t.filter fun d => c &&& d == 0)).length < (packF t.length t).length then packF t.length t else c :: packF t.length (t.filter fun d => c &&& d == 0)) = _
  rw [e]; rfl
theorem step_max (g : Nat → Nat) (q : Nat → Bool) : ∀ (l : List Nat) (m : Nat), (m ≤ l.foldl (fun m c => if q c then max m (g c) else m) m) ∧ (∀ c ∈ l, q c = true → g c ≤ l.foldl (fun m c => if q c then max m (g c) else m) m) ∧ (l.foldl (fun m c => if q c then max m (g c) else m) m = m ∨ ∃ c ∈ l, q c = true ∧ l.foldl (fun m c => if q c then max m (g c) else m) m = g c)
  | [], m => ⟨Nat.le_refl _, fun c hc => (by cases hc), Or.inl rfl⟩
  | c :: l, m => by
    obtain ⟨h1, h2, h3⟩ := step_max g q l (if q c then max m (g c) else m)
    rw [List.foldl_cons]
    refine ⟨?_, fun d hd hq => ?_, ?_⟩
    · refine Nat.le_trans ?_ h1
      split <;> omega
    · rcases List.mem_cons.1 hd with rfl | hd
      · refine Nat.le_trans ?_ h1
        rw [if_pos hq]; omega
      · exact h2 d hd hq
    · rcases h3 with h3 | ⟨d, hd, hq, h3⟩
      · rw [h3]
        by_cases hq : q c = true
        · rw [if_pos hq]
          rcases Nat.le_total m (g c) with h | h
          · exact Or.inr ⟨c, List.mem_cons_self .., hq, by omega⟩
          · exact Or.inl (by omega)
        · rw [if_neg hq]; exact Or.inl rfl
      · exact Or.inr ⟨d, List.mem_cons_of_mem _ hd, hq, h3⟩
section
variable {C : List Nat} (hC : ∀ c ∈ C, c ≠ 0 ∧ c < 65536)
include hC
theorem most_fold (f : Nat) : mostM C f = C.foldl (fun m c => if decide (c &&& f = c) then max m (1 + mostM C (dif f c)) else m) 0 := by
  rw [mostM_eq C hC f]
  refine congrArg (fun s => C.foldl s 0) ?_
  funext m c
  unfold mostStep
  by_cases h : c &&& f = c
  · rw [if_pos h, if_pos (by simpa using h)]
  · rw [if_neg h, if_neg (by simpa using h)]
theorem most_ge {f c : Nat} (hc : c ∈ C) (hw : c &&& f = c) : 1 + mostM C (dif f c) ≤ mostM C f := by
  rw [most_fold hC f]
  exact (step_max (fun c => 1 + mostM C (dif f c)) (fun c => decide (c &&& f = c)) C 0).2.1 c hc (decide_eq_true hw)
theorem most_some {f : Nat} (h : 0 < mostM C f) : ∃ c ∈ C, c &&& f = c ∧ mostM C f = 1 + mostM C (dif f c) := by
  have h1 := (step_max (fun c => 1 + mostM C (dif f c)) (fun c => decide (c &&& f = c)) C 0).2.2
  rw [← most_fold hC f] at h1
  rcases h1 with h1 | ⟨c, hc, hq, h1⟩
  · omega
  · exact ⟨c, hc, by simpa using hq, h1⟩
theorem most_disj : ∀ (D : List Nat) (f : Nat), D.Pairwise (fun a b => a &&& b = 0) → (∀ d ∈ D, d ∈ C ∧ d &&& f = d) → D.length ≤ mostM C f
  | [], _, _, _ => Nat.zero_le _
  | d :: D, f, hp, hm => by
    rw [List.pairwise_cons] at hp
    have hd := hm d (List.mem_cons_self ..)
    have h1 := most_disj D (dif f d) hp.2 (fun e he => ⟨(hm e (List.mem_cons_of_mem _ he)).1, within_dif.2 ⟨(hm e (List.mem_cons_of_mem _ he)).2, and_swap (hp.1 e he)⟩⟩)
    have h2 := most_ge hC hd.1 hd.2
    rw [List.length_cons]; omega
theorem most_swap {f c d : Nat} (hc : c ∈ C) (hcw : c &&& f = c) (hce : mostM C f = 1 + mostM C (dif f c)) (hd : d ∈ C) (hdw : d &&& dif f c = d) (hde : 1 + mostM C (dif (dif f c) d) = mostM C (dif f c)) : d &&& f = d ∧ 1 + mostM C (dif f d) = mostM C f := by
  obtain ⟨h1, h2⟩ := within_dif.1 hdw
  have h3 := most_ge hC (f := dif f d) hc (within_dif.2 ⟨hcw, and_swap h2⟩)
  rw [dif_comm f d c] at h3
  have h4 := most_ge hC hd h1
  exact ⟨h1, by omega⟩
/-- each set that can be the first of as many as possible stands in the list. -/
def InL (C l : List Nat) (f : Nat) : Prop := ∀ d ∈ C, d &&& f = d → 1 + mostM C (dif f d) = mostM C f → d ∈ l
theorem most_pack {l : List Nat} (hl : ∀ x ∈ l, x ∈ C) : ∀ (n f : Nat), mostM C f ≤ n → InL C l f → mostM C f = (packS (l.filter fun d => decide (d &&& f = d))).length := by
  intro n
  induction n with
  | zero =>
    intro f hn _
    obtain ⟨h1, h2⟩ := packF_mem (l.filter fun d => decide (d &&& f = d)).length (l.filter fun d => decide (d &&& f = d))
    have := most_disj hC _ f h2 (fun d hd => by
      have := List.mem_filter.1 (h1 d hd)
      exact ⟨hl d this.1, by simpa using this.2⟩)
    unfold packS
    omega
  | succ n ih =>
    intro f hn hI
    refine Nat.le_antisymm ?_ ?_
    · rcases Nat.eq_zero_or_pos (mostM C f) with h0 | h0
      · omega
      · obtain ⟨c, hc, hcw, hce⟩ := most_some hC h0
        have hcl := hI c hc hcw hce.symm
        have hI2 : InL C l (dif f c) := fun d hd hdw hde => by
          obtain ⟨h1, h2⟩ := most_swap hC hc hcw hce hd hdw hde
          exact hI d hd h1 h2
        have h1 := ih (dif f c) (by omega) hI2
        obtain ⟨m1, m2⟩ := packF_mem (l.filter fun d => decide (d &&& dif f c = d)).length (l.filter fun d => decide (d &&& dif f c = d))
        have hin : ∀ d ∈ packS (l.filter fun d => decide (d &&& dif f c = d)), d ∈ l ∧ d &&& f = d ∧ d &&& c = 0 := fun d hd => by
          have := List.mem_filter.1 (m1 d hd)
          have h2 := within_dif.1 (by simpa using this.2 : d &&& dif f c = d)
          exact ⟨this.1, h2.1, h2.2⟩
        have := packF_max _ (l.filter fun d => decide (d &&& f = d)) (c :: packS (l.filter fun d => decide (d &&& dif f c = d))) (Nat.le_refl _) (fun d hd => by
          rcases List.mem_cons.1 hd with rfl | hd
          · exact (hC d hc).1
          · exact (hC d (hl d (hin d hd).1)).1) (List.pairwise_cons.2 ⟨fun d hd => and_swap (hin d hd).2.2, m2⟩) (fun d hd => by
          rcases List.mem_cons.1 hd with rfl | hd
          · exact List.mem_filter.2 ⟨hcl, by simpa using hcw⟩
          · exact List.mem_filter.2 ⟨(hin d hd).1, by simpa using (hin d hd).2.1⟩)
        rw [List.length_cons] at this
        unfold packS at this h1 ⊢
        omega
    · obtain ⟨h1, h2⟩ := packF_mem (l.filter fun d => decide (d &&& f = d)).length (l.filter fun d => decide (d &&& f = d))
      exact most_disj hC _ f h2 (fun d hd => by
        have := List.mem_filter.1 (h1 d hd)
        exact ⟨hl d this.1, by simpa using this.2⟩)
theorem pack_le {l : List Nat} (hl : ∀ x ∈ l, x ∈ C) (f : Nat) : (packS (l.filter fun d => decide (d &&& f = d))).length ≤ mostM C f := by
  obtain ⟨h1, h2⟩ := packF_mem (l.filter fun d => decide (d &&& f = d)).length (l.filter fun d => decide (d &&& f = d))
  exact most_disj hC _ f h2 (fun d hd => by
    have := List.mem_filter.1 (h1 d hd)
    exact ⟨hl d this.1, by simpa using this.2⟩)
/-- the greedy choice is the reference's. -/
theorem prov_pack : ∀ (l : List Nat) (f : Nat), (∀ x ∈ l, x ∈ C) → InL C l f → provG C l f = (packS (l.filter fun d => decide (d &&& f = d))).map listM
  | [], _, _, _ => rfl
  | c :: l, f, hl, hI => by
    have hcC := hl c (List.mem_cons_self ..)
    have hlC : ∀ x ∈ l, x ∈ C := fun x hx => hl x (List.mem_cons_of_mem _ hx)
    unfold provG
    by_cases hw : c &&& f = c
    · have hfil : (c :: l).filter (fun d => decide (d &&& f = d)) = c :: l.filter fun d => decide (d &&& f = d) := by rw [List.filter_cons, if_pos (by simpa using hw)]
      have hrest : (l.filter fun d => decide (d &&& f = d)).filter (fun d => c &&& d == 0) = l.filter fun d => decide (d &&& dif f c = d) := by
        rw [List.filter_filter]
        refine List.filter_congr fun d _ => ?_
        rw [Bool.eq_iff_iff, Bool.and_eq_true, beq_iff_eq, decide_eq_true_eq, decide_eq_true_eq, within_dif]
        constructor
        · rintro ⟨a, b⟩; exact ⟨b, and_swap a⟩
        · rintro ⟨a, b⟩; exact ⟨and_swap b, a⟩
      have hM := most_pack hC hl _ f (Nat.le_refl _) hI
      rw [hfil, packS_cons, hrest] at hM
      rw [hfil, packS_cons, hrest]
      have hle := pack_le hC hlC f
      by_cases he : 1 + mostM C (dif f c) = mostM C f
      · rw [if_pos ⟨hw, he⟩]
        have hI2 : InL C l (dif f c) := fun d hd hdw hde => by
          obtain ⟨h1, h2⟩ := most_swap hC hcC hw he.symm hd hdw hde
          rcases List.mem_cons.1 (hI d hd h1 h2) with e | h
          · exfalso
            rw [e] at hdw
            have := (within_dif.1 hdw).2
            rw [Nat.and_self] at this
            exact (hC c hcC).1 this
          · exact h
        have hM2 := most_pack hC hlC _ (dif f c) (Nat.le_refl _) hI2
        rw [if_neg (by omega), List.map_cons, prov_pack l (dif f c) hlC hI2]
      · rw [if_neg (fun h => he h.2)]
        have hI2 : InL C l f := fun d hd hdw hde => by
          rcases List.mem_cons.1 (hI d hd hdw hde) with e | h
          · exfalso; rw [e] at hde; exact he hde
          · exact h
        have hM2 := most_pack hC hlC _ f (Nat.le_refl _) hI2
        have h1 := pack_le hC hlC (dif f c)
        have h2 := most_ge hC hcC hw
        rw [if_pos (by omega), prov_pack l f hlC hI2]
    · rw [if_neg (fun h => hw h.1)]
      have hfil : (c :: l).filter (fun d => decide (d &&& f = d)) = l.filter fun d => decide (d &&& f = d) := by rw [List.filter_cons, if_neg (by simpa using hw)]
      rw [hfil]
      refine prov_pack l f hlC fun d hd hdw hde => ?_
      rcases List.mem_cons.1 (hI d hd hdw hde) with e | h
      · rw [e] at hdw; exact absurd hdw hw
      · exact h
end
end Go.Proofs.YtimddkofcejijaaDoor
