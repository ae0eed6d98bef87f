/- Layer 2: whether all corners are reached, told by a closed list. -/
import Derived.Test.YtimddkofcejijaaRJ
namespace Go.Proofs.Ytimddkofcejijaa
open Go.RowKit Go.Sort
/-- a set of corners that no street leaves. -/
def ClosedP (ss : List (Int × Int)) (T : Int → Prop) : Prop := ∀ p ∈ ss, (T p.1 ↔ T p.2)
def cntB (f : Nat) : Nat → Nat
  | 0 => 0
  | n + 1 => cntB f n + if f.testBit n then 1 else 0
theorem cntB_le (f : Nat) : ∀ n, cntB f n ≤ n
  | 0 => Nat.le_refl _
  | n + 1 => by unfold cntB; have := cntB_le f n; split <;> omega
theorem cntB_mono {f g : Nat} (h : ∀ j, f.testBit j = true → g.testBit j = true) : ∀ n, cntB f n ≤ cntB g n
  | 0 => Nat.le_refl _
  | n + 1 => by
    unfold cntB
    have := cntB_mono h n
    have hn := h n
    cases hf : f.testBit n
    · simp; omega
    · rw [hn hf]; simp; omega
theorem cntB_lt {f g : Nat} (h : ∀ j, f.testBit j = true → g.testBit j = true) {k : Nat} (hf : f.testBit k = false) (hg : g.testBit k = true) : ∀ n, k < n → cntB f n < cntB g n
  | 0, hk => by omega
  | n + 1, hk => by
    unfold cntB
    rcases Nat.lt_or_ge k n with h1 | h1
    · have := cntB_lt h hf hg n h1
      have hn := h n
      cases hf : f.testBit n
      · simp; omega
      · rw [hn hf]; simp; omega
    · obtain rfl : k = n := by omega
      have := cntB_mono h k
      rw [hf, hg]; simp; omega
def sweepA : List (Int × Int) → Nat → Nat
  | [], f => f
  | p :: l, f => sweepA l (if endsM p &&& f != 0 then f ||| endsM p else f)
theorem sweep_all {L : Nat} : ∀ (l : List (Int × Int)) (i f : Nat), i + l.length ≤ L → sweepL (2 ^ L - 1) i l f = sweepA l f
  | [], _, _, _ => rfl
  | p :: l, i, f, h => by
    unfold sweepL sweepA
    rw [List.length_cons] at h
    rw [Nat.testBit_two_pow_sub_one, decide_eq_true (by omega), Bool.true_and]
    exact sweep_all l (i + 1) _ (by omega)
theorem ends_bitR (p : Int × Int) (j : Nat) : (endsM p).testBit j = (decide (p.1.toNat = j) || decide (p.2.toNat = j)) := by
  unfold endsM
  rw [Nat.testBit_or, Nat.testBit_two_pow, Nat.testBit_two_pow]
theorem sweepA_sub : ∀ (l : List (Int × Int)) (f j : Nat), f.testBit j = true → (sweepA l f).testBit j = true
  | [], _, _, h => h
  | p :: l, f, j, h => by
    unfold sweepA
    refine sweepA_sub l _ j ?_
    split
    · rw [Nat.testBit_or, h]; rfl
    · exact h
theorem meets {e f : Nat} : (e &&& f != 0) = true ↔ ∃ j, e.testBit j = true ∧ f.testBit j = true := by
  constructor
  · intro h
    rw [bne_iff_ne] at h
    obtain ⟨j, hj⟩ := Nat.exists_testBit_of_ne_zero h
    rw [Nat.testBit_and, Bool.and_eq_true] at hj
    exact ⟨j, hj⟩
  · rintro ⟨j, h1, h2⟩
    rw [bne_iff_ne]
    intro h
    have : (e &&& f).testBit j = true := by rw [Nat.testBit_and, h1, h2]; rfl
    rw [h, Nat.zero_testBit] at this
    cases this
theorem sweepA_in {T : Int → Prop} : ∀ (l : List (Int × Int)) (f : Nat), (∀ p ∈ l, 0 ≤ p.1 ∧ 0 ≤ p.2) → ClosedP l T → (∀ j : Nat, f.testBit j = true → T j) → ∀ j : Nat, (sweepA l f).testBit j = true → T j
  | [], _, _, _, h => h
  | p :: l, f, hp, hT, h => by
    unfold sweepA
    refine sweepA_in l _ (fun q hq => hp q (List.mem_cons_of_mem _ hq)) (fun q hq => hT q (List.mem_cons_of_mem _ hq)) ?_
    have h0 := hp p (List.mem_cons_self ..)
    have hT0 := hT p (List.mem_cons_self ..)
    split
    · rename_i hm
      obtain ⟨k, h1, h2⟩ := meets.1 hm
      have hk := h k h2
      rw [ends_bitR, Bool.or_eq_true, decide_eq_true_eq, decide_eq_true_eq] at h1
      have hB : T p.1 ∧ T p.2 := by
        rcases h1 with h1 | h1
        · have e : p.1 = (k : Int) := by omega
          rw [← e] at hk
          exact ⟨hk, hT0.1 hk⟩
        · have e : p.2 = (k : Int) := by omega
          rw [← e] at hk
          exact ⟨hT0.2 hk, hk⟩
      intro j hj
      rw [Nat.testBit_or, Bool.or_eq_true, ends_bitR, Bool.or_eq_true, decide_eq_true_eq, decide_eq_true_eq] at hj
      rcases hj with hj | hj | hj
      · exact h j hj
      · have e : (j : Int) = p.1 := by omega
        rw [e]; exact hB.1
      · have e : (j : Int) = p.2 := by omega
        rw [e]; exact hB.2
    · exact h
theorem sub_antisymm {f g : Nat} (h1 : ∀ j, f.testBit j = true → g.testBit j = true) (h2 : ∀ j, g.testBit j = true → f.testBit j = true) : f = g := Nat.eq_of_testBit_eq fun j => by
  cases hf : f.testBit j
  · cases hg : g.testBit j
    · rfl
    · rw [h2 j hg] at hf; cases hf
  · rw [h1 j hf]
theorem sweepA_fix : ∀ (l : List (Int × Int)) (f : Nat), sweepA l f = f → ∀ p ∈ l, (f.testBit p.1.toNat = true ↔ f.testBit p.2.toNat = true)
  | [], _, _, p, hp => by cases hp
  | q :: l, f, h, p, hp => by
    unfold sweepA at h
    have hs : (if endsM q &&& f != 0 then f ||| endsM q else f) = f := by
      refine sub_antisymm (fun j hj => ?_) fun j hj => ?_
      · have := sweepA_sub l _ j hj
        rw [h] at this; exact this
      · split
        · rw [Nat.testBit_or, hj]; rfl
        · exact hj
    rcases List.mem_cons.1 hp with rfl | hp
    · by_cases hm : (endsM p &&& f != 0) = true
      · rw [if_pos hm] at hs
        have h1 : f.testBit p.1.toNat = true := by rw [← hs, Nat.testBit_or, ends_bitR]; simp
        have h2 : f.testBit p.2.toNat = true := by rw [← hs, Nat.testBit_or, ends_bitR]; simp
        rw [h1, h2]
      · have h1 : ¬ f.testBit p.1.toNat = true := fun hj => hm (meets.2 ⟨_, by rw [ends_bitR]; simp, hj⟩)
        have h2 : ¬ f.testBit p.2.toNat = true := fun hj => hm (meets.2 ⟨_, by rw [ends_bitR]; simp, hj⟩)
        exact ⟨fun h => absurd h h1, fun h => absurd h h2⟩
    · rw [hs] at h
      exact sweepA_fix l f h p hp
def iterA (ss : List (Int × Int)) : Nat → Nat → Nat
  | 0, f => f
  | n + 1, f => iterA ss n (sweepA ss f)
theorem reach_iter (ss : List (Int × Int)) : ∀ n f, reachM ss (2 ^ ss.length - 1) n f = iterA ss n f
  | 0, _ => rfl
  | n + 1, f => by
    unfold reachM iterA
    rw [sweep_all ss 0 f (by omega)]
    exact reach_iter ss n _
theorem iterA_sub (ss : List (Int × Int)) : ∀ n f j, f.testBit j = true → (iterA ss n f).testBit j = true
  | 0, _, _, h => h
  | n + 1, f, j, h => iterA_sub ss n _ j (sweepA_sub ss f j h)
theorem iterA_in {ss : List (Int × Int)} {T : Int → Prop} (hp : ∀ p ∈ ss, 0 ≤ p.1 ∧ 0 ≤ p.2) (hT : ClosedP ss T) : ∀ n f, (∀ j : Nat, f.testBit j = true → T j) → ∀ j : Nat, (iterA ss n f).testBit j = true → T j
  | 0, _, h => h
  | n + 1, f, h => iterA_in hp hT n _ (sweepA_in ss f hp hT h)
theorem iterA_fix {ss : List (Int × Int)} : ∀ n f, sweepA ss f = f → iterA ss n f = f
  | 0, _, _ => rfl
  | n + 1, f, h => by unfold iterA; rw [h]; exact iterA_fix n f h
theorem sweepA_lt {ss : List (Int × Int)} {n : Nat} (h : ∀ p ∈ ss, endsM p < 2 ^ n) : ∀ f, f < 2 ^ n → sweepA ss f < 2 ^ n := by
  induction ss with
  | nil => exact fun _ h => h
  | cons p l ih =>
    intro f hf
    unfold sweepA
    refine ih (fun q hq => h q (List.mem_cons_of_mem _ hq)) _ ?_
    split
    · exact Nat.or_lt_two_pow hf (h p (List.mem_cons_self ..))
    · exact hf
theorem iterA_lt {ss : List (Int × Int)} {n : Nat} (h : ∀ p ∈ ss, endsM p < 2 ^ n) : ∀ m f, f < 2 ^ n → iterA ss m f < 2 ^ n
  | 0, _, hf => hf
  | m + 1, f, hf => iterA_lt h m _ (sweepA_lt h f hf)
theorem iterA_grow {ss : List (Int × Int)} {n : Nat} (h : ∀ p ∈ ss, endsM p < 2 ^ n) : ∀ m f, f < 2 ^ n → sweepA ss (iterA ss m f) = iterA ss m f ∨ cntB f n + m < cntB (sweepA ss (iterA ss m f)) n
  | 0, f, hf => by
    by_cases he : sweepA ss f = f
    · exact Or.inl he
    refine Or.inr ?_
    show cntB f n + 0 < cntB (sweepA ss f) n
    have hex : ∃ j, (sweepA ss f).testBit j = true ∧ f.testBit j = false := by
      refine Classical.byContradiction fun hc => he (sub_antisymm (fun j hj => ?_) fun j hj => sweepA_sub ss f j hj)
      cases hf : f.testBit j
      · exact absurd ⟨j, hj, hf⟩ hc
      · rfl
    obtain ⟨j, h1, h2⟩ := hex
    have hj : j < n := by
      rcases Nat.lt_or_ge j n with h3 | h3
      · exact h3
      · rw [Nat.testBit_lt_two_pow (Nat.lt_of_lt_of_le (sweepA_lt h f hf) (Nat.pow_le_pow_right (by decide) h3))] at h1; cases h1
    exact cntB_lt (fun j hj => sweepA_sub ss f j hj) h2 h1 n hj
  | m + 1, f, hf => by
    unfold iterA
    rcases iterA_grow h m _ (sweepA_lt h f hf) with h1 | h1
    · exact Or.inl h1
    by_cases he : sweepA ss f = f
    · rw [he] at h1 ⊢
      rw [iterA_fix m f he, he]; exact Or.inl rfl
    have h0 := iterA_grow h 0 f hf
    rcases h0 with h0 | h0
    · exact absurd h0 he
    · have h0' : cntB f n + 0 < cntB (sweepA ss f) n := h0
      exact Or.inr (by omega)
theorem ends_small {n : Nat} {p : Int × Int} (h : 0 ≤ p.1 ∧ p.1 < p.2 ∧ p.2 < (n : Int)) : endsM p < 2 ^ n :=
  Nat.or_lt_two_pow (Nat.pow_lt_pow_right (by decide) (by omega)) (Nat.pow_lt_pow_right (by decide) (by omega))
/-- whether all corners are reached, told by any closed list of corners that holds nothing needless. -/
theorem reach_list {n : Nat} {ss : List (Int × Int)} (hp : ∀ p ∈ ss, 0 ≤ p.1 ∧ p.1 < p.2 ∧ p.2 < (n : Int)) (hn : 1 ≤ n) {M : List Int} (hd : M.Nodup) (h0 : (0 : Int) ∈ M) (hr : ∀ x ∈ M, 0 ≤ x ∧ x < (n : Int)) (hc : ClosedP ss (· ∈ M)) (hm : ∀ T : Int → Prop, ClosedP ss T → T 0 → ∀ x ∈ M, T x) :
    (reachM ss (2 ^ ss.length - 1) n 1 = 2 ^ n - 1) ↔ ¬ M.length < n := by
  have he : ∀ p ∈ ss, endsM p < 2 ^ n := fun p h => ends_small (hp p h)
  have h1n : 1 < 2 ^ n := Nat.one_lt_two_pow (by omega)
  rw [reach_iter]
  have hlt := iterA_lt he n 1 h1n
  have hcl : sweepA ss (iterA ss n 1) = iterA ss n 1 := by
    rcases iterA_grow he n 1 h1n with h | h
    · exact h
    · have := cntB_le (sweepA ss (iterA ss n 1)) n
      omega
  have hb0 : (iterA ss n 1).testBit 0 = true := iterA_sub ss n 1 0 (by decide)
  generalize hR : iterA ss n 1 = R at *
  have hfix := sweepA_fix ss R hcl
  have hRM : ∀ j, R.testBit j = true → (j : Int) ∈ M := by
    rw [← hR]
    refine iterA_in (fun p h => ⟨(hp p h).1, by have := hp p h; omega⟩) hc n 1 fun j hj => ?_
    have : j = 0 := by
      rw [show (1 : Nat) = 2 ^ 0 from rfl, Nat.testBit_two_pow, decide_eq_true_eq] at hj
      omega
    subst this; exact h0
  have hMR : ∀ x ∈ M, R.testBit x.toNat = true := hm (fun x => R.testBit x.toNat = true) hfix hb0
  have hsub : M.length ≤ n := by
    have h := List.Nodup.length_le_of_subset (l₁ := M) (l₂ := (List.range n).map fun (k : Nat) => (k : Int)) hd fun x hx => by
      have := hr x hx
      exact List.mem_map.2 ⟨x.toNat, List.mem_range.2 (by omega), by omega⟩
    simpa using h
  constructor
  · intro hfull hlt2
    have h := List.Nodup.length_le_of_subset (l₁ := (List.range n).map fun (k : Nat) => (k : Int)) (l₂ := M) (by
      refine List.Pairwise.map _ (fun a b (h : a ≠ b) => ?_) List.nodup_range
      intro e
      exact h (by omega)) fun x hx => by
      obtain ⟨k, hk, rfl⟩ := List.mem_map.1 hx
      refine hRM k ?_
      rw [hfull, Nat.testBit_two_pow_sub_one, decide_eq_true (List.mem_range.1 hk)]
    simp at h
    omega
  · intro hge
    refine Nat.eq_of_testBit_eq fun j => ?_
    rw [Nat.testBit_two_pow_sub_one]
    rcases Nat.lt_or_ge j n with hj | hj
    · rw [decide_eq_true hj]
      refine Classical.byContradiction fun hc2 => ?_
      have hnot : (j : Int) ∉ M := fun h => hc2 (hMR _ h)
      have h := List.Nodup.length_le_of_subset (l₁ := (j : Int) :: M) (l₂ := (List.range n).map fun (k : Nat) => (k : Int)) (List.nodup_cons.2 ⟨hnot, hd⟩) fun x hx => by
        rcases List.mem_cons.1 hx with rfl | hx
        · exact List.mem_map.2 ⟨j, List.mem_range.2 hj, rfl⟩
        · have := hr x hx
          exact List.mem_map.2 ⟨x.toNat, List.mem_range.2 (by omega), by omega⟩
      simp at h
      omega
    · rw [decide_eq_false (by omega)]
      exact Nat.testBit_lt_two_pow (Nat.lt_of_lt_of_le hlt (Nat.pow_le_pow_right (by decide) hj))
end Go.Proofs.Ytimddkofcejijaa
