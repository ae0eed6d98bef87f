/- Layer 2: Seymour's theorem for sets by bits; the law's packing is the program's; the law's least list is the program's. -/
import Derived.Test.YtimddkofcejijaaDoorDB
import Derived.Test.YtimddkofcejijaaDoorSY
namespace Go.Proofs.YtimddkofcejijaaDoor
open Go.RowKit Go.Sort
namespace Sm
open Go.Proofs.YtimddkofcejijaaDoor.Nm Go.Proofs.YtimddkofcejijaaDoor.Sd
theorem cd_range (k : Nat) (X : Nat → Bool) : Sy.cd k X = (List.range k).countP X := by
  induction k with
  | zero => rfl
  | succ k ih =>
    rw [List.range_succ, List.countP_append, ← ih]
    simp only [Sy.cd, List.countP_singleton]
    cases X k <;> rfl
theorem pop_cd {k x : Nat} (hk : k ≤ 16) (hx : x < 2 ^ k) : pop x = Sy.cd k x.testBit := by
  rw [pop_lt hk hx, cd_range]
theorem par_pr {k x : Nat} (hk : k ≤ 16) (hx : x < 2 ^ k) : par x = Sy.pr k x.testBit := by
  rw [par_pop, Sy.pr_cd, pop_cd hk hx, Bool.eq_iff_iff]
  simp
def U (ss : List (Int × Int)) (i : Nat) : Nat := (str ss i).1.toNat
def V (ss : List (Int × Int)) (i : Nat) : Nat := (str ss i).2.toNat
section
variable {n : Nat} {ss : List (Int × Int)} (hn : n ≤ 6) (hl : ss.length ≤ 9) (hg : ∀ p ∈ ss, 0 ≤ p.1 ∧ p.1 < p.2 ∧ p.2 < (n : Int))
include hn hg in
theorem bit_ct {i : Nat} (hi : i < ss.length) (s : Nat) : (cutM ss s).testBit i = Sy.ct (U ss) (V ss) s.testBit i := by
  have hm := hg _ (str_mem ss i hi)
  rw [cutM_bit hi, par_street ⟨hm.1, hm.2.1, by omega⟩]
  unfold Sy.ct U V
  cases s.testBit (str ss i).1.toNat <;> cases s.testBit (str ss i).2.toNat <;> rfl
include hn hl hg
theorem par_pc {x : Nat} (s : Nat) : par (cutM ss s &&& x) = Sy.pc (U ss) (V ss) ss.length x.testBit s.testBit := by
  rw [par_pr (by omega) (Nat.lt_of_le_of_lt Nat.and_le_left (cut_lt s))]
  unfold Sy.pc
  refine Sy.pr_congr fun i hi => ?_
  rw [Nat.testBit_and, bit_ct hn hg hi, Bool.and_comm]
omit hn hl in
theorem pc_cong {X : Nat → Bool} {S T : Nat → Bool} (h : ∀ i, i < n → S i = T i) : Sy.pc (U ss) (V ss) ss.length X S = Sy.pc (U ss) (V ss) ss.length X T := by
  unfold Sy.pc
  refine Sy.pr_congr fun i hi => ?_
  have hm := hg _ (str_mem ss i hi)
  unfold Sy.ct U V
  rw [h _ (by omega), h _ (by omega)]
/-- Seymour's theorem. -/
theorem sey_le (h1 : 1 ≤ n) (he : evenB n ss = true) : (fewM ss).length ≤ (packS (cutsM n ss)).length := by
  obtain ⟨S, hS, hfew, hen, hmin⟩ := few_set ss
  have henC := (enough_cut hn (by omega) hg S).1 hen
  have hMn : Sy.Mn (U ss) (V ss) ss.length S.testBit := by
    intro C hC
    have hT := ofB_lt (Sy.sx S.testBit C) ss.length
    have hbit : ∀ i, i < ss.length → (ofB ss.length (Sy.sx S.testBit C)).testBit i = Sy.sx S.testBit C i := fun i hi => by
      rw [ofB_bit, decide_eq_true hi, Bool.true_and]
    have hTe : enoughB ss (ofB ss.length (Sy.sx S.testBit C)) = true := (enough_cut hn (by omega) hg _).2 fun s hs => by
      rw [← henC s hs, par_pc hn hl hg, par_pc hn hl hg]
      have : Sy.pc (U ss) (V ss) ss.length (ofB ss.length (Sy.sx S.testBit C)).testBit s.testBit = Sy.pc (U ss) (V ss) ss.length (Sy.sx S.testBit C) s.testBit := by
        unfold Sy.pc
        exact Sy.pr_congr fun i hi => by rw [hbit i hi]
      rw [this, Sy.pc_sx, hC]
      cases Sy.pc (U ss) (V ss) ss.length S.testBit s.testBit <;> rfl
    have hle := hmin _ hT hTe
    rw [pop_list, pop_list, pop_cd (by omega) hS, pop_cd (by omega) hT] at hle
    rwa [Sy.cd_congr hbit] at hle
  unfold evenB at he
  obtain ⟨A, _, hA⟩ := List.any_eq_true.1 he
  rw [decide_eq_true_iff] at hA
  obtain ⟨L, hL, hodd, hdis⟩ := Sy.seymour ss.length _ (U ss) (V ss) S.testBit A.testBit rfl hMn fun i hi _ => by
    rw [← bit_ct hn hg hi, hA, Nat.testBit_two_pow_sub_one, decide_eq_true hi]
  have hcb : ∀ (s : Nat → Bool) i, i < ss.length → (cutM ss (ofB n s)).testBit i = Sy.ct (U ss) (V ss) s i := fun s i hi => by
    have hm := hg _ (str_mem ss i hi)
    rw [bit_ct hn hg hi]
    unfold Sy.ct U V
    rw [ofB_bit, ofB_bit, decide_eq_true (by omega), decide_eq_true (by omega), Bool.true_and, Bool.true_and]
  have hpar : ∀ s ∈ L, par (cutM ss (ofB n s) &&& S) = true := fun s hs => by
    rw [par_pc hn hl hg, ← hodd s hs]
    exact pc_cong hg fun i hi => by rw [ofB_bit, decide_eq_true hi, Bool.true_and]
  have hmax := packF_max (cutsM n ss).length (cutsM n ss) (L.map fun s => cutM ss (ofB n s)) (Nat.le_refl _) (fun d hd => ?_) ?_ (fun d hd => ?_)
  · rw [List.length_map, hL, ← pop_cd (by omega) hS, ← pop_list, ← hfew] at hmax
    exact hmax
  · obtain ⟨s, hs, rfl⟩ := List.mem_map.1 hd
    intro e
    have := hpar s hs
    rw [e, Nat.zero_and, par_zero] at this
    cases this
  · rw [List.pairwise_map]
    refine List.Pairwise.imp (fun {a b} hab => ?_) hdis
    refine Nat.eq_of_testBit_eq fun i => ?_
    rw [Nat.testBit_and, Nat.zero_testBit]
    rcases Nat.lt_or_ge i ss.length with hi | hi
    · have := hab i hi
      rw [hcb a i hi, hcb b i hi]
      cases h1 : Sy.ct (U ss) (V ss) a i
      · rfl
      · cases h2 : Sy.ct (U ss) (V ss) b i
        · rfl
        · exact absurd ⟨h1, h2⟩ this
    · rw [cutM_out hi]; rfl
  · obtain ⟨s, hs, rfl⟩ := List.mem_map.1 hd
    refine (cuts_mem hn hl h1 hg).2 ⟨ofB n s, ofB_lt _ _, ?_, rfl⟩
    have h2 := hpar s hs
    rw [henC _ (ofB_lt _ _)] at h2
    rw [odd_cut (by omega)]; exact h2
omit hn hl hg in
theorem dj_le : ∀ (D : List Nat) (S : Nat), D.Pairwise (fun a b => a &&& b = 0) → (∀ c ∈ D, par (c &&& S) = true) → D.length ≤ pop S
  | [], _, _, _ => Nat.zero_le _
  | c :: D, S, hp, hm => by
    rw [List.pairwise_cons] at hp
    have hd : ∀ d ∈ D, d &&& dif S c = d &&& S := fun d hd => Nat.eq_of_testBit_eq fun i => by
      have := disj_iff.1 (hp.1 d hd) i
      rw [Nat.testBit_and, Nat.testBit_and, dif_bit]
      revert this
      cases c.testBit i <;> cases d.testBit i <;> cases S.testBit i <;> simp
    have ih := dj_le D (dif S c) hp.2 fun d h => by rw [hd d h]; exact hm d (List.mem_cons_of_mem _ h)
    have hS : S = (c &&& S) ||| dif S c := Nat.eq_of_testBit_eq fun i => by
      rw [Nat.testBit_or, Nat.testBit_and, dif_bit]
      cases c.testBit i <;> cases S.testBit i <;> rfl
    have hz : (c &&& S) &&& dif S c = 0 := Nat.eq_of_testBit_eq fun i => by
      rw [Nat.testBit_and, Nat.testBit_and, dif_bit, Nat.zero_testBit]
      cases c.testBit i <;> cases S.testBit i <;> rfl
    have h1 : pop S = pop (c &&& S) + pop (dif S c) := by
      conv => lhs; rw [hS]
      exact pop_or hz
    have h2 := hm c (List.mem_cons_self ..)
    rw [par_pop, decide_eq_true_iff] at h2
    rw [List.length_cons]; omega
theorem sey_ge (h1 : 1 ≤ n) : (packS (cutsM n ss)).length ≤ (fewM ss).length := by
  obtain ⟨S, hS, hfew, hen, hmin⟩ := few_set ss
  have henC := (enough_cut hn (by omega) hg S).1 hen
  obtain ⟨m1, m2⟩ := packF_mem (cutsM n ss).length (cutsM n ss)
  rw [hfew, pop_list]
  refine dj_le _ S m2 fun c hc => ?_
  obtain ⟨s, hs, hp, rfl⟩ := (cuts_mem hn hl h1 hg).1 (m1 c hc)
  rw [henC s hs, ← odd_cut (by omega)]; exact hp
end
theorem most_sub {C C2 : List Nat} (hC : ∀ c ∈ C, c ≠ 0 ∧ c < 65536) (hC2 : ∀ c ∈ C2, c ≠ 0 ∧ c < 65536) (h : ∀ c ∈ C, c ∈ C2) : ∀ m f, mostM C f ≤ m → mostM C f ≤ mostM C2 f := by
  intro m
  induction m with
  | zero => intro f hf; omega
  | succ m ih =>
    intro f hf
    rcases Nat.eq_zero_or_pos (mostM C f) with h0 | h0
    · omega
    · obtain ⟨c, hc, hw, he⟩ := most_some hC h0
      have := ih (dif f c) (by omega)
      have := most_ge hC2 (h c hc) hw
      omega
/-- the law's cuts, side by side. -/
def lawP (ss : List (Int × Int)) (o s : Nat) : Bool := par (s &&& o) && cutM ss s != 0
def lawC (n : Nat) (ss : List (Int × Int)) (o : Nat) : List Nat := ((List.range' 1 (2 ^ n - 2)).filter (lawP ss o)).map (cutM ss)
section
variable {n : Nat} {ss : List (Int × Int)} (hn : n ≤ 6) (hl : ss.length ≤ 9) (h1 : 1 ≤ n) (hg : ∀ p ∈ ss, 0 ≤ p.1 ∧ p.1 < p.2 ∧ p.2 < (n : Int))
include hn hl h1 hg
theorem law_mem {x : Nat} : x ∈ lawC n ss (oddM ss (2 ^ ss.length - 1)) ↔ x ∈ cutsM n ss := by
  have h2 : 2 ≤ 2 ^ n := by
    have := Nat.pow_le_pow_right (show 0 < 2 by decide) h1
    simpa using this
  rw [cuts_mem hn hl h1 hg]
  unfold lawC
  rw [List.mem_map]
  constructor
  · rintro ⟨s, hs, rfl⟩
    rw [List.mem_filter, List.mem_range'_1] at hs
    have hp := hs.2
    unfold lawP at hp
    rw [Bool.and_eq_true] at hp
    exact ⟨s, by omega, hp.1, rfl⟩
  · rintro ⟨s, a, b, rfl⟩
    have h0 : s ≠ 0 := fun e => by rw [e, Nat.zero_and, par_zero] at b; cases b
    have hf : s ≠ 2 ^ n - 1 := fun e => by
      have := par_flip hn hg s
      rw [e, Nat.xor_self, Nat.zero_and, par_zero] at this
      rw [e, ← this] at b; cases b
    refine ⟨s, List.mem_filter.2 ⟨List.mem_range'_1.2 (by omega), ?_⟩, rfl⟩
    unfold lawP
    rw [b, Bool.true_and, bne_iff_ne]
    exact cut_ne b
theorem law_good : ∀ c ∈ lawC n ss (oddM ss (2 ^ ss.length - 1)), c ≠ 0 ∧ c < 65536 := fun c hc => cuts_good hl c ((law_mem hn hl h1 hg).1 hc)
theorem law_most (f : Nat) : mostM (lawC n ss (oddM ss (2 ^ ss.length - 1))) f = mostM (cutsM n ss) f :=
  Nat.le_antisymm (most_sub (law_good hn hl h1 hg) (cuts_good hl) (fun _ => (law_mem hn hl h1 hg).1) _ f (Nat.le_refl _)) (most_sub (cuts_good hl) (law_good hn hl h1 hg) (fun _ => (law_mem hn hl h1 hg).2) _ f (Nat.le_refl _))
theorem law_pack : mostM (lawC n ss (oddM ss (2 ^ ss.length - 1))) (2 ^ ss.length - 1) = (packS (cutsM n ss)).length := by
  rw [law_most hn hl h1 hg, most_pack (cuts_good hl) (l := cutsM n ss) (fun _ h => h) _ _ (Nat.le_refl _) (fun d hd _ _ => hd)]
  congr 2
  refine List.filter_eq_self.2 fun d hd => decide_eq_true (within_iff.2 fun i hi => ?_)
  obtain ⟨s, _, _, rfl⟩ := (cuts_mem hn hl h1 hg).1 hd
  rcases Nat.lt_or_ge i ss.length with h | h
  · rw [Nat.testBit_two_pow_sub_one, decide_eq_true h]
  · rw [cutM_out h] at hi; cases hi
/-- one step of the law's table, side by side. -/
def pkStep (ss : List (Int × Int)) (o used : Nat) (P : Nat → Nat) (m s : Nat) : Nat := if par (s &&& o) && cutM ss s != 0 && (cutM ss s &&& used == 0) then max m (1 + P (used ||| cutM ss s)) else m
/-- what the law's table holds. -/
def pkT (n : Nat) (ss : List (Int × Int)) (o used : Nat) : Nat := mostM (lawC n ss o) (dif (2 ^ ss.length - 1) used)
theorem pk_fold (used : Nat) : (List.range' 1 (2 ^ n - 2)).foldl (pkStep ss (oddM ss (2 ^ ss.length - 1)) used (pkT n ss (oddM ss (2 ^ ss.length - 1)))) 0 = pkT n ss (oddM ss (2 ^ ss.length - 1)) used := by
  unfold pkT
  rw [most_fold (law_good hn hl h1 hg)]
  unfold lawC
  rw [List.foldl_map, List.foldl_filter]
  congr 1
  funext m s
  unfold pkStep lawP
  by_cases hp : (par (s &&& oddM ss (2 ^ ss.length - 1)) && cutM ss s != 0) = true
  · rw [if_pos hp, hp, Bool.true_and]
    have hw : (cutM ss s &&& used == 0) = decide (cutM ss s &&& dif (2 ^ ss.length - 1) used = cutM ss s) := by
      rw [Bool.eq_iff_iff, beq_iff_eq, decide_eq_true_iff, within_dif]
      refine ⟨fun h => ⟨within_iff.2 fun i hi => ?_, h⟩, fun h => h.2⟩
      rcases Nat.lt_or_ge i ss.length with h | h
      · rw [Nat.testBit_two_pow_sub_one, decide_eq_true h]
      · rw [cutM_out h] at hi; cases hi
    rw [hw]
    dsimp only
    have hd : dif (2 ^ ss.length - 1) (used ||| cutM ss s) = dif (dif (2 ^ ss.length - 1) used) (cutM ss s) := Nat.eq_of_testBit_eq fun i => by
      rw [dif_bit, dif_bit, dif_bit, Nat.testBit_or]
      cases (2 ^ ss.length - 1).testBit i <;> cases used.testBit i <;> cases (cutM ss s).testBit i <;> rfl
    rw [hd]
  · rw [if_neg hp]
    have hp' : (par (s &&& oddM ss (2 ^ ss.length - 1)) && cutM ss s != 0) = false := by simpa using hp
    rw [hp', Bool.false_and]; rfl
theorem pk_zero : pkT n ss (oddM ss (2 ^ ss.length - 1)) 0 = (packS (cutsM n ss)).length := by
  unfold pkT
  have : dif (2 ^ ss.length - 1) 0 = 2 ^ ss.length - 1 := by unfold dif; rw [Nat.and_zero, Nat.xor_zero]
  rw [this, law_pack hn hl h1 hg]
end
theorem pk_le {n : Nat} {ss : List (Int × Int)} {o used : Nat} : pkT n ss o used ≤ 17 := mostM_le _ _
/-- the law's least list. -/
def lwB (ss : List (Int × Int)) (b : Option (List Int)) (s : Nat) : Option (List Int) := if enoughB ss s && (match b with | none => true | some x => fewerB (listM s) x) then some (listM s) else b
def lwF (ss : List (Int × Int)) (k : Nat) : Option (List Int) := (List.range k).foldl (lwB ss) none
theorem lwF_succ (ss : List (Int × Int)) (k : Nat) : lwF ss (k + 1) = lwB ss (lwF ss k) k := by
  unfold lwF; rw [List.range_succ, List.foldl_append]; rfl
theorem fewK_succ (ss : List (Int × Int)) (k : Nat) : fewK ss (k + 1) = if enoughB ss k && fewerB (listM k) (fewK ss k) then listM k else fewK ss k := by
  unfold fewK; rw [List.range_succ, List.foldl_append]; rfl
theorem pop_all {L : Nat} (hL : L ≤ 16) {s : Nat} (hs : s < 2 ^ L - 1) : pop s < pop (2 ^ L - 1) := by
  have hp := Nat.two_pow_pos L
  rw [pop_lt hL (by omega), pop_lt hL (by omega)]
  have : ∃ i, i < L ∧ s.testBit i = false := by
    apply Classical.byContradiction
    intro h
    have : s = 2 ^ L - 1 := eq_bits (L := L) (by omega) (by omega) fun i hi => by
      rw [Nat.testBit_two_pow_sub_one, decide_eq_true hi]
      cases h2 : s.testBit i
      · exact absurd ⟨i, hi, h2⟩ h
      · rfl
    omega
  obtain ⟨i, hi, hb⟩ := this
  have key : ∀ l : List Nat, (∀ j ∈ l, j < L) → i ∈ l → l.countP (fun i => s.testBit i) < l.countP fun i => (2 ^ L - 1).testBit i := by
    intro l hl hil
    refine countP_lt (i := i) (fun j hj => ?_) ?_ hb l hil
    · rw [Nat.testBit_two_pow_sub_one]
      rcases Nat.lt_or_ge j L with h | h
      · exact decide_eq_true h
      · rw [Nm.bit_out (L := L) (x := s) (by omega) h] at hj; cases hj
    · rw [Nat.testBit_two_pow_sub_one, decide_eq_true hi]
  exact key _ (fun j hj => List.mem_range.1 hj) (List.mem_range.2 hi)
theorem lwF_few {ss : List (Int × Int)} (hl : ss.length ≤ 16) : ∀ k, k ≤ 2 ^ ss.length - 1 → fewK ss k = (lwF ss k).getD (listM (2 ^ ss.length - 1)) ∧ (∀ x, lwF ss k = some x → ∃ s, s < k ∧ x = listM s)
  | 0, _ => ⟨rfl, fun x hx => by cases hx⟩
  | k + 1, hk => by
    obtain ⟨i1, i2⟩ := lwF_few hl k (by omega)
    rw [fewK_succ, lwF_succ, i1]
    unfold lwB
    cases he : enoughB ss k
    · simp only [Bool.false_and, Bool.false_eq_true, if_false]
      exact ⟨trivial, fun x hx => by obtain ⟨s, h1, h2⟩ := i2 x hx; exact ⟨s, by omega, h2⟩⟩
    · simp only [Bool.true_and]
      cases hb : lwF ss k with
      | none =>
        have hf : fewerB (listM k) (listM (2 ^ ss.length - 1)) = true := by
          have h1 := pop_all hl (s := k) (by omega)
          unfold fewerB
          rw [pop_list, pop_list, if_neg (by omega)]
          exact decide_eq_true h1
        simp only [Option.getD_none, hf, if_true, Option.getD_some]
        exact ⟨trivial, fun x hx => ⟨k, by omega, by simpa using hx.symm⟩⟩
      | some y =>
        obtain ⟨s, h1, h2⟩ := i2 y hb
        simp only [Option.getD_some]
        rcases Bool.eq_false_or_eq_true (fewerB (listM k) y) with hf | hf
        rotate_left
        · simp only [hf, Bool.false_eq_true, if_false, Option.getD_some]
          exact ⟨trivial, fun x hx => ⟨s, by omega, by rw [← h2]; simpa using hx.symm⟩⟩
        · simp only [hf, if_true, Option.getD_some]
          exact ⟨trivial, fun x hx => ⟨k, by omega, by simpa using hx.symm⟩⟩
theorem lwF_all {ss : List (Int × Int)} (hl : ss.length ≤ 16) : lwF ss (2 ^ ss.length) = some (fewM ss) := by
  have hp := Nat.two_pow_pos ss.length
  obtain ⟨m, hm⟩ : ∃ m, 2 ^ ss.length = m + 1 := ⟨2 ^ ss.length - 1, by omega⟩
  obtain ⟨i1, i2⟩ := lwF_few hl (2 ^ ss.length - 1) (Nat.le_refl _)
  have hme : 2 ^ ss.length - 1 = m := by omega
  unfold fewM
  rw [hme] at i1 i2 ⊢
  rw [hm, lwF_succ, i1]
  unfold lwB
  have he : enoughB ss m = true := by unfold enoughB; rw [hme]; exact beq_self_eq_true _
  rw [he, Bool.true_and]
  cases hb : lwF ss m with
  | none => simp
  | some y =>
    obtain ⟨s, h1, rfl⟩ := i2 y hb
    have hf : fewerB (listM m) (listM s) = false := by
      have h2 := pop_all hl (s := s) (by omega)
      rw [hme] at h2
      unfold fewerB
      rw [pop_list, pop_list, if_neg (by omega)]
      exact decide_eq_false (by omega)
    simp [hf]
theorem packF_sub : ∀ (n : Nat) (l : List Nat), (packF n l).Sublist l
  | 0, _ => List.nil_sublist _
  | _ + 1, [] => List.nil_sublist _
  | n + 1, c :: t => by
    unfold packF
    split
    · exact (packF_sub n t).trans (List.sublist_cons_self ..)
    · exact ((packF_sub n _).trans List.filter_sublist).cons_cons _
/-- the proof's cuts ascend. -/
theorem pack_asc {n : Nat} {ss : List (Int × Int)} (hl : ss.length ≤ 9) : (packS (cutsM n ss)).Pairwise fun a b => cmpL (listM a) (listM b) < 0 := by
  obtain ⟨m1, m2⟩ := packF_mem (cutsM n ss).length (cutsM n ss)
  have hs : (packS (cutsM n ss)).Pairwise leS := (sortS_sorted (rawM n ss)).sublist (packF_sub _ _)
  have hm : ∀ x ∈ packS (cutsM n ss), x ≠ 0 ∧ x < 65536 := fun x hx => cuts_good hl x (m1 x hx)
  have key : ∀ l : List Nat, (∀ x ∈ l, x ≠ 0 ∧ x < 65536) → l.Pairwise leS → l.Pairwise (fun a b => a &&& b = 0) → l.Pairwise fun a b => cmpL (listM a) (listM b) < 0 := by
    intro l
    induction l with
    | nil => intro _ _ _; exact List.Pairwise.nil
    | cons c t ih =>
      intro hm hs hd
      rw [List.pairwise_cons] at hs hd ⊢
      refine ⟨fun d hdt => ?_, ih (fun x hx => hm x (List.mem_cons_of_mem _ hx)) hs.2 hd.2⟩
      have h1 : cmpL (listM c) (listM d) ≤ 0 := hs.1 d hdt
      have h2 : cmpL (listM c) (listM d) ≠ 0 := fun e => by
        have := listM_inj (hm c (List.mem_cons_self ..)).2 (hm d (List.mem_cons_of_mem _ hdt)).2 (cmpL_zero e)
        have h3 := hd.1 d hdt
        rw [← this, Nat.and_self] at h3
        exact (hm c (List.mem_cons_self ..)).1 h3
      omega
  exact key _ hm hs m2
/-- sides of disjoint cuts prove. -/
theorem lwE_good {n : Nat} {ss : List (Int × Int)} {o : Nat} : ∀ (l : List Nat) (u : Nat), (∀ s ∈ l, s ≠ 0 ∧ s ≠ 2 ^ n - 1 ∧ par (s &&& o) = true ∧ u &&& cutM ss s = 0) → l.Pairwise (fun a b => cutM ss a &&& cutM ss b = 0) → lwE n ss o l u = 0
  | [], _, _, _ => rfl
  | s :: t, u, h, hp => by
    obtain ⟨h1, h2, h3, h4⟩ := h s (List.mem_cons_self ..)
    rw [List.pairwise_cons] at hp
    unfold lwE
    rw [if_neg (by omega), if_pos h3, if_pos h4]
    refine lwE_good t _ (fun x hx => ?_) hp.2
    obtain ⟨g1, g2, g3, g4⟩ := h x (List.mem_cons_of_mem _ hx)
    refine ⟨g1, g2, g3, ?_⟩
    rw [Nat.and_or_distrib_right, g4, hp.1 x hx]; rfl
/-- the law's question whether the map is even. -/
theorem even_law {n : Nat} {ss : List (Int × Int)} (hn : n ≤ 6) (h1 : 1 ≤ n) (hg : ∀ p ∈ ss, 0 ≤ p.1 ∧ p.1 < p.2 ∧ p.2 < (n : Int)) : ((List.range (2 ^ n)).any fun s => decide (cutM ss s = 2 ^ ss.length - 1)) = evenB n ss := by
  have h2 : 2 ≤ 2 ^ n := by
    have := Nat.pow_le_pow_right (show 0 < 2 by decide) h1
    simpa using this
  unfold evenB
  rw [Int.toNat_natCast, Bool.eq_iff_iff, List.any_eq_true, List.any_eq_true]
  constructor
  · rintro ⟨s, hs, h⟩
    rw [List.mem_range] at hs
    rw [decide_eq_true_iff] at h
    by_cases hf : s = 2 ^ n - 1
    · refine ⟨0, List.mem_range.2 (by omega), decide_eq_true ?_⟩
      have := cut_flip hn hg s
      rw [hf, Nat.xor_self] at this
      rw [this, ← hf]; exact h
    · exact ⟨s, List.mem_range.2 (by omega), decide_eq_true h⟩
  · rintro ⟨s, hs, h⟩
    exact ⟨s, List.mem_range.2 (by have := List.mem_range.1 hs; omega), h⟩
/-- the sides that have been found for the first k cuts. -/
def SeyI (n : Nat) (ss : List (Int × Int)) (o : Nat) (C : List Nat) (k : Nat) (ats : List Nat) (u : Nat) : Prop :=
  ats.map (cutM ss) = C.take k ∧ (∀ s ∈ ats, s ≠ 0 ∧ s ≠ 2 ^ n - 1 ∧ s < 2 ^ n ∧ par (s &&& o) = true) ∧ (∀ c ∈ C.drop k, u &&& c = 0)
theorem SeyI.start {n : Nat} {ss : List (Int × Int)} {o : Nat} {C : List Nat} : SeyI n ss o C 0 [] 0 :=
  ⟨rfl, fun _ hs => absurd hs List.not_mem_nil, fun c _ => Nat.zero_and c⟩
theorem SeyI.len {n : Nat} {ss : List (Int × Int)} {o : Nat} {C : List Nat} {k : Nat} {ats : List Nat} {u : Nat} (h : SeyI n ss o C k ats u) (hk : k ≤ C.length) : ats.length = k := by
  have := congrArg List.length h.1
  rw [List.length_map, List.length_take] at this
  omega
theorem SeyI.now {n : Nat} {ss : List (Int × Int)} {o : Nat} {C : List Nat} {k : Nat} {ats : List Nat} {u : Nat} (h : SeyI n ss o C k ats u) {c : Nat} (hk : C[k]? = some c) : u &&& c = 0 := by
  obtain ⟨hlt, he⟩ := List.getElem?_eq_some_iff.1 hk
  refine h.2.2 c ?_
  rw [List.drop_eq_getElem_cons hlt, he]; exact List.mem_cons_self ..
theorem SeyI.step {n : Nat} {ss : List (Int × Int)} {o : Nat} {C : List Nat} {k : Nat} {ats : List Nat} {u : Nat} (h : SeyI n ss o C k ats u) (hd : C.Pairwise fun a b => a &&& b = 0) {c s : Nat} (hk : C[k]? = some c)
    (h1 : cutM ss s = c) (h2 : s ≠ 0 ∧ s ≠ 2 ^ n - 1 ∧ s < 2 ^ n ∧ par (s &&& o) = true) : SeyI n ss o C (k + 1) (ats ++ [s]) (u ||| c) := by
  obtain ⟨hlt, he⟩ := List.getElem?_eq_some_iff.1 hk
  refine ⟨?_, fun x hx => ?_, fun d hdm => ?_⟩
  · rw [List.map_append, h.1, List.take_add_one, hk, ← h1]; rfl
  · rcases List.mem_append.1 hx with hx | hx
    · exact h.2.1 x hx
    · rw [List.mem_singleton.1 hx]; exact h2
  · have hp := hd.sublist (List.drop_sublist k C)
    rw [List.drop_eq_getElem_cons hlt, he, List.pairwise_cons] at hp
    have h3 := h.2.2 d (by rw [List.drop_eq_getElem_cons hlt]; exact List.mem_cons_of_mem _ hdm)
    rw [Nat.and_or_distrib_right, h3, hp.1 d hdm]; rfl
theorem SeyI.done {n : Nat} {ss : List (Int × Int)} {o : Nat} {C : List Nat} {ats : List Nat} {u : Nat} (hn : n ≤ 6) (h : SeyI n ss o C C.length ats u) (hd : C.Pairwise fun a b => a &&& b = 0) (hc : chkM n ss = 0) (ho : o = oddM ss (2 ^ ss.length - 1)) : provE n ss (ats.map listM) = 0 := by
  unfold provE
  rw [if_pos hc, ← ho, lwE_prv hn ats 0 fun s hs => (h.2.1 s hs).2.2.1]
  refine lwE_good ats 0 (fun s hs => ?_) ?_
  · obtain ⟨a, b, _, d⟩ := h.2.1 s hs
    exact ⟨a, b, d, Nat.zero_and _⟩
  · have h1 : (ats.map (cutM ss)).Pairwise fun a b => a &&& b = 0 := by rw [h.1, List.take_length]; exact hd
    rwa [List.pairwise_map] at h1
theorem setM_list8 : ∀ S : Fin 256, setM (listM S.val) = S.val := by decide +kernel
/-- the side that has been found so far. -/
def AtI (Q : Nat → Prop) (s : Nat) (av : Int) : Prop := (av = -1 ∧ ∀ t, 1 ≤ t → t < s → ¬ Q t) ∨ ∃ t : Nat, av = t ∧ 1 ≤ t ∧ t < s ∧ Q t
theorem AtI.start (Q : Nat → Prop) : AtI Q 1 (-1) := .inl ⟨rfl, fun t h1 h2 => absurd h2 (by omega)⟩
theorem AtI.skip {Q : Nat → Prop} {s : Nat} {av : Int} (h : AtI Q s av) (hq : ¬ Q s) : AtI Q (s + 1) av := by
  rcases h with ⟨e, h⟩ | ⟨t, e, h1, h2, h3⟩
  · exact .inl ⟨e, fun t h1 h2 => by
      by_cases e : t = s
      · subst e; exact hq
      · exact h t h1 (by omega)⟩
  · exact .inr ⟨t, e, h1, by omega, h3⟩
theorem AtI.take {Q : Nat → Prop} {s : Nat} {av : Int} (_h : AtI Q s av) (h1 : 1 ≤ s) (hq : Q s) : AtI Q (s + 1) s := .inr ⟨s, rfl, h1, by omega, hq⟩
theorem AtI.done {Q : Nat → Prop} {s : Nat} {av : Int} (h : AtI Q s av) (hq : ∃ t, 1 ≤ t ∧ t < s ∧ Q t) : ∃ t : Nat, av = t ∧ 1 ≤ t ∧ t < s ∧ Q t := by
  rcases h with ⟨_, h⟩ | h
  · obtain ⟨t, h1, h2, h3⟩ := hq
    exact absurd h3 (h t h1 h2)
  · exact h
end Sm
end Go.Proofs.YtimddkofcejijaaDoor
