/- Layer 2: RoundCuts' own parts: the packing, the reference's cuts, put, packed, Proves, Cuts, and the law's walk. -/
import Derived.Test.YtimddkofcejijaaRX
import Derived.Test.YtimddkofcejijaaEH
import Derived.Test.YtimddkofcejijaaRU
import Derived.Test.YtimddkofcejijaaRS
import Derived.Test.YtimddkofcejijaaST
import Derived.Test.YtimddkofcejijaaSL
import Derived.Test.YtimddkofcejijaaSV
import Derived.Deep.AppendLies
import Derived.Laws.AppendOwnNone
import Derived.OwnWalk
import Derived.Test.YtimddkofcejijaaEI
import Derived.Test.YtimddkofcejijaaSQ
import Derived.Test.YtimddkofcejijaaSP
namespace Go.Proofs.Ytimddkofcejijaa
open Go.RowKit Go.Sort
section
theorem within_iff {e f : Nat} : e &&& f = e ↔ ∀ i, e.testBit i = true → f.testBit i = true := by
  constructor
  · intro h i hi
    rw [← h, Nat.testBit_and, Bool.and_eq_true] at hi
    exact hi.2
  · intro h
    refine Nat.eq_of_testBit_eq fun i => ?_
    rw [Nat.testBit_and]
    cases he : e.testBit i
    · rfl
    · rw [h i he]; rfl
theorem disj_iff {e d : Nat} : e &&& d = 0 ↔ ∀ i, ¬ (e.testBit i = true ∧ d.testBit i = true) := by
  constructor
  · intro h i hi
    have : (e &&& d).testBit i = true := by rw [Nat.testBit_and, hi.1, hi.2]; rfl
    rw [h, Nat.zero_testBit] at this; cases this
  · intro h
    refine Nat.eq_of_testBit_eq fun i => ?_
    rw [Nat.testBit_and, Nat.zero_testBit]
    cases he : e.testBit i
    · rfl
    · cases hd : d.testBit i
      · rfl
      · exact absurd ⟨he, hd⟩ (h i)
theorem within_dif {e f d : Nat} : e &&& dif f d = e ↔ e &&& f = e ∧ e &&& d = 0 := by
  rw [within_iff, within_iff, disj_iff]
  constructor
  · intro h
    refine ⟨fun i hi => ?_, fun i hi => ?_⟩
    · have := h i hi; rw [dif_bit, Bool.and_eq_true] at this; exact this.1
    · have := h i hi.1; rw [dif_bit, Bool.and_eq_true] at this; simp [hi.2] at this
  · rintro ⟨h1, h2⟩ i hi
    rw [dif_bit, h1 i hi, Bool.true_and]
    cases hd : d.testBit i
    · rfl
    · exact absurd ⟨hi, hd⟩ (h2 i)
theorem dif_comm (f c d : Nat) : dif (dif f c) d = dif (dif f d) c := Nat.eq_of_testBit_eq fun i => by
  rw [dif_bit, dif_bit, dif_bit, dif_bit]
  cases f.testBit i <;> cases c.testBit i <;> cases d.testBit i <;> rfl
theorem and_swap {a b : Nat} (h : a &&& b = 0) : b &&& a = 0 := by rw [Nat.and_comm]; exact h
/-- as many sets as possible out of a list, no two of which meet: with the first one, and without it. -/
def packF : Nat → List Nat → List Nat
  | 0, _ => []
  | _ + 1, [] => []
  | n + 1, c :: t => if 1 + (packF n (t.filter fun d => c &&& d == 0)).length < (packF n t).length then packF n t else c :: packF n (t.filter fun d => c &&& d == 0)
theorem packF_mem : ∀ (n : Nat) (l : List Nat), (∀ x ∈ packF n l, x ∈ l) ∧ (packF n l).Pairwise fun a b => a &&& b = 0
  | 0, _ => ⟨fun x hx => (by cases hx), List.Pairwise.nil⟩
  | _ + 1, [] => ⟨fun x hx => (by cases hx), List.Pairwise.nil⟩
  | n + 1, c :: t => by
    obtain ⟨h1, h2⟩ := packF_mem n t
    obtain ⟨h3, h4⟩ := packF_mem n (t.filter fun d => c &&& d == 0)
    unfold packF
    split
    · exact ⟨fun x hx => List.mem_cons_of_mem _ (h1 x hx), h2⟩
    · refine ⟨fun x hx => ?_, List.pairwise_cons.2 ⟨fun d hd => ?_, h4⟩⟩
      · rcases List.mem_cons.1 hx with rfl | hx
        · exact List.mem_cons_self ..
        · exact List.mem_cons_of_mem _ (List.mem_filter.1 (h3 x hx)).1
      · simpa using (List.mem_filter.1 (h3 d hd)).2
theorem packF_max : ∀ (n : Nat) (l D : List Nat), l.length ≤ n → (∀ d ∈ D, d ≠ 0) → D.Pairwise (fun a b => a &&& b = 0) → (∀ d ∈ D, d ∈ l) → D.length ≤ (packF n l).length
  | 0, l, D, hl, _, _, hm => by
    have : l = [] := List.length_eq_zero_iff.1 (by omega)
    subst this
    cases D with
    | nil => simp
    | cons d D => have := hm d (List.mem_cons_self ..); cases this
  | n + 1, [], D, _, _, _, hm => by
    cases D with
    | nil => simp
    | cons d D => have := hm d (List.mem_cons_self ..); cases this
  | n + 1, c :: t, D, hl, h0, hp, hm => by
    rw [List.length_cons] at hl
    unfold packF
    have hmax : D.length ≤ max (1 + (packF n (t.filter fun d => c &&& d == 0)).length) (packF n t).length := by
      by_cases hc : c ∈ D
      · have hperm := List.perm_cons_erase hc
        have hp2 : (c :: D.erase c).Pairwise fun a b => a &&& b = 0 := (hperm.pairwise_iff (fun h => and_swap h)).1 hp
        rw [List.pairwise_cons] at hp2
        have hne : ∀ d ∈ D.erase c, d ≠ c := fun d hd e => by
          subst e
          have := hp2.1 d hd
          rw [Nat.and_self] at this
          exact h0 d hc this
        have := packF_max n (t.filter fun d => c &&& d == 0) (D.erase c) (Nat.le_trans (List.length_filter_le _ _) (by omega)) (fun d hd => h0 d (List.mem_of_mem_erase hd)) hp2.2 (fun d hd => by
          have hd2 := List.mem_of_mem_erase hd
          rcases List.mem_cons.1 (hm d hd2) with e | h
          · exact absurd e (hne d hd)
          · exact List.mem_filter.2 ⟨h, by simpa using hp2.1 d hd⟩)
        have hlen := List.length_erase_of_mem hc
        have hpos : 0 < D.length := List.length_pos_of_mem hc
        omega
      · have := packF_max n t D (by omega) h0 hp (fun d hd => by
          rcases List.mem_cons.1 (hm d hd) with e | h
          · exact absurd (e ▸ hd) hc
          · exact h)
        omega
    split
    · omega
    · rw [List.length_cons]; omega
theorem packF_fuel : ∀ (n m : Nat) (l : List Nat), l.length ≤ n → l.length ≤ m → packF n l = packF m l
  | 0, 0, _, _, _ => rfl
  | 0, m + 1, l, h, _ => by
    have : l = [] := List.length_eq_zero_iff.1 (by omega)
    subst this; rfl
  | n + 1, 0, l, _, h => by
    have : l = [] := List.length_eq_zero_iff.1 (by omega)
    subst this; rfl
  | n + 1, m + 1, [], _, _ => rfl
  | n + 1, m + 1, c :: t, hn, hm => by
    rw [List.length_cons] at hn hm
    unfold packF
    rw [packF_fuel n m t (by omega) (by omega), packF_fuel n m (t.filter fun d => c &&& d == 0) (Nat.le_trans (List.length_filter_le _ _) (by omega)) (Nat.le_trans (List.length_filter_le _ _) (by omega))]
def packS (l : List Nat) : List Nat := packF l.length l
theorem packS_cons (c : Nat) (t : List Nat) : packS (c :: t) = if 1 + (packS (t.filter fun d => c &&& d == 0)).length < (packS t).length then packS t else c :: packS (t.filter fun d => c &&& d == 0) := by
  have e : packF t.length (t.filter fun d => c &&& d == 0) = packS (t.filter fun d => c &&& d == 0) := packF_fuel _ _ _ (List.length_filter_le _ _) (Nat.le_refl _)
  show (if 1 + (packF t.length (t.filter fun d => c &&& d == 0)).length < (packF t.length t).length then packF t.length t else c :: packF t.length (t.filter fun d => c &&& d == 0)) = _
  rw [e]; rfl
theorem step_max (g : Nat → Nat) (q : Nat → Bool) : ∀ (l : List Nat) (m : Nat), (m ≤ l.foldl (fun m c => if q c then max m (g c) else m) m) ∧ (∀ c ∈ l, q c = true → g c ≤ l.foldl (fun m c => if q c then max m (g c) else m) m) ∧ (l.foldl (fun m c => if q c then max m (g c) else m) m = m ∨ ∃ c ∈ l, q c = true ∧ l.foldl (fun m c => if q c then max m (g c) else m) m = g c)
  | [], m => ⟨Nat.le_refl _, fun c hc => (by cases hc), Or.inl rfl⟩
  | c :: l, m => by
    obtain ⟨h1, h2, h3⟩ := step_max g q l (if q c then max m (g c) else m)
    rw [List.foldl_cons]
    refine ⟨?_, fun d hd hq => ?_, ?_⟩
    · refine Nat.le_trans ?_ h1
      split <;> omega
    · rcases List.mem_cons.1 hd with rfl | hd
      · refine Nat.le_trans ?_ h1
        rw [if_pos hq]; omega
      · exact h2 d hd hq
    · rcases h3 with h3 | ⟨d, hd, hq, h3⟩
      · rw [h3]
        by_cases hq : q c = true
        · rw [if_pos hq]
          rcases Nat.le_total m (g c) with h | h
          · exact Or.inr ⟨c, List.mem_cons_self .., hq, by omega⟩
          · exact Or.inl (by omega)
        · rw [if_neg hq]; exact Or.inl rfl
      · exact Or.inr ⟨d, List.mem_cons_of_mem _ hd, hq, h3⟩
section
variable {C : List Nat} (hC : ∀ c ∈ C, c ≠ 0 ∧ c < 65536)
include hC
theorem most_fold (f : Nat) : mostM C f = C.foldl (fun m c => if decide (c &&& f = c) then max m (1 + mostM C (dif f c)) else m) 0 := by
  rw [mostM_eq C hC f]
  refine congrArg (fun s => C.foldl s 0) ?_
  funext m c
  unfold mostStep
  by_cases h : c &&& f = c
  · rw [if_pos h, if_pos (by simpa using h)]
  · rw [if_neg h, if_neg (by simpa using h)]
theorem most_ge {f c : Nat} (hc : c ∈ C) (hw : c &&& f = c) : 1 + mostM C (dif f c) ≤ mostM C f := by
  rw [most_fold hC f]
  exact (step_max (fun c => 1 + mostM C (dif f c)) (fun c => decide (c &&& f = c)) C 0).2.1 c hc (decide_eq_true hw)
theorem most_some {f : Nat} (h : 0 < mostM C f) : ∃ c ∈ C, c &&& f = c ∧ mostM C f = 1 + mostM C (dif f c) := by
  have h1 := (step_max (fun c => 1 + mostM C (dif f c)) (fun c => decide (c &&& f = c)) C 0).2.2
  rw [← most_fold hC f] at h1
  rcases h1 with h1 | ⟨c, hc, hq, h1⟩
  · omega
  · exact ⟨c, hc, by simpa using hq, h1⟩
theorem most_disj : ∀ (D : List Nat) (f : Nat), D.Pairwise (fun a b => a &&& b = 0) → (∀ d ∈ D, d ∈ C ∧ d &&& f = d) → D.length ≤ mostM C f
  | [], _, _, _ => Nat.zero_le _
  | d :: D, f, hp, hm => by
    rw [List.pairwise_cons] at hp
    have hd := hm d (List.mem_cons_self ..)
    have h1 := most_disj D (dif f d) hp.2 (fun e he => ⟨(hm e (List.mem_cons_of_mem _ he)).1, within_dif.2 ⟨(hm e (List.mem_cons_of_mem _ he)).2, and_swap (hp.1 e he)⟩⟩)
    have h2 := most_ge hC hd.1 hd.2
    rw [List.length_cons]; omega
theorem most_swap {f c d : Nat} (hc : c ∈ C) (hcw : c &&& f = c) (hce : mostM C f = 1 + mostM C (dif f c)) (hd : d ∈ C) (hdw : d &&& dif f c = d) (hde : 1 + mostM C (dif (dif f c) d) = mostM C (dif f c)) : d &&& f = d ∧ 1 + mostM C (dif f d) = mostM C f := by
  obtain ⟨h1, h2⟩ := within_dif.1 hdw
  have h3 := most_ge hC (f := dif f d) hc (within_dif.2 ⟨hcw, and_swap h2⟩)
  rw [dif_comm f d c] at h3
  have h4 := most_ge hC hd h1
  exact ⟨h1, by omega⟩
/-- each set that can be the first of as many as possible stands in the list. -/
def InL (C l : List Nat) (f : Nat) : Prop := ∀ d ∈ C, d &&& f = d → 1 + mostM C (dif f d) = mostM C f → d ∈ l
theorem most_pack {l : List Nat} (hl : ∀ x ∈ l, x ∈ C) : ∀ (n f : Nat), mostM C f ≤ n → InL C l f → mostM C f = (packS (l.filter fun d => decide (d &&& f = d))).length := by
  intro n
  induction n with
  | zero =>
    intro f hn _
    obtain ⟨h1, h2⟩ := packF_mem (l.filter fun d => decide (d &&& f = d)).length (l.filter fun d => decide (d &&& f = d))
    have := most_disj hC _ f h2 (fun d hd => by
      have := List.mem_filter.1 (h1 d hd)
      exact ⟨hl d this.1, by simpa using this.2⟩)
    unfold packS
    omega
  | succ n ih =>
    intro f hn hI
    refine Nat.le_antisymm ?_ ?_
    · rcases Nat.eq_zero_or_pos (mostM C f) with h0 | h0
      · omega
      · obtain ⟨c, hc, hcw, hce⟩ := most_some hC h0
        have hcl := hI c hc hcw hce.symm
        have hI2 : InL C l (dif f c) := fun d hd hdw hde => by
          obtain ⟨h1, h2⟩ := most_swap hC hc hcw hce hd hdw hde
          exact hI d hd h1 h2
        have h1 := ih (dif f c) (by omega) hI2
        obtain ⟨m1, m2⟩ := packF_mem (l.filter fun d => decide (d &&& dif f c = d)).length (l.filter fun d => decide (d &&& dif f c = d))
        have hin : ∀ d ∈ packS (l.filter fun d => decide (d &&& dif f c = d)), d ∈ l ∧ d &&& f = d ∧ d &&& c = 0 := fun d hd => by
          have := List.mem_filter.1 (m1 d hd)
          have h2 := within_dif.1 (by simpa using this.2 : d &&& dif f c = d)
          exact ⟨this.1, h2.1, h2.2⟩
        have := packF_max _ (l.filter fun d => decide (d &&& f = d)) (c :: packS (l.filter fun d => decide (d &&& dif f c = d))) (Nat.le_refl _) (fun d hd => by
          rcases List.mem_cons.1 hd with rfl | hd
          · exact (hC d hc).1
          · exact (hC d (hl d (hin d hd).1)).1) (List.pairwise_cons.2 ⟨fun d hd => and_swap (hin d hd).2.2, m2⟩) (fun d hd => by
          rcases List.mem_cons.1 hd with rfl | hd
          · exact List.mem_filter.2 ⟨hcl, by simpa using hcw⟩
          · exact List.mem_filter.2 ⟨(hin d hd).1, by simpa using (hin d hd).2.1⟩)
        rw [List.length_cons] at this
        unfold packS at this h1 ⊢
        omega
    · obtain ⟨h1, h2⟩ := packF_mem (l.filter fun d => decide (d &&& f = d)).length (l.filter fun d => decide (d &&& f = d))
      exact most_disj hC _ f h2 (fun d hd => by
        have := List.mem_filter.1 (h1 d hd)
        exact ⟨hl d this.1, by simpa using this.2⟩)
theorem pack_le {l : List Nat} (hl : ∀ x ∈ l, x ∈ C) (f : Nat) : (packS (l.filter fun d => decide (d &&& f = d))).length ≤ mostM C f := by
  obtain ⟨h1, h2⟩ := packF_mem (l.filter fun d => decide (d &&& f = d)).length (l.filter fun d => decide (d &&& f = d))
  exact most_disj hC _ f h2 (fun d hd => by
    have := List.mem_filter.1 (h1 d hd)
    exact ⟨hl d this.1, by simpa using this.2⟩)
/-- the greedy choice is the reference's. -/
theorem prov_pack : ∀ (l : List Nat) (f : Nat), (∀ x ∈ l, x ∈ C) → InL C l f → provG C l f = (packS (l.filter fun d => decide (d &&& f = d))).map listM
  | [], _, _, _ => rfl
  | c :: l, f, hl, hI => by
    have hcC := hl c (List.mem_cons_self ..)
    have hlC : ∀ x ∈ l, x ∈ C := fun x hx => hl x (List.mem_cons_of_mem _ hx)
    unfold provG
    by_cases hw : c &&& f = c
    · have hfil : (c :: l).filter (fun d => decide (d &&& f = d)) = c :: l.filter fun d => decide (d &&& f = d) := by rw [List.filter_cons, if_pos (by simpa using hw)]
      have hrest : (l.filter fun d => decide (d &&& f = d)).filter (fun d => c &&& d == 0) = l.filter fun d => decide (d &&& dif f c = d) := by
        rw [List.filter_filter]
        refine List.filter_congr fun d _ => ?_
        rw [Bool.eq_iff_iff, Bool.and_eq_true, beq_iff_eq, decide_eq_true_eq, decide_eq_true_eq, within_dif]
        constructor
        · rintro ⟨a, b⟩; exact ⟨b, and_swap a⟩
        · rintro ⟨a, b⟩; exact ⟨and_swap b, a⟩
      have hM := most_pack hC hl _ f (Nat.le_refl _) hI
      rw [hfil, packS_cons, hrest] at hM
      rw [hfil, packS_cons, hrest]
      have hle := pack_le hC hlC f
      by_cases he : 1 + mostM C (dif f c) = mostM C f
      · rw [if_pos ⟨hw, he⟩]
        have hI2 : InL C l (dif f c) := fun d hd hdw hde => by
          obtain ⟨h1, h2⟩ := most_swap hC hcC hw he.symm hd hdw hde
          rcases List.mem_cons.1 (hI d hd h1 h2) with e | h
          · exfalso
            rw [e] at hdw
            have := (within_dif.1 hdw).2
            rw [Nat.and_self] at this
            exact (hC c hcC).1 this
          · exact h
        have hM2 := most_pack hC hlC _ (dif f c) (Nat.le_refl _) hI2
        rw [if_neg (by omega), List.map_cons, prov_pack l (dif f c) hlC hI2]
      · rw [if_neg (fun h => he h.2)]
        have hI2 : InL C l f := fun d hd hdw hde => by
          rcases List.mem_cons.1 (hI d hd hdw hde) with e | h
          · exfalso; rw [e] at hde; exact he hde
          · exact h
        have hM2 := most_pack hC hlC _ f (Nat.le_refl _) hI2
        have h1 := pack_le hC hlC (dif f c)
        have h2 := most_ge hC hcC hw
        rw [if_pos (by omega), prov_pack l f hlC hI2]
    · rw [if_neg (fun h => hw h.1)]
      have hfil : (c :: l).filter (fun d => decide (d &&& f = d)) = l.filter fun d => decide (d &&& f = d) := by rw [List.filter_cons, if_neg (by simpa using hw)]
      rw [hfil]
      refine prov_pack l f hlC fun d hd hdw hde => ?_
      rcases List.mem_cons.1 (hI d hd hdw hde) with e | h
      · rw [e] at hdw; exact absurd hdw hw
      · exact h
end
end
section
def lessB (xs ys : List Int) : Bool := decide (cmpL xs ys < 0)
set_option maxRecDepth 100000 in
set_option maxHeartbeats 1000000 in
/-- the reference's less. -/
theorem lessR_any (a c : Option Addr) (cap dap : Nat) (xs ys : List Int) (w : World) (hl : xs.length ≤ 1000) (hl' : ys.length ≤ 1000) (hA : IntsAt w a xs) (hC : IntsAt w c ys) :
    Calls Try.prog 105 #[.slice a xs.length cap, .slice c ys.length dap] w fun e w' => e = .returned (.bool (lessB xs ys)) ∧ ∃ q, w' = w.drewN q := by
  have HA := Lib.hid hA
  have HC := Lib.hid hC
  have hlx : (xs.length : Int) ≤ 1000 := by omega
  have hly : (ys.length : Int) ≤ 1000 := by omega
  clear hA hC
  generalize hRR : lessB xs ys = R
  have HRR := Lib.hid hRR
  clear hRR
  go_enter Try.func105, Try.ntmps105
  go_wp2_with fail
  go_loopw [5] (fun iv w' => ∃ k q : Nat, k ≤ xs.length ∧ k ≤ ys.length ∧ iv = .int .i64 k ∧ w' = w.drewN q ∧ Hid (lessB (xs.drop k) (ys.drop k) = R)) (fun iv _ => xs.length - (intOf iv).toNat)
  case atStart => exact ⟨0, 0, Nat.zero_le _, Nat.zero_le _, rfl, rfl, HRR⟩
  case round =>
    obtain ⟨k, q, hk, hk', rfl, rfl, HO⟩ := hrel
    by_cases hlt : k < xs.length
    · have hkx : (k : Int) < xs.length := by omega
      obtain ⟨b, off, ea, hb, c1⟩ := HA.out k hlt
      subst ea
      have hd := nth_drop xs k hlt
      rw [hd] at HO
      clear hd
      by_cases hlt' : k < ys.length
      · have hky : (k : Int) < ys.length := by omega
        obtain ⟨b', off', ea, hb', c2⟩ := HC.out k hlt'
        subst ea
        have hd := nth_drop ys k hlt'
        rw [hd] at HO
        clear hd
        have p1 : (w.drewN q).cell? ⟨b, off + k, none⟩ = some (.int .i64 (nth xs k)) := c1
        have p2 : (w.drewN q).cell? ⟨b', off' + k, none⟩ = some (.int .i64 (nth ys k)) := c2
        clear c1 c2 HA HC
        generalize hw : w.drewN q = wq at p1 p2
        have HW := Lib.hid hw
        clear hw
        generalize nth xs k = x at *
        generalize nth ys k = y at *
        unfold lessB cmpL at HO
        by_cases hz : x = y
        · subst hz
          have hbe : (x != x) = false := by simp
          rw [cmpI_self, if_pos rfl] at HO
          go_wp2_with fail
          go_quiet (fail)
          go_wp2
          go_roundw
          case rel => exact ⟨k + 1, q + nq, by omega, by omega, by go_num, by rw [← HW.out, World.drewN_drewN], HO⟩
          case measure => simp [intOf]; omega
        · have hbe : (x != y) = true := by rw [bne_iff_ne]; exact hz
          have h2 : decide (x < y) = R := by
            rw [← HO.out, if_neg (fun h => hz (cmpI_zero h))]
            unfold cmpI
            by_cases h1 : x < y
            · rw [if_pos h1]; simp [h1]
            · rw [if_neg h1, if_pos (by omega)]; simp [h1]
          clear HO hz
          subst h2
          go_wp2_with fail
          go_quiet (fail)
          go_wp2_with fail
          go_quiet (fail)
          go_wp2
          go_ret
          refine ⟨rfl, ?_⟩
          rw [← HW.out, World.drewN_drewN, World.drewN_drewN]
          exact ⟨_, rfl⟩
      · have hky : ¬ (k : Int) < ys.length := by omega
        have e : ys.drop k = [] := List.drop_of_length_le (by omega)
        have hfin : decide ((xs.length : Int) < ys.length) = R := by
          rw [← HO.out, e]
          have : lessB (nth xs k :: xs.drop (k + 1)) [] = false := rfl
          rw [this, decide_eq_false_iff_not]; omega
        clear HO e
        subst hfin
        go_wp2
        go_ret
        exact ⟨rfl, q, rfl⟩
    · obtain rfl : k = xs.length := by omega
      have hfin : decide ((xs.length : Int) < ys.length) = R := by
        rw [← HO.out, List.drop_of_length_le (Nat.le_refl _)]
        by_cases hlt' : xs.length < ys.length
        · rw [nth_drop ys _ hlt']
          have : lessB [] (nth ys xs.length :: ys.drop (xs.length + 1)) = true := rfl
          rw [this, decide_eq_true_iff]; omega
        · rw [List.drop_of_length_le (show ys.length ≤ xs.length by omega)]
          have : lessB [] [] = false := rfl
          rw [this, decide_eq_false_iff_not]; omega
      clear HO
      subst hfin
      go_wp2
      go_ret
      exact ⟨ret_bool (by simp), q, rfl⟩
set_option maxRecDepth 100000 in
set_option maxHeartbeats 1000000 in
/-- the reference's common. -/
theorem commonR_any (a c : Option Addr) (cap dap : Nat) (xs ys : List Int) (w : World) (hA : IntsAt w a xs) (hC : IntsAt w c ys) (hl : xs.length ≤ 1000) (hl' : ys.length ≤ 1000) :
    Calls Try.prog 86 #[.slice a xs.length cap, .slice c ys.length dap] w fun e w' => e = .returned (.bool (xs.any fun x => ys.contains x)) ∧ w = w' := by
  have HA := Lib.hid hA
  have HC := Lib.hid (fun x => hasR_any c dap ys x w hC hl')
  have hlx : (xs.length : Int) ≤ 1000 := by omega
  clear hA hC
  generalize hE : (xs.any fun x => ys.contains x) = E at *
  have HE := Lib.hid hE
  clear hE
  go_enter Try.func86, Try.ntmps86
  go_wp2_with fail
  go_loop [5] (fun iv => ∃ k : Nat, k ≤ xs.length ∧ iv = .int .i64 k ∧ Hid (((xs.drop k).any fun x => ys.contains x) = E)) (fun iv => xs.length - (intOf iv).toNat)
  case atStart => exact ⟨0, Nat.zero_le _, rfl, HE⟩
  case round =>
    obtain ⟨k, hk, rfl, HO⟩ := hrel
    by_cases hlt : k < xs.length
    · have hkx : (k : Int) < xs.length := by omega
      obtain ⟨b, off, ea, hb, c1⟩ := HA.out k hlt
      subst ea
      have hd := nth_drop xs k hlt
      rw [hd, List.any_cons] at HO
      have HH := Lib.hid (HC.out (nth xs k))
      generalize nth xs k = z at *
      clear hd HA HC
      cases hq : ys.contains z
      · rw [hq] at HH HO
        rw [Bool.false_or] at HO
        clear hq
        go_wp2_with (go_at_call 62; refine HH.out.mono ?_; rintro _ _ ⟨rfl, rfl⟩)
        go_round
        case rel => exact ⟨k + 1, by omega, by go_num, HO⟩
        case measure => simp [intOf]; omega
      · rw [hq] at HH HO
        rw [Bool.true_or] at HO
        have hE : E = true := HO.out.symm
        subst hE
        clear hq HO HE
        go_wp2_with (go_at_call 62; refine HH.out.mono ?_; rintro _ _ ⟨rfl, rfl⟩)
        go_ret
        exact ⟨rfl, rfl⟩
    · obtain rfl : k = xs.length := by omega
      rw [List.drop_of_length_le (Nat.le_refl _)] at HO
      have hE : E = false := HO.out.symm
      subst hE
      clear HO HE HC
      go_wp2
      go_ret
      exact ⟨rfl, rfl⟩
def parK (k y : Nat) : Bool := (List.range k).foldl (fun b i => xor b (y.testBit i)) false
theorem parK_succ (k y : Nat) : parK (k + 1) y = xor (parK k y) (y.testBit k) := by
  unfold parK; rw [List.range_succ, List.foldl_append]; rfl
theorem parK_out {y c : Nat} (h : ∀ i, c ≤ i → y.testBit i = false) : ∀ d, parK (c + d) y = parK c y
  | 0 => rfl
  | d + 1 => by rw [← Nat.add_assoc, parK_succ, h _ (by omega), Bool.xor_false]; exact parK_out h d
theorem parK_cnt {S X : Nat} {zs : List Int} : ∀ c, (∀ i, i < c → S.testBit i = zs.contains (i : Int)) → parK c (S &&& X) = decide ((preM X c).countP (fun x => zs.contains x) % 2 = 1)
  | 0, _ => rfl
  | c + 1, h => by
    rw [parK_succ, parK_cnt c (fun i hi => h i (by omega)), preM_succ, List.countP_append, Nat.testBit_and, h c (by omega)]
    cases X.testBit c
    · simp
    · cases hz : zs.contains (c : Int)
      · have hm : (c : Int) ∉ zs := fun h => by rw [← List.contains_iff_mem, hz] at h; cases h
        simp [hm]
      · have hm : (c : Int) ∈ zs := List.contains_iff_mem.1 hz
        simp only [if_true, Bool.and_true, List.countP_singleton, hz]
        by_cases h2 : (preM X c).countP (fun x => zs.contains x) % 2 = 1
        · rw [decide_eq_true h2, decide_eq_false (by omega)]; rfl
        · rw [decide_eq_false h2, decide_eq_true (by omega)]; rfl
theorem par_cnt {S X c : Nat} {zs : List Int} (hc : c ≤ 16) (hX : X < 2 ^ c) (h : ∀ i, i < c → S.testBit i = zs.contains (i : Int)) : par (S &&& X) = decide ((preM X c).countP (fun x => zs.contains x) % 2 = 1) := by
  rw [← parK_cnt c h]
  have := parK_out (y := S &&& X) (c := c) (fun i hi => by rw [Nat.testBit_and, Nat.testBit_lt_two_pow (Nat.lt_of_lt_of_le hX (Nat.pow_le_pow_right (by decide) hi)), Bool.and_false]) (16 - c)
  rw [show c + (16 - c) = 16 by omega] at this
  exact this
theorem endsR_lt {p : Int × Int} {n : Nat} (h : 0 ≤ p.1 ∧ p.1 < p.2 ∧ p.2 < (n : Int)) : endsM p < 2 ^ n :=
  Nat.or_lt_two_pow (Nat.pow_lt_pow_right (by decide) (by omega)) (Nat.pow_lt_pow_right (by decide) (by omega))
theorem oddL_in {n : Nat} (s : Nat) : ∀ (l : List (Int × Int)) (i o : Nat), (∀ p ∈ l, 0 ≤ p.1 ∧ p.1 < p.2 ∧ p.2 < (n : Int)) → o < 2 ^ n → oddL s i l o < 2 ^ n
  | [], _, _, _, h1 => h1
  | p :: l, i, o, h, h1 => by
    unfold oddL
    refine oddL_in s l (i + 1) _ (fun q hq => h q (List.mem_cons_of_mem _ hq)) ?_
    split
    · exact Nat.xor_lt_two_pow h1 (endsR_lt (h p (List.mem_cons_self ..)))
    · exact h1
theorem oddL_empty : ∀ (l : List (Int × Int)) (i o : Nat), oddL 0 i l o = o
  | [], _, _ => rfl
  | p :: l, i, o => by
    unfold oddL
    rw [Nat.zero_testBit]
    exact oddL_empty l (i + 1) o
set_option maxRecDepth 100000 in
set_option maxHeartbeats 2000000 in
/-- the reference's strange. -/
theorem strangeR_any (c : Nat) (a : Option Addr) (cap : Nat) (ss : List (Int × Int)) (d : Option Addr) (dap : Nat) (zs : List Int) (S : Nat) (w : World) (hSt : StrAt w a ss) (hZ : IntsAt w d zs) (hlz : zs.length ≤ 1000) (hl : ss.length ≤ 9) (hc : c ≤ 6) (hp : ∀ p ∈ ss, 0 ≤ p.1 ∧ p.1 < p.2 ∧ p.2 < (c : Int)) (hb : ∀ i, i < c → S.testBit i = zs.contains (i : Int)) :
    Calls Try.prog 82 #[mapV c a ss.length cap, .slice d zs.length dap] w fun e w' => e = .returned (.bool (par (S &&& oddM ss (2 ^ ss.length - 1)))) ∧ Fut w w' := by
  have hO := oddL_in (n := c) (2 ^ ss.length - 1) ss 0 0 hp (Nat.two_pow_pos _)
  have hpar : par (S &&& oddM ss (2 ^ ss.length - 1)) = decide ((preM (oddM ss (2 ^ ss.length - 1)) c).countP (fun x => zs.contains x) % 2 = 1) := par_cnt (by omega) hO hb
  have HODD := Lib.hid (fun W (F : Fut w W) => oddR_any c a cap ss none 0 [] 0 W (hSt.fut F) (nil_ints _ _) (by decide) hl hc (fun p hp' => ⟨(hp p hp').1, (hp p hp').2.1⟩) (fun i _ => by simp))
  have hz : oddM ss 0 = 0 := oddL_empty ss 0 0
  rw [hz, Nat.xor_zero] at HODD
  have HZ := Lib.hid hZ
  have hL := preM_len (oddM ss (2 ^ ss.length - 1)) c
  rw [hpar]
  clear hSt hZ hb hpar hO hp hz
  generalize preM (oddM ss (2 ^ ss.length - 1)) c = L at *
  have hlx : (L.length : Int) ≤ 6 := by omega
  obtain ⟨N, hN⟩ : ∃ N, L.countP (fun x => zs.contains x) = N := ⟨_, rfl⟩
  rw [hN]
  have HN0 := Lib.hid hN
  clear hN
  go_enter Try.func82, Try.ntmps82
  go_wp2_with fail
  have hB := BoxM.new w c a ss.length cap 28
  have hF : Fut w (w.alloc (.cells #[.int .i64 c, .slice a ss.length cap] 28)) := Fut.alloc _ _
  generalize w.alloc (.cells #[.int .i64 c, .slice a ss.length cap] 28) = W1 at *
  generalize w.heap.size = B at *
  have HF := Lib.hid hF
  obtain ⟨hb, b0, b1⟩ := hB
  clear hF
  refine (HODD.out _ HF.out).mono ?_
  rintro _ w2 ⟨v, rfl, hO, F2⟩
  obtain ⟨l, lc, rfl, hI⟩ := hO.ints
  have HI := Lib.hid hI
  have HF2 := Lib.hid (HF.out.trans F2)
  have HH := Lib.hid (fun x => hasR_any d dap zs x w2 (HZ.out.fut HF2.out) hlz)
  clear hb b0 b1 hO hI F2
  go_wp2_with fail
  go_loop [5, 7] (fun nv iv => ∃ k m : Nat, k ≤ L.length ∧ iv = .int .i64 k ∧ nv = .int .i64 m ∧ m ≤ k ∧ Hid (m + (L.drop k).countP (fun x => zs.contains x) = N)) (fun _ iv => L.length - (intOf iv).toNat)
  case atStart => exact ⟨0, 0, Nat.zero_le _, rfl, rfl, Nat.le_refl _, Lib.hid (by rw [Nat.zero_add, List.drop_zero]; exact HN0.out)⟩
  case round =>
    obtain ⟨k, m, hk, rfl, rfl, hm, HO⟩ := hrel
    by_cases hlt : k < L.length
    · have hkx : (k : Int) < L.length := by omega
      obtain ⟨b, off, ea, hb, c1⟩ := HI.out k hlt
      subst ea
      have hd := nth_drop L k hlt
      rw [hd] at HO
      have H1 := Lib.hid (HH.out (nth L k))
      generalize nth L k = z at *
      clear hd
      cases hq : zs.contains z
      · rw [hq] at H1
        have HN : Hid (m + (L.drop (k + 1)).countP (fun x => zs.contains x) = N) := Lib.hid (by rw [← HO.out, List.countP_cons, hq]; simp)
        clear hq HO
        go_wp2_with (go_at_call 62; refine H1.out.mono ?_; rintro _ _ ⟨rfl, rfl⟩)
        go_round
        case rel => exact ⟨k + 1, m, by omega, by go_num, rfl, by omega, HN⟩
        case measure => simp [intOf]; omega
      · rw [hq] at H1
        have HN : Hid (m + 1 + (L.drop (k + 1)).countP (fun x => zs.contains x) = N) := Lib.hid (by rw [← HO.out, List.countP_cons, hq]; simp; omega)
        clear hq HO
        go_wp2_with (go_at_call 62; refine H1.out.mono ?_; rintro _ _ ⟨rfl, rfl⟩)
        go_round
        case rel => exact ⟨k + 1, m + 1, by omega, by go_num, by go_num, by omega, HN⟩
        case measure => simp [intOf]; omega
    · obtain rfl : k = L.length := by omega
      rw [List.drop_of_length_le (Nat.le_refl _)] at HO
      obtain rfl : m = N := by rw [← HO.out]; simp
      clear HO
      have hmx : (m : Int) ≤ 6 := by omega
      go_wp2
      go_ret
      exact ⟨ret_bool (by rw [Bool.eq_iff_iff]; simp; omega), HF2.out⟩
end
section
theorem common_and {A B : Nat} (hA : A < 65536) : ((listM A).any fun x => (listM B).contains x) = decide (A &&& B ≠ 0) := by
  rw [Bool.eq_iff_iff, List.any_eq_true, decide_eq_true_iff]
  constructor
  · rintro ⟨x, hx, hy⟩ h0
    rw [List.contains_iff_mem] at hy
    obtain ⟨i, _, h1, rfl⟩ := listM_mem.1 hx
    obtain ⟨j, _, h2, e⟩ := listM_mem.1 hy
    obtain rfl : i = j := by omega
    have : (A &&& B).testBit i = true := by rw [Nat.testBit_and, h1, h2]; rfl
    rw [h0, Nat.zero_testBit] at this
    cases this
  · intro h
    obtain ⟨i, hi⟩ := Nat.exists_testBit_of_ne_zero h
    rw [Nat.testBit_and, Bool.and_eq_true] at hi
    have h16 : i < 16 := by
      rcases Nat.lt_or_ge i 16 with h | h
      · exact h
      · exfalso
        rw [Nat.testBit_lt_two_pow (Nat.lt_of_lt_of_le hA (Nat.pow_le_pow_right (n := 2) (i := 16) (j := i) (by decide) h))] at hi
        cases hi.1
    exact ⟨(i : Int), listM_mem.2 ⟨i, h16, hi.1, rfl⟩, List.contains_iff_mem.2 (listM_mem.2 ⟨i, h16, hi.2, rfl⟩)⟩
/-- Proves as the reference asks it: each side is one, its corners that are odd are odd in number, and its cut meets none of those before. -/
def prvR (c : Int) (ss : List (Int × Int)) (o : Nat) : List (List Int) → List Nat → Int
  | [], _ => 0
  | z :: l, us => if sdE c z = 0 then (if par (setM z &&& o) then (if us.any (fun u => decide (cutM ss (setM z) &&& u ≠ 0)) then 6 else prvR c ss o l (us ++ [cutM ss (setM z)])) else 14) else sdE c z
theorem or_zero (a u v : Nat) : a &&& (u ||| v) = 0 ↔ a &&& u = 0 ∧ a &&& v = 0 := by
  rw [Nat.and_or_distrib_left]
  constructor
  · intro h
    constructor <;>
    · apply Nat.eq_of_testBit_eq
      intro i
      have := congrArg (fun n => n.testBit i) h
      simp only [Nat.testBit_or, Nat.zero_testBit, Bool.or_eq_false_iff] at this
      rw [Nat.zero_testBit]
      first | exact this.1 | exact this.2
  · rintro ⟨h1, h2⟩
    rw [h1, h2]; rfl
theorem any_or (a : Nat) : ∀ (us : List Nat) (u : Nat), (us.any fun v => decide (a &&& v ≠ 0)) = false ∧ a &&& u = 0 ↔ a &&& us.foldl (· ||| ·) u = 0
  | [], u => by simp
  | v :: us, u => by
    rw [List.foldl_cons, ← any_or a us (u ||| v), or_zero, List.any_cons, Bool.or_eq_false_iff, decide_eq_false_iff_not]
    constructor
    · rintro ⟨⟨h1, h2⟩, h3⟩; exact ⟨h2, h3, by simpa using h1⟩
    · rintro ⟨h1, h2, h3⟩; exact ⟨⟨by simpa using h3, h1⟩, h2⟩
theorem prvR_prvL (c : Int) (ss : List (Int × Int)) (o : Nat) : ∀ (l : List (List Int)) (us : List Nat), prvR c ss o l us = prvL c ss o l (us.foldl (· ||| ·) 0)
  | [], _ => rfl
  | z :: l, us => by
    unfold prvR prvL
    have h := any_or (cutM ss (setM z)) us 0
    rw [Nat.and_zero] at h
    simp only [and_true] at h
    split
    · split
      · cases hu : us.any fun u => decide (cutM ss (setM z) &&& u ≠ 0)
        · rw [if_pos (h.1 hu)]
          simp only [Bool.false_eq_true, if_false]
          rw [prvR_prvL c ss o l, List.foldl_append]; rfl
        · simp only [if_true]
          rw [if_neg (fun e => by have := h.2 e; rw [hu] at this; cases this)]
      · rfl
    · rfl
end
section
abbrev ltS (a b : List Int) : Prop := cmpL a b < 0
theorem ltS_irr (a : List Int) : ¬ ltS a a := fun h => by unfold ltS at h; rw [cmpL_self] at h; omega
theorem ltS_asym {a b : List Int} (h : ltS a b) : ¬ ltS b a := fun h' => by
  have := cmpL_swap a b
  unfold ltS at *
  omega
theorem ltS_trans {a b c : List Int} (h : ltS a b) (h' : ltS b c) : ltS a c := by
  have h1 := cmpL_trans a b c (by unfold ltS at h; omega) (by unfold ltS at h'; omega)
  by_cases e : cmpL a c = 0
  · have := cmpL_zero e
    subst this
    exact absurd h' (ltS_asym h)
  · unfold ltS; omega
theorem ltS_eq {a b : List Int} (h : ¬ ltS a b) (h' : ¬ ltS b a) : a = b := by
  have := cmpL_swap a b
  unfold ltS at *
  exact cmpL_zero (by omega)
/-- a list put at its place among others, if it is not there. -/
def putF (x : List Int) : List (List Int) → List (List Int)
  | [] => [x]
  | y :: t => if cmpL y x < 0 then y :: putF x t else if cmpL x y < 0 then x :: y :: t else y :: t
theorem putF_mem (x z : List Int) : ∀ l, z ∈ putF x l ↔ z = x ∨ z ∈ l
  | [] => by simp [putF]
  | y :: t => by
    unfold putF
    split
    · rw [List.mem_cons, putF_mem x z t, List.mem_cons]
      constructor
      · rintro (h | h | h)
        · exact Or.inr (Or.inl h)
        · exact Or.inl h
        · exact Or.inr (Or.inr h)
      · rintro (h | h | h)
        · exact Or.inr (Or.inl h)
        · exact Or.inl h
        · exact Or.inr (Or.inr h)
    · rename_i h1
      split
      · exact List.mem_cons
      · rename_i h2
        obtain rfl : y = x := ltS_eq h1 h2
        rw [List.mem_cons]
        constructor
        · exact fun h => Or.inr h
        · rintro (h | h)
          · exact Or.inl h
          · exact h
theorem putF_sorted (x : List Int) : ∀ l, l.Pairwise ltS → (putF x l).Pairwise ltS
  | [], _ => by simp [putF]
  | y :: t, h => by
    have hy := List.pairwise_cons.1 h
    unfold putF
    split
    · rename_i h1
      refine List.pairwise_cons.2 ⟨fun z hz => ?_, putF_sorted x t hy.2⟩
      rcases (putF_mem x z t).1 hz with rfl | hz
      · exact h1
      · exact hy.1 z hz
    · split
      · rename_i h2
        refine List.pairwise_cons.2 ⟨fun z hz => ?_, h⟩
        rcases List.mem_cons.1 hz with rfl | hz
        · exact h2
        · exact ltS_trans h2 (hy.1 z hz)
      · exact h
theorem ltS_ext : ∀ {a b : List (List Int)}, a.Pairwise ltS → b.Pairwise ltS → (∀ x, x ∈ a ↔ x ∈ b) → a = b
  | [], [], _, _, _ => rfl
  | [], y :: b, _, _, h => by have := (h y).2 (List.mem_cons_self ..); cases this
  | x :: a, [], _, _, h => by have := (h x).1 (List.mem_cons_self ..); cases this
  | x :: a, y :: b, ha, hb, h => by
    rw [List.pairwise_cons] at ha hb
    have hxy : x = y := by
      rcases List.mem_cons.1 ((h x).1 (List.mem_cons_self ..)) with e | h1
      · exact e
      · rcases List.mem_cons.1 ((h y).2 (List.mem_cons_self ..)) with e | h2
        · exact e.symm
        · exact absurd (hb.1 x h1) (ltS_asym (ha.1 y h2))
    subst hxy
    refine congrArg _ (ltS_ext ha.2 hb.2 fun z => ⟨fun hz => ?_, fun hz => ?_⟩)
    · rcases List.mem_cons.1 ((h z).1 (List.mem_cons_of_mem _ hz)) with e | h1
      · have := ha.1 z hz; subst e; exact absurd this (ltS_irr _)
      · exact h1
    · rcases List.mem_cons.1 ((h z).2 (List.mem_cons_of_mem _ hz)) with e | h1
      · have := hb.1 z hz; subst e; exact absurd this (ltS_irr _)
      · exact h1
/-- the reference's list of cuts, side by side. -/
def putAll (c : Nat) (ss : List (Int × Int)) (l : List (List Int)) (acc : List (List Int)) : List (List Int) :=
  l.foldl (fun acc z => if sdE c z = 0 ∧ par (setM z &&& oddM ss (2 ^ ss.length - 1)) = true then putF (listM (cutM ss (setM z))) acc else acc) acc
theorem putAll_cons (c : Nat) (ss : List (Int × Int)) (z : List Int) (l : List (List Int)) (acc : List (List Int)) : putAll c ss (z :: l) acc = putAll c ss l (if sdE c z = 0 ∧ par (setM z &&& oddM ss (2 ^ ss.length - 1)) = true then putF (listM (cutM ss (setM z))) acc else acc) := rfl
theorem putAll_sorted (c : Nat) (ss : List (Int × Int)) : ∀ (l acc : List (List Int)), acc.Pairwise ltS → (putAll c ss l acc).Pairwise ltS
  | [], _, h => h
  | z :: l, acc, h => by
    rw [putAll_cons]
    refine putAll_sorted c ss l _ ?_
    split
    · exact putF_sorted _ _ h
    · exact h
theorem putAll_mem (c : Nat) (ss : List (Int × Int)) (x : List Int) : ∀ (l acc : List (List Int)), x ∈ putAll c ss l acc ↔ x ∈ acc ∨ ∃ z ∈ l, sdE c z = 0 ∧ par (setM z &&& oddM ss (2 ^ ss.length - 1)) = true ∧ x = listM (cutM ss (setM z))
  | [], acc => by simp [putAll]
  | z :: l, acc => by
    rw [putAll_cons, putAll_mem c ss x l]
    split
    · rename_i h
      rw [putF_mem]
      constructor
      · rintro ((h1 | h1) | ⟨y, hy, h2⟩)
        · exact Or.inr ⟨z, List.mem_cons_self .., h.1, h.2, h1⟩
        · exact Or.inl h1
        · exact Or.inr ⟨y, List.mem_cons_of_mem _ hy, h2⟩
      · rintro (h1 | ⟨y, hy, h2⟩)
        · exact Or.inl (Or.inr h1)
        · rcases List.mem_cons.1 hy with rfl | hy
          · exact Or.inl (Or.inl h2.2.2)
          · exact Or.inr ⟨y, hy, h2⟩
    · rename_i h
      constructor
      · rintro (h1 | ⟨y, hy, h2⟩)
        · exact Or.inl h1
        · exact Or.inr ⟨y, List.mem_cons_of_mem _ hy, h2⟩
      · rintro (h1 | ⟨y, hy, h2⟩)
        · exact Or.inl h1
        · rcases List.mem_cons.1 hy with rfl | hy
          · exact absurd ⟨h2.1, h2.2.1⟩ h
          · exact Or.inr ⟨y, hy, h2⟩
theorem list_asc : ∀ c : Fin 7, ∀ S : Fin 64, S.val < 2 ^ c.val → ascE c.val (listM S.val) (-1) = 0 := by decide +kernel
theorem sd_list {n s : Nat} (hn : n ≤ 6) (hs : s < 2 ^ n) : sdE n (listM s) = if s = 0 ∨ s = 2 ^ n - 1 then 5 else 0 := by
  have h64 : 2 ^ n ≤ 64 := Nat.le_trans (Nat.pow_le_pow_right (by decide) hn) (by decide)
  have h := list_asc ⟨n, by omega⟩ ⟨s, by omega⟩ hs
  unfold sdE
  rw [h, if_neg (by simp), setM_list (by omega), Int.toNat_natCast]
theorem cut_inj {n : Nat} {ss : List (Int × Int)} (hn : n ≤ 6) (hg : ∀ p ∈ ss, 0 ≤ p.1 ∧ p.1 < p.2 ∧ p.2 < (n : Int)) (hr : reachM ss (2 ^ ss.length - 1) n 1 = 2 ^ n - 1) {s t : Nat} (hs : s < 2 ^ n) (ht : t < 2 ^ n) (h0 : s.testBit 0 = t.testBit 0) (he : cutM ss s = cutM ss t) : s = t := by
  have hT : ClosedP ss (fun j => s.testBit j.toNat = t.testBit j.toNat) := fun p hp => by
    obtain ⟨k, hk, rfl⟩ := List.getElem_of_mem hp
    have e : str ss k = ss[k] := by unfold str; rw [List.getElem?_eq_getElem hk]; rfl
    have hm := hg _ hp
    have h1 : (cutM ss s).testBit k = (cutM ss t).testBit k := by rw [he]
    rw [cutM_bit hk, cutM_bit hk, e, par_street ⟨hm.1, hm.2.1, by omega⟩, par_street ⟨hm.1, hm.2.1, by omega⟩] at h1
    show s.testBit ss[k].1.toNat = t.testBit ss[k].1.toNat ↔ s.testBit ss[k].2.toNat = t.testBit ss[k].2.toNat
    revert h1
    generalize s.testBit ss[k].1.toNat = a
    generalize s.testBit ss[k].2.toNat = b
    generalize t.testBit ss[k].1.toNat = c
    generalize t.testBit ss[k].2.toNat = d
    cases a <;> cases b <;> cases c <;> cases d <;> simp
  refine Nat.eq_of_testBit_eq fun j => ?_
  rcases Nat.lt_or_ge j n with hj | hj
  · have h1 := iterA_in (ss := ss) (fun p hp => ⟨(hg p hp).1, by have := hg p hp; omega⟩) hT n 1 (fun i hi => by
      have : i = 0 := by
        rcases Nat.eq_zero_or_pos i with h | h
        · exact h
        · rw [Nat.testBit_lt_two_pow (Nat.one_lt_two_pow (by omega))] at hi; cases hi
      subst this
      exact h0) j (by rw [← reach_iter, hr, Nat.testBit_two_pow_sub_one, decide_eq_true hj])
    simpa using h1
  · have := Nat.pow_le_pow_right (show 0 < 2 by decide) hj
    rw [Nat.testBit_lt_two_pow (by omega), Nat.testBit_lt_two_pow (by omega)]
theorem cut_flip {n : Nat} {ss : List (Int × Int)} (hn : n ≤ 6) (hg : ∀ p ∈ ss, 0 ≤ p.1 ∧ p.1 < p.2 ∧ p.2 < (n : Int)) (s : Nat) : cutM ss ((2 ^ n - 1) ^^^ s) = cutM ss s := Nat.eq_of_testBit_eq fun k => by
  rcases Nat.lt_or_ge k ss.length with hk | hk
  · have hm := hg _ (str_mem ss k hk)
    rw [cutM_bit hk, cutM_bit hk, par_street ⟨hm.1, hm.2.1, by omega⟩, par_street ⟨hm.1, hm.2.1, by omega⟩, Nat.testBit_xor, Nat.testBit_xor, Nat.testBit_two_pow_sub_one, Nat.testBit_two_pow_sub_one, decide_eq_true (by omega), decide_eq_true (by omega)]
    generalize s.testBit (str ss k).1.toNat = a
    generalize s.testBit (str ss k).2.toNat = b
    cases a <;> cases b <;> rfl
  · rw [cutM_out hk, cutM_out hk]
theorem par_flip {n : Nat} {ss : List (Int × Int)} (hn : n ≤ 6) (hg : ∀ p ∈ ss, 0 ≤ p.1 ∧ p.1 < p.2 ∧ p.2 < (n : Int)) (s : Nat) : par (((2 ^ n - 1) ^^^ s) &&& oddM ss (2 ^ ss.length - 1)) = par (s &&& oddM ss (2 ^ ss.length - 1)) := by
  rw [Nat.and_xor_distrib_right, par_xor]
  have h : par ((2 ^ n - 1) &&& oddM ss (2 ^ ss.length - 1)) = false := by
    unfold oddM
    rw [par_oddL (2 ^ n - 1) _ ss 0 0 (fun p hp => by
      have hm := hg p hp
      rw [par_street ⟨hm.1, hm.2.1, by omega⟩, Nat.testBit_two_pow_sub_one, Nat.testBit_two_pow_sub_one, decide_eq_true (by omega), decide_eq_true (by omega)]
      rfl), Nat.and_zero]
    exact par_zero
  rw [h, Bool.false_xor]
theorem raw_mem {n : Nat} {ss : List (Int × Int)} {x : Nat} : x ∈ rawM n ss ↔ ∃ s, s < 2 ^ n - 1 ∧ s.testBit 0 = true ∧ par (s &&& oddM ss (2 ^ ss.length - 1)) = true ∧ x = cutM ss s := by
  unfold rawM
  rw [List.mem_map]
  constructor
  · rintro ⟨s, hs, rfl⟩
    rw [List.mem_filter, List.mem_range] at hs
    obtain ⟨h1, h2⟩ := hs
    unfold oddS at h2
    rw [Bool.and_eq_true] at h2
    exact ⟨s, h1, h2.1, h2.2, rfl⟩
  · rintro ⟨s, h1, h2, h3, rfl⟩
    refine ⟨s, List.mem_filter.2 ⟨List.mem_range.2 h1, ?_⟩, rfl⟩
    unfold oddS
    rw [h2, h3]; rfl
/-- the program's cuts, one for each two sides, are the reference's: all lists of corners, without repeats. -/
theorem cuts_put {n : Nat} {ss : List (Int × Int)} (h1 : 1 ≤ n) (hn : n ≤ 6) (hl : ss.length ≤ 9) (hg : ∀ p ∈ ss, 0 ≤ p.1 ∧ p.1 < p.2 ∧ p.2 < (n : Int)) (hr : reachM ss (2 ^ ss.length - 1) n 1 = 2 ^ n - 1) : putAll n ss (allF n 0) [] = (cutsM n ss).map listM := by
  have h64 : 2 ^ n ≤ 64 := Nat.le_trans (Nat.pow_le_pow_right (by decide) hn) (by decide)
  have h2 : 2 ≤ 2 ^ n := by
    have := Nat.pow_le_pow_right (show 0 < 2 by decide) h1
    simpa using this
  have hlt : ∀ x ∈ cutsM n ss, x < 65536 := fun x hx => (cuts_good hl x hx).2
  have hnd : (cutsM n ss).Pairwise (· ≠ ·) := by
    have : (rawM n ss).Nodup := by
      unfold rawM
      show List.Pairwise _ _
      rw [List.pairwise_map]
      refine List.Pairwise.imp_of_mem (R := (· ≠ ·)) (fun {a b} ha hb hne he => hne ?_) (List.Pairwise.filter _ List.nodup_range)
      rw [List.mem_filter, List.mem_range] at ha hb
      obtain ⟨ha1, ha2⟩ := ha
      obtain ⟨hb1, hb2⟩ := hb
      unfold oddS at ha2 hb2
      rw [Bool.and_eq_true] at ha2 hb2
      exact cut_inj hn hg hr (by omega) (by omega) (by rw [ha2.1, hb2.1]) he
    exact ((sortS_perm (rawM n ss)).nodup_iff).2 this
  have hso : (cutsM n ss).Pairwise leS := sortS_sorted _
  have hS : ((cutsM n ss).map listM).Pairwise ltS := by
    rw [List.pairwise_map]
    refine List.Pairwise.imp_of_mem (R := fun a b => leS a b ∧ a ≠ b) (fun {a b} ha hb h => ?_) (hso.and hnd)
    have h3 : cmpL (listM a) (listM b) ≤ 0 := h.1
    have h4 : cmpL (listM a) (listM b) ≠ 0 := fun e => h.2 (listM_inj (hlt a ha) (hlt b hb) (cmpL_zero e))
    show cmpL (listM a) (listM b) < 0
    omega
  refine ltS_ext (putAll_sorted n ss _ _ List.Pairwise.nil) hS fun x => ?_
  rw [putAll_mem, List.mem_map]
  constructor
  · rintro (h | ⟨z, hz, hsd, hp, rfl⟩)
    · cases h
    · rw [(allF_zero n (by omega)).mem_iff, List.mem_map] at hz
      obtain ⟨s, hs, rfl⟩ := hz
      have hs := List.mem_range.1 hs
      rw [setM_list (by omega)] at hp ⊢
      rw [sd_list hn hs] at hsd
      have hs2 : ¬ (s = 0 ∨ s = 2 ^ n - 1) := fun h => by rw [if_pos h] at hsd; cases hsd
      refine ⟨cutM ss s, ((sortS_perm (rawM n ss)).mem_iff).2 (raw_mem.2 ?_), rfl⟩
      cases h0 : s.testBit 0
      · refine ⟨(2 ^ n - 1) ^^^ s, ?_, ?_, by rw [par_flip hn hg]; exact hp, (cut_flip hn hg s).symm⟩
        · have h3 : (2 ^ n - 1) ^^^ s < 2 ^ n := Nat.xor_lt_two_pow (by omega) hs
          have h4 : (2 ^ n - 1) ^^^ s ≠ 2 ^ n - 1 := fun e => by
            have : (2 ^ n - 1) ^^^ ((2 ^ n - 1) ^^^ s) = 0 := by rw [e, Nat.xor_self]
            rw [← Nat.xor_assoc, Nat.xor_self, Nat.zero_xor] at this
            exact hs2 (Or.inl this)
          omega
        · rw [Nat.testBit_xor, h0, Nat.testBit_two_pow_sub_one, decide_eq_true (by omega)]; rfl
      · exact ⟨s, by omega, h0, hp, rfl⟩
  · rintro ⟨x, hx, rfl⟩
    obtain ⟨s, hs, h0, hp, rfl⟩ := raw_mem.1 (((sortS_perm (rawM n ss)).mem_iff).1 hx)
    refine Or.inr ⟨listM s, (allF_zero n (by omega)).mem_iff.2 (List.mem_map.2 ⟨s, List.mem_range.2 (by omega), rfl⟩), ?_, ?_, ?_⟩
    · rw [sd_list hn (by omega), if_neg]
      rintro (e | e)
      · rw [e, Nat.zero_testBit] at h0; cases h0
      · omega
    · rw [setM_list (by omega)]; exact hp
    · rw [setM_list (by omega)]
/-- the reference's Cuts is the program's. -/
theorem pack_cuts {n : Nat} {ss : List (Int × Int)} (hl : ss.length ≤ 9) : provG (cutsM n ss) (cutsM n ss) (2 ^ ss.length - 1) = (packS (cutsM n ss)).map listM := by
  rw [prov_pack (cuts_good hl) (cutsM n ss) _ (fun x hx => hx) (fun d hd _ _ => hd)]
  refine congrArg (fun l => (packS l).map listM) (List.filter_eq_self.2 fun d hd => ?_)
  obtain ⟨s, _, _, _, rfl⟩ := raw_mem.1 (((sortS_perm (rawM n ss)).mem_iff).1 hd)
  refine decide_eq_true (within_iff.2 fun i hi => ?_)
  rcases Nat.lt_or_ge i ss.length with h | h
  · rw [Nat.testBit_two_pow_sub_one, decide_eq_true h]
  · rw [cutM_out h] at hi; cases hi
end
section
/-- lists of numbers at a, each one's own. -/
def LstO (w : World) (a : Option Addr) (zss : List (List Int)) : Prop :=
  ∀ j, j < zss.length → ∃ b off u, a = some ⟨b, off, none⟩ ∧ b < w.heap.size ∧ w.cell? ⟨b, off + j, none⟩ = some u ∧ Owns w 0 u (lth zss j)
theorem LstO.fut {w w' : World} {a : Option Addr} {zss : List (List Int)} (h : LstO w a zss) (F : Fut w w') : LstO w' a zss := fun j hj => by
  obtain ⟨b, off, u, rfl, h1, h2, h3⟩ := h j hj
  exact ⟨b, off, u, rfl, Nat.lt_of_lt_of_le h1 (RowKit.Below.size F), (RowKit.Below.cell F (p := ⟨b, off + j, none⟩) h1).trans h2, h3.fut F⟩
theorem LstO.lst {w : World} {a : Option Addr} {zss : List (List Int)} (h : LstO w a zss) : LstAt w a zss := fun j hj => by
  obtain ⟨b, off, u, rfl, h1, h2, h3⟩ := h j hj
  obtain ⟨l, lc, rfl, hI⟩ := h3.ints
  exact ⟨b, off, l, lc, rfl, h1, h2, hI⟩
theorem OwnX.form {w : World} {B : Nat} {v : Value} {zss : List (List Int)} (h : OwnX w B v zss) : ∃ a cap, v = .slice a zss.length cap ∧ zss.length ≤ cap ∧ LstO w a zss := by
  obtain ⟨vals, h1, h2, h3⟩ := h
  have h1' := h1
  rcases h1.2 with ⟨rfl, h0⟩ | ⟨g, cap, cur, rfl, hb, hg, hn, _⟩
  · exact ⟨none, 0, by rw [h0], by omega, fun j hj => by omega⟩
  · refine ⟨_, cap, rfl, hn, fun j hj => ?_⟩
    obtain ⟨u, e, hu⟩ := h3 j hj
    refine ⟨g, 0, u, rfl, (Array.getElem?_eq_some_iff.1 hg).1, ?_, hu⟩
    rw [Nat.zero_add, World.ownsRow.cellAt h1' j (by omega)]
    exact e
theorem Elems.takeE {w : World} {B : Nat} {vals : List Value} {zss : List (List Int)} (h : Elems w B vals zss) (k : Nat) : Elems w B (vals.take k) (zss.take k) := by
  refine ⟨by rw [List.length_take, List.length_take, h.1], fun j hj => ?_⟩
  rw [List.length_take] at hj
  obtain ⟨v, e, hv⟩ := h.2 j (by omega)
  refine ⟨v, by rw [List.getElem?_take_of_lt (by omega)]; exact e, ?_⟩
  rw [lth_eq, List.getElem?_take_of_lt (by omega)]
  exact hv
theorem Elems.dropE {w : World} {B : Nat} {vals : List Value} {zss : List (List Int)} (h : Elems w B vals zss) (k : Nat) : Elems w B (vals.drop k) (zss.drop k) := by
  refine ⟨by rw [List.length_drop, List.length_drop, h.1], fun j hj => ?_⟩
  rw [List.length_drop] at hj
  obtain ⟨v, e, hv⟩ := h.2 (k + j) (by omega)
  refine ⟨v, by rw [List.getElem?_drop]; exact e, ?_⟩
  rw [lth_eq, List.getElem?_drop]
  exact hv
theorem Elems.one {w : World} {u : Value} {zs : List Int} (h : Owns w 0 u zs) : Elems w 0 [u] [zs] := ⟨rfl, fun j hj => by
  obtain rfl : j = 0 := by simp at hj; exact hj
  exact ⟨u, rfl, h⟩⟩
theorem Elems.nil (w : World) : Elems w 0 [] [] := ⟨rfl, fun j hj => absurd hj (by simp)⟩
theorem slice_to (g n cap k : Nat) (h : k ≤ cap) (W : World) : (Instr.sliceAt 45 (.slice (some ⟨g, 0, none⟩) n cap) none (some (.int .i64 k)) none).run Try.prog W = .ok (.slice (some ⟨g, 0, none⟩) k cap) W := by
  have hu : Try.prog.underlying 45 = some (.slice (Try.prog.elem 45)) := by kernel_rfl
  have hs : (sizeOf (Try.prog.elem 45)).run Try.prog W = .ok 1 W := by kernel_rfl
  rw [run_sliceAt_slice _ _ _ _ _ _ hu, run_slice_h _ _ _ _ _ hu _ _ (by omega) (by omega), hs]
  simp [sliced, Result.andThen, Addr.add]
def offK (o k cap : Nat) : Nat := if cap = k then o else o + k
theorem slice_from (b o n cap k : Nat) (h : k ≤ n) (W : World) : (Instr.sliceAt 45 (.slice (some ⟨b, o, none⟩) n cap) (some (.int .i64 k)) none none).run Try.prog W = .ok (.slice (some ⟨b, offK o k cap, none⟩) (n - k) (cap - k)) W := by
  have hu : Try.prog.underlying 45 = some (.slice (Try.prog.elem 45)) := by kernel_rfl
  have hs : (sizeOf (Try.prog.elem 45)).run Try.prog W = .ok 1 W := by kernel_rfl
  rw [run_sliceAt_slice _ _ _ _ _ _ hu, run_slice_l _ _ _ _ _ hu _ _ (by omega) (by omega), hs]
  unfold offK
  simp [sliced, Result.andThen, Addr.add]
  split
  · rfl
  · split
    · subst k; rfl
    · rfl
theorem putF_at (x : List Int) : ∀ (l : List (List Int)) (k : Nat), k ≤ l.length → (∀ j, j < k → lessB (lth l j) x = true) → (k < l.length → lessB (lth l k) x = false) → putF x l = if k < l.length ∧ lessB x (lth l k) = false then l else l.take k ++ [x] ++ l.drop k
  | [], k, hk, _, _ => by
    obtain rfl : k = 0 := by simpa using hk
    rfl
  | y :: t, 0, _, _, h2 => by
    have h2 : ¬ cmpL y x < 0 := of_decide_eq_false (h2 (by simp))
    have e : lth (y :: t) 0 = y := rfl
    unfold putF
    rw [if_neg h2, e]
    by_cases h : cmpL x y < 0
    · rw [if_pos h, if_neg (fun h' => of_decide_eq_false h'.2 h)]; rfl
    · rw [if_neg h, if_pos ⟨by simp, decide_eq_false h⟩]
  | y :: t, k + 1, hk, h1, h2 => by
    have h0 : cmpL y x < 0 := of_decide_eq_true (h1 0 (by omega))
    have e : lth (y :: t) (k + 1) = lth t k := rfl
    have ih := putF_at x t k (by simpa using hk) (fun j hj => h1 (j + 1) (by omega)) (fun h => h2 (by simp; omega))
    unfold putF
    rw [if_pos h0, ih, e]
    by_cases h : k < t.length ∧ lessB x (lth t k) = false
    · rw [if_pos h, if_pos ⟨by simp; omega, h.2⟩]
    · rw [if_neg h, if_neg (fun h' => h ⟨by have := h'.1; simp at this; omega, h'.2⟩)]; rfl
set_option maxRecDepth 100000 in
set_option maxHeartbeats 4000000 in
/-- the reference's put. -/
theorem putR_any (a : Option Addr) (cap : Nat) (zss : List (List Int)) (d : Option Addr) (dap : Nat) (xs : List Int) (w : World) (hZ : OwnX w 0 (.slice a zss.length cap) zss) (hX : Owns w 0 (.slice d xs.length dap) xs) (hl : zss.length ≤ 64) (hle : ∀ k, (lth zss k).length ≤ 16) (hlx : xs.length ≤ 16) :
    Calls Try.prog 83 #[.slice a zss.length cap, .slice d xs.length dap] w fun e w' => ∃ v, e = .returned v ∧ OwnX w' 0 v (putF xs zss) ∧ Fut w w' := by
  obtain ⟨i1, hi1, hy0, hy1, hy2⟩ := info_parts info25
  have HZ := Lib.hid hZ
  have HX := Lib.hid hX
  have HLE := Lib.hid hle
  have hlz : (zss.length : Int) ≤ 64 := by omega
  have hXI : IntsAt w d xs := by
    obtain ⟨d', dap', e, hI⟩ := hX.ints
    simp only [Value.slice.injEq] at e
    obtain ⟨rfl, _, rfl⟩ := e
    exact hI
  have HLS := Lib.hid (fun (l : Option Addr) (lc : Nat) (zs : List Int) (W : World) (F : Fut w W) (hI : IntsAt W l zs) (h : zs.length ≤ 16) => lessR_any l d lc dap zs xs W (by omega) (by omega) hI (hXI.fut F))
  have HLT := Lib.hid (fun (l : Option Addr) (lc : Nat) (zs : List Int) (W : World) (F : Fut w W) (hI : IntsAt W l zs) (h : zs.length ≤ 16) => lessR_any d l dap lc xs zs W (by omega) (by omega) (hXI.fut F) hI)
  have HPUT := Lib.hid (putF_at xs zss)
  obtain ⟨a', cap', e, hnc, hL⟩ := hZ.form
  simp only [Value.slice.injEq] at e
  obtain ⟨rfl, _, rfl⟩ := e
  have HL := Lib.hid hL.lst
  have hcase : (a = none ∧ cap = 0 ∧ zss = []) ∨ ∃ g, a = some ⟨g, 0, none⟩ := by
    obtain ⟨vals, h1, h2⟩ := hZ
    rcases h1.2 with ⟨h, h0⟩ | ⟨g, c, cur, h, _⟩
    · simp only [Value.slice.injEq] at h
      exact Or.inl ⟨h.1, h.2.2, List.length_eq_zero_iff.1 h0⟩
    · simp only [Value.slice.injEq] at h
      exact Or.inr ⟨g, h.1⟩
  clear hZ hX hle hXI hL
  generalize hRR : putF xs zss = R at *
  have HRR := Lib.hid hRR
  clear hRR
  rcases hcase with ⟨rfl, rfl, rfl⟩ | ⟨g, rfl⟩
  · have hR1 : R = [xs] := HRR.out.symm.trans rfl
    clear HRR HPUT HL HLS HLT HLE HZ
    go_enter Try.func83, Try.ntmps83
    go_wp2_with fail
    go_loopw [5] (fun iv wx => iv = .int .i64 0 ∧ wx = w) (fun _ _ => 0)
    case atStart => exact ⟨rfl, rfl⟩
    case round =>
      obtain ⟨rfl, rfl⟩ := hrel
      go_upto_region 7 with fail
      have HW0 : (wr.alloc (.cells #[] 25)).ownsRow wr.heap.size 25 1 (.slice (some ⟨wr.heap.size, 0, none⟩) 0 0) 0 [] := World.ownsRow_lit (base := wr.heap.size) (e := 25) (size := 1) wr #[] 0 (Nat.le_refl _) (by unfold maxLen; omega) rfl
      have F0 : Fut wr (wr.alloc (.cells #[] 25)) := Fut.alloc _ _
      generalize wr.alloc (.cells #[] 25) = w6 at *
      have hH := RowKit.Below.size F0
      have HF0 := Lib.hid F0
      clear F0
      generalize hHH : wr.heap.size = H at *
      have HHH := Lib.hid hHH
      clear hHH
      have HW1 : (w6.alloc (.cells #[.slice d xs.length dap] 25)).ownsRow H 25 1 (.slice (some ⟨H, 0, none⟩) 0 0) 0 [] := World.ownsRow.alloc HW0 _
      have FW1 : Fut wr (w6.alloc (.cells #[.slice d xs.length dap] 25)) := HF0.out.trans (Fut.alloc _ _)
      have HX6 := Lib.hid (HX.out.fut FW1)
      clear HW0
      go_wp2_with (at_builtin; refine wpList_append_own_at _ rfl _ _ 45 rfl H 25 i1 (.slice none 0 0) 1 24 Try.underlying45 hi1 hy0 hy1 hy2 rfl (by decide) _ 0 [] rfl HW1 ⟨w6.heap.size, 0, none⟩ 1 1 [.slice d xs.length dap] rfl rfl (cell_one (by simp [go_sem])) (by simp [Value.oneCell']) (by unfold maxLen; omega) (by omega) (by simp; omega) ?_)
      intro v7 w7 hown7 hgrow7 _ _
      have HE7 := (Elems.nil _).cat (Elems.one HX6.out) HW1 hgrow7
      have HFIN : Hid (OwnX w7 0 v7 R) := Lib.hid (by
        rw [hR1]
        exact OwnX.base (B := H) ⟨_, hown7, HE7⟩ (Nat.zero_le _))
      have HF7 := Lib.hid (RowKit.Below.grown FW1 hgrow7 (RowKit.Below.size FW1) fun q hq => by rw [HHH.out]; exact (World.ownsRow.lt HW1 q hq).1)
      have HO7 := Lib.hid hown7
      clear hown7 hgrow7 HE7 HW1 FW1 HX6
      go_wp2_with (at_builtin; refine wpList_append_own_none rfl _ _ 45 rfl H 25 i1 1 Try.underlying45 hi1 _ _ _ rfl HO7.out rfl ?_)
      go_wp2
      go_ret
      exact ⟨_, rfl, HFIN.out, HF7.out⟩
  · go_enter Try.func83, Try.ntmps83
    go_wp2_with fail
    go_loopw [5] (fun iv wx => ∃ k : Nat, k ≤ zss.length ∧ iv = .int .i64 k ∧ Hid (∀ j, j < k → lessB (lth zss j) xs = true) ∧ Hid (Fut w wx)) (fun iv _ => zss.length - (intOf iv).toNat)
    case atStart => exact ⟨0, Nat.zero_le _, rfl, Lib.hid (fun j hj => absurd hj (by omega)), Lib.hid Fut.rfl⟩
    case round =>
      obtain ⟨k, hk, rfl, HLO, HF⟩ := hrel
      by_cases hlt : k < zss.length
      · have hkx : (k : Int) < zss.length := by omega
        obtain ⟨b, off, l, lc, ea, hb, c1, hI⟩ := (HL.out.fut HF.out) k hlt
        simp only [Option.some.injEq, Addr.mk.injEq, and_true] at ea
        obtain ⟨rfl, rfl⟩ := ea
        rw [Nat.zero_add] at c1
        have hzl := HLE.out k
        have HC1 : Hid (∀ W, Fut wr W → W.cell? ⟨g, k, none⟩ = some (.slice l (lth zss k).length lc)) := Lib.hid (fun W F => (RowKit.Below.cell F (p := ⟨g, k, none⟩) hb).trans c1)
        have HW1 : Hid (Calls Try.prog 105 #[.slice l (lth zss k).length lc, .slice d xs.length dap] wr fun e w' => e = .returned (.bool (lessB (lth zss k) xs)) ∧ Fut wr w') := Lib.hid ((HLS.out l lc (lth zss k) wr HF.out hI hzl).mono fun e w' (h : _ ∧ ∃ q, w' = wr.drewN q) => ⟨h.1, by obtain ⟨_, q, rfl⟩ := h; exact Fut.drewN _ _⟩)
        have HW2 : Hid (∀ W, Fut wr W → Calls Try.prog 105 #[.slice d xs.length dap, .slice l (lth zss k).length lc] W fun e w' => e = .returned (.bool (lessB xs (lth zss k))) ∧ Fut W w') := Lib.hid (fun W F => (HLT.out l lc (lth zss k) W (HF.out.trans F) (hI.fut F) hzl).mono fun e w' (h : _ ∧ ∃ q, w' = W.drewN q) => ⟨h.1, by obtain ⟨_, q, rfl⟩ := h; exact Fut.drewN _ _⟩)
        clear hI HLS HLT
        cases hle : lessB (lth zss k) xs
        · have hnl : lessB (lth zss k) xs = false := hle
          rw [hle] at HW1
          cases hle2 : lessB xs (lth zss k)
          · have hnl2 : lessB xs (lth zss k) = false := hle2
            have hRT : R = zss := ((HPUT.out k hk HLO.out (fun _ => hnl)).trans (if_pos ⟨hlt, hnl2⟩))
            subst hRT
            rw [hle2] at HW2
            clear HPUT hnl hnl2 hle hle2 HRR HLO
            go_wp2_with fail
            refine HW1.out.mono ?_
            rintro _ w4 ⟨rfl, F4⟩
            have c4 := HC1.out w4 F4
            go_wp2_with fail
            refine (HW2.out w4 F4).mono ?_
            rintro _ w5 ⟨rfl, F5⟩
            have HF5 := Lib.hid (HF.out.trans (F4.trans F5))
            clear F4 F5 c4 c1
            go_wp2
            go_ret
            exact ⟨_, rfl, HZ.out.fut HF5.out, HF5.out⟩
          · have hnl2 : lessB xs (lth zss k) = true := hle2
            have hRT : R = zss.take k ++ [xs] ++ zss.drop k := ((HPUT.out k hk HLO.out (fun _ => hnl)).trans (if_neg (fun h => by have h := h.2; rw [hnl2] at h; cases h)))
            rw [hle2] at HW2
            clear HPUT hnl hnl2 hle hle2 HRR HLO
            go_wp2_with fail
            refine HW1.out.mono ?_
            rintro _ w4 ⟨rfl, F4⟩
            have c4 := HC1.out w4 F4
            go_wp2_with fail
            refine (HW2.out w4 F4).mono ?_
            rintro _ w5 ⟨rfl, F5⟩
            have HF5 := Lib.hid (HF.out.trans (F4.trans F5))
            clear F4 F5 c4 c1 HW1 HW2 HC1 HF hb
            obtain ⟨vals, hrow, hel⟩ := HZ.out.fut HF5.out
            have hvl : vals.length = zss.length := hel.1
            have hgb : g < w5.heap.size := (World.ownsRow.lt hrow g rfl).2
            have hcl := World.ownsRow.cells hrow (g := g) rfl
            have hsl := fun W => slice_to g zss.length cap k (by omega) W
            have hsf := fun W => slice_from g 0 zss.length cap k (by omega) W
            have HEL := Lib.hid hel
            have HCL := Lib.hid hcl
            clear hrow hel hcl
            have HW0 : (w5.alloc (.cells #[] 25)).ownsRow w5.heap.size 25 1 (.slice (some ⟨w5.heap.size, 0, none⟩) 0 0) 0 [] := World.ownsRow_lit (base := w5.heap.size) (e := 25) (size := 1) w5 #[] 0 (Nat.le_refl _) (by unfold maxLen; omega) rfl
            have FW0 : Fut w5 (w5.alloc (.cells #[] 25)) := Fut.alloc _ _
            have HNW : ∀ j u, (vals.take k)[j]? = some u → (w5.alloc (.cells #[] 25)).cell? ((⟨g, 0, none⟩ : Addr).add j) = some u := fun j u hj => by
              have hjl := (List.getElem?_eq_some_iff.1 hj).1
              rw [List.length_take] at hjl
              rw [List.getElem?_take_of_lt (by omega)] at hj
              have := HCL.out j u hj
              rw [Addr.add_lit] at this ⊢
              exact (RowKit.Below.cell FW0 (p := ⟨g, 0 + j, none⟩) hgb).trans this
            have hoc := HEL.out.cells
            go_wp2_with (at_builtin; refine wpList_append_own_at _ rfl _ _ 45 rfl w5.heap.size 25 i1 (.slice none 0 0) 1 24 Try.underlying45 hi1 hy0 hy1 hy2 rfl (by decide) _ 0 [] rfl HW0 ⟨g, 0, none⟩ k cap (vals.take k) rfl (by rw [List.length_take]; omega) HNW (fun u hu => hoc u (List.mem_of_mem_take hu)) (by unfold maxLen; omega) (by omega) (RowKit.Below.size FW0) ?_)
            intro v6 w6 hown6 hgrow6 _ _
            have F6 : Fut w5 w6 := RowKit.Below.grown FW0 hgrow6 (RowKit.Below.size FW0) fun q hq => (World.ownsRow.lt HW0 q hq).1
            have HE6 : Hid (Elems w6 0 (vals.take k) (zss.take k)) := Lib.hid ((Elems.nil _).cat ((HEL.out.fut FW0).takeE k) HW0 hgrow6)
            have HW1 : (w6.alloc (.cells #[.slice d xs.length dap] 25)).ownsRow w5.heap.size 25 1 v6 k (vals.take k) := World.ownsRow.alloc (by first | exact hown6 | simpa using hown6) _
            have FW1 : Fut w5 (w6.alloc (.cells #[.slice d xs.length dap] 25)) := F6.trans (Fut.alloc _ _)
            have HE6A := Lib.hid (HE6.out.fut (Fut.alloc w6 (.cells #[.slice d xs.length dap] 25)))
            have HX6 := Lib.hid (HX.out.fut (HF5.out.trans FW1))
            clear HNW HW0 FW0 hgrow6 hown6 HE6 hsl
            go_wp2_with (at_builtin; refine wpList_append_own_at _ rfl _ _ 45 rfl w5.heap.size 25 i1 (.slice none 0 0) 1 24 Try.underlying45 hi1 hy0 hy1 hy2 rfl (by decide) _ k (vals.take k) rfl HW1 ⟨w6.heap.size, 0, none⟩ 1 1 [.slice d xs.length dap] rfl rfl (cell_one (by simp [go_sem])) (by simp [Value.oneCell']) (by unfold maxLen; omega) (by omega) (RowKit.Below.size FW1) ?_)
            intro v7 w7 hown7 hgrow7 _ _
            have F7 : Fut w5 w7 := RowKit.Below.grown FW1 hgrow7 (RowKit.Below.size FW1) fun q hq => (World.ownsRow.lt HW1 q hq).1
            have HE7 := Lib.hid (HE6A.out.cat (Elems.one HX6.out) HW1 hgrow7)
            have HOW7 : Hid (w7.ownsRow w5.heap.size 25 1 v7 (k + 1) (vals.take k ++ [.slice d xs.length dap])) := Lib.hid (by first | exact hown7 | simpa using hown7)
            have HF7 := Lib.hid F7
            have HNW : ∀ j u, (vals.drop k)[j]? = some u → w7.cell? ((⟨g, offK 0 k cap, none⟩ : Addr).add j) = some u := fun j u hj => by
              have hjl := (List.getElem?_eq_some_iff.1 hj).1
              rw [List.length_drop] at hjl
              rw [List.getElem?_drop] at hj
              have := HCL.out (k + j) u hj
              have ho : offK 0 k cap = k := by unfold offK; rw [if_neg (by omega)]; omega
              rw [Addr.add_lit] at this ⊢
              rw [ho]
              rw [Nat.zero_add] at this
              exact (RowKit.Below.cell HF7.out (p := ⟨g, k + j, none⟩) hgb).trans this
            clear HW1 FW1 hgrow7 hown7 HE6A HX6 F6 F7
            go_wp2_with (at_builtin; refine wpList_append_own_at _ rfl _ _ 45 rfl w5.heap.size 25 i1 (.slice none 0 0) 1 24 Try.underlying45 hi1 hy0 hy1 hy2 rfl (by decide) _ (k + 1) (vals.take k ++ [Value.slice d xs.length dap]) rfl HOW7.out ⟨g, offK 0 k cap, none⟩ (zss.length - k) (cap - k) (vals.drop k) rfl (by rw [List.length_drop]; omega) HNW (fun u hu => hoc u (List.mem_of_mem_drop hu)) (by unfold maxLen; omega) (by omega) (RowKit.Below.size HF7.out) ?_)
            intro v8 w8 hown8 hgrow8 _ _
            have HE8 := HE7.out.cat ((HEL.out.fut HF7.out).dropE k) HOW7.out hgrow8
            have F8 : Fut w5 w8 := RowKit.Below.grown HF7.out hgrow8 (RowKit.Below.size HF7.out) fun q hq => (World.ownsRow.lt HOW7.out q hq).1
            have HFIN : Hid (OwnX w8 0 v8 R) := Lib.hid (by
              rw [hRT]
              refine OwnX.base (B := w5.heap.size) ⟨_, ?_, HE8⟩ (Nat.zero_le _)
              have hlen : (zss.take k ++ [xs] ++ zss.drop k).length = k + 1 + (zss.length - k) := by rw [List.length_append, List.length_append, List.length_take, List.length_drop, List.length_singleton]; omega
              rw [hlen]
              first | exact hown8 | simpa using hown8)
            have HF8 := Lib.hid (HF5.out.trans F8)
            clear HE8 F8 hown8 hgrow8 HNW HE7 HOW7 HF7 hoc hsf
            go_wp2
            go_ret
            exact ⟨_, rfl, HFIN.out, HF8.out⟩
        · have hnl : lessB (lth zss k) xs = true := hle
          rw [hle] at HW1
          have HLO2 : Hid (∀ j, j < k + 1 → lessB (lth zss j) xs = true) := Lib.hid (fun j hj => by
            rcases Nat.lt_or_ge j k with h | h
            · exact HLO.out j h
            · obtain rfl : j = k := by omega
              exact hnl)
          clear HPUT hnl hle HLO HW2
          go_wp2_with fail
          refine HW1.out.mono ?_
          rintro _ w4 ⟨rfl, F4⟩
          have HF4 := Lib.hid (HF.out.trans F4)
          go_wp2
          go_roundw
          case rel => exact ⟨k + 1, by omega, by go_num, HLO2, HF4⟩
          case measure => simp [intOf]; omega
      · have hkx : ¬ (k : Int) < zss.length := by omega
        have hRT : R = zss.take k ++ [xs] ++ zss.drop k := ((HPUT.out k hk HLO.out (fun h => absurd h hlt)).trans (if_neg (fun h => absurd h.1 hlt)))
        clear HPUT HRR HLO HLS HLT HL
        obtain ⟨vals, hrow, hel⟩ := HZ.out.fut HF.out
        have hvl : vals.length = zss.length := hel.1
        have hgb : g < wr.heap.size := (World.ownsRow.lt hrow g rfl).2
        have hcl := World.ownsRow.cells hrow (g := g) rfl
        have hsl := fun W => slice_to g zss.length cap k (by omega) W
        have hsf := fun W => slice_from g 0 zss.length cap k (by omega) W
        have HEL := Lib.hid hel
        have HCL := Lib.hid hcl
        clear hrow hel hcl
        have HW0 : (wr.alloc (.cells #[] 25)).ownsRow wr.heap.size 25 1 (.slice (some ⟨wr.heap.size, 0, none⟩) 0 0) 0 [] := World.ownsRow_lit (base := wr.heap.size) (e := 25) (size := 1) wr #[] 0 (Nat.le_refl _) (by unfold maxLen; omega) rfl
        have FW0 : Fut wr (wr.alloc (.cells #[] 25)) := Fut.alloc _ _
        have HNW : ∀ j u, (vals.take k)[j]? = some u → (wr.alloc (.cells #[] 25)).cell? ((⟨g, 0, none⟩ : Addr).add j) = some u := fun j u hj => by
          have hjl := (List.getElem?_eq_some_iff.1 hj).1
          rw [List.length_take] at hjl
          rw [List.getElem?_take_of_lt (by omega)] at hj
          have := HCL.out j u hj
          rw [Addr.add_lit] at this ⊢
          exact (RowKit.Below.cell FW0 (p := ⟨g, 0 + j, none⟩) hgb).trans this
        have hoc := HEL.out.cells
        go_wp2_with (at_builtin; refine wpList_append_own_at _ rfl _ _ 45 rfl wr.heap.size 25 i1 (.slice none 0 0) 1 24 Try.underlying45 hi1 hy0 hy1 hy2 rfl (by decide) _ 0 [] rfl HW0 ⟨g, 0, none⟩ k cap (vals.take k) rfl (by rw [List.length_take]; omega) HNW (fun u hu => hoc u (List.mem_of_mem_take hu)) (by unfold maxLen; omega) (by omega) (RowKit.Below.size FW0) ?_)
        intro v6 w6 hown6 hgrow6 _ _
        have F6 : Fut wr w6 := RowKit.Below.grown FW0 hgrow6 (RowKit.Below.size FW0) fun q hq => (World.ownsRow.lt HW0 q hq).1
        have HE6 : Hid (Elems w6 0 (vals.take k) (zss.take k)) := Lib.hid ((Elems.nil _).cat ((HEL.out.fut FW0).takeE k) HW0 hgrow6)
        have HW1 : (w6.alloc (.cells #[.slice d xs.length dap] 25)).ownsRow wr.heap.size 25 1 v6 k (vals.take k) := World.ownsRow.alloc (by first | exact hown6 | simpa using hown6) _
        have FW1 : Fut wr (w6.alloc (.cells #[.slice d xs.length dap] 25)) := F6.trans (Fut.alloc _ _)
        have HE6A := Lib.hid (HE6.out.fut (Fut.alloc w6 (.cells #[.slice d xs.length dap] 25)))
        have HX6 := Lib.hid (HX.out.fut (HF.out.trans FW1))
        clear HNW HW0 FW0 hgrow6 hown6 HE6 hsl
        go_wp2_with (at_builtin; refine wpList_append_own_at _ rfl _ _ 45 rfl wr.heap.size 25 i1 (.slice none 0 0) 1 24 Try.underlying45 hi1 hy0 hy1 hy2 rfl (by decide) _ k (vals.take k) rfl HW1 ⟨w6.heap.size, 0, none⟩ 1 1 [.slice d xs.length dap] rfl rfl (cell_one (by simp [go_sem])) (by simp [Value.oneCell']) (by unfold maxLen; omega) (by omega) (RowKit.Below.size FW1) ?_)
        intro v7 w7 hown7 hgrow7 _ _
        have F7 : Fut wr w7 := RowKit.Below.grown FW1 hgrow7 (RowKit.Below.size FW1) fun q hq => (World.ownsRow.lt HW1 q hq).1
        have HE7 := Lib.hid (HE6A.out.cat (Elems.one HX6.out) HW1 hgrow7)
        have HOW7 : Hid (w7.ownsRow wr.heap.size 25 1 v7 (k + 1) (vals.take k ++ [.slice d xs.length dap])) := Lib.hid (by first | exact hown7 | simpa using hown7)
        have HF7 := Lib.hid F7
        have HNW : ∀ j u, (vals.drop k)[j]? = some u → w7.cell? ((⟨g, offK 0 k cap, none⟩ : Addr).add j) = some u := fun j u hj => by
          have hjl := (List.getElem?_eq_some_iff.1 hj).1
          rw [List.length_drop] at hjl
          rw [List.getElem?_drop] at hj
          have := HCL.out (k + j) u hj
          have ho : offK 0 k cap = k := by unfold offK; rw [if_neg (by omega)]; omega
          rw [Addr.add_lit] at this ⊢
          rw [ho]
          rw [Nat.zero_add] at this
          exact (RowKit.Below.cell HF7.out (p := ⟨g, k + j, none⟩) hgb).trans this
        clear HW1 FW1 hgrow7 hown7 HE6A HX6 F6 F7
        go_wp2_with (at_builtin; refine wpList_append_own_at _ rfl _ _ 45 rfl wr.heap.size 25 i1 (.slice none 0 0) 1 24 Try.underlying45 hi1 hy0 hy1 hy2 rfl (by decide) _ (k + 1) (vals.take k ++ [Value.slice d xs.length dap]) rfl HOW7.out ⟨g, offK 0 k cap, none⟩ (zss.length - k) (cap - k) (vals.drop k) rfl (by rw [List.length_drop]; omega) HNW (fun u hu => hoc u (List.mem_of_mem_drop hu)) (by unfold maxLen; omega) (by omega) (RowKit.Below.size HF7.out) ?_)
        intro v8 w8 hown8 hgrow8 _ _
        have HE8 := HE7.out.cat ((HEL.out.fut HF7.out).dropE k) HOW7.out hgrow8
        have F8 : Fut wr w8 := RowKit.Below.grown HF7.out hgrow8 (RowKit.Below.size HF7.out) fun q hq => (World.ownsRow.lt HOW7.out q hq).1
        have HFIN : Hid (OwnX w8 0 v8 R) := Lib.hid (by
          rw [hRT]
          refine OwnX.base (B := wr.heap.size) ⟨_, ?_, HE8⟩ (Nat.zero_le _)
          have hlen : (zss.take k ++ [xs] ++ zss.drop k).length = k + 1 + (zss.length - k) := by rw [List.length_append, List.length_append, List.length_take, List.length_drop, List.length_singleton]; omega
          rw [hlen]
          first | exact hown8 | simpa using hown8)
        have HF8 := Lib.hid (HF.out.trans F8)
        clear HE8 F8 hown8 hgrow8 HNW HE7 HOW7 HF7 hoc hsf
        go_wp2
        go_ret
        exact ⟨_, rfl, HFIN.out, HF8.out⟩
end
section
theorem packF_len : ∀ (n : Nat) (l : List Nat), (packF n l).length ≤ l.length
  | 0, _ => Nat.zero_le _
  | _ + 1, [] => Nat.zero_le _
  | n + 1, c :: t => by
    have h1 := packF_len n t
    have h2 := packF_len n (t.filter fun d => c &&& d == 0)
    have h3 := List.length_filter_le (fun d => c &&& d == 0) t
    unfold packF
    split
    · rw [List.length_cons]; omega
    · rw [List.length_cons, List.length_cons]; omega
theorem OwnX.src {w : World} {B : Nat} {u : Value} {zss : List (List Int)} (h : OwnX w B u zss) : ∃ vals, Elems w 0 vals zss ∧ ((u = .slice none 0 0 ∧ zss.length = 0 ∧ vals = []) ∨ ∃ ad c, u = .slice (some ad) zss.length c ∧ vals.length = zss.length * 1 ∧ (∀ j x, vals[j]? = some x → w.cell? (ad.add j) = some x) ∧ ∀ x ∈ vals, x.oneCell' = true) := by
  obtain ⟨vals, h1, h2⟩ := h
  refine ⟨vals, h2, ?_⟩
  have h1' := h1
  rcases h1.2 with ⟨rfl, h0⟩ | ⟨g, cap, cur, rfl, _⟩
  · have hv : vals = [] := List.length_eq_zero_iff.1 (by have := h2.1; omega)
    exact .inl ⟨rfl, h0, hv⟩
  · exact .inr ⟨⟨g, 0, none⟩, cap, rfl, by rw [Nat.mul_one]; exact h2.1, World.ownsRow.cells h1' (g := g) rfl, h2.cells⟩
theorem step_append_src {w : World} {ops : Array Oper} {o : Oper} {a : Act} {K : Act → World → Prop} {Q : Exit → Act → World → Prop} {E : Prop} (hgd : o.guard = none) (s x : Operand) (t : TypeId)
    (ho : o.op = .call { callee := .builtin .append, args := #[s, x], argTypes := #[t, t] })
    (base : Nat) (e : TypeId) (i : TypeInfo) (z : Value) (bytes : Nat) (ht : Try.prog.underlying t = some (.slice e)) (hi : Try.prog.info? e = some i) (hz : i.zero = some z)
    (hsize : i.size = 1) (hby : i.bytes = bytes) (hzs : z.cells.size = 1)
    (v : Value) (n : Nat) (xs : List Value) (hs : a.eval s = v) (hown : w.ownsRow base e 1 v n xs)
    (u : Value) (m : Nat) (news : List Value) (hx : a.eval x = u) (hu : (u = .slice none 0 0 ∧ m = 0 ∧ news = []) ∨ ∃ ad c, u = .slice (some ad) m c ∧ news.length = m * 1 ∧ (∀ j x, news[j]? = some x → w.cell? (ad.add j) = some x) ∧ ∀ x ∈ news, x.oneCell' = true)
    (h63 : n + m ≤ maxLen) (hbytes : (n + m) * bytes ≤ 140737488355328) (hbase : base ≤ w.heap.size)
    (h : ∀ av ac w', w'.ownsRow base e 1 (.slice av (n + m) ac) (n + m) (xs ++ news) → w.grownBy w' v.ownBlock → K (a.put o.dst (.slice av (n + m) ac)) w') :
    if Region.wanted o (yielded ops a.tmps) = true then Oper.wp Try.prog o a w K Q else E := by
  have hw : Region.wanted o (yielded ops a.tmps) = true := by simp [Region.wanted, hgd]
  rw [if_pos hw]
  have form : ∀ (w' : World) (v' : Value) (k : Nat) (ys : List Value), w'.ownsRow base e 1 v' k ys → ∃ av ac, v' = .slice av k ac := fun w' v' k ys hh => by
    rcases hh.2 with ⟨rfl, h0⟩ | ⟨g, cap, cur, rfl, _⟩
    · exact ⟨none, 0, by rw [h0]⟩
    · exact ⟨_, _, rfl⟩
  rcases hu with ⟨rfl, rfl, rfl⟩ | ⟨ad, c, rfl, hl, hnews, h1⟩
  · have hrun := run_append_owned_none (P := Try.prog) (w := w) base t o.type e i 1 ht hi v n xs hown
    unfold Oper.wp execOp
    simp only [ho, resolve, invoke, builtin, Sem.run_bind, Sem.run_pure, Result.andThen_ok, List.map_toArray, List.map_cons, List.map_nil, hs, hx, hrun]
    obtain ⟨av, ac, rfl⟩ := form w v n xs hown
    refine h av ac w (by simpa using hown) ?_
    exact World.grownBy.refl _ _
  · obtain ⟨v', w', hr, h2, h3, _, _⟩ := run_append_own_at (P := Try.prog) w base t o.type e i z 1 bytes ht hi hz hsize hby hzs (by decide) v n xs hown ad m c news hl hnews h1 h63 hbytes hbase
    obtain ⟨av, ac, rfl⟩ := form w' v' _ _ h2
    unfold Oper.wp execOp
    simp only [ho, resolve, invoke, builtin, Sem.run_bind, Sem.run_pure, Result.andThen_ok, List.map_toArray, List.map_cons, List.map_nil, hs, hx, hr]
    exact h av ac w' h2 h3
def nthC (C : List Nat) (j : Nat) : Nat := C[j]?.getD 0
theorem nthC_lth {C : List Nat} {j : Nat} (h : j < C.length) : lth (C.map listM) j = listM (nthC C j) := by
  unfold nthC
  rw [lth_eq, List.getElem?_map, List.getElem?_eq_getElem h]; rfl
theorem nthC_mem {C : List Nat} {j : Nat} (h : j < C.length) : nthC C j ∈ C := by
  unfold nthC
  rw [List.getElem?_eq_getElem h]
  exact List.getElem_mem h
theorem nthC_take {t : List Nat} {c k : Nat} (hk : 0 < k) (h : k < t.length + 1) : t.take k = t.take (k - 1) ++ [nthC (c :: t) k] := by
  obtain ⟨j, rfl⟩ : ∃ j, k = j + 1 := ⟨k - 1, by omega⟩
  have hj : j < t.length := by omega
  rw [Nat.add_sub_cancel, List.take_succ_eq_append_getElem hj]
  unfold nthC
  rw [List.getElem?_cons_succ, List.getElem?_eq_getElem hj]; rfl
def PackP (n : Nat) (R : List (List Int)) (w : World) (e : Ending) (w' : World) : Prop := ∃ ua uc, e = .returned (.slice ua n uc) ∧ OwnX w' 0 (.slice ua n uc) R ∧ Fut w w'
set_option maxRecDepth 100000 in
set_option maxHeartbeats 8000000 in
/-- the reference's packed. -/
theorem packR_any : ∀ (n : Nat) (C : List Nat) (a : Option Addr) (cap : Nat) (w : World), C.length = n → n ≤ 64 → n ≤ cap → (∀ c ∈ C, c < 65536) → LstO w a (C.map listM) →
    Calls Try.prog 84 #[.slice a n cap] w (PackP (packS C).length ((packS C).map listM) w) := by
  intro n
  induction n using Nat.strongRecOn with
  | ind n ih =>
    intro C a cap w hn h64 hcap hC hL
    cases C with
    | nil =>
      obtain rfl : n = 0 := hn.symm
      clear ih hL hC hn
      go_enter Try.func84, Try.ntmps84
      go_wp2
      go_ret
      exact ⟨none, 0, rfl, OwnX.nil _ _, Fut.rfl⟩
    | cons c t =>
      obtain ⟨m, rfl⟩ : ∃ m, n = m + 1 := ⟨t.length, hn.symm⟩
      have hm : t.length = m := by simpa using hn
      obtain ⟨i1, hi1, hy0, hy1, hy2⟩ := info_parts info25
      obtain ⟨b, off, u0, rfl, hb, c0, hO0⟩ := hL 0 (by simp)
      have HCL : Hid (∀ W, Fut w W → ∀ j, j < m + 1 → ∃ l lc, W.cell? ⟨b, off + j, none⟩ = some (.slice l (listM (nthC (c :: t) j)).length lc) ∧ Owns W 0 (.slice l (listM (nthC (c :: t) j)).length lc) (listM (nthC (c :: t) j))) := Lib.hid (fun W F j hj => by
        obtain ⟨b', off', u, e, hb', c', hO⟩ := (hL.fut F) j (by rw [List.length_map]; omega)
        simp only [Option.some.injEq, Addr.mk.injEq, and_true] at e
        obtain ⟨rfl, rfl⟩ := e
        rw [nthC_lth (by omega)] at hO
        obtain ⟨l, lc, rfl, _⟩ := hO.ints
        exact ⟨l, lc, c', hO⟩)
      have HLT : Hid (∀ W, Fut w W → LstO W (some ⟨b, offK off 1 cap, none⟩) (t.map listM)) := Lib.hid (fun W F j hj => by
        rw [List.length_map] at hj
        obtain ⟨b', off', u, e, hb', c', hO⟩ := (hL.fut F) (j + 1) (by rw [List.length_map]; omega)
        simp only [Option.some.injEq, Addr.mk.injEq, and_true] at e
        obtain ⟨rfl, rfl⟩ := e
        refine ⟨b, offK off 1 cap, u, rfl, hb', ?_, hO⟩
        unfold offK
        rw [if_neg (by omega), Nat.add_assoc, Nat.add_comm 1 j]
        exact c')
      have HC : Hid (∀ j, j < m + 1 → nthC (c :: t) j < 65536) := Lib.hid (fun j hj => hC _ (nthC_mem (by simpa using (by omega : j < t.length + 1))))
      have HCT : Hid (∀ x ∈ t, x < 65536) := Lib.hid (fun x hx => hC x (List.mem_cons_of_mem _ hx))
      have hc0 : c < 65536 := hC c (List.mem_cons_self ..)
      have HTK : Hid (∀ k, 0 < k → k < m + 1 → t.take k = t.take (k - 1) ++ [nthC (c :: t) k]) := Lib.hid (fun k h1 h2 => nthC_take h1 (by omega))
      have HFL : Hid ((t.filter fun d => c &&& d == 0).length ≤ m) := Lib.hid (by rw [← hm]; exact List.length_filter_le _ _)
      have HIR : Hid (∀ (a : Option Addr) (cap : Nat) (rn : Nat) (W : World), (t.filter fun d => c &&& d == 0).length = rn → rn ≤ cap → LstO W a ((t.filter fun d => c &&& d == 0).map listM) → Calls Try.prog 84 #[.slice a rn cap] W (PackP (packS (t.filter fun d => c &&& d == 0)).length ((packS (t.filter fun d => c &&& d == 0)).map listM) W)) := Lib.hid (fun a cap rn W h1 h2 h3 => ih rn (by have := HFL.out; omega) _ a cap W h1 (by have := HFL.out; omega) h2 (fun x hx => HCT.out x (List.mem_filter.1 hx).1) h3)
      have HIT : Hid (∀ W, Fut w W → Calls Try.prog 84 #[.slice (some ⟨b, offK off 1 cap, none⟩) m (cap - 1)] W (PackP (packS t).length ((packS t).map listM) W)) := Lib.hid (fun W F => ih m (by omega) t _ _ W hm (by omega) (by omega) HCT.out (HLT.out W F))
      have HPK := Lib.hid (packS_cons c t)
      have HM := Lib.hid hm
      have hpl : (packS t).length ≤ 64 := by
        have h1 := packF_len t.length t
        show (packF t.length t).length ≤ 64
        omega
      have hpr : (packS (t.filter fun d => c &&& d == 0)).length ≤ 64 := by
        have h1 := packF_len (t.filter fun d => c &&& d == 0).length (t.filter fun d => c &&& d == 0)
        have := HFL.out
        show (packF (t.filter fun d => c &&& d == 0).length (t.filter fun d => c &&& d == 0)).length ≤ 64
        omega
      generalize packS (c :: t) = PC at *
      generalize packS t = PT at *
      generalize packS (t.filter fun d => c &&& d == 0) = PR at *
      have hsf : ∀ W, (Instr.sliceAt 45 (.slice (some ⟨b, off, none⟩) (m + 1) cap) (some (.int .i64 1)) none none).run Try.prog W = .ok (.slice (some ⟨b, offK off 1 cap, none⟩) m (cap - 1)) W := fun W => by
        have := slice_from b off (m + 1) cap 1 (by omega) W
        rw [Nat.add_sub_cancel] at this
        exact this
      generalize offK off 1 cap = off1 at *
      generalize cap - 1 = cap1 at *
      have hmx : (m : Int) ≤ 63 := by omega
      clear ih hL hC hn hm c0 hO0 u0
      go_enter Try.func84, Try.ntmps84
      go_wp2_with fail
      go_loopw [3, 4] (fun ov iv wx => ∃ (k : Nat), 1 ≤ k ∧ k ≤ m + 1 ∧ iv = .int .i64 k ∧ Hid (OwnX wx w.heap.size ov (((t.take (k - 1)).filter fun d => c &&& d == 0).map listM)) ∧ Hid (Fut w wx)) (fun _ iv _ => m + 1 - (intOf iv).toNat)
      case atStart => exact ⟨1, Nat.le_refl _, by omega, rfl, Lib.hid (OwnX.nil _ _), Lib.hid Fut.rfl⟩
      case round =>
        obtain ⟨k, hk1, hk, rfl, HOX, HFX⟩ := hrel
        obtain ⟨l0, lc0, c0, hO0⟩ := HCL.out wr HFX.out 0 (by omega)
        rw [Nat.add_zero] at c0
        have e0 : nthC (c :: t) 0 = c := rfl
        rw [e0] at c0 hO0
        have hbr : b < wr.heap.size := Nat.lt_of_lt_of_le hb (RowKit.Below.size HFX.out)
        by_cases hlt : k < m + 1
        · have hkx : (k : Int) < m + 1 := by omega
          have hkx2 : (k : Int) < (m + 1 : Nat) := by omega
          have hkp : 0 ≤ (k : Int) := by omega
          obtain ⟨lk, lck, ck, hOk⟩ := HCL.out wr HFX.out k hlt
          have hd := HC.out k hlt
          have HT := Lib.hid (HTK.out k hk1 hlt)
          generalize nthC (c :: t) k = d at *
          have HAND : Hid (((listM c).any fun x => (listM d).contains x) = !(c &&& d == 0)) := Lib.hid (by rw [common_and hc0]; cases h : (c &&& d == 0) <;> simp_all)
          have HCM := Lib.hid (fun W (F : Fut wr W) => commonR_any l0 lk lc0 lck (listM c) (listM d) W ((by obtain ⟨_, _, e, hI⟩ := hO0.ints; simp only [Value.slice.injEq] at e; obtain ⟨rfl, _, rfl⟩ := e; exact hI : IntsAt wr l0 (listM c)).fut F) ((by obtain ⟨_, _, e, hI⟩ := hOk.ints; simp only [Value.slice.injEq] at e; obtain ⟨rfl, _, rfl⟩ := e; exact hI : IntsAt wr lk (listM d)).fut F) (Nat.le_trans (preM_len _ _) (by decide)) (Nat.le_trans (preM_len _ _) (by decide)))
          rw [HAND.out] at HCM
          have HFS : Hid (((t.take (k + 1 - 1)).filter fun d => c &&& d == 0).map listM = ((t.take (k - 1)).filter fun d => c &&& d == 0).map listM ++ (if (c &&& d == 0) then [listM d] else [])) := Lib.hid (by
            rw [Nat.add_sub_cancel, HT.out, List.filter_append, List.map_append]
            refine congrArg _ ?_
            cases h : (c &&& d == 0) <;> simp [h])
          have hal : (((t.take (k - 1)).filter fun d => c &&& d == 0).map listM).length ≤ 64 := by
            rw [List.length_map]
            exact Nat.le_trans (List.length_filter_le _ _) (Nat.le_trans (List.length_take_le _ _) (by omega))
          have HOK := Lib.hid hOk
          generalize ((t.take (k - 1)).filter fun d => c &&& d == 0).map listM = acc at *
          generalize hacc : ((t.take (k + 1 - 1)).filter fun d => c &&& d == 0).map listM = acc' at *
          have HAC := Lib.hid hacc
          clear hacc
          generalize listM c = L0 at *
          generalize listM d = L1 at *
          clear hO0 hOk HAND HT e0
          have M0 : ∀ p : After wr, p.w'.cell? ⟨b, off, none⟩ = some (.slice l0 L0.length lc0) := fun p => (RowKit.Below.cell p.F (p := ⟨b, off, none⟩) hbr).trans c0
          have MK : ∀ p : After wr, p.w'.cell? ⟨b, off + k, none⟩ = some (.slice lk L1.length lck) := fun p => (RowKit.Below.cell p.F (p := ⟨b, off + k, none⟩) hbr).trans ck
          cases hq : (c &&& d == 0)
          · rw [hq] at HCM HFS
            simp only [Bool.not_false, Bool.false_eq_true, if_false, List.append_nil] at HCM HFS
            clear hq
            go_upto_region 7 with fail
            refine region_fut (by kernel_rfl) (by kernel_rfl) ?_
            repeat (go_big_quiet_step (first | (go_at_call 86; rename_i p; exact after_same (HCM.out _ p.F))))
            refine wpQuiet_nil ?_
            intro wq hw'
            have F9 : Fut wr wq := after_fut hw'
            have HFQ := Lib.hid (HFX.out.trans F9)
            have HOQ := Lib.hid (HOX.out.fut F9)
            rw [← HFS.out] at HOQ
            clear F9 hw' M0 MK
            clear c0 ck HCM HFS HOX
            go_wp2
            go_roundw
            case rel => exact ⟨k + 1, by omega, by omega, by go_num, by rw [HAC.out]; exact HOQ, HFQ⟩
            case measure => simp [intOf]; omega
          · rw [hq] at HCM HFS
            simp only [Bool.not_true, if_true] at HCM HFS
            clear hq
            obtain ⟨av, ac, rfl⟩ := HOX.out.len
            go_upto_region 7 with fail
            refine region_fut (by kernel_rfl) (by kernel_rfl) ?_
            repeat (go_big_quiet_step (first | (go_at_call 86; rename_i p; exact after_same (HCM.out _ p.F))))
            refine wpQuiet_nil ?_
            intro wq hw'
            have F9 : Fut wr wq := after_fut hw'
            clear hw' M0 MK
            have HFQ := Lib.hid (HFX.out.trans F9)
            obtain ⟨vals, hrow, hel⟩ := HOX.out.fut F9
            have HROW := Lib.hid hrow
            have HEL := Lib.hid hel
            have HOKQ := Lib.hid (HOK.out.fut F9)
            have ckq := (RowKit.Below.cell F9 (p := ⟨b, off + k, none⟩) hbr).trans ck
            have hszq : w.heap.size ≤ wq.heap.size := RowKit.Below.size HFQ.out
            clear c0 ck HCM HOX hrow hel HOK F9
            go_wp2_with (at_builtin; refine wpList_append_lies _ rfl _ _ 45 rfl w.heap.size 25 i1 (.slice none 0 0) 1 24 Try.underlying45 hi1 hy0 hy1 hy2 rfl (by decide) _ acc.length vals rfl (World.ownsRow.alloc HROW.out _) ⟨wq.heap.size, 0, none⟩ 1 1 [.slice lk L1.length lck] rfl rfl (cell_one (by simp [go_sem])) (by simp [Value.oneCell']) (by omega) (by unfold maxLen; omega) (by omega) (by simp; omega) _ rfl ?_)
            intro g8 c8 w8 hown8 hgrow8 _ _
            have HX8 : Hid (OwnX w8 w.heap.size (.slice (some ⟨g8, 0, none⟩) (acc.length + 1) c8) acc') := Lib.hid (by
              rw [HFS.out]
              exact ⟨vals ++ [.slice lk L1.length lck], by rw [List.length_append]; exact hown8, (HEL.out.fut (Fut.alloc _ _)).cat ((Elems.one HOKQ.out).fut (Fut.alloc _ _)) (World.ownsRow.alloc HROW.out _) hgrow8⟩)
            have HF8 : Hid (Fut w w8) := Lib.hid (RowKit.Below.grown (HFQ.out.trans (Fut.alloc _ _)) hgrow8 (by simp; omega) fun q hq => (World.ownsRow.lt HROW.out q hq).1)
            clear hown8 hgrow8 HROW HEL HOKQ hszq
            go_wp2
            go_roundw
            case rel => ((repeat apply Exists.intro); refine ⟨⟨k + 1, by omega, by omega, ?_, (by rw [HAC.out]; exact HX8), HF8⟩, rfl⟩; go_num)
            case measure => simp [intOf]; omega
        · obtain rfl : k = m + 1 := by omega
          have ht : t.take (m + 1 - 1) = t := by rw [Nat.add_sub_cancel, ← HM.out]; exact List.take_length
          rw [ht] at HOX
          obtain ⟨av, ac, rfl, hac, hLr⟩ := HOX.out.form
          have hlr : ((t.filter fun d => c &&& d == 0).map listM).length = (t.filter fun d => c &&& d == 0).length := List.length_map ..
          have HCR := Lib.hid (fun W (F : Fut wr W) => HIR.out av ac _ W hlr.symm hac (hLr.fut F))
          clear hlr hLr HOX HIR HFL ht hac
          have HON := Lib.hid hO0
          have HCW : Hid (∀ W, Fut wr W → Calls Try.prog 84 #[.slice av ((t.filter fun d => c &&& d == 0).map listM).length ac] W fun e w' => ∃ ua uc, e = .returned (.slice ua PR.length uc) ∧ OwnX w' 0 (.slice ua PR.length uc) (PR.map listM) ∧ Fut wr w' ∧ Fut W w' ∧ w'.cell? ⟨b, off, none⟩ = some (.slice l0 (listM c).length lc0)) := Lib.hid (fun W F => (HCR.out W F).mono fun e w' (h : PackP _ _ W e w') => by
            obtain ⟨ua, uc, h1, h2, h3⟩ := h
            exact ⟨ua, uc, h1, h2, F.trans h3, h3, (RowKit.Below.cell (F.trans h3) (p := ⟨b, off, none⟩) hbr).trans c0⟩)
          have HIT2 := Lib.hid (fun W (F : Fut wr W) => HIT.out W (HFX.out.trans F))
          have hL16 : (listM c).length ≤ 16 := preM_len _ _
          clear HCR hO0 HIT HCL HLT HC HCT HTK e0
          have hrl : (PR.map listM).length = PR.length := List.length_map ..
          have hrt : (PT.map listM).length = PT.length := List.length_map ..
          have HPR : Hid (PC = if 1 + PR.length < PT.length then PT else c :: PR) := HPK
          have HRL := Lib.hid hrl
          have HRT := Lib.hid hrt
          clear hrl hrt HPK
          generalize ((t.filter fun d => c &&& d == 0).map listM).length = rn at *
          generalize PR.length = rl at *
          generalize PT.length = tl at *
          have HL0 : Hid (PC.map listM = if 1 + rl < tl then PT.map listM else listM c :: PR.map listM) := Lib.hid (by rw [HPR.out]; split <;> rfl)
          generalize hL0c : listM c = L0 at *
          have hpx : (rl : Int) ≤ 64 := by omega
          have htx : (tl : Int) ≤ 64 := by omega
          go_upto_region 9 with fail
          have FA : Fut wr (wr.alloc (.cells #[.slice l0 L0.length lc0] 25)).drew := (Fut.alloc _ _).trans (Fut.drewN _ 1)
          have HFA := Lib.hid FA
          have HFD : Hid (Fut wr wr.drew) := Lib.hid (Fut.drewN wr 1)
          have HWA : Hid ((wr.alloc (.cells #[.slice l0 L0.length lc0] 25)).drew.ownsRow wr.heap.size 25 1 (.slice (some ⟨wr.heap.size, 0, none⟩) 1 1) 1 [.slice l0 L0.length lc0]) := Lib.hid (by exact World.ownsRow_lit (base := wr.heap.size) (e := 25) (size := 1) wr #[.slice l0 L0.length lc0] 1 (Nat.le_refl _) (by unfold maxLen; omega) rfl)
          have HCC : Hid (∀ W, Fut wr W → W.cell? ⟨b, off, none⟩ = some (.slice l0 L0.length lc0)) := Lib.hid (fun W F => (RowKit.Below.cell F (p := ⟨b, off, none⟩) hbr).trans c0)
          clear FA
          go_region_held3 (fun w' => w'.cell? ⟨b, off, none⟩ = some (.slice l0 L0.length lc0)) (first | assumption | exact Lib.cell?_alloc_some _ (by assumption) | go_keep) (first
            | (go_at_call 84; (with_reducible refine (HCW.out _ HFD.out).mono ?_); rintro _ w10 ⟨ua, uc, rfl, hX10, FR, F10, z10⟩; have mkB : True := trivial)
            | (go_at_call 84; (with_reducible refine (HCW.out _ HFA.out).mono ?_); rintro _ w10 ⟨ua, uc, rfl, hX10, FR, F10, z10⟩; have mkA : True := trivial)
            | (have mkx := mkA; have hrow10 := row_fut HWA.out F10; have hE0 := Elems.one (HON.out.fut FR); obtain ⟨vals10, hE10, hsrc10⟩ := hX10.src; rw [HRL.out] at hsrc10; refine step_append_src (by rfl) _ _ _ (by rfl) wr.heap.size 25 i1 (.slice none 0 0) 24 Try.underlying45 hi1 hy0 hy1 hy2 rfl (.slice (some ⟨wr.heap.size, 0, none⟩) 1 1) 1 [.slice l0 L0.length lc0] (by rfl) (by exact hrow10) (.slice ua rl uc) rl vals10 (by rfl) (by exact hsrc10) (by unfold maxLen; omega) (by omega) (by exact RowKit.Below.size FR) ?_; intro av9 ac9 w9 hown9 hgrow9; have hX9 : OwnX w9 wr.heap.size (.slice av9 (1 + rl) ac9) (L0 :: PR.map listM) := (by refine ⟨_, ?_, hE0.cat hE10 hrow10 hgrow9⟩; have e9 : (L0 :: PR.map listM).length = 1 + rl := (by rw [List.length_cons, HRL.out, Nat.add_comm]); rw [e9]; exact hown9); have F9 : Fut wr w9 := RowKit.Below.grown FR hgrow9 (RowKit.Below.size FR) (fun q hq => (World.ownsRow.lt hrow10 q hq).1); have z9 := HCC.out w9 F9)
            | (have mkx := mkB; have FRB : Fut wr (w10.alloc (.cells #[.slice l0 L0.length lc0] 25)) := FR.trans (Fut.alloc _ _); have hrow10 : (w10.alloc (.cells #[.slice l0 L0.length lc0] 25)).ownsRow wr.heap.size 25 1 (.slice (some ⟨w10.heap.size, 0, none⟩) 1 1) 1 [.slice l0 L0.length lc0] := World.ownsRow_lit (base := wr.heap.size) (e := 25) (size := 1) w10 #[.slice l0 L0.length lc0] 1 (RowKit.Below.size FR) (by unfold maxLen; omega) rfl; have hE0 := Elems.one (HON.out.fut FRB); obtain ⟨vals10, hE10, hsrc10⟩ := (hX10.fut (Fut.alloc w10 (.cells #[.slice l0 L0.length lc0] 25))).src; rw [HRL.out] at hsrc10; refine step_append_src (by rfl) _ _ _ (by rfl) wr.heap.size 25 i1 (.slice none 0 0) 24 Try.underlying45 hi1 hy0 hy1 hy2 rfl (.slice (some ⟨w10.heap.size, 0, none⟩) 1 1) 1 [.slice l0 L0.length lc0] (by rfl) (by exact hrow10) (.slice ua rl uc) rl vals10 (by rfl) (by exact hsrc10) (by unfold maxLen; omega) (by omega) (by exact RowKit.Below.size FRB) ?_; intro av9 ac9 w9 hown9 hgrow9; have hX9 : OwnX w9 wr.heap.size (.slice av9 (1 + rl) ac9) (L0 :: PR.map listM) := (by refine ⟨_, ?_, hE0.cat hE10 hrow10 hgrow9⟩; have e9 : (L0 :: PR.map listM).length = 1 + rl := (by rw [List.length_cons, HRL.out, Nat.add_comm]); rw [e9]; exact hown9); have F9 : Fut wr w9 := RowKit.Below.grown FRB hgrow9 (RowKit.Below.size FRB) (fun q hq => (World.ownsRow.lt hrow10 q hq).1); have z9 := HCC.out w9 F9))
          all_goals
            have HX9 := Lib.hid (hX9.base (Nat.zero_le _))
            have HF9 := Lib.hid F9
            clear hX9 F9 hown9 hgrow9 hrow10 hE0 hE10 hsrc10 hX10 FR F10 z10 z9 HCW HFA HFD HWA HCC c0 HON
            go_wp2_with fail
            refine (HIT2.out _ HF9.out).mono ?_
            rintro _ wz ⟨ta, tc, rfl, hXz, Fz⟩
            have HXz := Lib.hid hXz
            have HX9z := Lib.hid (HX9.out.fut Fz)
            have HFz := Lib.hid (HFX.out.trans (HF9.out.trans Fz))
            clear hXz Fz HIT2 HX9
            by_cases hcmp : 1 + rl < tl
            · have hcx : (1 : Int) + rl < tl := by omega
              have HP2 : Hid (PC = PT) := Lib.hid (by rw [HPR.out, if_pos hcmp])
              have HT2 : Hid (PT.length = tl) := Lib.hid (by rw [← HRT.out, List.length_map])
              clear HPR hcmp HL0 HRL HRT HX9z
              go_wp2
              go_ret
              refine ⟨ta, tc, ?_, ?_, HFz.out⟩
              · rw [HP2.out, HT2.out]; rfl
              · rw [HP2.out, HT2.out]; exact HXz.out
            · have hcx : ¬ (1 : Int) + rl < tl := by omega
              have HP2 : Hid (PC.length = 1 + rl) := Lib.hid (by rw [HPR.out, if_neg hcmp, List.length_cons, ← HRL.out, List.length_map, Nat.add_comm])
              have HQ2 : Hid (PC.map listM = L0 :: PR.map listM) := Lib.hid (by rw [HL0.out, if_neg hcmp])
              clear HPR hcmp HL0 HRL HRT HXz
              go_wp2
              go_ret
              refine ⟨av9, ac9, ?_, ?_, HFz.out⟩
              · rw [HP2.out]; rfl
              · rw [HP2.out, HQ2.out]; exact HX9z.out
end
section
/-- the inner loop: what is known of the sides before. -/
def Inn (i : Nat) (D : Nat → Bool) (r1 : Int) (k : Nat) (r : Int) : Prop := (r1 ≠ 0 → r = r1) ∧ (r1 = 0 → (r = 0 ∧ ∀ j, j < k → D j = false) ∨ (r = 6 ∧ ∃ j, j < i ∧ D j = true))
theorem Inn.start (i : Nat) (D : Nat → Bool) (r1 : Int) : Inn i D r1 0 r1 := ⟨fun _ => rfl, fun h => .inl ⟨h, fun j hj => absurd hj (by omega)⟩⟩
theorem Inn.next {i : Nat} {D : Nat → Bool} {r1 : Int} {k : Nat} (h : Inn i D r1 k 0) (hk : k < i) : Inn i D r1 (k + 1) (if D k then 6 else 0) := by
  refine ⟨fun h1 => absurd (h.1 h1).symm h1, fun h1 => ?_⟩
  rcases h.2 h1 with ⟨_, h2⟩ | ⟨h2, _⟩
  · cases hd : D k
    · exact .inl ⟨by simp, fun j hj => by
        rcases Nat.lt_or_ge j k with h | h
        · exact h2 j h
        · obtain rfl : j = k := by omega
          exact hd⟩
    · exact .inr ⟨by simp, k, hk, hd⟩
  · omega
/-- the outer loop. -/
def Otr (c : Int) (ss : List (Int × Int)) (o : Nat) (zss : List (List Int)) (R : Int) (i : Nat) (r : Int) : Prop :=
  (r = 0 → prvR c ss o (zss.drop i) ((zss.take i).map fun z => cutM ss (setM z)) = R ∧ ∀ j, j < i → sdE c (lth zss j) = 0) ∧ (r ≠ 0 → r = R)
def meetC (ss : List (Int × Int)) (zss : List (List Int)) (i k : Nat) : Bool := decide (cutM ss (setM (lth zss i)) &&& cutM ss (setM (lth zss k)) ≠ 0)
def oneE (c : Int) (o : Nat) (z : List Int) : Int := if sdE c z = 0 then (if par (setM z &&& o) then 0 else 14) else sdE c z
theorem take_lth2 {zss : List (List Int)} {i : Nat} (hi : i < zss.length) : zss.take (i + 1) = zss.take i ++ [lth zss i] := by
  rw [lth_eq, List.take_succ_eq_append_getElem hi, List.getElem?_eq_getElem hi]; rfl
theorem any_meetC {ss : List (Int × Int)} {zss : List (List Int)} {i : Nat} (hi : i < zss.length) : (((zss.take i).map fun z => cutM ss (setM z)).any fun u => decide (cutM ss (setM (lth zss i)) &&& u ≠ 0)) = true ↔ ∃ k, k < i ∧ meetC ss zss i k = true := by
  rw [List.any_map, List.any_eq_true]
  constructor
  · rintro ⟨z, hz, h⟩
    obtain ⟨k, hk, rfl⟩ := List.getElem_of_mem hz
    rw [List.length_take] at hk
    refine ⟨k, by omega, ?_⟩
    unfold meetC
    rw [lth_eq zss k, List.getElem?_eq_getElem (by omega)]
    simpa using h
  · rintro ⟨k, hk, h⟩
    refine ⟨lth zss k, ?_, h⟩
    rw [lth_eq, List.getElem?_eq_getElem (by omega)]
    exact List.mem_take_iff_getElem.2 ⟨k, by omega, rfl⟩
theorem Otr.step {c : Int} {ss : List (Int × Int)} {o : Nat} {zss : List (List Int)} {R : Int} {i : Nat} (h : Otr c ss o zss R i 0) (hi : i < zss.length) {k : Nat} {r : Int} (hI : Inn i (meetC ss zss i) (oneE c o (lth zss i)) k r) (hx : k = i ∨ r ≠ 0) : Otr c ss o zss R (i + 1) r := by
  obtain ⟨h1, h2⟩ := h.1 rfl
  rw [lth_drop zss i hi] at h1
  unfold prvR at h1
  unfold oneE at hI
  have ha := any_meetC (ss := ss) hi
  by_cases hs : sdE c (lth zss i) = 0
  · rw [if_pos hs] at h1 hI
    cases hp : par (setM (lth zss i) &&& o)
    · rw [hp] at h1 hI
      simp only [Bool.false_eq_true, if_false] at h1 hI
      have := hI.1 (by decide)
      subst this
      exact ⟨fun h => absurd h (by decide), fun _ => h1⟩
    · rw [hp] at h1 hI
      simp only [if_true] at h1 hI
      rcases hI.2 rfl with ⟨rfl, hd⟩ | ⟨rfl, j, hj, hd⟩
      · obtain rfl : k = i := by
          rcases hx with h | h
          · exact h
          · exact absurd rfl h
        rw [if_neg (fun h => by obtain ⟨j, hj, hm⟩ := ha.1 h; rw [hd j hj] at hm; cases hm)] at h1
        refine ⟨fun _ => ⟨?_, fun j hj => ?_⟩, fun h => absurd rfl h⟩
        · rw [take_lth2 hi, List.map_append]; exact h1
        · rcases Nat.lt_or_ge j k with h | h
          · exact h2 j h
          · obtain rfl : j = k := by omega
            exact hs
      · rw [if_pos (ha.2 ⟨j, hj, hd⟩)] at h1
        exact ⟨fun h => absurd h (by decide), fun _ => h1⟩
  · rw [if_neg hs] at h1 hI
    have := hI.1 hs
    subst this
    exact ⟨fun h => absurd h hs, fun _ => h1⟩
theorem Otr.start {c : Int} {ss : List (Int × Int)} {o : Nat} {zss : List (List Int)} : Otr c ss o zss (prvL c ss o zss 0) 0 0 :=
  ⟨fun _ => ⟨prvR_prvL c ss o zss [], fun j hj => absurd hj (by omega)⟩, fun h => absurd rfl h⟩
theorem Otr.done {c : Int} {ss : List (Int × Int)} {o : Nat} {zss : List (List Int)} {R : Int} {i : Nat} {r : Int} (h : Otr c ss o zss R i r) (hx : i = zss.length ∨ r ≠ 0) : r = R := by
  by_cases hr : r = 0
  · subst hr
    obtain rfl : i = zss.length := by
      rcases hx with h | h
      · exact h
      · exact absurd rfl h
    have := (h.1 rfl).1
    rw [List.drop_of_length_le (Nat.le_refl _)] at this
    exact this
  · exact h.2 hr
set_option maxRecDepth 100000 in
set_option maxHeartbeats 8000000 in
/-- the reference's Proves. -/
theorem provesR_any (c : Int) (a : Option Addr) (cap : Nat) (ss : List (Int × Int)) (d : Option Addr) (dap : Nat) (zss : List (List Int)) (w : World) (hS : StrAt w a ss) (hZ : LstAt w d zss) (hlz : zss.length ≤ 1000) (hle : ∀ k, (lth zss k).length ≤ 1000) :
    Calls Try.prog 38 #[mapV c a ss.length cap, .slice d zss.length dap] w (PostC (provE c ss zss) w) := by
  have HC := Lib.hid (fun W (F : Fut w W) => checkR_any c a cap ss W (hS.fut F))
  have hzx : (zss.length : Int) ≤ 1000 := by omega
  by_cases hc : chkM c ss = 0
  · have hE : provE c ss zss = prvL c ss (oddM ss (2 ^ ss.length - 1)) zss 0 := by unfold provE; rw [if_pos hc]
    rw [hE]
    rw [hc] at HC
    obtain ⟨hc1, hc6, h9, _, hp, _⟩ := chk_good hc
    obtain ⟨cn, rfl⟩ := Int.eq_ofNat_of_zero_le (show 0 ≤ c by omega)
    have HZ := Lib.hid hZ
    have HLE := Lib.hid hle
    have HSD := Lib.hid (fun (l : Option Addr) (lc : Nat) zs W (hI : IntsAt W l zs) (hl : zs.length ≤ 1000) => sidedR_any cn a ss.length cap l lc zs W hI hl (by omega))
    have HST := Lib.hid (fun (l : Option Addr) (lc : Nat) zs W (F : Fut w W) (hI : IntsAt W l zs) (hl : zs.length ≤ 1000) (h0 : sdE cn zs = 0) => strangeR_any cn a cap ss l lc zs (setM zs) W (hS.fut F) hI hl h9 (by omega) hp (fun i _ => setM_bit (sd_good h0) i))
    have HCU := Lib.hid (fun (l : Option Addr) (lc : Nat) zs W (F : Fut w W) (hI : IntsAt W l zs) (hl : zs.length ≤ 1000) (h0 : sdE cn zs = 0) => cutRx_any cn a cap ss l lc zs (setM zs) W (hS.fut F) hI hl h9 (by omega) hp (fun i _ => setM_bit (sd_good h0) i))
    have HPL := Lib.hid (fun S => (by
      have := preM_out (cutM ss S) ss.length (fun i hi => cutM_out hi) (16 - ss.length)
      rw [show ss.length + (16 - ss.length) = 16 by omega] at this
      exact this.symm : preM (cutM ss S) ss.length = listM (cutM ss S)))
    have HKL := Lib.hid (fun s => cutM_lt (ss := ss) (by omega) s)
    have HOT : Hid (Otr cn ss (oddM ss (2 ^ ss.length - 1)) zss (prvL cn ss (oddM ss (2 ^ ss.length - 1)) zss 0) 0 0) := Lib.hid Otr.start
    clear hS hZ hc hp hE hle
    generalize oddM ss (2 ^ ss.length - 1) = o at *
    generalize prvL cn ss o zss 0 = R at *
    go_enter Try.func38, Try.ntmps38
    go_wp2_with fail
    have hB := BoxM.new w cn a ss.length cap 28
    have hF : Fut w (w.alloc (.cells #[.int .i64 cn, .slice a ss.length cap] 28)) := Fut.alloc _ _
    generalize w.alloc (.cells #[.int .i64 cn, .slice a ss.length cap] 28) = W1 at *
    generalize w.heap.size = B at *
    refine (HC.out _ hF).mono ?_
    rintro _ w1 ⟨rfl, F⟩
    have HF := Lib.hid (hF.trans F)
    have HB := Lib.hid (hB.fut F)
    clear hF F hB HC
    go_wp2_with fail
    go_loopw [5, 6, 7] (fun ev iv _ wr => ∃ (i : Nat) (r : Int), i ≤ zss.length ∧ iv = .int .i64 i ∧ ev = .int .i64 r ∧ Hid (Otr cn ss o zss R i r) ∧ Hid (Fut w1 wr)) (fun _ iv _ _ => zss.length - (intOf iv).toNat)
    case atStart => exact ⟨0, 0, Nat.zero_le _, rfl, rfl, HOT, Lib.hid Fut.rfl⟩
    case round =>
      clear HOT
      obtain ⟨i, r, hi, rfl, rfl, HO, HR⟩ := hrel
      by_cases hr : r = 0
      · subst hr
        by_cases hlt : i < zss.length
        · have hix : (i : Int) < zss.length := by omega
          obtain ⟨bb, off, l, lc, ea, hbb, d1, hI⟩ := (HZ.out.fut (HF.out.trans HR.out)) i hlt
          subst ea
          have HOS := Lib.hid (fun (k : Nat) (r : Int) (h : Inn i (meetC ss zss i) (oneE cn o (lth zss i)) k r) (hx : k = i ∨ r ≠ 0) => HO.out.step hlt h hx)
          have HGD := Lib.hid (HO.out.1 rfl).2
          have HIN : Hid (Inn i (meetC ss zss i) (oneE cn o (lth zss i)) 0 (oneE cn o (lth zss i))) := Lib.hid (Inn.start _ _ _)
          have HE1 : Hid (oneE cn o (lth zss i) = if sdE cn (lth zss i) = 0 then (if par (setM (lth zss i) &&& o) then 0 else 14) else sdE cn (lth zss i)) := Lib.hid rfl
          have hzl := HLE.out i
          have HSDW := Lib.hid (fun W (F : Fut wr W) => HSD.out l lc (lth zss i) W (hI.fut F) hzl)
          have HSTW := Lib.hid (fun (h0 : sdE cn (lth zss i) = 0) W (F : Fut wr W) => HST.out l lc (lth zss i) W ((HF.out.trans HR.out).trans F) (hI.fut F) hzl h0)
          have HIZ := Lib.hid hI
          have HFR := Lib.hid (HF.out.trans HR.out)
          have HBR := Lib.hid (HB.out.fut HR.out)
          have HMT : Hid (∀ j, j < i → meetC ss zss i j = ((listM (cutM ss (setM (lth zss i)))).any fun x => (listM (cutM ss (setM (lth zss j)))).contains x)) := Lib.hid (fun j _ => by rw [common_and (HKL.out _)]; rfl)
          generalize oneE cn o (lth zss i) = r1 at *
          generalize meetC ss zss i = D at *
          clear HO hI
          obtain ⟨m0, m1⟩ := HBR.out.after (Fut.rfl (w := wr))
          have HDA : Hid (∀ W, Fut wr W → W.cell? ⟨bb, off + i, none⟩ = some (.slice l (lth zss i).length lc)) := Lib.hid (fun W F => (RowKit.Below.cell F (p := ⟨bb, off + i, none⟩) hbb).trans d1)
          have md : ∀ p : After wr, p.w'.cell? ⟨bb, off + i, none⟩ = some (.slice l (lth zss i).length lc) := fun p => HDA.out _ p.F
          generalize lth zss i = zs at *
          have HRW := Lib.hid HR.out
          clear d1 hbb HR
          by_cases hs : sdE cn zs = 0
          · have HST2 := Lib.hid (HSTW.out hs)
            rw [if_pos hs] at HE1
            have HCA := Lib.hid (fun W (F : Fut w W) (hI : IntsAt W l zs) => HCU.out l lc zs W F hI hzl hs)
            rw [HPL.out] at HCA
            rw [hs] at HSDW
            have HLA : Hid ((listM (cutM ss (setM zs))).length ≤ 1000) := Lib.hid (Nat.le_trans (preM_len _ _) (by decide))
            generalize listM (cutM ss (setM zs)) = LA at *
            clear hs HSTW
            go_wp2_with fail
            refine region_fut (by kernel_rfl) (by kernel_rfl) ?_
            repeat (go_big_quiet_step (first | (go_at_call 76; rename_i p; exact after_of (HSDW.out _ p.F))))
            refine wpQuiet_nil ?_
            intro w3 hw'
            have F3 : Fut wr w3 := after_fut hw'
            clear hw' m0 m1 md HSDW
            have HR3 := Lib.hid (HRW.out.trans F3)
            have HF3 := Lib.hid (HFR.out.trans F3)
            have HB3 := Lib.hid (HBR.out.fut F3)
            have HI3 := Lib.hid (HIZ.out.fut F3)
            have HD3 : Hid (∀ W, Fut w3 W → W.cell? ⟨bb, off + i, none⟩ = some (.slice l zs.length lc)) := Lib.hid (fun W F => HDA.out W (F3.trans F))
            have HST3 := Lib.hid (fun W (F : Fut w3 W) => HST2.out W (F3.trans F))
            clear F3 HST2 HDA HIZ HBR HFR HRW
            obtain ⟨m0, m1⟩ := HB3.out.after (Fut.rfl (w := w3))
            have md : ∀ p : After w3, p.w'.cell? ⟨bb, off + i, none⟩ = some (.slice l zs.length lc) := fun p => HD3.out _ p.F
            cases hpar : par (setM zs &&& o)
            · rw [hpar] at HST3 HE1
              obtain rfl : r1 = 14 := HE1.out
              clear hpar HE1
              go_wp2_with fail
              refine region_fut (by kernel_rfl) (by kernel_rfl) ?_
              repeat (go_big_quiet_step (first | (go_at_call 82; rename_i p; exact after_of (HST3.out _ p.F))))
              refine wpQuiet_nil ?_
              intro w4 hw'
              have F4 : Fut w3 w4 := after_fut hw'
              have HR4 := Lib.hid (HR3.out.trans F4)
              have HON := Lib.hid (HOS.out 0 14 HIN.out (Or.inr (by decide)))
              clear hw' m0 m1 md HST3 F4 HR3 HF3 HB3 HI3 HD3 HCA HOS HIN HGD HMT
              go_wp2_with fail
              go_loopw [5, 7] (fun ev kv wx => ∃ (k : Nat), k ≤ i ∧ kv = .int .i64 k ∧ ev = .int .i64 14 ∧ Hid (Fut w1 wx)) (fun _ kv _ => i - (intOf kv).toNat)
              case atStart => exact ⟨0, Nat.zero_le _, rfl, rfl, HR4⟩
              case round =>
                clear HR4
                obtain ⟨k, hk, rfl, rfl, HX⟩ := hrel
                have hk7 : (0 : Int) ≤ k := by omega
                by_cases hkl : k < i
                all_goals
                  go_wp2
                  go_roundw
                  case rel => exact ⟨i + 1, 14, by omega, by go_num, rfl, HON, HX⟩
                  case measure => simp [intOf]; omega
            · rw [hpar] at HST3 HE1
              obtain rfl : r1 = 0 := HE1.out
              clear hpar HE1
              go_wp2_with fail
              refine region_fut (by kernel_rfl) (by kernel_rfl) ?_
              repeat (go_big_quiet_step (first | (go_at_call 82; rename_i p; exact after_of (HST3.out _ p.F))))
              refine wpQuiet_nil ?_
              intro w4 hw'
              have F4 : Fut w3 w4 := after_fut hw'
              have HR4 := Lib.hid (HR3.out.trans F4)
              have HF4 := Lib.hid (HF3.out.trans F4)
              have HB4 := Lib.hid (HB3.out.fut F4)
              have HI4 := Lib.hid (HI3.out.fut F4)
              have HD4 : Hid (∀ W, Fut w4 W → W.cell? ⟨bb, off + i, none⟩ = some (.slice l zs.length lc)) := Lib.hid (fun W F => HD3.out W (F4.trans F))
              clear hw' m0 m1 md HST3 F4 HR3 HF3 HB3 HI3 HD3
              go_wp2_with fail
              go_loopw [5, 7] (fun ev kv wx => ∃ (k : Nat) (r : Int), k ≤ i ∧ kv = .int .i64 k ∧ ev = .int .i64 r ∧ Hid (Inn i D 0 k r) ∧ Hid (Fut w4 wx)) (fun _ kv _ => i - (intOf kv).toNat)
              case atStart => exact ⟨0, 0, Nat.zero_le _, rfl, rfl, HIN, Lib.hid Fut.rfl⟩
              case round =>
                clear HIN
                obtain ⟨k, r, hk, rfl, rfl, HI, HX⟩ := hrel
                have HRX := Lib.hid (HR4.out.trans HX.out)
                by_cases hr : r = 0
                · subst hr
                  by_cases hkl : k < i
                  · have hkx : (k : Int) < i := by omega
                    have hkz : (k : Int) < zss.length := by omega
                    obtain ⟨b2, off2, lk, lck, ea, hb2, d2, hI2⟩ := (HZ.out.fut (HF4.out.trans HX.out)) k (by omega)
                    simp only [Option.some.injEq, Addr.mk.injEq, and_true] at ea
                    obtain ⟨rfl, rfl⟩ := ea
                    have hgk := HGD.out k hkl
                    have hzk := HLE.out k
                    have HNX := Lib.hid (HI.out.next hkl)
                    have hmt := HMT.out k hkl
                    have HIa := Lib.hid (HI4.out.fut HX.out)
                    have HIb := Lib.hid hI2
                    have hbx := HB4.out.fut HX.out
                    have hD4 := HD4.out _ HX.out
                    have HCELL : Hid (∀ W, Fut wr W → W.cell? ⟨B, 0, none⟩ = some (.int .i64 cn) ∧ W.cell? ⟨B, 1, none⟩ = some (.slice a ss.length cap) ∧ W.cell? ⟨bb, off + i, none⟩ = some (.slice l zs.length lc) ∧ W.cell? ⟨bb, off + k, none⟩ = some (.slice lk (lth zss k).length lck)) := Lib.hid (fun W F => ⟨(hbx.fut F).2.1, (hbx.fut F).2.2, HD4.out W (HX.out.trans F), (RowKit.Below.cell F (p := ⟨bb, off + k, none⟩) hb2).trans d2⟩)
                    have HAA : Hid (∀ W, Fut wr W → Calls Try.prog 77 #[mapV cn a ss.length cap, .slice l zs.length lc] W fun e w' => ∃ va vc, e = .returned (.slice va LA.length vc) ∧ Fut wr w' ∧ Fut W w' ∧ IntsAt w' va LA) := Lib.hid (fun W F => (HCA.out W ((HF4.out.trans HX.out).trans F) (HIa.out.fut F)).mono fun e w' (h : ∃ v, e = .returned v ∧ Owns w' W.heap.size v LA ∧ Fut W w') => by
                      obtain ⟨v, h1, h2, h3⟩ := h
                      obtain ⟨va, vc, rfl, hI⟩ := h2.ints
                      exact ⟨va, vc, h1, F.trans h3, h3, hI⟩)
                    have HBB : Hid (∀ W, Fut wr W → Calls Try.prog 77 #[mapV cn a ss.length cap, .slice lk (lth zss k).length lck] W fun e w' => ∃ va vc, e = .returned (.slice va (listM (cutM ss (setM (lth zss k)))).length vc) ∧ Fut wr w' ∧ Fut W w' ∧ IntsAt w' va (listM (cutM ss (setM (lth zss k))))) := Lib.hid (fun W F => by
                      have hh := HCU.out lk lck (lth zss k) W ((HF4.out.trans HX.out).trans F) (hI2.fut F) hzk hgk
                      rw [HPL.out] at hh
                      exact hh.mono fun e w' (h : ∃ v, e = .returned v ∧ Owns w' W.heap.size v (listM (cutM ss (setM (lth zss k)))) ∧ Fut W w') => by
                        obtain ⟨v, h1, h2, h3⟩ := h
                        obtain ⟨va, vc, rfl, hI⟩ := h2.ints
                        exact ⟨va, vc, h1, F.trans h3, h3, hI⟩)
                    have hla : LA.length ≤ 1000 := HLA.out
                    have hlb : (listM (cutM ss (setM (lth zss k)))).length ≤ 1000 := Nat.le_trans (preM_len _ _) (by decide)
                    generalize listM (cutM ss (setM (lth zss k))) = LB at *
                    have HCM := Lib.hid (fun (va vb : Option Addr) (vc vd : Nat) W (h1 : IntsAt W va LA) (h2 : IntsAt W vb LB) => commonR_any va vb vc vd LA LB W h1 h2 hla hlb)
                    rw [← hmt] at HCM
                    generalize D k = dk at *
                    generalize lth zss k = zk at *
                    clear hmt hgk hI2 hb2 d2 hD4 hla hlb HI
                    obtain ⟨hb, b0, b1⟩ := hbx
                    obtain ⟨_, _, b2, b3⟩ := HCELL.out wr Fut.rfl
                    have HFD : Hid (Fut wr wr.drew) := Lib.hid (Fut.drewN wr 1)
                    go_upto_region 11 with fail
                    cases dk
                    all_goals
                      simp only [Bool.false_eq_true, if_false, if_true] at HNX
                      go_region_held3 (fun w' => w'.cell? ⟨B, 0, none⟩ = some (.int .i64 cn) ∧ w'.cell? ⟨B, 1, none⟩ = some (.slice a ss.length cap) ∧ w'.cell? ⟨bb, off + i, none⟩ = some (.slice l zs.length lc) ∧ w'.cell? ⟨bb, off + k, none⟩ = some (.slice lk zk.length lck)) (first | exact ⟨a0, a1, a2, a3⟩ | exact ⟨z0, z1, z2, z3⟩ | exact ⟨by assumption, by assumption, by assumption, by assumption⟩ | go_keep) (first
                        | (go_at_call 77; (with_reducible refine (HAA.out _ HFD.out).mono ?_); rintro _ wa ⟨va, vc, rfl, FA, _, IA⟩; have mkA : True := trivial; obtain ⟨a0, a1, a2, a3⟩ := HCELL.out _ FA)
                        | (go_at_call 77; (with_reducible refine (HBB.out _ HFD.out).mono ?_); rintro _ wa ⟨vb, vd, rfl, FA, _, IB⟩; have mkB : True := trivial; obtain ⟨a0, a1, a2, a3⟩ := HCELL.out _ FA)
                        | (have mkx := mkA; go_at_call 77; (with_reducible refine (HBB.out _ FA).mono ?_); rintro _ wz ⟨vb, vd, rfl, FZ, FW, IB⟩; have IA2 := IA.fut FW; obtain ⟨z0, z1, z2, z3⟩ := HCELL.out _ FZ)
                        | (have mkx := mkB; go_at_call 77; (with_reducible refine (HAA.out _ FA).mono ?_); rintro _ wz ⟨va, vc, rfl, FZ, FW, IA⟩; have IB2 := IB.fut FW; obtain ⟨z0, z1, z2, z3⟩ := HCELL.out _ FZ)
                        | (have mkx := mkA; go_at_call 86; (with_reducible refine (HCM.out va vb vc vd _ IA2 IB).mono ?_); rintro _ _ ⟨rfl, rfl⟩)
                        | (have mkx := mkB; go_at_call 86; (with_reducible refine (HCM.out va vb vc vd _ IA IB2).mono ?_); rintro _ _ ⟨rfl, rfl⟩))
                      all_goals
                        have HXZ := Lib.hid (HX.out.trans FZ)
                        go_wp2
                        go_roundw
                        case rel => first | exact ⟨k + 1, 0, by omega, by go_num, rfl, HNX, HXZ⟩ | exact ⟨k + 1, 6, by omega, by go_num, rfl, HNX, HXZ⟩
                        case measure => simp [intOf]; omega
                  · obtain rfl : k = i := by omega
                    have HON := Lib.hid (HOS.out k 0 HI.out (Or.inl rfl))
                    go_wp2
                    go_roundw
                    case rel => exact ⟨k + 1, 0, by omega, by go_num, rfl, HON, HRX⟩
                    case measure => simp [intOf]; omega
                · have hne : (r == 0) = false := beq_eq_false_iff_ne.2 hr
                  have HON := Lib.hid (HOS.out k r HI.out (Or.inr hr))
                  clear hr
                  by_cases hkl : k < i
                  all_goals
                    go_wp2
                    go_roundw
                    case rel => exact ⟨i + 1, r, by omega, by go_num, rfl, HON, HRX⟩
                    case measure => simp [intOf]; omega
          · rw [if_neg hs] at HE1
            have hne : (sdE cn zs == 0) = false := beq_eq_false_iff_ne.2 hs
            have HON := Lib.hid (HOS.out 0 r1 HIN.out (Or.inr (by rw [HE1.out]; exact hs)))
            obtain rfl : r1 = sdE cn zs := HE1.out
            clear HSTW hs HIN HOS HE1 HMT HGD
            generalize sdE cn zs = r1 at *
            go_wp2_with fail
            refine region_fut (by kernel_rfl) (by kernel_rfl) ?_
            repeat (go_big_quiet_step (first | (go_at_call 76; rename_i p; exact after_of (HSDW.out _ p.F))))
            refine wpQuiet_nil ?_
            intro w3 hw'
            have F3 : Fut wr w3 := after_fut hw'
            have HR3 := Lib.hid (HRW.out.trans F3)
            clear hw' m0 m1 md HSDW F3 HRW HFR HBR HIZ HDA
            go_wp2_with fail
            refine region_fut (by kernel_rfl) (by kernel_rfl) ?_
            repeat (go_big_quiet_step (fail))
            refine wpQuiet_nil ?_
            intro w4 hw'
            have F4 : Fut w3 w4 := after_fut hw'
            have HR4 := Lib.hid (HR3.out.trans F4)
            clear hw' F4 HR3
            go_wp2_with fail
            go_loopw [5, 7] (fun ev kv wx => ∃ (k : Nat), k ≤ i ∧ kv = .int .i64 k ∧ ev = .int .i64 r1 ∧ Hid (Fut w1 wx)) (fun _ kv _ => i - (intOf kv).toNat)
            case atStart => exact ⟨0, Nat.zero_le _, rfl, rfl, HR4⟩
            case round =>
              clear HR4
              obtain ⟨k, hk, rfl, rfl, HX⟩ := hrel
              by_cases hkl : k < i
              all_goals
                go_wp2
                go_roundw
                case rel => exact ⟨i + 1, r1, by omega, by go_num, rfl, HON, HX⟩
                case measure => simp [intOf]; omega
        · obtain rfl : i = zss.length := by omega
          obtain rfl : (0 : Int) = R := HO.out.done (Or.inl rfl)
          have HW := Lib.hid (HF.out.trans HR.out)
          go_wp2
          go_ret
          exact ⟨rfl, HW.out⟩
      · obtain rfl : r = R := HO.out.done (Or.inr hr)
        have hne : (r == 0) = false := beq_eq_false_iff_ne.2 hr
        have HW := Lib.hid (HF.out.trans HR.out)
        clear hr
        by_cases hlt : i < zss.length
        · have hix : (i : Int) < zss.length := by omega
          go_wp2
          go_ret
          exact ⟨rfl, HW.out⟩
        · have hix : ¬ (i : Int) < zss.length := by omega
          go_wp2
          go_ret
          exact ⟨rfl, HW.out⟩
  · have hE : provE c ss zss = chkM c ss := by unfold provE; rw [if_neg hc]
    rw [hE]
    obtain ⟨h1, h2⟩ := chk_std hc
    clear hS hZ hE hle hc
    generalize chkM c ss = r at *
    go_enter Try.func38, Try.ntmps38
    go_wp2_with fail
    refine (HC.out _ (Fut.alloc _ _)).mono ?_
    rintro _ w1 ⟨rfl, F⟩
    have HW := Lib.hid ((Fut.alloc w _).trans F)
    clear F
    go_wp2_with fail
    go_loopw [5, 6, 7] (fun ev iv _ wr => iv = .int .i64 0 ∧ ev = .int .i64 r ∧ Hid (Fut w wr)) (fun _ _ _ _ => 0)
    case atStart => exact ⟨rfl, rfl, HW⟩
    case round =>
      clear HW
      obtain ⟨rfl, rfl, HW⟩ := hrel
      by_cases hlt : 0 < zss.length
      · have hix : (0 : Int) < zss.length := by omega
        go_wp2
        go_ret
        exact ⟨rfl, HW.out⟩
      · have hix : ¬ (0 : Int) < zss.length := by omega
        go_wp2
        go_ret
        exact ⟨rfl, HW.out⟩
end
section
theorem cut_list {ss : List (Int × Int)} (hl : ss.length ≤ 9) (S : Nat) : preM (cutM ss S) ss.length = listM (cutM ss S) := by
  have := preM_out (cutM ss S) ss.length (fun i hi => cutM_out hi) (16 - ss.length)
  rw [show ss.length + (16 - ss.length) = 16 by omega] at this
  exact this.symm
theorem putF_len (x : List Int) : ∀ l, (putF x l).length ≤ l.length + 1
  | [] => by simp [putF]
  | y :: t => by
    have := putF_len x t
    unfold putF
    split
    · rw [List.length_cons, List.length_cons]; omega
    · split
      · simp
      · omega
theorem putAll_len (c : Nat) (ss : List (Int × Int)) : ∀ (l acc : List (List Int)), (putAll c ss l acc).length ≤ acc.length + l.length
  | [], _ => Nat.le_refl _
  | z :: l, acc => by
    rw [putAll_cons]
    have h1 := putAll_len c ss l (if sdE c z = 0 ∧ par (setM z &&& oddM ss (2 ^ ss.length - 1)) = true then putF (listM (cutM ss (setM z))) acc else acc)
    have h2 := putF_len (listM (cutM ss (setM z))) acc
    rw [List.length_cons]
    split at h1
    · rename_i h; rw [if_pos h]; omega
    · rename_i h; rw [if_neg h]; omega
theorem putAll_small (c : Nat) (ss : List (Int × Int)) (l acc : List (List Int)) (h : ∀ k, (lth acc k).length ≤ 16) : ∀ k, (lth (putAll c ss l acc) k).length ≤ 16 := fun k => by
  rcases Nat.lt_or_ge k (putAll c ss l acc).length with hk | hk
  · have hm := lth_mem hk
    rcases (putAll_mem c ss _ l acc).1 hm with h1 | ⟨z, _, _, _, h1⟩
    · obtain ⟨j, hj, e⟩ := List.getElem_of_mem h1
      have := h j
      rw [lth_eq, List.getElem?_eq_getElem hj] at this
      rw [← e]; exact this
    · rw [h1]; exact preM_len _ _
  · rw [lth_eq, List.getElem?_eq_none hk]; simp
def takenF (c : Nat) (ss : List (Int × Int)) (z : List Int) : Bool := decide (sdE c z = 0) && par (setM z &&& oddM ss (2 ^ ss.length - 1))
theorem putAll_snoc (c : Nat) (ss : List (Int × Int)) (l : List (List Int)) (z : List Int) (acc : List (List Int)) : putAll c ss (l ++ [z]) acc = if sdE c z = 0 ∧ par (setM z &&& oddM ss (2 ^ ss.length - 1)) = true then putF (listM (cutM ss (setM z))) (putAll c ss l acc) else putAll c ss l acc := by
  unfold putAll
  rw [List.foldl_append]; rfl
def TupLO (r : Int) (R : List (List Int)) (w : World) (e : Ending) (w' : World) : Prop := ∃ l lc, e = .returned (.tuple #[.slice l R.length lc, .int .i64 r]) ∧ OwnX w' 0 (.slice l R.length lc) R ∧ Fut w w'
set_option maxRecDepth 100000 in
set_option maxHeartbeats 8000000 in
/-- the reference's Cuts. -/
theorem cutsR_any (c : Int) (a : Option Addr) (cap : Nat) (ss : List (Int × Int)) (w : World) (hS : StrAt w a ss) :
    Calls Try.prog 33 #[mapV c a ss.length cap] w (TupLO (chkM c ss) (cutsR c ss) w) := by
  have HC := Lib.hid (fun W (F : Fut w W) => checkR_any c a cap ss W (hS.fut F))
  by_cases h : chkM c ss = 0
  · obtain ⟨hc1, hc6, hl, _, hp, hrc⟩ := chk_good h
    obtain ⟨n, rfl⟩ := Int.eq_ofNat_of_zero_le (show 0 ≤ c by omega)
    have hR : cutsR n ss = (packS (cutsM n ss)).map listM := by
      unfold cutsR
      rw [if_pos h]
      exact pack_cuts hl
    rw [hR]
    rw [h] at HC ⊢
    have HPUT : Hid (putAll n ss (allF n 0) [] = (cutsM n ss).map listM) := Lib.hid (cuts_put (by omega) (by omega) hl hp hrc)
    have HCM : Hid (∀ x ∈ cutsM n ss, x < 65536) := Lib.hid (fun x hx => (cuts_good hl x hx).2)
    have HPL := Lib.hid (fun (l : List (List Int)) => putAll_len n ss l [])
    have HPS := Lib.hid (fun (l : List (List Int)) => putAll_small n ss l [] (fun k => by simp [lth]))
    have HSN := Lib.hid (fun l z => putAll_snoc n ss l z [])
    have HLI := Lib.hid (fun W => lists_own n n 0 none 0 [] W (by omega) (by omega) (by simp) (Or.inl ⟨rfl, rfl, rfl, rfl⟩) (Owns.nil W 0))
    have hid : (allF n 0).map ([] ++ ·) = allF n 0 := List.map_id' _
    rw [hid] at HLI
    have HIN := Lib.hid (fun (j : Nat) (hj : j < (allF n 0).length) => allF_in (by omega) (lth_mem hj))
    have HSD := Lib.hid (fun (l : Option Addr) (lc : Nat) zs W (hI : IntsAt W l zs) (hl : zs.length ≤ 1000) => sidedR_any n a ss.length cap l lc zs W hI hl (by omega))
    have HST := Lib.hid (fun (l : Option Addr) (lc : Nat) zs W (F : Fut w W) (hI : IntsAt W l zs) (hl' : zs.length ≤ 1000) (h0 : sdE n zs = 0) => strangeR_any n a cap ss l lc zs (setM zs) W (hS.fut F) hI hl' hl (by omega) hp (fun i _ => setM_bit (sd_good h0) i))
    have HCU := Lib.hid (fun (l : Option Addr) (lc : Nat) zs W (F : Fut w W) (hI : IntsAt W l zs) (hl' : zs.length ≤ 1000) (h0 : sdE n zs = 0) => (by
      have := cutRx_any n a cap ss l lc zs (setM zs) W (hS.fut F) hI hl' hl (by omega) hp (fun i _ => setM_bit (sd_good h0) i)
      rw [cut_list hl (setM zs)] at this
      exact this : Calls Try.prog 77 #[mapV n a ss.length cap, .slice l zs.length lc] W fun e w' => ∃ v, e = .returned v ∧ Owns w' W.heap.size v (listM (cutM ss (setM zs))) ∧ Fut W w'))
    have hal : (allF n 0).length ≤ 64 := by
      rw [allF_len]
      exact Nat.le_trans (Nat.pow_le_pow_right (by decide) (show n ≤ 6 by omega)) (by decide)
    have hpos : 0 < (allF n 0).length := by rw [allF_len]; exact Nat.two_pow_pos _
    have hax : ((allF n 0).length : Int) ≤ 64 := by omega
    clear h hid hp hS hR hrc
    generalize hCC : cutsM n ss = CC at *
    clear hCC
    generalize allF n 0 = L at *
    go_enter Try.func33, Try.ntmps33
    go_wp2_with fail
    have hB := BoxM.new w n a ss.length cap 28
    have hF : Fut w (w.alloc (.cells #[.int .i64 n, .slice a ss.length cap] 28)) := Fut.alloc _ _
    generalize w.alloc (.cells #[.int .i64 n, .slice a ss.length cap] 28) = W1 at *
    generalize w.heap.size = B at *
    have HB := Lib.hid hB
    have HF := Lib.hid hF
    clear hB hF
    refine (HC.out _ HF.out).mono ?_
    rintro _ w1 ⟨rfl, F1⟩
    have HF1 := Lib.hid (HF.out.trans F1)
    have HB1 := Lib.hid (HB.out.fut F1)
    obtain ⟨hb, b0, b1⟩ := HB1.out
    clear F1
    go_wp2_with fail
    refine (HLI.out _).mono ?_
    rintro _ w2 ⟨v2, rfl, hX2, F2⟩
    have HX2 := Lib.hid hX2
    have HF2 := Lib.hid (HF1.out.trans F2)
    have HB2 := Lib.hid (HB1.out.fut F2)
    obtain ⟨g2, c2, _, _, rfl, _⟩ := hX2.at hpos
    clear hX2 F2 HLI HB HB1 hb b0 b1 HC
    go_wp2_with fail
    go_loopw [5, 7] (fun ov iv wx => ∃ (k : Nat), k ≤ L.length ∧ iv = .int .i64 k ∧ Hid (OwnX wx 0 ov (putAll n ss (L.take k) [])) ∧ Hid (Fut w2 wx)) (fun _ iv _ => L.length - (intOf iv).toNat)
    case atStart => exact ⟨0, Nat.zero_le _, rfl, Lib.hid (OwnX.nil _ _), Lib.hid Fut.rfl⟩
    case round =>
      obtain ⟨k, hk, rfl, HOX, HR⟩ := hrel
      have hpl := HPL.out (L.take k)
      have hps := Lib.hid (HPS.out (L.take k))
      rw [List.length_nil, Nat.zero_add, List.length_take] at hpl
      have hpl2 : (putAll n ss (L.take k) []).length ≤ 64 := by omega
      by_cases hlt : k < L.length
      · have hkx : (k : Int) < L.length := by omega
        obtain ⟨g', c', l, lc, e, hg, hcell, hOl⟩ := (HX2.out.fut HR.out).at hlt
        simp only [Value.slice.injEq, Option.some.injEq, Addr.mk.injEq, and_true] at e
        obtain ⟨rfl, _, rfl⟩ := e
        have h1 := HIN.out k hlt
        obtain ⟨l', lc', e, hI⟩ := hOl.ints
        simp only [Value.slice.injEq] at e
        obtain ⟨rfl, _, rfl⟩ := e
        have hzl : (lth L k).length ≤ 1000 := by have := h1.2; omega
        have HNX : Hid (putAll n ss (L.take (k + 1)) [] = if sdE n (lth L k) = 0 ∧ par (setM (lth L k) &&& oddM ss (2 ^ ss.length - 1)) = true then putF (listM (cutM ss (setM (lth L k)))) (putAll n ss (L.take k) []) else putAll n ss (L.take k) []) := Lib.hid (by rw [take_lth2 hlt]; exact HSN.out _ _)
        have HSDW := Lib.hid (fun W (F : Fut wr W) => HSD.out l lc (lth L k) W (hI.fut F) hzl)
        have HSTW := Lib.hid (fun (h0 : sdE n (lth L k) = 0) W (F : Fut wr W) => HST.out l lc (lth L k) W ((HF2.out.trans HR.out).trans F) (hI.fut F) hzl h0)
        have HCUW := Lib.hid (fun (h0 : sdE n (lth L k) = 0) W (F : Fut wr W) => HCU.out l lc (lth L k) W ((HF2.out.trans HR.out).trans F) (hI.fut F) hzl h0)
        have HBR := Lib.hid (HB2.out.fut HR.out)
        have HCL : Hid (∀ W, Fut wr W → W.cell? ⟨g2, k, none⟩ = some (.slice l (lth L k).length lc)) := Lib.hid (fun W F => (RowKit.Below.cell F (p := ⟨g2, k, none⟩) hg).trans hcell)
        have md : ∀ p : After wr, p.w'.cell? ⟨g2, k, none⟩ = some (.slice l (lth L k).length lc) := fun p => HCL.out _ p.F
        obtain ⟨m0, m1⟩ := HBR.out.after (Fut.rfl (w := wr))
        have hcut16 : (listM (cutM ss (setM (lth L k)))).length ≤ 16 := preM_len _ _
        generalize hacc : putAll n ss (L.take k) [] = acc at *
        clear hacc
        generalize oddM ss (2 ^ ss.length - 1) = o at *
        generalize hzz : lth L k = zs at *
        clear hzz hI hOl h1 hcell hg
        generalize listM (cutM ss (setM zs)) = K at *
        generalize setM zs = S at *
        by_cases hs : sdE n zs = 0
        · have HST2 := Lib.hid (HSTW.out hs)
          have HCU2 := Lib.hid (HCUW.out hs)
          rw [hs] at HSDW
          cases hpar : par (S &&& o)
          · rw [hpar] at HST2
            rw [if_neg (fun h => by have h := h.2; rw [hpar] at h; cases h)] at HNX
            clear hpar hs HSTW HCUW HCU2
            go_wp2_with fail
            refine region_fut (by kernel_rfl) (by kernel_rfl) ?_
            repeat (go_big_quiet_step (first
              | (go_at_call 76; rename_i p; exact after_of (HSDW.out _ p.F))
              | (go_at_call 82; rename_i p; exact after_of (HST2.out _ p.F))))
            refine wpQuiet_nil ?_
            intro w3 hw'
            have F3 : Fut wr w3 := after_fut hw'
            have HR3 := Lib.hid (HR.out.trans F3)
            have HOX3 := Lib.hid (HOX.out.fut F3)
            rw [← HNX.out] at HOX3
            clear hw' m0 m1 md HSDW HST2 F3 HOX HNX HBR HCL
            go_wp2
            go_roundw
            case rel => exact ⟨k + 1, by omega, by go_num, HOX3, HR3⟩
            case measure => simp [intOf]; omega
          · rw [hpar] at HST2
            rw [if_pos ⟨hs, hpar⟩] at HNX
            clear hpar hs HSTW HCUW
            go_wp2_with fail
            refine region_fut (by kernel_rfl) (by kernel_rfl) ?_
            repeat (go_big_quiet_step (first
              | (go_at_call 76; rename_i p; exact after_of (HSDW.out _ p.F))
              | (go_at_call 82; rename_i p; exact after_of (HST2.out _ p.F))))
            refine wpQuiet_nil ?_
            intro w3 hw'
            have F3 : Fut wr w3 := after_fut hw'
            have HR3 := Lib.hid (HR.out.trans F3)
            obtain ⟨oa, oc, rfl, _⟩ := HOX.out.form
            have HOX3 := Lib.hid (HOX.out.fut F3)
            have HCU3 := Lib.hid (fun W (F : Fut w3 W) => HCU2.out W (F3.trans F))
            have HCL3 : Hid (∀ W, Fut w3 W → W.cell? ⟨g2, k, none⟩ = some (.slice l zs.length lc)) := Lib.hid (fun W F => HCL.out W (F3.trans F))
            have HB3 := Lib.hid (HBR.out.fut F3)
            clear hw' m0 m1 md HSDW HST2 F3 HOX HBR HCL HCU2
            have HCC : Hid (∀ W, Fut w3 W → Calls Try.prog 77 #[mapV n a ss.length cap, .slice l zs.length lc] W fun e w' => ∃ va vc, e = .returned (.slice va K.length vc) ∧ Fut w3 w' ∧ Owns w' 0 (.slice va K.length vc) K) := Lib.hid (fun W F => (HCU3.out W F).mono fun e w' (h : ∃ v, e = .returned v ∧ Owns w' W.heap.size v K ∧ Fut W w') => by
              obtain ⟨v, h1, h2, h3⟩ := h
              obtain ⟨va, vc, rfl, hI⟩ := h2.ints
              exact ⟨va, vc, h1, F.trans h3, h2.base (Nat.zero_le _)⟩)
            have HPT := Lib.hid (fun (va : Option Addr) (vc : Nat) W (F : Fut w3 W) (hO : Owns W 0 (.slice va K.length vc) K) => putR_any oa oc acc va vc K W (HOX3.out.fut F) hO hpl2 hps.out hcut16)
            obtain ⟨hb, b0, b1⟩ := HB3.out
            have c3 := HCL3.out _ Fut.rfl
            have HFD : Hid (Fut w3 w3.drew) := Lib.hid (Fut.drewN w3 1)
            go_upto_region 10 with fail
            go_region_held3 (fun w' => w'.cell? ⟨B, 0, none⟩ = some (.int .i64 n) ∧ w'.cell? ⟨B, 1, none⟩ = some (.slice a ss.length cap) ∧ w'.cell? ⟨g2, k, none⟩ = some (.slice l zs.length lc)) (first | exact ⟨a0, a1, a2⟩ | exact ⟨z0, z1, z2⟩ | exact ⟨by assumption, by assumption, by assumption⟩ | go_keep) (first
              | (go_at_call 77; (with_reducible refine (HCC.out _ HFD.out).mono ?_); rintro _ wa ⟨va, vc, rfl, FA, OA⟩; have a2 := HCL3.out _ FA; obtain ⟨_, a0, a1⟩ := HB3.out.fut FA)
              | (go_at_call 83; (with_reducible refine (HPT.out va vc _ FA OA).mono ?_); rintro _ wz ⟨vz, rfl, XZ, FW⟩; have FZ := FA.trans FW; have z2 := HCL3.out _ FZ; obtain ⟨_, z0, z1⟩ := HB3.out.fut FZ; obtain ⟨za, zc, rfl, _⟩ := XZ.form))
            all_goals
              have HRZ := Lib.hid (HR3.out.trans FZ)
              have HXZ : Hid (OwnX wz 0 (.slice za (putF K acc).length zc) (putAll n ss (L.take (k + 1)) [])) := Lib.hid (by rw [HNX.out]; exact XZ)
              clear XZ FZ FW FA OA a0 a1 a2 z0 z1 z2 HPT HCC HFD c3 hb b0 b1
              go_wp2
              go_roundw
              case rel => first | exact ⟨k + 1, by omega, by go_num, HXZ, HRZ⟩ | ((repeat apply Exists.intro); refine ⟨⟨k + 1, by omega, ?_, HXZ, HRZ⟩, rfl⟩; go_num)
              case measure => simp [intOf]; omega
        · have hne : (sdE n zs == 0) = false := beq_eq_false_iff_ne.2 hs
          rw [if_neg (fun h => hs h.1)] at HNX
          clear hs HSTW HCUW
          generalize sdE n zs = r at *
          go_wp2_with fail
          refine region_fut (by kernel_rfl) (by kernel_rfl) ?_
          repeat (go_big_quiet_step (first
            | (go_at_call 76; rename_i p; exact after_of (HSDW.out _ p.F))))
          refine wpQuiet_nil ?_
          intro w3 hw'
          have F3 : Fut wr w3 := after_fut hw'
          have HR3 := Lib.hid (HR.out.trans F3)
          have HOX3 := Lib.hid (HOX.out.fut F3)
          rw [← HNX.out] at HOX3
          clear hw' m0 m1 md HSDW F3 HOX HNX HBR HCL
          go_wp2
          go_roundw
          case rel => exact ⟨k + 1, by omega, by go_num, HOX3, HR3⟩
          case measure => simp [intOf]; omega
      · obtain rfl : k = L.length := by omega
        rw [List.take_length, HPUT.out] at HOX hpl2
        obtain ⟨oa, oc, rfl, hoc, hLo⟩ := HOX.out.form
        rw [List.length_map] at hpl2 hoc
        have HPA := Lib.hid (packR_any CC.length CC oa oc wr rfl hpl2 hoc HCM.out hLo)
        have hcl : (CC.map listM).length = CC.length := List.length_map ..
        have HEND := Lib.hid (HF2.out.trans HR.out)
        have hpp : ((packS CC).map listM).length = (packS CC).length := List.length_map ..
        rw [← hcl] at HPA
        rw [← hpp] at HPA
        clear hcl hpp hoc hLo HPUT HPL HPS HSN HOX
        generalize (CC.map listM).length = cl at *
        go_wp2_with fail
        refine HPA.out.mono ?_
        rintro _ wz ⟨ua, uc, rfl, hX, FZ⟩
        have HX := Lib.hid hX
        have HFZ := Lib.hid (HEND.out.trans FZ)
        clear hX FZ
        go_wp2
        go_ret2
        exact ⟨ua, uc, by rw [List.length_map]; rfl, HX.out, HFZ.out⟩
  · have hR : cutsR c ss = [] := by unfold cutsR; rw [if_neg h]
    rw [hR]
    have hne : (chkM c ss != 0) = true := bne_iff_ne.2 h
    clear h hR hS
    generalize chkM c ss = r at *
    go_enter Try.func33, Try.ntmps33
    go_wp2_with fail
    have hF : Fut w (w.alloc (.cells #[.int .i64 c, .slice a ss.length cap] 28)) := Fut.alloc _ _
    generalize w.alloc (.cells #[.int .i64 c, .slice a ss.length cap] 28) = W1 at *
    generalize w.heap.size = B at *
    have HF := Lib.hid hF
    clear hF
    refine (HC.out _ HF.out).mono ?_
    rintro _ w2 ⟨rfl, F2⟩
    have HF2 := Lib.hid (HF.out.trans F2)
    clear F2
    go_wp2
    go_ret2
    exact ⟨none, 0, rfl, OwnX.nil _ _, HF2.out⟩
end
section
open Go.Joins Go.ChangeShapes Go.WideShapes Go.ChangeAt
theorem cT25 : Try.prog.cellsOf 25 = 1 := by kernel_rfl
theorem cT45 : Try.prog.cellsOf 45 = 1 := by kernel_rfl
set_option maxRecDepth 100000 in
/-- a list of numbers that was read. -/
theorem open_slc {H : Type} {enc : TypeId × Value → H} {w : World} {fuel : Nat} {cs : List Value} {x : DataW H × List MemPlace}
    (hf : DataW.trod enc Try.prog w 0 (fun _ => true) true fuel 25 cs = some x) :
    ∃ a cap zs, cs = [.slice a (List.length zs) cap] ∧ zs.length ≤ 9223372036854775807 ∧ IntsAt w a zs := by
  rcases open_ints Try.underlying25 Try.underlying3 cT3 hf with ⟨hcs, _⟩ | ⟨a, len, cap, zs, hcs, _, hl, hm, hz, _, hcell, _⟩
  · exact ⟨none, 0, [], hcs, by simp, fun j hj => absurd hj (by simp)⟩
  · simp only [if_true] at hz
    unfold maxLen at hm
    have hlt : (zs.take len).length = len := by rw [List.length_take]; omega
    refine ⟨some a, cap, zs.take len, by rw [hlt]; exact hcs, by omega, fun j hj => ?_⟩
    rw [hlt] at hj
    have hc0 := hcell 0 (by omega)
    have hc := hcell j (by omega)
    obtain ⟨b, off, spot⟩ := a
    have hspot : spot = none := by simpa [Addr.add] using World.cell?_spot hc0
    subst hspot
    have hadd : (⟨b, off, none⟩ : Addr).add j = ⟨b, off + j, none⟩ := by unfold Addr.add; split <;> simp_all
    rw [hadd] at hc
    refine ⟨b, off, rfl, World.block_lt_of_cell? _ _ hc, ?_⟩
    have e : nth (zs.take len) j = zs.getD j 0 := by rw [nth_eq, List.getElem?_take, if_pos hj, List.getD_eq_getElem?_getD]
    rw [e]
    exact hc
set_option maxRecDepth 100000 in
/-- lists that came in. -/
theorem open_lls {H : Type} {enc : TypeId × Value → H} {w : World} {b0 : Nat} {r : Reach} {v : Value} {d : DataW H} {p : List MemPlace}
    (hv : Value.okWide Try.prog w r b0 45 v) (h : DataW.Trod enc Try.prog w 0 (fun _ => true) true 45 v d p) :
    ∃ a cap zss, v = .slice a (List.length zss) cap ∧ zss.length ≤ 9223372036854775807 ∧ (∀ k, (lth zss k).length ≤ 9223372036854775807) ∧ LstAt w a zss := by
  obtain ⟨a0, len0, cap0, rfl⟩ := okWide_slice Try.underlying45 hv
  obtain ⟨fuel, hf⟩ := h
  rcases DataW.trod_slice Try.underlying45 hf with ⟨hcs, _⟩ | ⟨a, len, cap, elems, rest, n, _, hcs, _, _, hl, hm, hlen, hel, _, _⟩
  · simp [Value.cells] at hcs
    obtain ⟨rfl, rfl, rfl⟩ := hcs
    exact ⟨none, 0, [], rfl, by simp, fun k => by simp [lth], fun j hj => absurd hj (by simp)⟩
  · simp [Value.cells] at hcs
    obtain ⟨rfl, rfl, rfl⟩ := hcs
    unfold maxLen at hm
    have each : ∀ i, i < len0 → ∃ zs : List Int, zs.length ≤ 9223372036854775807 ∧ ∃ l lc, w.cell? ((a.add (i * 1)).add 0) = some (.slice l zs.length lc) ∧ IntsAt w l zs := fun i hi => by
      have := hel i hi
      rw [cT25, List.getElem?_eq_getElem (by omega), Option.bind_eq_some_iff] at this
      obtain ⟨cs, hcs, hy⟩ := this
      obtain ⟨_, hl1, hc⟩ := World.cells?_some hcs
      obtain ⟨l, lc, zs, rfl, hz, hI⟩ := open_slc hy
      have c0 := hc 0 (by decide)
      exact ⟨zs, hz, l, lc, by simpa using c0, hI⟩
    have hex : ∃ zss : List (List Int), zss.length = len0 ∧ (∀ k, (lth zss k).length ≤ 9223372036854775807) ∧ ∀ i, i < len0 → ∃ l lc, w.cell? ((a.add (i * 1)).add 0) = some (.slice l (lth zss i).length lc) ∧ IntsAt w l (lth zss i) := by
      refine ⟨(List.range len0).map fun i => if hi : i < len0 then (each i hi).choose else [], by simp, fun k => ?_, fun i hi => ?_⟩
      · by_cases hk : k < len0
        · have e : lth ((List.range len0).map fun i => if hi : i < len0 then (each i hi).choose else []) k = (each k hk).choose := by
            rw [lth_eq, List.getElem?_map, List.getElem?_range hk]
            simp [hk]
          rw [e]
          exact (each k hk).choose_spec.1
        · rw [lth_eq, List.getElem?_eq_none (by simp; omega)]; simp
      · have e : lth ((List.range len0).map fun i => if hi : i < len0 then (each i hi).choose else []) i = (each i hi).choose := by
          rw [lth_eq, List.getElem?_map, List.getElem?_range hi]
          simp [hi]
        rw [e]
        exact (each i hi).choose_spec.2
    obtain ⟨zss, rfl, hz, hc⟩ := hex
    refine ⟨some a, cap0, zss, rfl, by omega, hz, fun j hj => ?_⟩
    obtain ⟨l, lc, c0, hI⟩ := hc j hj
    obtain ⟨b, off, spot⟩ := a
    have hspot : spot = none := by
      obtain ⟨_, _, c, _⟩ := hc 0 (by omega)
      simpa [Addr.add] using World.cell?_spot c
    subst hspot
    have hadd : ∀ o k, (⟨b, o, none⟩ : Addr).add k = ⟨b, o + k, none⟩ := fun o k => by unfold Addr.add; split <;> simp_all
    rw [hadd, hadd, Nat.mul_one, Nat.add_zero] at c0
    exact ⟨b, off, l, lc, rfl, World.block_lt_of_cell? _ _ c0, c0, hI⟩
end
section
theorem cutR_len (c : Int) (ss : List (Int × Int)) (zs : List Int) : (cutR c ss zs).length ≤ 1000 := by
  unfold cutR
  split
  · exact Nat.le_trans (preM_len _ _) (by decide)
  · simp
theorem provG_len (C : List Nat) : ∀ (l : List Nat) (f : Nat), (provG C l f).length ≤ l.length ∧ ∀ k, (lth (provG C l f) k).length ≤ 16
  | [], _ => ⟨Nat.le_refl _, fun k => by simp [provG, lth]⟩
  | c :: l, f => by
    unfold provG
    split
    · have h := provG_len C l (dif f c)
      refine ⟨by rw [List.length_cons, List.length_cons]; exact Nat.succ_le_succ h.1, fun k => ?_⟩
      cases k with
      | zero => exact preM_len _ _
      | succ k => exact h.2 k
    · have h := provG_len C l f
      exact ⟨by rw [List.length_cons]; exact Nat.le_succ_of_le h.1, h.2⟩
theorem cutsR_len (c : Int) (ss : List (Int × Int)) : (cutsR c ss).length ≤ 1000 ∧ ∀ k, (lth (cutsR c ss) k).length ≤ 1000 := by
  unfold cutsR
  split
  · rename_i h
    have h6 := (chk_good h).2.1
    have h1 := provG_len (cutsM c.toNat ss) (cutsM c.toNat ss) (2 ^ ss.length - 1)
    refine ⟨?_, fun k => Nat.le_trans (h1.2 k) (by decide)⟩
    have h2 : (cutsM c.toNat ss).length ≤ 2 ^ c.toNat := by
      have h3 : (cutsM c.toNat ss).length = (rawM c.toNat ss).length := (sortS_perm (rawM c.toNat ss)).length_eq
      rw [h3]
      unfold rawM
      rw [List.length_map]
      refine Nat.le_trans (List.length_filter_le _ _) ?_
      rw [List.length_range]; exact Nat.sub_le _ _
    have h4 : 2 ^ c.toNat ≤ 2 ^ 6 := Nat.pow_le_pow_right (by decide) (by omega)
    have h5 : (2 : Nat) ^ 6 = 64 := rfl
    generalize 2 ^ c.toNat = p at *
    omega
  · exact ⟨by simp, fun k => by simp [lth]⟩
theorem OwnX.lst {w : World} {B : Nat} {a : Option Addr} {n cap : Nat} {zss : List (List Int)} (h : OwnX w B (.slice a n cap) zss) : LstAt w a zss := by
  obtain ⟨a', cap', e, _, hL⟩ := h.form
  simp only [Value.slice.injEq] at e
  obtain ⟨rfl, _, _⟩ := e
  exact hL.lst
set_option maxRecDepth 100000 in
set_option maxHeartbeats 8000000 in
/-- RoundCuts walks. -/
theorem cutsLaw_any (c : Int) (a : Option Addr) (cap : Nat) (ss : List (Int × Int)) (d : Option Addr) (dap : Nat) (zs : List Int) (f : Option Addr) (fap : Nat) (zss : List (List Int)) (w : World) (hS : StrAt w a ss) (hZ : IntsAt w d zs) (hR : LstAt w f zss) (hl1 : ss.length ≤ 9223372036854775807) (hl2 : zs.length ≤ 9223372036854775807) (hl3 : zss.length ≤ 9223372036854775807) (hl4 : ∀ k, (lth zss k).length ≤ 9223372036854775807) :
    Calls Try.prog 6 #[mapV c a ss.length cap, .slice d zs.length dap, .slice f zss.length fap] w fun e w' => e = .returned (.bool true) ∧ Fut w w' := by
  have HS := Lib.hid hS
  have HZ := Lib.hid hZ
  have HR := Lib.hid hR
  have HL4 := Lib.hid hl4
  have HL := Lib.hid (fun W => large_any c a cap ss.length W)
  clear hS hZ hR hl4
  have hlx : (ss.length : Int) ≤ 9223372036854775807 := by omega
  have hzx : (zs.length : Int) ≤ 9223372036854775807 := by omega
  have hrx : (zss.length : Int) ≤ 9223372036854775807 := by omega
  go_enter Try.func6, Try.ntmps6
  go_wp2_with fail
  have hB := BoxM.new w c a ss.length cap 24
  have hF : Fut w (w.alloc (.cells #[.int .i64 c, .slice a ss.length cap] 24)) := Fut.alloc _ _
  generalize w.alloc (.cells #[.int .i64 c, .slice a ss.length cap] 24) = W1 at *
  generalize w.heap.size = B at *
  have HB := Lib.hid hB
  have HF := Lib.hid hF
  clear hB hF
  refine (HL.out _).mono ?_
  rintro _ w2 ⟨rfl, F2⟩
  have HF2 := Lib.hid (HF.out.trans F2)
  have HB2 := Lib.hid (HB.out.fut F2)
  clear F2 HL
  by_cases hg : 40 < ss.length
  · have hgd : decide (40 < ss.length) = true := decT hg
    rw [hgd]
    clear hg hgd
    go_wp2_with fail
    refine (works_any _).mono ?_
    rintro _ w3 ⟨rfl, F⟩
    have HF3 := Lib.hid (HF2.out.trans F)
    clear F
    go_wp2
    go_ret
    exact ⟨rfl, HF3.out⟩
  have hgd : decide (40 < ss.length) = false := decide_eq_false hg
  rw [hgd]
  clear hgd
  by_cases hg2 : 40 < zs.length
  · have hg2x : (40 : Int) < zs.length := by omega
    clear hg hg2
    go_wp2_with fail
    refine (works_any _).mono ?_
    rintro _ w3 ⟨rfl, F⟩
    have HF3 := Lib.hid (HF2.out.trans F)
    clear F
    go_wp2
    go_ret
    exact ⟨rfl, HF3.out⟩
  have hg2x : ¬ (40 : Int) < zs.length := by omega
  by_cases hg3 : 40 < zss.length
  · have hg3x : (40 : Int) < zss.length := by omega
    clear hg hg2 hg3
    go_wp2_with fail
    refine (works_any _).mono ?_
    rintro _ w3 ⟨rfl, F⟩
    have HF3 := Lib.hid (HF2.out.trans F)
    clear F
    go_wp2
    go_ret
    exact ⟨rfl, HF3.out⟩
  have hg3x : ¬ (40 : Int) < zss.length := by omega
  have HP := Lib.hid (fun W (F : Fut w W) => cutf_any c a cap ss d dap zs W (HS.out.fut F) (HZ.out.fut F) (by omega))
  have HPR := Lib.hid (fun W (F : Fut w W) => cutRf_any c a cap ss d dap zs W (HS.out.fut F) (HZ.out.fut F) (by omega))
  have HC := Lib.hid (fun W (F : Fut w W) => cutsf_any c a cap ss W (HS.out.fut F))
  have HCR := Lib.hid (fun W (F : Fut w W) => cutsR_any c a cap ss W (HS.out.fut F))
  have HE := Lib.hid (fun W (F : Fut w W) => even_any c a cap ss W (HS.out.fut F))
  have HER := Lib.hid (fun W (F : Fut w W) => evenRf_any c a cap ss W (HS.out.fut F))
  have HV := Lib.hid (fun (h : ∀ k, (lth zss k).length ≤ 1000) W (F : Fut w W) => proves_any c a cap ss f fap zss W (HS.out.fut F) (HR.out.fut F) (by omega) h)
  have HVR := Lib.hid (fun (h : ∀ k, (lth zss k).length ≤ 1000) W (F : Fut w W) => provesR_any c a cap ss f fap zss W (HS.out.fut F) (HR.out.fut F) (by omega) h)
  have hol := cutR_len c ss zs
  have hpl := (cutsR_len c ss).1
  have HPS := Lib.hid (cutsR_len c ss).2
  generalize cutR c ss zs = O at *
  generalize cutE c ss zs = r at *
  generalize cutsR c ss = P at *
  generalize chkM c ss = q at *
  generalize evenR c ss = ev at *
  generalize provE c ss zss = pr at *
  clear hg hg2 hg3
  go_wp2_with fail
  go_loopw [7] (fun iv wx => ∃ (k : Nat), k ≤ zss.length ∧ iv = .int .i64 k ∧ Hid (∀ j, j < k → (lth zss j).length ≤ 40) ∧ Hid (Fut w2 wx)) (fun iv _ => zss.length - (intOf iv).toNat)
  case atStart => exact ⟨0, Nat.zero_le _, rfl, Lib.hid (fun j hj => absurd hj (by omega)), Lib.hid Fut.rfl⟩
  case round =>
    obtain ⟨k, hk, rfl, HSM, HX⟩ := hrel
    have HFX := Lib.hid (HF2.out.trans HX.out)
    have HBX := Lib.hid (HB2.out.fut HX.out)
    by_cases hlt : k < zss.length
    · have hkx : (k : Int) < zss.length := by omega
      obtain ⟨bb, off, l, lc, ea, hbb, d1, _⟩ := (HR.out.fut HFX.out) k hlt
      subst ea
      have hkl := HL4.out k
      have HSN : Hid ((lth zss k).length ≤ 40 → ∀ j, j < k + 1 → (lth zss j).length ≤ 40) := Lib.hid (fun h j hj => by
        rcases Nat.lt_or_ge j k with h' | h'
        · exact HSM.out j h'
        · obtain rfl : j = k := by omega
          exact h)
      generalize (lth zss k).length = m at *
      have hmx : (m : Int) ≤ 9223372036854775807 := by omega
      by_cases hm : 40 < m
      · have hm2 : (40 : Int) < m := by omega
        clear hm
        go_wp2_with fail
        refine (works_any _).mono ?_
        rintro _ w3 ⟨rfl, F⟩
        have HF3 := Lib.hid (HFX.out.trans F)
        clear F
        go_wp2
        go_ret
        exact ⟨rfl, HF3.out⟩
      · have hm2 : ¬ (40 : Int) < m := by omega
        have HSO := Lib.hid (HSN.out (by omega))
        clear hm HSN
        go_wp2
        go_roundw
        case rel => exact ⟨k + 1, by omega, by go_num, HSO, HX⟩
        case measure => simp [intOf]; omega
    · obtain rfl : k = zss.length := by omega
      have hsm : ∀ k, (lth zss k).length ≤ 1000 := fun k => by
        rcases Nat.lt_or_ge k zss.length with h | h
        · have := HSM.out k h; omega
        · rw [lth_eq, List.getElem?_eq_none h]; simp
      have HV2 := Lib.hid (HV.out hsm)
      have HVR2 := Lib.hid (HVR.out hsm)
      clear HV HVR hsm HSM HX HB2 HF2
      obtain ⟨hb, b0, b1⟩ := HBX.out
      go_upto_region 9 with fail
      have hF4 : Fut wr (wr.alloc (.cells #[.int .i64 c, .slice a ss.length cap] 28)) := Fut.alloc _ _
      have hD := BoxM.new wr c a ss.length cap 28
      generalize wr.alloc (.cells #[.int .i64 c, .slice a ss.length cap] 28) = w3 at *
      generalize wr.heap.size = D at *
      have HF3 := Lib.hid (HFX.out.trans hF4)
      have HB3 := Lib.hid (HBX.out.fut hF4)
      have HD3 := Lib.hid hD
      clear hb b0 b1 hF4 hD HBX
      obtain ⟨hb, b0, b1⟩ := HB3.out
      go_wp2_with fail
      refine (HP.out _ HF3.out).mono ?_
      rintro _ w4 ⟨l1, lc1, rfl, hI1, F4⟩
      have HF4 := Lib.hid (HF3.out.trans F4)
      have HB4 := Lib.hid (HB3.out.fut F4)
      have HD4 := Lib.hid (HD3.out.fut F4)
      have HI1 := Lib.hid hI1
      clear hb b0 b1 HB3 HD3 hI1 F4
      obtain ⟨hd, d0, d1⟩ := HD4.out
      go_wp2_with fail
      refine (HPR.out _ HF4.out).mono ?_
      rintro _ w5 ⟨l2, lc2, rfl, hI2, F5⟩
      have HF5 := Lib.hid (HF4.out.trans F5)
      have HI15 := Lib.hid (HI1.out.fut F5)
      have HI2 := Lib.hid hI2
      have HB5 := Lib.hid (HB4.out.fut F5)
      have HD5 := Lib.hid (HD4.out.fut F5)
      clear hd d0 d1 HB4 HD4 hI2 F5 HI1
      obtain ⟨hb, b0, b1⟩ := HB5.out
      go_wp2_with fail
      refine (HC.out _ HF5.out).mono ?_
      rintro _ w6 ⟨l3, lc3, rfl, hI3, F6⟩
      have HF6 := Lib.hid (HF5.out.trans F6)
      have HI16 := Lib.hid (HI15.out.fut F6)
      have HI26 := Lib.hid (HI2.out.fut F6)
      have HI36 := Lib.hid hI3
      have HD6 := Lib.hid (HD5.out.fut F6)
      have HB6 := Lib.hid (HB5.out.fut F6)
      clear hb b0 b1 HB5 HD5 F6 HI15 HI2 hI3
      obtain ⟨hd, d0, d1⟩ := HD6.out
      go_wp2_with fail
      refine (HCR.out _ HF6.out).mono ?_
      rintro _ w7 ⟨l4, lc4, rfl, hI4, F7⟩
      have HF7 := Lib.hid (HF6.out.trans F7)
      have HI17 := Lib.hid (HI16.out.fut F7)
      have HI27 := Lib.hid (HI26.out.fut F7)
      have HI37 := Lib.hid (HI36.out.fut F7)
      have HI47 := Lib.hid hI4.lst
      have HD7 := Lib.hid (HD6.out.fut F7)
      have HB7 := Lib.hid (HB6.out.fut F7)
      clear hd d0 d1 HD6 HB6 F7 HI16 HI26 HI36 hI4
      obtain ⟨hb, b0, b1⟩ := HB7.out
      go_wp2_with fail
      refine (HE.out _ HF7.out).mono ?_
      rintro _ w8 ⟨rfl, F8⟩
      have HF8 := Lib.hid (HF7.out.trans F8)
      have HI18 := Lib.hid (HI17.out.fut F8)
      have HI28 := Lib.hid (HI27.out.fut F8)
      have HI38 := Lib.hid (HI37.out.fut F8)
      have HI48 := Lib.hid (HI47.out.fut F8)
      have HD8 := Lib.hid (HD7.out.fut F8)
      have HB8 := Lib.hid (HB7.out.fut F8)
      clear hb b0 b1 HD7 HB7 F8 HI17 HI27 HI37 HI47
      obtain ⟨hd, d0, d1⟩ := HD8.out
      go_wp2_with fail
      refine (HER.out _ HF8.out).mono ?_
      rintro _ w9 ⟨rfl, F9⟩
      have HF9 := Lib.hid (HF8.out.trans F9)
      have HI1' := Lib.hid ((HI18.out.fut F9).after Fut.rfl)
      have HI2' := Lib.hid ((HI28.out.fut F9).after Fut.rfl)
      have HI3' := Lib.hid (HI38.out.fut F9)
      have HI4' := Lib.hid (HI48.out.fut F9)
      have hB9 := HB8.out.fut F9
      have hD9 := HD8.out.fut F9
      obtain ⟨b0, b1⟩ := hB9.after Fut.rfl
      obtain ⟨e0, e1⟩ := hD9.after Fut.rfl
      have HFA : Hid (∀ p : After w9, Fut w p.w') := Lib.hid (fun p => HF9.out.trans p.F)
      clear hd d0 d1 HB8 HD8 F9 HI18 HI28 HI38 HI48 hB9 hD9
      have HSA : Hid (∀ p : After w9, Calls Try.prog 17 #[.slice l1 O.length lc1, .slice l2 O.length lc2] p.w' fun e w' => e = .returned (.bool true) ∧ Fut p.w' w') := Lib.hid (fun p => (same_any l1 l2 lc1 lc2 O O p.w' (by omega) (by omega) (HI1'.out p) (HI2'.out p)).mono fun e w' (h : e = .returned (.bool (sameB O O)) ∧ ∃ q, w' = p.w'.drewN q) => ⟨by rw [h.1]; unfold sameB; rw [decide_eq_true rfl], by obtain ⟨q, hq⟩ := h.2; rw [hq]; exact Fut.drewN _ _⟩)
      have HSB : Hid (∀ p : After w9, Calls Try.prog 36 #[.slice l3 P.length lc3, .slice l4 P.length lc4] p.w' fun e w' => e = .returned (.bool true) ∧ Fut p.w' w') := Lib.hid (fun p => (lists_any l3 l4 lc3 lc4 P P p.w' hpl hpl HPS.out HPS.out (HI3'.out.fut p.F) (HI4'.out.fut p.F)).mono fun e w' (h : e = .returned (.bool (listsB P P)) ∧ Fut p.w' w') => ⟨by rw [h.1]; unfold listsB; rw [decide_eq_true rfl], h.2⟩)
      clear HP HPR HC HCR HE HER
      go_wp2_with fail
      refine region_fut (by kernel_rfl) (by kernel_rfl) ?_
      repeat (go_big_quiet_step (first
        | (go_at_call 17; rename_i p; exact after_of (HSA.out p))
        | (go_at_call 36; rename_i p; exact after_of (HSB.out p))
        | (go_at_call 37; rename_i p; exact after_of (HV2.out _ (HFA.out p)))
        | (go_at_call 38; rename_i p; exact after_of (HVR2.out _ (HFA.out p)))
        | (go_at_call 14; rename_i p; exact after_of (works_any _))))
      refine wpQuiet_nil ?_
      intro w10 hw'
      have HF10 := Lib.hid (HF9.out.trans (after_fut hw'))
      clear hw' b0 b1 e0 e1
      go_wp2
      go_ret
      exact ⟨rfl, HF10.out⟩
end
end Go.Proofs.Ytimddkofcejijaa
