/- Layer 2: sides prove that no fewer streets are enough; what the law asks of them is what the program asks. -/
import Derived.Test.YtimddkofcejijaaDoorNA
import Derived.Test.YtimddkofcejijaaDoorSG
import Derived.Test.YtimddkofcejijaaDoorSI
namespace Go.Proofs.YtimddkofcejijaaDoor
open Go.RowKit Go.Sort
namespace Sd
theorem list_asc : ∀ c : Fin 7, ∀ S : Fin 64, S.val < 2 ^ c.val → ascE c.val (listM S.val) (-1) = 0 := by decide +kernel
theorem setM_list : ∀ S : Fin 64, setM (listM S.val) = S.val := by decide +kernel
theorem sd_list {n s : Nat} (hn : n ≤ 6) (hs : s < 2 ^ n) : sdE n (listM s) = if s = 0 ∨ s = 2 ^ n - 1 then 5 else 0 := by
  have h64 : 2 ^ n ≤ 64 := Nat.le_trans (Nat.pow_le_pow_right (by decide) hn) (by decide)
  have h := list_asc ⟨n, by omega⟩ ⟨s, by omega⟩ hs
  unfold sdE
  rw [h, if_neg (by simp), setM_list ⟨s, by omega⟩, Int.toNat_natCast]
/-- what the law asks of the sides. -/
def lwE (n : Nat) (ss : List (Int × Int)) (o : Nat) : List Nat → Nat → Int
  | [], _ => 0
  | s :: t, u => if s = 0 ∨ s = 2 ^ n - 1 then 5 else if par (s &&& o) then (if u &&& cutM ss s = 0 then lwE n ss o t (u ||| cutM ss s) else 6) else 14
theorem lwE_prv {n : Nat} {ss : List (Int × Int)} {o : Nat} (hn : n ≤ 6) : ∀ (l : List Nat) (u : Nat), (∀ s ∈ l, s < 2 ^ n) → prvL n ss o (l.map listM) u = lwE n ss o l u
  | [], _, _ => rfl
  | s :: t, u, h => by
    have hs := h s (List.mem_cons_self ..)
    have h64 : 2 ^ n ≤ 64 := Nat.le_trans (Nat.pow_le_pow_right (by decide) hn) (by decide)
    show (if sdE n (listM s) = 0 then _ else _) = _
    rw [sd_list hn hs, setM_list ⟨s, by omega⟩]
    unfold lwE
    by_cases h0 : s = 0 ∨ s = 2 ^ n - 1
    · rw [if_pos h0, if_pos h0, if_neg (by decide)]
    · rw [if_neg h0, if_neg h0, if_pos rfl, Nat.and_comm u]
      split
      · split
        · exact lwE_prv hn t _ fun x hx => h x (List.mem_cons_of_mem _ hx)
        · rfl
      · rfl
theorem count_or (f g : Nat → Bool) : ∀ l : List Nat, (∀ i ∈ l, ¬ (f i = true ∧ g i = true)) → l.countP (fun i => f i || g i) = l.countP f + l.countP g
  | [], _ => rfl
  | i :: l, h => by
    have ih := count_or f g l fun j hj => h j (List.mem_cons_of_mem _ hj)
    have hi := h i (List.mem_cons_self ..)
    rw [List.countP_cons, List.countP_cons, List.countP_cons, ih]
    cases hf : f i <;> cases hg : g i
    · simp
    · simp; omega
    · simp; omega
    · exact absurd ⟨hf, hg⟩ hi
theorem pop_or {a b : Nat} (h : a &&& b = 0) : Nm.pop (a ||| b) = Nm.pop a + Nm.pop b := by
  unfold Nm.pop
  rw [← count_or (fun i => a.testBit i) (fun i => b.testBit i) _ fun i _ hh => by
    have : (a &&& b).testBit i = true := by rw [Nat.testBit_and, hh.1, hh.2]; rfl
    rw [h, Nat.zero_testBit] at this; cases this]
  exact List.countP_congr fun i _ => by rw [Nat.testBit_or]
theorem pop_le {a b : Nat} (h : ∀ i, a.testBit i = true → b.testBit i = true) : Nm.pop a ≤ Nm.pop b := List.countP_mono_left fun i _ => h i
/-- no fewer streets are enough than sides prove. -/
theorem weak {n : Nat} {ss : List (Int × Int)} (hl : ss.length ≤ 9) {S : Nat} (hS : enoughB ss S = true) : ∀ (l : List Nat) (u : Nat), lwE n ss (oddM ss (2 ^ ss.length - 1)) l u = 0 → l.length + Nm.pop (S &&& u) ≤ Nm.pop S
  | [], u, _ => by
    rw [List.length_nil, Nat.zero_add]
    exact pop_le fun i hi => by rw [Nat.testBit_and, Bool.and_eq_true] at hi; exact hi.1
  | s :: t, u, h => by
    unfold lwE at h
    split at h
    · cases h
    · split at h
      · rename_i hp
        split at h
        · rename_i hd
          have ih := weak hl hS t _ h
          unfold enoughB at hS
          rw [beq_iff_eq] at hS
          rw [← hS, Nm.odd_cut (by omega)] at hp
          have e : S &&& (u ||| cutM ss s) = (S &&& u) ||| (S &&& cutM ss s) := Nat.and_or_distrib_left ..
          have hz : (S &&& u) &&& (S &&& cutM ss s) = 0 := Nat.eq_of_testBit_eq fun i => by
            have h1 : (u &&& cutM ss s).testBit i = false := by rw [hd, Nat.zero_testBit]
            rw [Nat.testBit_and] at h1
            rw [Nat.testBit_and, Nat.testBit_and, Nat.testBit_and, Nat.zero_testBit]
            revert h1
            cases S.testBit i <;> cases u.testBit i <;> cases (cutM ss s).testBit i <;> simp
          rw [e, pop_or hz] at ih
          have h1 : 1 ≤ Nm.pop (S &&& cutM ss s) := by
            rw [Nat.and_comm, Nm.par_pop, decide_eq_true_iff] at hp
            omega
          rw [List.length_cons]
          omega
        · cases h
      · cases h
/-- what is known behind some sides. -/
def SdI (n : Nat) (ss : List (Int × Int)) (o : Nat) (sds : List Nat) (R : Int) (k : Nat) (want : Int) (u : Nat) : Prop :=
  (want = 0 → lwE n ss o (sds.drop k) u = R) ∧ (want ≠ 0 → R = want)
def upW (n : Nat) (ss : List (Int × Int)) (o s u : Nat) : Int := if s = 0 ∨ s = 2 ^ n - 1 then 5 else if par (s &&& o) then (if u &&& cutM ss s = 0 then 0 else 6) else 14
theorem SdI.step {n : Nat} {ss : List (Int × Int)} {o : Nat} {sds : List Nat} {R : Int} {k u : Nat} {want : Int} (h : SdI n ss o sds R k want u) (hk : k < sds.length) :
    SdI n ss o sds R (k + 1) (if want = 0 then upW n ss o sds[k] u else want) (u ||| cutM ss sds[k]) := by
  by_cases hw : want = 0
  · rw [if_pos hw]
    have h1 := h.1 hw
    rw [List.drop_eq_getElem_cons hk] at h1
    unfold lwE at h1
    unfold upW
    split at h1
    · rename_i h2; rw [if_pos h2]; exact ⟨fun e => absurd e (by decide), fun _ => h1.symm⟩
    · rename_i h2
      rw [if_neg h2]
      split at h1
      · rename_i h3
        rw [if_pos h3]
        split at h1
        · rename_i h4; rw [if_pos h4]; exact ⟨fun _ => h1, fun e => absurd rfl e⟩
        · rename_i h4; rw [if_neg h4]; exact ⟨fun e => absurd e (by decide), fun _ => h1.symm⟩
      · rename_i h3; rw [if_neg h3]; exact ⟨fun e => absurd e (by decide), fun _ => h1.symm⟩
  · rw [if_neg hw]
    exact ⟨fun e => absurd e hw, h.2⟩
theorem SdI.start {n : Nat} {ss : List (Int × Int)} {o : Nat} {sds : List Nat} : SdI n ss o sds (lwE n ss o sds 0) 0 0 0 := ⟨fun _ => rfl, fun e => absurd rfl e⟩
theorem SdI.done {n : Nat} {ss : List (Int × Int)} {o : Nat} {sds : List Nat} {R : Int} {k u : Nat} {want : Int} (h : SdI n ss o sds R k want u) (hk : sds.length ≤ k) : R = want := by
  by_cases hw : want = 0
  · have := h.1 hw
    rw [List.drop_of_length_le hk] at this
    rw [hw, ← this]; rfl
  · exact h.2 hw
end Sd
end Go.Proofs.YtimddkofcejijaaDoor
