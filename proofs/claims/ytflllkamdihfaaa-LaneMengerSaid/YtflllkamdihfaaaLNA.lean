/- merged: LHQ LHR LHT LHU LHX LHZ -/
import Derived.Test.YtflllkamdihfaaaLHA
import Derived.Test.YtflllkamdihfaaaLGA
import Derived.Test.YtflllkamdihfaaaLHF
import Derived.Test.YtflllkamdihfaaaLDH
import Derived.Test.YtflllkamdihfaaaLGD
namespace Go.Proofs.Ytflllkamdihfaaa
open Go.RowKit Go.Sort
section
theorem ls_trans : ∀ a b c : List Int, lsB a b = true → lsB b c = true → lsB a c = true
  | [], [], c, h, _ => by simp [lsB] at h
  | [], _ :: _, [], _, h => by simp [lsB] at h
  | [], _ :: _, _ :: _, _, _ => rfl
  | _ :: _, [], _, h, _ => by simp [lsB] at h
  | _ :: _, _ :: _, [], _, h => by simp [lsB] at h
  | x :: a, y :: b, z :: c, h1, h2 => by
    rw [lsB] at h1 h2 ⊢
    by_cases e1 : x = y
    · rw [if_pos e1] at h1
      by_cases e2 : y = z
      · rw [if_pos e2] at h2; rw [if_pos (e1.trans e2)]; exact ls_trans a b c h1 h2
      · rw [if_neg e2] at h2; rw [if_neg (by omega)]; simp at h2 ⊢; omega
    · rw [if_neg e1] at h1
      by_cases e2 : y = z
      · rw [if_pos e2] at h2; rw [if_neg (by omega)]; simp at h1 ⊢; omega
      · rw [if_neg e2] at h2; simp at h1 h2; rw [if_neg (by omega)]; simp; omega
/-- the least family so far, as LaneGessel keeps it. -/
def lstF : Nat → List (List Int) → List (List (List Int)) → List (List Int)
  | _, m, [] => m
  | n, m, F :: L => lstF (n + 1) (if n = 0 ∨ lsB F.flatten m.flatten = true then F else m) L
theorem lstF_min : ∀ (L : List (List (List Int))) (n : Nat) (m : List (List Int)) (D : List (List (List Int))), D.length = n → (n ≠ 0 → m ∈ D ∧ ∀ x ∈ D, lsB x.flatten m.flatten = false) → (D ++ L ≠ []) →
    lstF n m L ∈ D ++ L ∧ ∀ x ∈ D ++ L, lsB x.flatten (lstF n m L).flatten = false
  | [], n, m, D, hn, h, hne => by
    rw [List.append_nil] at hne ⊢
    have : n ≠ 0 := fun e => hne (List.eq_nil_of_length_eq_zero (hn.trans e))
    exact h this
  | F :: L, n, m, D, hn, h, _ => by
    rw [lstF]
    have := lstF_min L (n + 1) (if n = 0 ∨ lsB F.flatten m.flatten = true then F else m) (D ++ [F]) (by simp [hn]) (fun _ => ?_) (by simp)
    · simpa using this
    · by_cases hc : n = 0 ∨ lsB F.flatten m.flatten = true
      · rw [if_pos hc]
        refine ⟨by simp, fun x hx => ?_⟩
        rcases List.mem_append.1 hx with hx | hx
        · rcases hc with e | e
          · rw [List.eq_nil_of_length_eq_zero (hn.trans e)] at hx; cases hx
          · have h0 : n ≠ 0 := fun e => by rw [List.eq_nil_of_length_eq_zero (hn.trans e)] at hx; cases hx
            cases hq : lsB x.flatten F.flatten
            · rfl
            · have := (h h0).2 x hx
              rw [ls_trans _ _ _ hq e] at this
              cases this
        · rw [List.mem_singleton.1 hx]; exact lsB_irr _
      · rw [if_neg hc]
        have h0 : n ≠ 0 := fun e => hc (.inl e)
        refine ⟨by simp [(h h0).1], fun x hx => ?_⟩
        rcases List.mem_append.1 hx with hx | hx
        · exact (h h0).2 x hx
        · rw [List.mem_singleton.1 hx]
          cases hq : lsB F.flatten m.flatten
          · rfl
          · exact absurd (.inr hq) hc
/-- the least of a list is the head of the list in order. -/
theorem lstF_head {L l : List (List (List Int))} (hp : L.Perm l) (hs : l.Pairwise fun a b => lsB a.flatten b.flatten = true) (hne : l ≠ []) : lstF 0 [] L = l.head?.getD [] := by
  have hL : L ≠ [] := fun e => hne (by rw [e] at hp; exact hp.nil_eq.symm)
  obtain ⟨h1, h2⟩ := lstF_min L 0 [] [] rfl (fun h => absurd rfl h) (by simpa using hL)
  rw [List.nil_append] at h1 h2
  match l, hne, hs, hp with
  | h :: t, _, hs, hp =>
    have m1 := hp.mem_iff.1 h1
    rcases List.mem_cons.1 m1 with e | e
    · exact e
    · have := (List.pairwise_cons.1 hs).1 _ e
      rw [h2 h (hp.mem_iff.2 (by simp))] at this
      cases this
/-- LaneGessel's families: one way for each cart, those that meet none before. -/
def gfL : List (List (List Int)) → List (List Int) → List (List (List Int))
  | [], F => [F]
  | R :: Rs, F => (R.filter fun l => apB F l).flatMap fun l => gfL Rs (F ++ [l])
theorem gfL_tup : ∀ (Rs : List (List (List Int))) (F : List (List Int)), fmE F = none → gfL Rs F = ((tup Rs).map (F ++ ·)).filter fun G => (fmE G).isNone
  | [], F, h => by simp [gfL, tup, h]
  | R :: Rs, F, h => by
    rw [gfL, tup]
    induction R with
    | nil => rfl
    | cons l R ih =>
      rw [List.flatMap_cons, List.map_append, List.filter_append, ← ih, List.filter_cons]
      have hF := fmE_none.1 h
      have key : fmE (F ++ [l]) = none ↔ apB F l = true := by
        rw [fmE_none]
        constructor
        · intro hh
          have := hh F.length (by simp)
          rwa [List.take_left, lth_eq, List.getElem?_append_right (Nat.le_refl _), Nat.sub_self] at this
        · intro hh j hj
          rw [List.length_append, List.length_singleton] at hj
          rcases (by omega : j < F.length ∨ j = F.length) with q | rfl
          · rw [List.take_append_of_le_length (by omega), lth_app j q]; exact hF j q
          · rw [List.take_left, lth_eq, List.getElem?_append_right (Nat.le_refl _), Nat.sub_self]; exact hh
      have em : ((tup Rs).map (l :: ·)).map (F ++ ·) = (tup Rs).map ((F ++ [l]) ++ ·) := by rw [List.map_map]; exact List.map_congr_left fun G _ => by simp
      rw [em]
      by_cases ha : apB F l = true
      · rw [if_pos ha, List.flatMap_cons, gfL_tup Rs _ (key.2 ha)]
      · rw [if_neg ha]
        have : ((tup Rs).map ((F ++ [l]) ++ ·)).filter (fun G => (fmE G).isNone) = [] := by
          rw [List.filter_eq_nil_iff]
          intro G hG hn
          obtain ⟨X, _, rfl⟩ := List.mem_map.1 hG
          have h3 := fmE_none.1 (Option.isNone_iff_eq_none.1 hn)
          refine ha (key.1 (fmE_none.2 fun j hj => ?_))
          have h4 := h3 j (by rw [List.length_append]; omega)
          rw [List.take_append_of_le_length (by omega)] at h4
          have e5 : lth (F ++ [l] ++ X) j = lth (F ++ [l]) j := by rw [lth_eq, lth_eq, List.getElem?_append_left hj]
          rwa [e5] at h4
        rw [this, List.nil_append]
end
section
theorem mem_atL {m : Int} {st : Int → List Int} (hu : Up m st) (T : List Int) : ∀ (f : Nat) (k : Int) (w : List Int), 0 ≤ k → k < m → m - k ≤ f →
    (w ∈ atL st T f k ↔ Wy st w ∧ w.head? = some k ∧ ∃ t ∈ T, w.getLast? = some t)
  | 0, k, w, h0, h1, h2 => by omega
  | f + 1, k, w, h0, h1, h2 => by
    unfold atL
    rw [List.mem_append, List.mem_flatMap]
    constructor
    · rintro (h | ⟨y, hy, h⟩)
      · split at h
        · rename_i hc
          rw [List.mem_singleton.1 h]
          exact ⟨trivial, rfl, k, by simpa using hc, rfl⟩
        · cases h
      · rw [List.mem_reverse] at hy
        obtain ⟨z, hz, rfl⟩ := List.mem_map.1 h
        have hyy := hu k h0 y hy
        obtain ⟨a1, a2, t, a3, a4⟩ := (mem_atL hu T f y z (by omega) (by omega) (by omega)).1 hz
        match z, a2 with
        | x :: z, a2 =>
          have e : x = y := by simpa using a2
          subst e
          exact ⟨⟨hy, a1⟩, rfl, t, a3, by rw [← a4, List.getLast?_cons_cons]⟩
    · rintro ⟨h3, h4, t, h5, h6⟩
      match w, h4 with
      | [x], h4 =>
        have e : x = k := by simpa using h4
        subst e
        have e2 : x = t := by simpa using h6
        subst e2
        exact .inl (by rw [if_pos (by simpa using h5)]; simp)
      | x :: y :: z, h4 =>
        have e : x = k := by simpa using h4
        subst e
        have h7 : y ∈ st x ∧ Wy st (y :: z) := h3
        have hyy := hu x h0 y h7.1
        exact .inr ⟨y, by simpa using h7.1, List.mem_map.2 ⟨y :: z, (mem_atL hu T f y _ (by omega) (by omega) (by omega)).2 ⟨h7.2, rfl, t, h5, by rw [← h6, List.getLast?_cons_cons]⟩, rfl⟩⟩
theorem atL_head {st : Int → List Int} (T : List Int) : ∀ (f : Nat) (k : Int) (w : List Int), w ∈ atL st T f k → w.head? = some k
  | 0, k, w, h => by simp [atL] at h
  | f + 1, k, w, h => by
    unfold atL at h
    rcases List.mem_append.1 h with h | h
    · split at h
      · rw [List.mem_singleton.1 h]; rfl
      · cases h
    · obtain ⟨y, _, h⟩ := List.mem_flatMap.1 h
      obtain ⟨z, _, rfl⟩ := List.mem_map.1 h
      rfl
theorem atL_nodup {st : Int → List Int} (ha : Asc st) (T : List Int) : ∀ (f : Nat) (k : Int), (atL st T f k).Nodup
  | 0, k => by simp [atL]
  | f + 1, k => by
    unfold atL
    rw [List.nodup_append]
    refine ⟨?_, ?_, ?_⟩
    · split <;> simp
    · refine nodup_flat (fun y _ => ?_) ?_
      · exact List.Pairwise.map _ (fun a b hab e => hab (List.cons.inj e).2) (atL_nodup ha T f y)
      · rw [List.pairwise_reverse]
        refine (ha k).imp fun {a b} hab x hx hx2 => ?_
        obtain ⟨z, hz, rfl⟩ := List.mem_map.1 hx
        obtain ⟨z', hz', e⟩ := List.mem_map.1 hx2
        have e2 := (List.cons.inj e).2
        have h1 := atL_head T f b z hz
        have h2 := atL_head T f a z' hz'
        rw [e2, h1] at h2
        have := Option.some.inj h2
        omega
    · intro x hx y hy e
      subst e
      split at hx
      · rw [List.mem_singleton.1 hx] at hy
        obtain ⟨y, _, h⟩ := List.mem_flatMap.1 hy
        obtain ⟨z, hz, e⟩ := List.mem_map.1 h
        have h1 := atL_head T f y z hz
        rw [(List.cons.inj e).2] at h1
        cases h1
      · cases hx
/-- the law's ways to all tips are the candidates, in another order. -/
theorem lwL_cnd {r c : Int} (hs : Side r c (r * c)) {S T : List Int} {y : Int} (hy : 0 ≤ y ∧ y < r * c ∧ y ∉ S) (hT : T.Nodup) : (lwL (stL c (r * c) S) S T y).Perm (cnd c (r * c) S T y) := by
  have hm := side_m hs
  have e : lwL (stL c (r * c) S) S T y = atL (stL c (r * c) S) T 16 y := by
    unfold lwL stkL awL
    rw [if_neg (by simpa using hy.2.2)]
    have h1 : lst [y] = y := rfl
    simp only [List.reverse_singleton, List.flatMap_cons, List.flatMap_nil, List.append_nil, h1, List.dropLast_singleton, List.nil_append, List.map_id']
  rw [e]
  refine (List.perm_ext_iff_of_nodup (atL_nodup (asc_stL hs S) T 16 y) (cnd_nodup hs hy hT)).2 fun w => ?_
  rw [mem_atL (up_stL hs S) T 16 y w hy.1 hy.2.1 (by omega), mem_cnd hs hy]
  exact ⟨fun ⟨a, b, t, c, d⟩ => ⟨t, c, a, b, d⟩, fun ⟨t, c, a, b, d⟩ => ⟨a, b, t, c, d⟩⟩
end
section
theorem flat_permL {α β : Type} {g g' : α → List β} : ∀ {l l' : List α}, l.Perm l' → (∀ a ∈ l, (g a).Perm (g' a)) → (l.flatMap g).Perm (l'.flatMap g') := by
  intro l l' h
  induction h with
  | nil => intro _; exact List.Perm.refl _
  | cons a _ ih => intro h; rw [List.flatMap_cons, List.flatMap_cons]; exact (h a (by simp)).append (ih fun b hb => h b (by simp [hb]))
  | swap a b l =>
    intro h
    rw [List.flatMap_cons, List.flatMap_cons, List.flatMap_cons, List.flatMap_cons, ← List.append_assoc, ← List.append_assoc]
    refine List.Perm.append ?_ ?_
    · exact (List.perm_append_comm).trans ((h a (by simp)).append (h b (by simp)))
    · have : ∀ L : List α, (∀ x ∈ L, (g x).Perm (g' x)) → (L.flatMap g).Perm (L.flatMap g') := fun L => by
        induction L with
        | nil => intro _; exact List.Perm.refl _
        | cons x L ih => intro hx; rw [List.flatMap_cons, List.flatMap_cons]; exact (hx x (by simp)).append (ih fun b hb => hx b (by simp [hb]))
      exact this l fun x hx => h x (by simp [hx])
  | trans p1 _ ih1 ih2 =>
    intro h
    have hs : ∀ L : List α, (L.flatMap g).Perm (L.flatMap g) := fun L => List.Perm.refl _
    exact (ih1 h).trans (by
      have h2 := ih2 (fun a ha => h a (p1.mem_iff.2 ha))
      have h3 : ∀ L : List α, (∀ x ∈ L, (g x).Perm (g' x)) → (L.flatMap g).Perm (L.flatMap g') := fun L => by
        induction L with
        | nil => intro _; exact List.Perm.refl _
        | cons x L ih => intro hx; rw [List.flatMap_cons, List.flatMap_cons]; exact (hx x (by simp)).append (ih fun b hb => hx b (by simp [hb]))
      exact (h3 _ fun a ha => h a (p1.mem_iff.2 ha)).symm.trans h2)
theorem isum_perm {l l' : List Int} (h : l.Perm l') : l.sum = l'.sum := by
  induction h with
  | nil => rfl
  | cons a _ ih => rw [List.sum_cons, List.sum_cons, ih]
  | swap a b l => simp only [List.sum_cons]; omega
  | trans _ _ h1 h2 => exact h1.trans h2
theorem tup_perm {α : Type} : ∀ (f g : Int → List α) (Y : List Int), (∀ y ∈ Y, (f y).Perm (g y)) → (tup (Y.map f)).Perm (tup (Y.map g))
  | f, g, [], _ => List.Perm.refl _
  | f, g, y :: Y, h => by
    rw [List.map_cons, List.map_cons, tup, tup]
    exact flat_permL (h y (by simp)) fun w _ => (tup_perm f g Y fun z hz => h z (by simp [hz])).map _
/-- LaneGessel's families are all families. -/
theorem gess_perm {r c : Int} {S Y T : List Int} (hc : chkP r c S Y T = 0) : (gfL (Y.map fun y => lwL (stL c (r * c) S) S T y) []).Perm (famL c (r * c) S Y T) := by
  have hg := chk_all hc
  rw [gfL_tup _ [] (fmE_none.2 fun j hj => absurd hj (by simp))]
  have e : ∀ L : List (List (List Int)), L.map (fun x => [] ++ x) = L := fun L => by simp
  rw [e]
  refine List.Perm.trans ?_ (fam_perm_tup hc).symm
  exact (tup_perm _ _ Y fun y hy => lwL_cnd hg.side (hg.y y hy) hg.td).filter _
/-- what LaneGessel's callback holds at the end. -/
theorem gess_end {r c : Int} {S Y T : List Int} (hc : chkP r c S Y T = 0) {L : List (List (List Int))} (hL : L = gfL (Y.map fun y => lwL (stL c (r * c) S) S T y) []) :
    (L.map fun G => sgnO (ordF T G)).sum = sgnV r c S Y T ∧ L.length = (famL c (r * c) S Y T).length ∧ (famL c (r * c) S Y T ≠ [] → lstF 0 [] L = (famL c (r * c) S Y T).head?.getD []) := by
  have hg := chk_all hc
  have hp := gess_perm hc
  rw [← hL] at hp
  exact ⟨(isum_perm (hp.map _)).trans (lgv hc), hp.length_eq, fun hne => lstF_head hp (sendF_pw (asc_stL hg.side S) Y T Y.length []) hne⟩
end
section
/-- the corners of some ways as a set. -/
def snB (F : List (List Int)) : Nat := F.foldl (fun a l => a ||| bsN l) 0
theorem sn_snoc (F : List (List Int)) (l : List Int) : snB (F ++ [l]) = snB F ||| bsN l := by unfold snB; rw [List.foldl_append]; rfl
theorem sn_bit (F : List (List Int)) (k : Nat) : (snB F).testBit k = F.any fun l => (bsN l).testBit k := by
  have : ∀ (F : List (List Int)) (a : Nat), (F.foldl (fun a l => a ||| bsN l) a).testBit k = (a.testBit k || F.any fun l => (bsN l).testBit k) := fun F => by
    induction F with
    | nil => intro a; simp
    | cons x F ih =>
      intro a
      rw [List.foldl_cons, ih, Nat.testBit_or, List.any_cons, Bool.or_assoc]
  have h := this F 0
  simpa [snB] using h
theorem sn_lt {F : List (List Int)} (h : ∀ l ∈ F, ∀ x ∈ l, 0 ≤ x ∧ x < 16) : snB F < 65536 := by
  have : ∀ (F : List (List Int)) (a : Nat), (∀ l ∈ F, ∀ x ∈ l, 0 ≤ x ∧ x < 16) → a < 2 ^ 16 → (F.foldl (fun a l => a ||| bsN l) a) < 2 ^ 16 := fun F => by
    induction F with
    | nil => intro a _ h; exact h
    | cons x F ih =>
      intro a hl ha
      rw [List.foldl_cons]
      exact ih _ (fun y hy => hl y (by simp [hy])) (Nat.or_lt_two_pow ha (bs_lt (hl x (by simp))))
  exact this F 0 h (by decide)
/-- a way meets none before just if the sets have nothing in common. -/
theorem sn_apart {F : List (List Int)} {l : List Int} (hF : ∀ w ∈ F, ∀ x ∈ w, 0 ≤ x ∧ x < 16) (hl : ∀ x ∈ l, 0 ≤ x ∧ x < 16) : (snB F &&& bsN l = 0) ↔ apB F l = true := by
  rw [apB_take]
  constructor
  · intro h k hk
    have hw := hF (lth F k) (by rw [lth_get hk]; exact List.getElem_mem hk)
    rw [← bs_meet hw hl]
    refine Nat.eq_of_testBit_eq fun j => ?_
    have e := congrArg (fun n => n.testBit j) h
    simp only [Nat.testBit_and, Nat.zero_testBit] at e ⊢
    rw [sn_bit] at e
    cases h1 : (bsN (lth F k)).testBit j
    · rfl
    · have : (F.any fun l => (bsN l).testBit j) = true := List.any_eq_true.2 ⟨lth F k, by rw [lth_get hk]; exact List.getElem_mem hk, h1⟩
      rw [this, Bool.true_and] at e
      rw [e]; rfl
  · intro h
    refine Nat.eq_of_testBit_eq fun j => ?_
    rw [Nat.testBit_and, Nat.zero_testBit, sn_bit, Bool.eq_false_iff]
    intro e
    rw [Bool.and_eq_true, List.any_eq_true] at e
    obtain ⟨⟨w, hw, h1⟩, h2⟩ := e
    obtain ⟨k, hk, rfl⟩ := List.getElem_of_mem hw
    have h3 := h k hk
    rw [lth_get hk, ← bs_meet (hF _ hw) hl] at h3
    have e2 := congrArg (fun n => n.testBit j) h3
    simp only [Nat.testBit_and, Nat.zero_testBit, h1, h2] at e2
    cases e2
theorem lstF_snoc (F : List (List Int)) : ∀ (L : List (List (List Int))) (n : Nat) (m : List (List Int)), lstF n m (L ++ [F]) = if n + L.length = 0 ∨ lsB F.flatten (lstF n m L).flatten = true then F else lstF n m L
  | [], n, m => by
    rw [List.nil_append, lstF, lstF, lstF]
    by_cases h : n = 0 ∨ lsB F.flatten m.flatten = true
    · rw [if_pos h, if_pos (by simpa using h)]
    · rw [if_neg h, if_neg (by simpa using h)]
  | G :: L, n, m => by
    rw [List.cons_append, lstF, lstF, lstF_snoc F L, List.length_cons]
    congr 1
    rw [show n + 1 + L.length = n + (L.length + 1) by omega]
/-- one call of LaneGessel's callback. -/
theorem lstF_one (F : List (List Int)) (D : List (List (List Int))) : lstF 0 [] (D ++ [F]) = if D.length = 0 ∨ lsB F.flatten (lstF 0 [] D).flatten = true then F else lstF 0 [] D := by
  rw [lstF_snoc, Nat.zero_add]
end
section
/-- LaneGessel's three cells. -/
abbrev Zc (B1 B2 B3 : Nat) : Nat → Prop := fun q => q = B1 ∨ q = B2 ∨ q = B3
/-- cells that stay whatever is done to the blocks of Z. -/
def RowZ (Z : Nat → Prop) (w : World) (a : Option Addr) (cap : Nat) (vals : List Value) : Prop :=
  (a = none ∧ cap = 0 ∧ vals = []) ∨ ∃ g, a = some ⟨g, 0, none⟩ ∧ g < w.heap.size ∧ vals.length ≤ cap ∧ cap ≤ 9223372036854775807 ∧ ∀ W, But Z w W → ∀ (j : Nat) (u : Value), vals[j]? = some u → W.cell? ⟨g, j, none⟩ = some u
theorem RowZ.but {Z : Nat → Prop} {w W : World} {a : Option Addr} {cap : Nat} {vals : List Value} (h : RowZ Z w a cap vals) (b : But Z w W) : RowZ Z W a cap vals := by
  rcases h with h | ⟨g, h1, h2, h3, h4, h5⟩
  · exact .inl h
  · exact .inr ⟨g, h1, Nat.lt_of_lt_of_le h2 b.size, h3, h4, fun W' b' => h5 W' (b.trans b')⟩
theorem RowZ.new {Z : Nat → Prop} {w : World} {B e n : Nat} {v : Value} {vals : List Value} (h : w.ownsRow B e 1 v n vals) (hl : vals.length = n) (hz : ∀ q, Z q → q < B) : ∃ a cap, v = .slice a n cap ∧ RowZ Z w a cap vals := by
  have h' := h
  rcases h.2 with ⟨rfl, h0⟩ | ⟨g, cap, cur, rfl, _, _, hn, hm, _⟩
  · exact ⟨none, 0, by rw [h0], .inl ⟨rfl, rfl, List.eq_nil_of_length_eq_zero (by omega)⟩⟩
  · have hg := World.ownsRow.lt h' g rfl
    refine ⟨_, cap, rfl, .inr ⟨g, rfl, hg.2, by omega, by unfold maxLen at hm; omega, fun W b j u hu => ?_⟩⟩
    have hj : j < n := by
      rcases Nat.lt_or_ge j n with q | q
      · exact q
      · rw [List.getElem?_eq_none (by omega)] at hu; cases hu
    have h2 := h'.cellAt j (by omega)
    rw [hu] at h2
    rw [← h2]
    exact World.cell?_of_block (b.block g hg.2 (fun hq => by have := hz g hq; omega))
theorem RowZ.cut35 {Z : Nat → Prop} {w : World} {a : Option Addr} {cap n : Nat} {vals : List Value} (h : RowZ Z w a cap vals) (hn : vals.length = n) (W : World) : (Instr.sliceAt 35 (.slice a n cap) none (some (.int .i64 (n : Nat))) (some (.int .i64 (n : Nat)))).run Try.prog W = .ok (.slice a n n) W := by
  rcases h with ⟨rfl, rfl, rfl⟩ | ⟨g, rfl, _, h3, h4, _⟩
  · obtain rfl : n = 0 := by simpa using hn.symm
    kernel_rfl
  · have h1 : n ≤ cap := by omega
    simp [Instr.sliceAt, go_sem, h1]
theorem RowZ.cut22 {Z : Nat → Prop} {w : World} {a : Option Addr} {cap n : Nat} {vals : List Value} (h : RowZ Z w a cap vals) (hn : vals.length = n) (W : World) : (Instr.sliceAt 22 (.slice a n cap) none (some (.int .i64 (n : Nat))) (some (.int .i64 (n : Nat)))).run Try.prog W = .ok (.slice a n n) W := by
  rcases h with ⟨rfl, rfl, rfl⟩ | ⟨g, rfl, _, h3, h4, _⟩
  · obtain rfl : n = 0 := by simpa using hn.symm
    kernel_rfl
  · have h1 : n ≤ cap := by omega
    simp [Instr.sliceAt, go_sem, h1]
/-- ways in a row that stay. -/
def FamZ (Z : Nat → Prop) (w : World) (a : Option Addr) (cap : Nat) (F : List (List Int)) : Prop :=
  ∃ vals : List Value, vals.length = F.length ∧ RowZ Z w a cap vals ∧ ∀ j, j < F.length → ∃ la lc, vals[j]? = some (.slice la (lth F j).length lc) ∧ ∀ W, But Z w W → IntsAt W la (lth F j)
theorem FamZ.but {Z : Nat → Prop} {w W : World} {a : Option Addr} {cap : Nat} {F : List (List Int)} (h : FamZ Z w a cap F) (b : But Z w W) : FamZ Z W a cap F := by
  obtain ⟨vals, h1, h2, h3⟩ := h
  exact ⟨vals, h1, h2.but b, fun j hj => by obtain ⟨la, lc, e, h4⟩ := h3 j hj; exact ⟨la, lc, e, fun W' b' => h4 W' (b.trans b')⟩⟩
theorem FamZ.nil (Z : Nat → Prop) (w : World) : FamZ Z w none 0 [] := ⟨[], rfl, .inl ⟨rfl, rfl, rfl⟩, fun j hj => absurd hj (by simp)⟩
theorem FamZ.lst {Z : Nat → Prop} {w : World} {a : Option Addr} {cap : Nat} {F : List (List Int)} (h : FamZ Z w a cap F) (W : World) (b : But Z w W) : LstAt W a F := fun j hj => by
  obtain ⟨vals, h1, h2, h3⟩ := h.but b
  obtain ⟨la, lc, e, h4⟩ := h3 j hj
  rcases h2 with ⟨_, _, rfl⟩ | ⟨g, rfl, hg, _, _, h5⟩
  · simp at e
  · exact ⟨g, 0, la, lc, rfl, hg, by rw [Nat.zero_add]; exact h5 W (But.refl _ _) j _ e, h4 W (But.refl _ _)⟩
theorem FamZ.snoc {Z : Nat → Prop} {w w' : World} {F : List (List Int)} {l : List Int} {vals : List Value} {B : Nat} {v : Value} {la : Option Addr} {lc : Nat} (hv : vals.length = F.length) (he : ∀ j, j < F.length → ∃ la lc, vals[j]? = some (.slice la (lth F j).length lc) ∧ ∀ W, But Z w W → IntsAt W la (lth F j)) (b : But Z w w') (hl : ∀ W, But Z w' W → IntsAt W la l)
    (h : w'.ownsRow B 22 1 v (F.length + 1) (vals ++ [.slice la l.length lc])) (hz : ∀ q, Z q → q < B) : ∃ a cap, v = .slice a (F.length + 1) cap ∧ FamZ Z w' a cap (F ++ [l]) := by
  obtain ⟨a, cap, e, hr⟩ := RowZ.new h (by simp [hv]) hz
  refine ⟨a, cap, e, vals ++ [.slice la l.length lc], by simp [hv], hr, fun j hj => ?_⟩
  rw [List.length_append, List.length_singleton] at hj
  rcases (by omega : j < F.length ∨ j = F.length) with q | rfl
  · obtain ⟨la', lc', e2, h4⟩ := he j q
    have e3 : lth (F ++ [l]) j = lth F j := by rw [lth_eq, lth_eq, List.getElem?_append_left q]
    rw [e3]
    exact ⟨la', lc', by rw [List.getElem?_append_left (by omega)]; exact e2, fun W b' => h4 W (b.trans b')⟩
  · have e3 : lth (F ++ [l]) F.length = l := by rw [lth_eq, List.getElem?_append_right (Nat.le_refl _), Nat.sub_self]; rfl
    rw [e3]
    exact ⟨la, lc, by rw [List.getElem?_append_right (by omega), hv, Nat.sub_self]; rfl, hl⟩
/-- the ways of a row of one's own stay. -/
theorem FamZ.own {Z : Nat → Prop} {w : World} {B : Nat} {v : Value} {L : List (List Int)} (h : OwnL w B v L) (hz : ∀ q, Z q → q < B) : ∃ a cap, v = .slice a L.length cap ∧ FamZ Z w a cap L := by
  obtain ⟨vals, h1, h2⟩ := h
  obtain ⟨a, cap, e, hr⟩ := RowZ.new h1 h2.1 hz
  refine ⟨a, cap, e, vals, h2.1, hr, fun j hj => ?_⟩
  obtain ⟨u, e2, hu⟩ := h2.2 j hj
  obtain ⟨la, lc, e3, hr2⟩ := RowZ.new hu (by simp) hz
  subst e3
  refine ⟨la, lc, e2, fun W b k hk => ?_⟩
  rcases hr2 with ⟨_, _, e4⟩ | ⟨g, rfl, hg, _, _, h5⟩
  · rw [List.map_eq_nil_iff] at e4; rw [e4] at hk; exact absurd hk (by simp)
  · refine ⟨g, 0, rfl, Nat.lt_of_lt_of_le hg b.size, ?_⟩
    rw [Nat.zero_add]
    exact h5 W b k _ (by rw [List.getElem?_map, nth_eq, List.getElem?_eq_getElem hk]; rfl)
/-- an order that stays. -/
theorem RowZ.ints {Z : Nat → Prop} {w : World} {a : Option Addr} {cap : Nat} {o : List Int} (h : RowZ Z w a cap (o.map (Value.int .i64))) : IntsAt w a o := fun k hk => by
  rcases h with ⟨_, _, e4⟩ | ⟨g, rfl, hg, _, _, h5⟩
  · rw [List.map_eq_nil_iff] at e4; rw [e4] at hk; exact absurd hk (by simp)
  · refine ⟨g, 0, rfl, hg, ?_⟩
    rw [Nat.zero_add]
    exact h5 w (But.refl _ _) k _ (by rw [List.getElem?_map, nth_eq, List.getElem?_eq_getElem hk]; rfl)
/-- rows of ways that stay. -/
def RowsZ (Z : Nat → Prop) (w : World) (a : Option Addr) (cap : Nat) (R : List (List (List Int))) : Prop :=
  ∃ vals : List Value, vals.length = R.length ∧ RowZ Z w a cap vals ∧ ∀ j, j < R.length → ∃ la lc, vals[j]? = some (.slice la (ltH R j).length lc) ∧ FamZ Z w la lc (ltH R j)
theorem RowsZ.but {Z : Nat → Prop} {w W : World} {a : Option Addr} {cap : Nat} {R : List (List (List Int))} (h : RowsZ Z w a cap R) (b : But Z w W) : RowsZ Z W a cap R := by
  obtain ⟨vals, h1, h2, h3⟩ := h
  exact ⟨vals, h1, h2.but b, fun j hj => by obtain ⟨la, lc, e, h4⟩ := h3 j hj; exact ⟨la, lc, e, h4.but b⟩⟩
theorem RowsZ.at {Z : Nat → Prop} {w : World} {a : Option Addr} {cap : Nat} {R : List (List (List Int))} (h : RowsZ Z w a cap R) {j : Nat} (hj : j < R.length) : ∃ g la lc, a = some ⟨g, 0, none⟩ ∧ R.length ≤ cap ∧ (∀ W, But Z w W → W.cell? ⟨g, j, none⟩ = some (.slice la (ltH R j).length lc)) ∧ FamZ Z w la lc (ltH R j) := by
  obtain ⟨vals, h1, h2, h3⟩ := h
  obtain ⟨la, lc, e, h4⟩ := h3 j hj
  rcases h2 with ⟨_, _, rfl⟩ | ⟨g, rfl, _, h5, _, h6⟩
  · simp at e
  · exact ⟨g, la, lc, rfl, by omega, fun W b => h6 W b j _ e, h4⟩
theorem FamZ.at {Z : Nat → Prop} {w : World} {a : Option Addr} {cap : Nat} {F : List (List Int)} (h : FamZ Z w a cap F) {j : Nat} (hj : j < F.length) : ∃ g la lc, a = some ⟨g, 0, none⟩ ∧ F.length ≤ cap ∧ (∀ W, But Z w W → W.cell? ⟨g, j, none⟩ = some (.slice la (lth F j).length lc)) ∧ ∀ W, But Z w W → IntsAt W la (lth F j) := by
  obtain ⟨vals, h1, h2, h3⟩ := h
  obtain ⟨la, lc, e, h4⟩ := h3 j hj
  rcases h2 with ⟨_, _, rfl⟩ | ⟨g, rfl, _, h5, _, h6⟩
  · simp at e
  · exact ⟨g, la, lc, rfl, by omega, fun W b => h6 W b j _ e, h4⟩
/-- what families' closure reads. -/
structure GfE (Z : Nat → Prop) (B1 B2 B3 Br Bf Bx Bg : Nat) (R : List (List (List Int))) (ra : Option Addr) (rc : Nat) (ya : Option Addr) (yn yc : Nat) (ta : Option Addr) (tc : Nat) (T : List Int) (w : World) : Prop where
  br : ∀ W, But Z w W → W.heap[Br]? = some (.cells #[.slice ra R.length rc] 106)
  bf : ∀ W, But Z w W → W.heap[Bf]? = some (.cells #[.func (.func 43) #[] #[.pointer (some ⟨B1, 0, none⟩), .pointer (some ⟨B2, 0, none⟩), .pointer (some ⟨B3, 0, none⟩)]] 70)
  bx : ∀ W, But Z w W → W.heap[Bx]? = some (.cells #[.slice ya yn yc, .slice ta T.length tc] 26)
  bg : ∀ W, But Z w W → W.heap[Bg]? = some (.cells #[.func (.func 99) #[] #[.pointer (some ⟨Br, 0, none⟩), .pointer (some ⟨Bf, 0, none⟩), .pointer (some ⟨Bx, 0, none⟩), .pointer (some ⟨Bg, 0, none⟩)]] 124)
  t : ∀ W, But Z w W → IntsAt W ta T
  rows : RowsZ Z w ra rc R
theorem GfE.but {Z : Nat → Prop} {B1 B2 B3 Br Bf Bx Bg : Nat} {R : List (List (List Int))} {ra : Option Addr} {rc : Nat} {ya : Option Addr} {yn yc : Nat} {ta : Option Addr} {tc : Nat} {T : List Int} {w W : World} (h : GfE Z B1 B2 B3 Br Bf Bx Bg R ra rc ya yn yc ta tc T w) (b : But Z w W) : GfE Z B1 B2 B3 Br Bf Bx Bg R ra rc ya yn yc ta tc T W :=
  ⟨fun W' b' => h.br W' (b.trans b'), fun W' b' => h.bf W' (b.trans b'), fun W' b' => h.bx W' (b.trans b'), fun W' b' => h.bg W' (b.trans b'), fun W' b' => h.t W' (b.trans b'), h.rows.but b⟩
/-- what the first ways of a row lead to. -/
def gfP (Rs : List (List (List Int))) (F : List (List Int)) (row : List (List Int)) (i : Nat) : List (List (List Int)) := ((row.take i).filter fun l => apB F l).flatMap fun l => gfL Rs (F ++ [l])
theorem gfP_succ (Rs : List (List (List Int))) (F row : List (List Int)) (i : Nat) (h : i < row.length) : gfP Rs F row (i + 1) = gfP Rs F row i ++ (if apB F (lth row i) = true then gfL Rs (F ++ [lth row i]) else []) := by
  unfold gfP
  rw [List.take_succ_eq_append_getElem h, List.filter_append, List.flatMap_append, lth_get h]
  congr 1
  by_cases hc : apB F row[i] = true
  · simp [hc]
  · simp [hc]
theorem gfP_end (Rs : List (List (List Int))) (F row : List (List Int)) : gfP Rs F row row.length = gfL (row :: Rs) F := by unfold gfP; rw [List.take_length, gfL]
theorem gfP_le (Rs : List (List (List Int))) (F row : List (List Int)) : ∀ i, i ≤ row.length → (gfP Rs F row i).length ≤ (gfL (row :: Rs) F).length := fun i hi => by
  rw [gfL]
  unfold gfP
  have hs : ((row.take i).filter fun l => apB F l).Sublist (row.filter fun l => apB F l) := (List.take_sublist i row).filter _
  have : ∀ {l l' : List (List Int)}, l.Sublist l' → (l.flatMap fun l => gfL Rs (F ++ [l])).length ≤ (l'.flatMap fun l => gfL Rs (F ++ [l])).length := fun {l l'} h => by
    induction h with
    | slnil => exact Nat.le_refl _
    | cons a _ ih => rw [List.flatMap_cons, List.length_append]; omega
    | cons_cons a _ ih => rw [List.flatMap_cons, List.flatMap_cons, List.length_append, List.length_append]; omega
  exact this hs
end
section
/-- a row of ways lies apart from rows of rows. -/
theorem OwnL.kept35 {w w' : World} {B B' : Nat} {v u : Value} {L : List (List Int)} {n : Nat} {xs : List Value} (h : OwnL w B v L) (hu : w.ownsRow B' 35 1 u n xs) (g : w.grownBy w' u.ownBlock) : OwnL w' B v L := by
  obtain ⟨vals, h1, h2⟩ := h
  refine ⟨vals, World.ownsRow.kept h1 g (row_apart (by decide) h1 hu), h2.1, fun j hj => ?_⟩
  obtain ⟨a, e, ha⟩ := h2.2 j hj
  exact ⟨a, e, World.ownsRow.kept ha g (row_apart (by decide) ha hu)⟩
/-- rows of ways of one's own, elements too. -/
def OwnLL (w : World) (B : Nat) (v : Value) (LL : List (List (List Int))) : Prop := ∃ vals, w.ownsRow B 35 1 v LL.length vals ∧ vals.length = LL.length ∧ ∀ j, j < LL.length → ∃ u, vals[j]? = some u ∧ OwnL w B u (ltH LL j)
theorem OwnLL.fut {w w' : World} {B : Nat} {v : Value} {LL : List (List (List Int))} (h : OwnLL w B v LL) (F : Fut w w') : OwnLL w' B v LL := by
  obtain ⟨vals, h1, h2, h3⟩ := h
  exact ⟨vals, row_fut h1 F, h2, fun j hj => by obtain ⟨u, e, hu⟩ := h3 j hj; exact ⟨u, e, hu.fut F⟩⟩
theorem OwnLL.nil (w : World) (B : Nat) : OwnLL w B (.slice none 0 0) [] := ⟨[], World.ownsRow_nil _ _ _ _, rfl, fun j hj => absurd hj (by simp)⟩
theorem OwnLL.form {w : World} {B : Nat} {v : Value} {LL : List (List (List Int))} (h : OwnLL w B v LL) : ∃ l lc, v = .slice l LL.length lc := by
  obtain ⟨vals, h1, _⟩ := h
  rcases h1.2 with ⟨rfl, h0⟩ | ⟨g, cap, cur, rfl, _⟩
  · exact ⟨none, 0, by rw [h0]⟩
  · exact ⟨_, cap, rfl⟩
/-- one row of ways more. -/
theorem OwnLL.add {w w' : World} {B n : Nat} {v nv x : Value} {LL : List (List (List Int))} {L : List (List Int)} {vals : List Value} (hr : w.ownsRow B 35 1 v n vals) (hl : vals.length = LL.length) (hn : LL.length = n) (he : ∀ j, j < LL.length → ∃ u, vals[j]? = some u ∧ OwnL w B u (ltH LL j)) (hx : OwnL w B x L) (hown : w'.ownsRow B 35 1 nv (n + 1) (vals ++ [x])) (hg : w.grownBy w' v.ownBlock) : OwnLL w' B nv (LL ++ [L]) := by
  subst hn
  refine ⟨_, by rw [List.length_append]; exact hown, by simp [hl], fun j hj => ?_⟩
  rw [List.length_append, List.length_singleton] at hj
  rcases (by omega : j < LL.length ∨ j = LL.length) with q | rfl
  · obtain ⟨u, e, hu⟩ := he j q
    have e3 : ltH (LL ++ [L]) j = ltH LL j := by rw [ltH_eq, ltH_eq, List.getElem?_append_left q]
    rw [e3]
    exact ⟨u, by rw [List.getElem?_append_left (by omega)]; exact e, hu.kept35 hr hg⟩
  · have e3 : ltH (LL ++ [L]) LL.length = L := by rw [ltH_eq, List.getElem?_append_right (Nat.le_refl _), Nat.sub_self]; rfl
    rw [e3]
    exact ⟨x, by rw [List.getElem?_append_right (by omega), hl, Nat.sub_self]; rfl, hx.kept35 hr hg⟩
/-- such rows stay. -/
theorem RowsZ.own {Z : Nat → Prop} {w : World} {B : Nat} {v : Value} {LL : List (List (List Int))} (h : OwnLL w B v LL) (hz : ∀ q, Z q → q < B) : ∃ a cap, v = .slice a LL.length cap ∧ RowsZ Z w a cap LL := by
  obtain ⟨vals, h1, h2, h3⟩ := h
  obtain ⟨a, cap, e, hr⟩ := RowZ.new h1 h2 hz
  refine ⟨a, cap, e, vals, h2, hr, fun j hj => ?_⟩
  obtain ⟨u, e2, hu⟩ := h3 j hj
  obtain ⟨la, lc, e3, hf⟩ := FamZ.own hu hz
  exact ⟨la, lc, by rw [e2, e3], hf⟩
end
section
theorem cell_of1 {w : World} {B : Nat} {t : TypeId} {x : Value} (h : w.heap[B]? = some (.cells #[x] t)) : w.cell? ⟨B, 0, none⟩ = some x := by unfold World.cell?; rw [h]; rfl
theorem froz_of1 {w : World} {B : Nat} {t : TypeId} {x : Value} (h : w.heap[B]? = some (.cells #[x] t)) : w.frozen? ⟨B, 0, none⟩ = false := by unfold World.frozen?; rw [h]; rfl
theorem set_of1 {w : World} {B : Nat} {t : TypeId} {x : Value} (u : Value) (h : w.heap[B]? = some (.cells #[x] t)) : (w.setCell ⟨B, 0, none⟩ u).heap[B]? = some (.cells #[u] t) := by
  rw [setCell_eq_setRow w B 0 _ t (0, 0) u h, setRow_heap _ _ _ _ _ _ h]; rfl
theorem three_of {w : World} {B : Nat} {t : TypeId} {x y : Value} (h : w.heap[B]? = some (.cells #[x, y] t)) : w.cell? ⟨B, 1, none⟩ = some y := by unfold World.cell?; rw [h]; rfl
theorem one_cell {w : World} {s : Nat} {x : Value} (h : w.cell? ⟨s, 0, none⟩ = some x) : ∀ (j : Nat) (u : Value), [x][j]? = some u → w.cell? ((⟨s, 0, none⟩ : Addr).add j) = some u := fun j u hu => by
  match j, hu with
  | 0, hu => cases hu; exact h
theorem fut_none {w w' : World} (g : w.grownBy w' none) : Fut w w' := RowKit.Below.grown Fut.rfl g (Nat.le_refl _) (fun q hq => by cases hq)
theorem cell_new (w : World) (x : Value) (t : TypeId) : (w.alloc (.cells #[x] t)).cell? ⟨w.heap.size, 0, none⟩ = some x := cell_of1 (World.alloc_heap_new _ _)
theorem cell_at {w W : World} {s : Nat} {x : Value} (h : w.cell? ⟨s, 0, none⟩ = some x) (F : Fut w W) : W.cell? ⟨s, 0, none⟩ = some x := (RowKit.Below.cell F (p := ⟨s, 0, none⟩) (World.block_lt_of_cell? _ _ h)).trans h
theorem RowZ.cells {Z : Nat → Prop} {w : World} {a : Option Addr} {cap : Nat} {vals : List Value} (h : RowZ Z w a cap vals) (W : World) (b : But Z w W) : ∀ ad, a = some ad → ∀ (j : Nat) (u : Value), vals[j]? = some u → W.cell? (ad.add j) = some u := fun ad e j u hu => by
  rcases h with ⟨rfl, _, _⟩ | ⟨g, rfl, _, _, _, h5⟩
  · cases e
  · cases e
    have := h5 W b j u hu
    have e2 : ((⟨g, 0, none⟩ : Addr).add j) = ⟨g, j, none⟩ := by unfold Addr.add; split <;> simp_all
    rw [e2]; exact this
theorem RowZ.none {Z : Nat → Prop} {w : World} {a : Option Addr} {cap : Nat} {vals : List Value} (h : RowZ Z w a cap vals) (e : a = none) : vals = [] := by
  rcases h with ⟨_, _, h⟩ | ⟨g, rfl, _⟩
  · exact h
  · cases e
end
end Go.Proofs.Ytflllkamdihfaaa
