/- pure: Menger's theorem for carts; the lists that LaneMenger tries -/
import Derived.Test.YtflllkamdihfaaaLHA
import Derived.Test.YtflllkamdihfaaaLNA
import Derived.Test.YtflllkamdihfaaaMG
import Derived.Test.YtflllkamdihfaaaLMC
namespace Go.Proofs.Ytflllkamdihfaaa
open Go.RowKit Go.Sort
/-- the arcs of a parish. -/
def arcs (c m : Int) (S : List Int) : List (Int × Int) := (rngI 0 m.toNat).flatMap fun k => (stL c m S k).map fun x => (k, x)
theorem mem_arcs {c m : Int} {S : List Int} {a b : Int} (hm : 0 ≤ m) : (a, b) ∈ arcs c m S ↔ (0 ≤ a ∧ a < m) ∧ b ∈ stL c m S a := by
  unfold arcs
  rw [List.mem_flatMap]
  constructor
  · rintro ⟨k, hk, h⟩
    obtain ⟨x, hx, e⟩ := List.mem_map.1 h
    cases e
    rw [mem_rngI] at hk
    exact ⟨by omega, hx⟩
  · rintro ⟨h1, h2⟩
    exact ⟨a, mem_rngI.2 (by omega), List.mem_map.2 ⟨b, h2, rfl⟩⟩
theorem wa_wy {r c m : Int} (hs : Side r c m) (S : List Int) : ∀ (w : List Int) (k : Int), 0 ≤ k → k < m → (Mg.Wa (arcs c m S) (k :: w) ↔ Wy (stL c m S) (k :: w))
  | [], k, _, _ => by simp [Mg.Wa, Wy]
  | y :: w, k, h0, h1 => by
    have hm := side_m hs
    show ((k, y) ∈ arcs c m S ∧ Mg.Wa _ (y :: w)) ↔ (y ∈ stL c m S k ∧ Wy _ (y :: w))
    rw [mem_arcs (by omega)]
    constructor
    · rintro ⟨⟨_, h2⟩, h3⟩
      have := up_stL hs S k h0 y h2
      exact ⟨h2, (wa_wy hs S w y (by omega) (by omega)).1 h3⟩
    · rintro ⟨h2, h3⟩
      have := up_stL hs S k h0 y h2
      exact ⟨⟨⟨h0, h1⟩, h2⟩, (wa_wy hs S w y (by omega) (by omega)).2 h3⟩
theorem rbrs_iff {r c : Int} {S Y T : List Int} (hg : ChkG r c S Y T) (L : List Int) : rbrs c (r * c) S Y T L = true ↔ ∀ y ∈ Y, ∀ t ∈ T, ∀ w, Wto (stL c (r * c) S) y t w → metW w L = true := by
  unfold rbrs
  rw [List.all_eq_true]
  constructor
  · intro h y hy t ht w hw
    have h1 := h y hy
    rw [List.all_eq_true] at h1
    exact h1 w ((mem_fy hg.side (hg.y y hy)).2 ((mem_cnd hg.side (hg.y y hy)).2 ⟨t, ht, hw⟩))
  · intro h y hy
    rw [List.all_eq_true]
    intro w hw
    obtain ⟨t, ht, hw2⟩ := (mem_cnd hg.side (hg.y y hy)).1 ((mem_fy hg.side (hg.y y hy)).1 hw)
    exact h y hy t ht w hw2
theorem mem_famL {r c : Int} {S Y T : List Int} (hc : chkP r c S Y T = 0) {G : List (List Int)} : G ∈ famL c (r * c) S Y T ↔ (G.length = Y.length ∧ ∀ k, k < Y.length → ∃ t ∈ T, Wto (stL c (r * c) S) (nth Y k) t (lth G k)) ∧ fmE G = none := by
  rw [(fam_perm_tup hc).mem_iff, List.mem_filter, mem_cnds (chk_all hc), Option.isNone_iff_eq_none]
theorem met_sym {a b : List Int} : metW a b = true → metW b a = true := fun h => by
  obtain ⟨x, h1, h2⟩ := metW_iff.1 h
  exact metW_iff.2 ⟨x, h2, h1⟩
/-- corners, fewer than carts, that bar all ways: no family is apart. -/
theorem men_one {r c : Int} {S Y T : List Int} (hc : chkP r c S Y T = 0) {L : List Int} (hl : L.length < Y.length) (hb : rbrs c (r * c) S Y T L = true) : famL c (r * c) S Y T = [] := by
  have hg := chk_all hc
  rw [List.eq_nil_iff_forall_not_mem]
  intro G hG
  obtain ⟨⟨h1, h2⟩, h3⟩ := (mem_famL hc).1 hG
  have h4 : ∀ k, k < Y.length → ∃ x, x ∈ lth G k ∧ x ∈ L := fun k hk => by
    obtain ⟨t, ht, hw⟩ := h2 k hk
    obtain ⟨x, h5, h6⟩ := metW_iff.1 ((rbrs_iff hg L).1 hb _ (nth_mem hk) t ht _ hw)
    exact ⟨x, h5, h6⟩
  have h5 : ∃ f : Nat → Int, ∀ k, k < Y.length → f k ∈ lth G k ∧ f k ∈ L := by
    classical
    exact ⟨fun k => if h : k < Y.length then Classical.choose (h4 k h) else 0, fun k hk => by
      simp only [hk, dif_pos]
      exact Classical.choose_spec (h4 k hk)⟩
  obtain ⟨f, hf⟩ := h5
  have h6 : ∀ i j, i < j → j < Y.length → f i ≠ f j := fun i j hij hj e => by
    have h7 := apB_take.1 (fmE_none.1 h3 j (by omega)) i (by rw [List.length_take]; omega)
    have e2 : lth (G.take j) i = lth G i := by rw [lth_eq, lth_eq, List.getElem?_take_of_lt hij]
    rw [e2] at h7
    exact metW_not h7 (hf i (by omega)).1 (e ▸ (hf j hj).1)
  have h7 : ((List.range Y.length).map f).Nodup := by
    unfold List.Nodup
    rw [List.pairwise_map]
    refine List.Pairwise.imp_of_mem (fun {a b} ha hb hab => ?_) (List.pairwise_lt_range (n := Y.length))
    exact h6 a b hab (List.mem_range.1 hb)
  have h8 := nodup_le h7 (m := L) (fun x hx => by
    obtain ⟨k, hk, rfl⟩ := List.mem_map.1 hx
    exact (hf k (List.mem_range.1 hk)).2)
  rw [List.length_map, List.length_range] at h8
  omega
/-- Menger's theorem for carts: no family is apart, so few corners bar all ways. -/
theorem men_two {r c : Int} {S Y T : List Int} (hc : chkP r c S Y T = 0) (h0 : famL c (r * c) S Y T = []) : ∃ L : List Int, L.length < Y.length ∧ rbrs c (r * c) S Y T L = true := by
  have hg := chk_all hc
  have hs := hg.side
  have hm := side_m hs
  refine Classical.byContradiction fun hn => ?_
  have H : ∀ X : List Int, X.length < Y.length → ∃ p, Mg.Pth (arcs c (r * c) S) Y T p ∧ ∀ v ∈ p, v ∉ X := fun X hX => by
    refine Classical.byContradiction fun hq => hn ⟨X, hX, (rbrs_iff hg X).2 fun y hy t ht w hw => ?_⟩
    cases hmt : metW w X
    · refine absurd ⟨w, ⟨?_, ⟨y, hy, hw.2.1⟩, t, ht, hw.2.2⟩, fun v hv hvX => metW_not hmt hv hvX⟩ hq
      obtain ⟨hw1, hw2, hw3⟩ := hw
      match w, hw1, hw2 with
      | k :: w, hw1, hw2 =>
        have e : k = y := by simpa using hw2
        subst e
        have := hg.y k hy
        exact (wa_wy hs S w k (by omega) (by omega)).2 hw1
    · rfl
  obtain ⟨F, l1, p1, d1⟩ := Mg.menger (arcs c (r * c) S) (fun e he => by
    obtain ⟨a, b⟩ := e
    have h1 := (mem_arcs (by omega)).1 he
    exact (up_stL hs S a h1.1.1 b h1.2).1) Y T Y.length H
  obtain ⟨_, f, hf⟩ := Mg.ends_all (P := Y) (fun p => p.head?) Mg.head_mem d1 (fun p hp => (p1 p hp).2.1) (by omega)
  have hG : Y.map f ∈ famL c (r * c) S Y T := by
    have hlt : ∀ k, k < Y.length → lth (Y.map f) k = f (nth Y k) := fun k hk => by
      rw [lth_get (by rw [List.length_map]; exact hk), List.getElem_map, nth_get hk]
    refine (mem_famL hc).2 ⟨⟨List.length_map _, fun k hk => ?_⟩, ?_⟩
    · rw [hlt k hk]
      have hy := nth_mem hk
      obtain ⟨h1, h2⟩ := hf _ hy
      obtain ⟨hw, _, t, ht, h3⟩ := p1 _ h1
      refine ⟨t, ht, ?_, h2, h3⟩
      generalize f (nth Y k) = w at *
      match w, hw, h2 with
      | q :: w, hw, h2 =>
        have e : q = nth Y k := by simpa using h2
        subst e
        have := hg.y _ hy
        exact (wa_wy hs S w _ (by omega) (by omega)).1 hw
    · refine fmE_off fun i hi k hk => ?_
      rw [List.length_map] at hi
      rw [hlt i hi, hlt k (by omega), Bool.eq_false_iff]
      intro q
      obtain ⟨x, h1, h2⟩ := metW_iff.1 q
      have e := Mg.dj_eq d1 (hf _ (nth_mem hi)).1 (hf _ (nth_mem (show k < Y.length by omega))).1 h1 h2
      have h3 := (hf _ (nth_mem hi)).2
      rw [e, (hf _ (nth_mem (show k < Y.length by omega))).2] at h3
      have h4 := Option.some.inj h3
      rw [nth_get hi, nth_get (show k < Y.length by omega)] at h4
      exact absurd ((List.getElem_inj hg.yd).1 h4) (by omega)
  rw [h0] at hG
  cases hG
/-- lists of corners, one by one. -/
def cmbL (g : Nat → List (List Int)) : Nat → Nat → List (List Int)
  | 0, _ => []
  | f + 1, i => (g (i + 1)).map ((i : Int) :: ·) ++ cmbL g f (i + 1)
def cmb (m : Nat) : Nat → Nat → List (List Int)
  | 0, _ => [[]]
  | k + 1, i => cmbL (cmb m k) (m - i) i
theorem fb_find {G : List Int → Nat → Option (List Int)} {g : Nat → List (List Int)} {p : List Int → Bool} {S : List Int} (h : ∀ i : Nat, G (S ++ [(i : Int)]) (i + 1) = (g (i + 1)).find? fun l => p ((i : Int) :: l)) : ∀ f i, fbL G S f i = (cmbL g f i).find? p
  | 0, i => rfl
  | f + 1, i => by
    rw [fbL, cmbL, List.find?_append, List.find?_map, h]
    have e : (p ∘ fun x => (i : Int) :: x) = fun l => p ((i : Int) :: l) := rfl
    rw [e]
    cases (g (i + 1)).find? fun l => p ((i : Int) :: l) with
    | some R => rfl
    | none => exact fb_find h f (i + 1)
theorem fbE_find {r c m : Int} (hs : Side r c m) (S Y T : List Int) (hY : ∀ y ∈ Y, 0 ≤ y ∧ y < m ∧ y ∉ S) : ∀ (k i : Nat) (b : List Int), fbE c m Y T k (S ++ b) i = (cmb m.toNat k i).find? fun l => rbrs c m S Y T (b ++ l)
  | 0, i, b => by
    rw [fbE, cmb, bar_met hs S Y T b hY, List.find?_cons, List.append_nil]
    cases rbrs c m S Y T b <;> rfl
  | k + 1, i, b => by
    rw [fbE, cmb]
    refine fb_find (p := fun l => rbrs c m S Y T (b ++ l)) (fun j => ?_) _ _
    rw [List.append_assoc, fbE_find hs S Y T hY k (j + 1) (b ++ [(j : Int)])]
    congr 1
    funext l
    rw [List.append_assoc, List.singleton_append]
theorem cmbL_len {g : Nat → List (List Int)} {k : Nat} (h : ∀ i, ∀ l ∈ g i, l.length = k) : ∀ f i, ∀ l ∈ cmbL g f i, l.length = k + 1
  | 0, _, l, hl => by cases hl
  | f + 1, i, l, hl => by
    rw [cmbL, List.mem_append] at hl
    rcases hl with hl | hl
    · obtain ⟨x, hx, rfl⟩ := List.mem_map.1 hl
      rw [List.length_cons, h _ _ hx]
    · exact cmbL_len h f (i + 1) l hl
theorem cmb_len (m : Nat) : ∀ (k i : Nat), ∀ l ∈ cmb m k i, l.length = k
  | 0, i, l, hl => by rw [cmb, List.mem_singleton] at hl; rw [hl]; rfl
  | k + 1, i, l, hl => cmbL_len (cmb_len m k) _ _ l hl
/-- all lists of at most two corners, as the law tries them. -/
def candL (m : Nat) : List (List Int) := cmb m 0 0 ++ (cmb m 1 0 ++ cmb m 2 0)
def brsP (r c : Int) (S Y T : List Int) (l : List Int) : Bool := decide (l.length < Y.length) && rbrs c (r * c) S Y T l
theorem find_len {k : Nat} {n : Nat} {p : List Int → Bool} : ∀ {l : List (List Int)}, (∀ x ∈ l, x.length = k) → l.find? (fun x => decide (x.length < n) && p x) = if k < n then l.find? p else none
  | [], _ => by simp
  | x :: l, h => by
    rw [List.find?_cons, List.find?_cons, find_len (fun y hy => h y (by simp [hy])), h x (by simp)]
    by_cases hk : k < n
    · simp only [hk, decide_true, Bool.true_and, if_true]
    · simp only [hk, decide_false, Bool.false_and, if_false]
theorem brO_find {r c : Int} {S Y T : List Int} (hg : ChkG r c S Y T) : brO r c S Y T = (candL (r * c).toNat).find? (brsP r c S Y T) := by
  have h1 := hg.one
  have h3 := hg.three
  have hf := fun k => fbE_find hg.side S Y T hg.y k 0 []
  simp only [List.append_nil, List.nil_append] at hf
  have e : brsP r c S Y T = fun x => decide (x.length < Y.length) && rbrs c (r * c) S Y T x := rfl
  unfold brO candL
  rw [e, List.find?_append, List.find?_append, find_len (cmb_len _ 0 0), find_len (cmb_len _ 1 0), find_len (cmb_len _ 2 0)]
  have hb : ∀ f k, brL c (r * c) S Y T (f + 1) k = ((cmb (r * c).toNat k 0).find? fun l => rbrs c (r * c) S Y T l).or (brL c (r * c) S Y T f (k + 1)) := fun f k => by
    rw [brL, hf]
    cases (cmb (r * c).toNat k 0).find? fun l => rbrs c (r * c) S Y T l <;> rfl
  have h0 : ∀ k, brL c (r * c) S Y T 0 k = none := fun _ => rfl
  rcases (by omega : Y.length = 1 ∨ Y.length = 2 ∨ Y.length = 3) with e | e | e <;> rw [e] <;> simp [hb, h0]
/-- there is no family that is apart just if some list that the law tries bars the carts. -/
theorem men_iff {r c : Int} {S Y T : List Int} (hc : chkP r c S Y T = 0) : famL c (r * c) S Y T = [] ↔ ((candL (r * c).toNat).find? (brsP r c S Y T)).isSome = true := by
  have hg := chk_all hc
  have hs := hg.side
  have hm := side_m hs
  rw [List.find?_isSome]
  constructor
  · intro h0
    obtain ⟨L, h1, h2⟩ := men_two hc h0
    have h3 := hg.three
    -- the corners of L that are corners, in order
    obtain ⟨C, hC⟩ : ∃ C, C = (rngI 0 (r * c).toNat).filter fun x => L.contains x := ⟨_, rfl⟩
    have hCm : ∀ x, x ∈ C ↔ (0 ≤ x ∧ x < r * c) ∧ x ∈ L := fun x => by
      rw [hC, List.mem_filter, mem_rngI, List.contains_iff_mem]
      constructor <;> rintro ⟨a, b⟩ <;> exact ⟨by omega, b⟩
    have hCp : C.Pairwise (· < ·) := by rw [hC]; exact (pw_rngI 0 _).filter _
    have hCl : C.length ≤ L.length := nodup_le (hCp.imp (fun h e => by omega)) fun x hx => ((hCm x).1 hx).2
    have hCb : rbrs c (r * c) S Y T C = true := (rbrs_iff hg C).2 fun y hy t ht w hw => by
      obtain ⟨x, h4, h5⟩ := metW_iff.1 ((rbrs_iff hg L).1 h2 y hy t ht w hw)
      refine metW_iff.2 ⟨x, h4, (hCm x).2 ⟨?_, h5⟩⟩
      have h6 := (hw.good (hg.y y hy)).1 x h4
      rw [atE_zero] at h6
      exact ⟨h6.1, h6.2.1⟩
    have mL : ∀ (g : Nat → List (List Int)) (f i j : Nat) (l : List Int), i ≤ j → j < i + f → l ∈ g (j + 1) → (j : Int) :: l ∈ cmbL g f i := fun g f => by
      induction f with
      | zero => intro i j l h1 h2; omega
      | succ f ih =>
        intro i j l h1 h2 h3
        rw [cmbL, List.mem_append]
        rcases Nat.lt_or_eq_of_le h1 with q | rfl
        · exact .inr (ih (i + 1) j l (by omega) (by omega) h3)
        · exact .inl (List.mem_map.2 ⟨l, h3, rfl⟩)
    have hin : C ∈ candL (r * c).toNat := by
      unfold candL
      match C, hCp, hCl, hCm with
      | [], _, _, _ => simp [cmb]
      | [a], _, _, hCm =>
        have ha := ((hCm a).1 (by simp)).1
        rw [List.mem_append, List.mem_append]
        have := mL (cmb (r * c).toNat 0) ((r * c).toNat - 0) 0 a.toNat [] (by omega) (by omega) (by simp [cmb])
        rw [Int.toNat_of_nonneg ha.1] at this
        exact .inr (.inl this)
      | [a, b], hCp, _, hCm =>
        have ha := ((hCm a).1 (by simp)).1
        have hb := ((hCm b).1 (by simp)).1
        have hab : a < b := by simpa using hCp
        rw [List.mem_append, List.mem_append]
        have h7 := mL (cmb (r * c).toNat 0) ((r * c).toNat - (a.toNat + 1)) (a.toNat + 1) b.toNat [] (by omega) (by omega) (by simp [cmb])
        have := mL (cmb (r * c).toNat 1) ((r * c).toNat - 0) 0 a.toNat _ (by omega) (by omega) h7
        rw [Int.toNat_of_nonneg ha.1, Int.toNat_of_nonneg hb.1] at this
        exact .inr (.inr this)
      | _ :: _ :: _ :: _, _, hCl, _ => simp at hCl; omega
    exact ⟨C, hin, by unfold brsP; rw [hCb, Bool.and_true, decide_eq_true_eq]; omega⟩
  · rintro ⟨L, _, h⟩
    unfold brsP at h
    rw [Bool.and_eq_true, decide_eq_true_eq] at h
    exact men_one hc h.1 h.2
end Go.Proofs.Ytflllkamdihfaaa
