/- pure: what LaneSwapped compares -/
import Derived.Test.YtflllkamdihfaaaLHA
import Derived.Test.YtflllkamdihfaaaLNC
import Derived.Test.YtflllkamdihfaaaLHF
import Derived.Test.YtflllkamdihfaaaLHG
import Derived.Test.YtflllkamdihfaaaLGH
import Derived.Test.YtflllkamdihfaaaLHI
namespace Go.Proofs.Ytflllkamdihfaaa
open Go.RowKit Go.Sort
/-- ways are short. -/
theorem wy_short {m : Int} {st : Int → List Int} (hu : Up m st) : ∀ (w : List Int) (k : Int), 0 ≤ k → k < m → Wy st (k :: w) → ((k :: w).length : Int) ≤ m - k
  | [], k, h0, h1, _ => by simp; omega
  | y :: t, k, h0, h1, h => by
    have h2 : y ∈ st k ∧ Wy st (y :: t) := h
    have h3 := hu k h0 y h2.1
    have := wy_short hu t y (by omega) h3.2 h2.2
    rw [List.length_cons]
    omega
theorem wto_short {r c : Int} {S : List Int} (hs : Side r c (r * c)) {y t : Int} {w : List Int} (hy : 0 ≤ y ∧ y < r * c) (h : Wto (stL c (r * c) S) y t w) : w.length ≤ 16 ∧ ∀ x ∈ w, 0 ≤ x ∧ x < 16 := by
  have hm := side_m hs
  obtain ⟨h1, h2, h3⟩ := h
  cases w with
  | nil => cases h2
  | cons k w =>
    have e : k = y := by simpa using h2
    subst e
    have hl := wy_short (up_stL hs S) w k hy.1 hy.2 h1
    have ha := (Wy.asc (up_stL hs S) w k hy.1 h1).1
    refine ⟨by omega, fun x hx => ?_⟩
    rcases List.mem_cons.1 hx with rfl | hx
    · omega
    · have := ha x hx; omega
theorem gd_short {r c : Int} {S Y T : List Int} (hg : ChkG r c S Y T) {F : List (List Int)} {o : List Int} (h : GdF c (r * c) S Y T F o) : ∀ k, k < F.length → (lth F k).length ≤ 16 ∧ ∀ x ∈ lth F k, 0 ≤ x ∧ x < 16 := fun k hk => by
  rw [h.fl] at hk
  have hy := hg.y _ (nth_mem hk)
  exact wto_short hg.side ⟨hy.1, hy.2.1⟩ (h.w k hk)
/-- the law's family goes to different tips. -/
theorem famW_gd {r c : Int} {S Y T : List Int} (hg : ChkG r c S Y T) (b : Nat → Nat) (q : Nat) (hp : ∀ k, k < Y.length → 0 < (ltW c (r * c) S Y T q k).length) : GdF c (r * c) S Y T (famW c (r * c) S Y T b q Y.length) (ordW Y.length q Y.length) := by
  have h1 := hg.one
  have h3 := hg.three
  have hon : ∀ k, k < Y.length → nth (ordW Y.length q Y.length) k = (tN Y.length q k : Int) := fun k hk => by
    rw [nth_get (by unfold ordW; simpa using hk)]
    unfold ordW
    simp
  refine ⟨by unfold famW; simp, by unfold ordW; simp, ?_, fun k hk => ?_, fun k hk => ?_⟩
  · rw [nd_nth]
    have hl : (ordW Y.length q Y.length).length = Y.length := by unfold ordW; simp
    rw [hl]
    intro x y hx hy e
    rw [hon x hx, hon y hy] at e
    have e2 : tN Y.length q x = tN Y.length q y := by omega
    unfold tN at e2
    generalize Y.length = n at *
    have a1 := Nat.mod_lt (x + q) (show 0 < n by omega)
    have a2 := Nat.mod_lt (y + q) (show 0 < n by omega)
    have a3 : (x + q) % n = (y + q) % n := by split at e2 <;> omega
    rcases (by omega : n = 1 ∨ n = 2 ∨ n = 3) with rfl | rfl | rfl <;> omega
  · rw [hon k hk]
    have := tN_lt (n := Y.length) (by omega) q k
    have := hg.len
    omega
  · rw [hon k hk, Int.toNat_natCast]
    have hy := hg.y _ (nth_mem hk)
    have e : lth (famW c (r * c) S Y T b q Y.length) k = pkW c (r * c) S Y T b q k := by
      rw [lth_get (by unfold famW; simpa using hk)]
      unfold famW
      simp
    rw [e]
    unfold pkW
    have hj := Nat.mod_lt (b k) (hp k hk)
    have hm : lth (ltW c (r * c) S Y T q k) (b k % (ltW c (r * c) S Y T q k).length) ∈ ltW c (r * c) S Y T q k := by rw [lth_get hj]; exact List.getElem_mem hj
    have h2 := (lwL_perm S (nth Y k) (nth T (tN Y.length q k))).mem_iff.1 hm
    exact (mem_wyL hg.side hy).1 h2
/-- how many of the first ways differ. -/
def chN (F G : List (List Int)) : Nat → Nat
  | 0 => 0
  | k + 1 => chN F G k + if lth F k = lth G k then 0 else 1
theorem chN_two {F G : List (List Int)} {i j : Nat} (hij : i < j) (h1 : lth F i ≠ lth G i) (h2 : lth F j ≠ lth G j) (h : ∀ k, k ≠ i → k ≠ j → lth G k = lth F k) : ∀ n, chN F G n = (if i < n then 1 else 0) + (if j < n then 1 else 0)
  | 0 => by simp [chN]
  | n + 1 => by
    rw [chN, chN_two hij h1 h2 h n]
    by_cases e1 : n = i
    · subst e1
      rw [if_neg h1]
      repeat' split
      all_goals omega
    · by_cases e2 : n = j
      · subst e2
        rw [if_neg h2]
        repeat' split
        all_goals omega
      · rw [if_pos (h n e1 e2).symm]
        repeat' split
        all_goals omega
/-- does a way meet one of those before it? -/
def mtI (F : List (List Int)) (i : Nat) : Nat → Bool
  | 0 => false
  | k + 1 => mtI F i k || metW (lth F i) (lth F k)
def mtF (F : List (List Int)) : Nat → Bool
  | 0 => false
  | i + 1 => mtF F i || mtI F i i
theorem mtI_iff (F : List (List Int)) (i : Nat) : ∀ n, mtI F i n = true ↔ ∃ k, k < n ∧ metW (lth F i) (lth F k) = true
  | 0 => by simp [mtI]
  | n + 1 => by
    rw [mtI, Bool.or_eq_true, mtI_iff F i n]
    constructor
    · rintro (⟨k, h1, h2⟩ | h)
      · exact ⟨k, by omega, h2⟩
      · exact ⟨n, by omega, h⟩
    · rintro ⟨k, h1, h2⟩
      rcases (by omega : k < n ∨ k = n) with h | rfl
      · exact .inl ⟨k, h, h2⟩
      · exact .inr h2
theorem mtF_iff (F : List (List Int)) : ∀ n, mtF F n = true ↔ ∃ i, i < n ∧ mtI F i i = true
  | 0 => by simp [mtF]
  | n + 1 => by
    rw [mtF, Bool.or_eq_true, mtF_iff F n]
    constructor
    · rintro (⟨k, h1, h2⟩ | h)
      · exact ⟨k, by omega, h2⟩
      · exact ⟨n, by omega, h⟩
    · rintro ⟨k, h1, h2⟩
      rcases (by omega : k < n ∨ k = n) with h | rfl
      · exact .inl ⟨k, h, h2⟩
      · exact .inr h2
theorem mtF_fm (F : List (List Int)) : mtF F F.length = (fmE F).isSome := by
  have key : mtF F F.length = false ↔ fmE F = none := by
    rw [fmE_none, Bool.eq_false_iff, ne_eq, mtF_iff]
    constructor
    · intro h j hj
      rw [apB_take]
      intro k hk
      rw [List.length_take] at hk
      have e : lth (F.take j) k = lth F k := by rw [lth_eq, lth_eq, List.getElem?_take_of_lt (by omega)]
      rw [e, Bool.eq_false_iff]
      intro hm
      obtain ⟨x, h1, h2⟩ := metW_iff.1 hm
      exact h ⟨j, hj, (mtI_iff F j j).2 ⟨k, by omega, metW_iff.2 ⟨x, h2, h1⟩⟩⟩
    · rintro h ⟨i, hi, hm⟩
      obtain ⟨k, hk, hm⟩ := (mtI_iff F i i).1 hm
      obtain ⟨x, h1, h2⟩ := metW_iff.1 hm
      have := apB_take.1 (h i hi) k (by rw [List.length_take]; omega)
      have e : lth (F.take i) k = lth F k := by rw [lth_eq, lth_eq, List.getElem?_take_of_lt (by omega)]
      rw [e, Bool.eq_false_iff] at this
      exact this (metW_iff.2 ⟨x, h2, h1⟩)
  cases h : fmE F with
  | none => rw [key.2 h]; rfl
  | some v =>
    have : mtF F F.length ≠ false := fun e => by rw [key.1 e] at h; cases h
    simpa using this
/-- the exchange keeps the corners, and changes two ways. -/
theorem phi_perm {F G : List (List Int)} (hl : G.length = F.length) (h3 : F.length ≤ 3) {i j : Nat} {x : Int} {a b p q : List Int} (hij : i < j) (hj : j < F.length) (e1 : lth F i = a ++ x :: b) (e2 : lth F j = p ++ x :: q) (e3 : lth G i = a ++ x :: q) (e4 : lth G j = p ++ x :: b) (h : ∀ k, k ≠ i → k ≠ j → lth G k = lth F k) : F.flatten.Perm G.flatten := by
  rw [List.perm_iff_count]
  intro z
  match F, G, hl, h3 with
  | [], _, _, _ => simp at hj
  | [u], _, _, _ => simp at hj; omega
  | [u, v], [u', v'], _, _ =>
    obtain ⟨rfl, rfl⟩ : i = 0 ∧ j = 1 := by simp at hj; omega
    simp [lth] at e1 e2 e3 e4
    subst e1 e2 e3 e4
    simp [List.count_append, List.count_cons]
    omega
  | [u, v, w], [u', v', w'], _, _ =>
    have hc : (i = 0 ∧ j = 1) ∨ (i = 0 ∧ j = 2) ∨ (i = 1 ∧ j = 2) := by simp at hj; omega
    rcases hc with ⟨rfl, rfl⟩ | ⟨rfl, rfl⟩ | ⟨rfl, rfl⟩
    · have e5 := h 2 (by decide) (by decide)
      simp [lth] at e1 e2 e3 e4 e5
      subst e1 e2 e3 e4 e5
      simp [List.count_append, List.count_cons]
      omega
    · have e5 := h 1 (by decide) (by decide)
      simp [lth] at e1 e2 e3 e4 e5
      subst e1 e2 e3 e4 e5
      simp [List.count_append, List.count_cons]
      omega
    · have e5 := h 0 (by decide) (by decide)
      simp [lth] at e1 e2 e3 e4 e5
      subst e1 e2 e3 e4 e5
      simp [List.count_append, List.count_cons]
      omega
theorem gd_ends {r c : Int} {S Y T : List Int} (hg : ChkG r c S Y T) {F G : List (List Int)} {o o' : List Int} (h : GdF c (r * c) S Y T F o) (h' : GdF c (r * c) S Y T G o') {k : Nat} (hk : k < Y.length) (he : lth F k = lth G k) : nth o k = nth o' k := by
  have h1 := (h.w k hk).2.2
  have h2 := (h'.w k hk).2.2
  rw [he, h2] at h1
  have b1 := h.ob k hk
  have b2 := h'.ob k hk
  have := nd_nth.1 hg.td _ _ (show (nth o' k).toNat < T.length by omega) (show (nth o k).toNat < T.length by omega) (Option.some.inj h1)
  omega
theorem sgn_ne {o : List Int} (hd : o.Nodup) (h3 : o.length ≤ 3) {i j : Nat} (hij : i < j) (hj : j < o.length) : sgnO (oxc o i j) ≠ sgnO o := by
  rw [sgn_oxc hd h3 hij hj]
  unfold sgnO
  split <;> omega
/-- what the law compares where ways meet. -/
theorem swap_facts {r c : Int} {S Y T : List Int} (hg : ChkG r c S Y T) {F : List (List Int)} {o : List Int} (h : GdF c (r * c) S Y T F o) (hm : (fmE F).isSome = true) :
    ∃ o', GdF c (r * c) S Y T (phiF F) o' ∧ (fmE (phiF F)).isSome = true ∧ phiF (phiF F) = F ∧ o'.length = o.length ∧ sgnO o' ≠ sgnO o ∧ F.flatten.Perm (phiF F).flatten ∧ chN F (phiF F) Y.length = 2 := by
  have ho := gd_ord hg h
  subst ho
  obtain ⟨i, j, x, _, hij, hj, h1, h2, h3, h4, a, b, p, q, e1, e2, e3, e4⟩ := phi_gd hg h hm
  have hjl : j < (ordF T F).length := by rw [h.ol]; exact hj
  have N := nth_oxc (show i < (ordF T F).length by omega) hjl
  have hne : nth (ordF T F) i ≠ nth (ordF T F) j := fun e => by have := nd_nth.1 h.nd i j (by omega) hjl e; omega
  refine ⟨_, h1, h2, h3, by unfold oxc; simp, sgn_ne h.nd (by rw [h.ol]; exact hg.three) hij hjl, phi_perm (by rw [h1.fl, h.fl]) (by rw [h.fl]; exact hg.three) hij (by rw [h.fl]; exact hj) e1 e2 e3 e4 h4, ?_⟩
  rw [chN_two hij (fun e => ?_) (fun e => ?_) h4, if_pos (by omega), if_pos hj]
  · have := gd_ends hg h h1 (by omega) e
    rw [N, if_neg (by omega), if_pos rfl] at this
    exact hne this
  · have := gd_ends hg h h1 hj e
    rw [N, if_pos rfl] at this
    exact hne this.symm
theorem flat_short {F : List (List Int)} (h3 : F.length ≤ 3) (h : ∀ k, k < F.length → (lth F k).length ≤ 16) : F.flatten.length ≤ 1000 := by
  have := flat_le48 h F.length (Nat.le_refl _)
  rw [List.take_length] at this
  omega
end Go.Proofs.Ytflllkamdihfaaa
