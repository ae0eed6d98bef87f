/- pure: the determinant counts the families that are apart, with signs; ways that do not meet do not cross -/
import Derived.Test.YtflllkamdihfaaaLGA
import Derived.Test.YtflllkamdihfaaaLGB
import Derived.Test.YtflllkamdihfaaaLDH
import Derived.Test.YtflllkamdihfaaaLDC
import Derived.Test.YtflllkamdihfaaaLBB
namespace Go.Proofs.Ytflllkamdihfaaa
open Go.RowKit Go.Sort
/-- all tuples of members of lists. -/
def tup {α : Type} : List (List α) → List (List α)
  | [] => [[]]
  | L :: Ls => L.flatMap fun w => (tup Ls).map (w :: ·)
theorem mem_tup {α : Type} : ∀ {Ls : List (List α)} {F : List α}, F ∈ tup Ls ↔ F.length = Ls.length ∧ ∀ k (h : k < F.length) (h' : k < Ls.length), F[k] ∈ Ls[k]
  | [], F => by
    unfold tup
    rw [List.mem_singleton]
    constructor
    · rintro rfl; exact ⟨rfl, fun k h => by simp at h⟩
    · rintro ⟨h, _⟩; exact List.length_eq_zero_iff.1 h
  | L :: Ls, F => by
    unfold tup
    rw [List.mem_flatMap]
    constructor
    · rintro ⟨w, hw, h⟩
      obtain ⟨G, hG, rfl⟩ := List.mem_map.1 h
      obtain ⟨h1, h2⟩ := mem_tup.1 hG
      refine ⟨by simp [h1], fun k h h' => ?_⟩
      match k with
      | 0 => exact hw
      | k + 1 => exact h2 k (by simpa using h) (by simpa using h')
    · rintro ⟨h1, h2⟩
      match F, h1, h2 with
      | w :: G, h1, h2 =>
        refine ⟨w, h2 0 (by simp) (by simp), List.mem_map.2 ⟨G, mem_tup.2 ⟨by simpa using h1, fun k h h' => ?_⟩, rfl⟩⟩
        exact h2 (k + 1) (by simpa using h) (by simpa using h')
theorem nodup_flat {α β : Type} {g : α → List β} {l : List α} (h : ∀ a ∈ l, (g a).Nodup) (hp : l.Pairwise fun a b => ∀ x ∈ g a, x ∉ g b) : (l.flatMap g).Nodup := by
  unfold List.Nodup
  refine flat_pw h (hp.imp fun {a b} hab x hx y hy e => hab x hx (by rw [e]; exact hy))
theorem nodup_map {α β : Type} {g : α → β} {l : List α} (h : l.Nodup) (hi : ∀ a ∈ l, ∀ b ∈ l, g a = g b → a = b) : (l.map g).Nodup := by
  unfold List.Nodup at *
  rw [List.pairwise_map]
  exact List.Pairwise.imp_of_mem (fun {a b} ha hb hne e => hne (hi a ha b hb e)) h
theorem tup_nodup {α : Type} : ∀ {Ls : List (List α)}, (∀ L ∈ Ls, L.Nodup) → (tup Ls).Nodup
  | [], _ => by simp [tup]
  | L :: Ls, h => by
    unfold tup
    have ih := tup_nodup (Ls := Ls) (fun M hM => h M (by simp [hM]))
    refine nodup_flat (fun w _ => nodup_map ih (fun a _ b _ e => (List.cons.inj e).2)) ((h L (by simp)).imp fun {a b} hab x hx hy => ?_)
    obtain ⟨x', _, rfl⟩ := List.mem_map.1 hx
    obtain ⟨y', _, e⟩ := List.mem_map.1 hy
    exact hab (List.cons.inj e).1.symm
theorem sum_perm {l l' : List Int} (h : l.Perm l') : l.sum = l'.sum := by
  induction h with
  | nil => rfl
  | cons x _ ih => simp [ih]
  | swap x y l => simp; omega
  | trans _ _ ih1 ih2 => rw [ih1, ih2]
theorem sum_neg {α : Type} (f : α → Int) : ∀ l : List α, (l.map fun a => - f a).sum = - (l.map f).sum
  | [] => rfl
  | a :: l => by rw [List.map_cons, List.sum_cons, List.map_cons, List.sum_cons, sum_neg f l]; omega
/-- a sum over what can be paired with opposite signs is nothing. -/
theorem sum_inv {α : Type} {l : List α} {φ : α → α} {f : α → Int} (hn : l.Nodup) (hm : ∀ a ∈ l, φ a ∈ l) (hi : ∀ a ∈ l, φ (φ a) = a) (hf : ∀ a ∈ l, f (φ a) = - f a) : (l.map f).sum = 0 := by
  have h1 : (l.map φ).Nodup := nodup_map hn (fun a ha b hb e => by rw [← hi a ha, ← hi b hb, e])
  have h2 : (l.map φ).Perm l := (List.perm_ext_iff_of_nodup h1 hn).2 fun a => ⟨fun h => by
    obtain ⟨b, hb, rfl⟩ := List.mem_map.1 h
    exact hm b hb, fun h => List.mem_map.2 ⟨φ a, hm a h, hi a h⟩⟩
  have h3 := sum_perm (h2.map f)
  rw [List.map_map] at h3
  have h4 : l.map (f ∘ φ) = l.map fun a => - f a := List.map_congr_left fun a ha => hf a ha
  rw [h4, sum_neg] at h3
  omega
theorem sum_split {α : Type} (p : α → Bool) (f : α → Int) : ∀ l : List α, (l.map f).sum = ((l.filter p).map f).sum + ((l.filter fun a => !p a).map f).sum
  | [] => rfl
  | a :: l => by
    rw [List.map_cons, List.sum_cons, sum_split p f l]
    cases h : p a
    · rw [List.filter_cons_of_neg (by simp [h]), List.filter_cons_of_pos (by simp [h]), List.map_cons, List.sum_cons]; omega
    · rw [List.filter_cons_of_pos (by simp [h]), List.filter_cons_of_neg (by simp [h]), List.map_cons, List.sum_cons]; omega
theorem sum_all0 {α : Type} {f : α → Int} : ∀ {l : List α}, (∀ a ∈ l, f a = 0) → (l.map f).sum = 0
  | [], _ => rfl
  | a :: l, h => by rw [List.map_cons, List.sum_cons, h a (by simp), sum_all0 (fun b hb => h b (by simp [hb]))]; rfl
/-- the ways from a yard to some tips. -/
def cnd (c m : Int) (S T : List Int) (y : Int) : List (List Int) := T.flatMap fun t => wyL c m S y t
theorem mem_wyL {r c m : Int} (hs : Side r c m) {S : List Int} {y t : Int} (hy : 0 ≤ y ∧ y < m ∧ y ∉ S) {w : List Int} : w ∈ wyL c m S y t ↔ Wto (stL c m S) y t w := by
  have hm := side_m hs
  unfold wyL
  rw [if_neg (by simpa using hy.2.2)]
  exact mem_rtL (up_stL hs S) t 16 y w hy.1 hy.2.1 (by omega)
theorem mem_cnd {r c m : Int} (hs : Side r c m) {S T : List Int} {y : Int} (hy : 0 ≤ y ∧ y < m ∧ y ∉ S) {w : List Int} : w ∈ cnd c m S T y ↔ ∃ t ∈ T, Wto (stL c m S) y t w := by
  unfold cnd
  rw [List.mem_flatMap]
  exact ⟨fun ⟨t, ht, h⟩ => ⟨t, ht, (mem_wyL hs hy).1 h⟩, fun ⟨t, ht, h⟩ => ⟨t, ht, (mem_wyL hs hy).2 h⟩⟩
theorem wyL_nodup {r c m : Int} (hs : Side r c m) (S : List Int) (y t : Int) : (wyL c m S y t).Nodup := by
  unfold wyL
  split
  · simp
  · exact (rtL_pw (asc_stL hs S) t 16 y).imp (fun {a b} h e => by subst e; rw [lsB_irr] at h; cases h)
theorem cnd_nodup {r c m : Int} (hs : Side r c m) {S T : List Int} {y : Int} (hy : 0 ≤ y ∧ y < m ∧ y ∉ S) (hT : T.Nodup) : (cnd c m S T y).Nodup := by
  unfold cnd
  refine nodup_flat (fun t _ => wyL_nodup hs S y t) (hT.imp fun {a b} hab x hx hx2 => ?_)
  have h1 := ((mem_wyL hs hy).1 hx).2.2
  have h2 := ((mem_wyL hs hy).1 hx2).2.2
  rw [h1] at h2
  exact hab (Option.some.inj h2)
theorem mem_fy {r c m : Int} (hs : Side r c m) {S T : List Int} {y : Int} (hy : 0 ≤ y ∧ y < m ∧ y ∉ S) {w : List Int} : w ∈ fyL (stL c m S) T y ↔ w ∈ cnd c m S T y := by
  have hm := side_m hs
  rw [mem_cnd hs hy]
  unfold fyL
  rw [mem_fyF]
  constructor
  · rintro (⟨t, ht, h⟩ | h)
    · exact ⟨t, ht, (mem_rtL (up_stL hs S) t 16 y w hy.1 hy.2.1 (by omega)).1 h⟩
    · cases h
  · rintro ⟨t, ht, h⟩
    exact .inl ⟨t, ht, (mem_rtL (up_stL hs S) t 16 y w hy.1 hy.2.1 (by omega)).2 h⟩
theorem lth_app {F : List (List Int)} {w : List Int} (k : Nat) (h : k < F.length) : lth (F ++ [w]) k = lth F k := by rw [lth_eq, lth_eq, List.getElem?_append_left h]
/-- which families the reference finds. -/
theorem mem_rfam2 (st : Int → List Int) (Y T : List Int) : ∀ (n : Nat) (F G : List (List Int)), G ∈ rfamF st Y T n F ↔ G.length = F.length + n ∧ G.take F.length = F ∧ ∀ j, F.length ≤ j → j < G.length → lth G j ∈ fyL st T (nth Y j) ∧ apB (G.take j) (lth G j) = true
  | 0, F, G => by
    unfold rfamF
    rw [List.mem_singleton]
    constructor
    · rintro rfl; exact ⟨rfl, List.take_length, fun j h1 h2 => by omega⟩
    · rintro ⟨h1, h2, _⟩
      rw [← h2, List.take_of_length_le (by omega)]
  | n + 1, F, G => by
    unfold rfamF
    rw [List.mem_flatMap]
    constructor
    · rintro ⟨w, hw, h⟩
      obtain ⟨hw1, hw2⟩ := List.mem_filter.1 hw
      obtain ⟨h1, h2, h3⟩ := (mem_rfam2 st Y T n _ _).1 h
      rw [List.length_append, List.length_singleton] at h1 h2 h3
      have hF : G.take F.length = F := by
        have := congrArg (List.take F.length) h2
        rw [List.take_take, Nat.min_eq_left (by omega)] at this
        rw [this]; simp
      have hwj : lth G F.length = w := by
        have : (G.take (F.length + 1))[F.length]? = (F ++ [w])[F.length]? := by rw [h2]
        rw [List.getElem?_take_of_lt (by omega)] at this
        rw [lth_eq, this]; simp
      refine ⟨by omega, hF, fun j hj1 hj2 => ?_⟩
      rcases Nat.lt_or_eq_of_le hj1 with q | rfl
      · exact h3 j (by omega) hj2
      · rw [hwj, hF]; exact ⟨hw1, hw2⟩
    · rintro ⟨h1, h2, h3⟩
      have h0 := h3 F.length (Nat.le_refl _) (by omega)
      rw [h2] at h0
      refine ⟨lth G F.length, List.mem_filter.2 h0, (mem_rfam2 st Y T n _ _).2 ⟨by simp; omega, ?_, fun j hj1 hj2 => h3 j (by simp at hj1; omega) hj2⟩⟩
      rw [List.length_append, List.length_singleton, List.take_succ_eq_append_getElem (by omega), h2]
      congr 2
      rw [lth_eq, List.getElem?_eq_getElem (by omega)]; rfl
theorem fmE_none {F : List (List Int)} : fmE F = none ↔ ∀ j, j < F.length → apB (F.take j) (lth F j) = true := by
  constructor
  · intro h j hj
    rw [apB_take]
    intro k hk
    rw [List.length_take] at hk
    have e : lth (F.take j) k = lth F k := by rw [lth_eq, lth_eq, List.getElem?_take_of_lt (by omega)]
    rw [e, Bool.eq_false_iff]
    intro q
    have := fmE_on (F := F) hj (show k < j by omega) (by
      obtain ⟨x, h1, h2⟩ := metW_iff.1 q
      exact metW_iff.2 ⟨x, h2, h1⟩)
    rw [h] at this; cases this
  · intro h
    refine fmE_off fun i hi k hk => ?_
    have := apB_take.1 (h i hi) k (by rw [List.length_take]; omega)
    have e : lth (F.take i) k = lth F k := by rw [lth_eq, lth_eq, List.getElem?_take_of_lt hk]
    rw [e] at this
    rw [Bool.eq_false_iff] at this ⊢
    intro q
    obtain ⟨x, h1, h2⟩ := metW_iff.1 q
    exact this (metW_iff.2 ⟨x, h2, h1⟩)
/-- the order of a family by its ends. -/
def ordF (T : List Int) (F : List (List Int)) : List Int := F.map fun w => idxE T (lst w)
theorem lth_get {F : List (List Int)} {k : Nat} (h : k < F.length) : lth F k = F[k] := by rw [lth_eq, List.getElem?_eq_getElem h]; rfl
theorem nth_get {l : List Int} {k : Nat} (h : k < l.length) : nth l k = l[k] := by rw [nth_eq, List.getElem?_eq_getElem h]; rfl
theorem nth_ordF {T : List Int} {F : List (List Int)} {k : Nat} (h : k < F.length) : nth (ordF T F) k = idxE T (lst (lth F k)) := by
  rw [nth_get (by unfold ordF; rw [List.length_map]; exact h), lth_get h]
  unfold ordF
  rw [List.getElem_map]
/-- the candidates of all carts. -/
def cnds (c m : Int) (S Y T : List Int) : List (List (List Int)) := Y.map fun y => cnd c m S T y
theorem idx_mem' {T : List Int} {t : Int} (hT : T.Nodup) (ht : t ∈ T) : 0 ≤ idxE T t ∧ idxE T t < T.length ∧ nth T (idxE T t).toNat = t := by
  obtain ⟨i, hi, rfl⟩ := List.getElem_of_mem ht
  rw [idxF_nd hT _ i hi rfl]
  exact ⟨by omega, by omega, by rw [Int.toNat_natCast, nth_get hi]⟩
theorem mem_cnds {r c : Int} {S Y T : List Int} (hg : ChkG r c S Y T) {F : List (List Int)} : F ∈ tup (cnds c (r * c) S Y T) ↔ F.length = Y.length ∧ ∀ k, k < Y.length → ∃ t ∈ T, Wto (stL c (r * c) S) (nth Y k) t (lth F k) := by
  have hl : (cnds c (r * c) S Y T).length = Y.length := by unfold cnds; rw [List.length_map]
  have he : ∀ k (h : k < (cnds c (r * c) S Y T).length) (h' : k < Y.length), (cnds c (r * c) S Y T)[k] = cnd c (r * c) S T Y[k] := fun k h h' => List.getElem_map _
  rw [mem_tup]
  constructor
  · rintro ⟨h1, h2⟩
    rw [hl] at h1
    refine ⟨h1, fun k hk => ?_⟩
    have := h2 k (by omega) (by omega)
    rw [he k (by omega) hk] at this
    have hy := hg.y _ (List.getElem_mem hk)
    rw [nth_get hk, lth_get (by omega)]
    exact (mem_cnd hg.side hy).1 this
  · rintro ⟨h1, h2⟩
    refine ⟨by rw [hl]; exact h1, fun k hk hk' => ?_⟩
    have hk2 : k < Y.length := by omega
    rw [he k hk' hk2]
    have hy := hg.y _ (List.getElem_mem hk2)
    have := h2 k hk2
    rw [nth_get hk2, lth_get hk] at this
    exact (mem_cnd hg.side hy).2 this
/-- a tuple of ways with different ends is a family. -/
theorem tup_gd {r c : Int} {S Y T : List Int} (hg : ChkG r c S Y T) {F : List (List Int)} : F ∈ tup (cnds c (r * c) S Y T) ∧ (ordF T F).Nodup ↔ GdF c (r * c) S Y T F (ordF T F) := by
  rw [mem_cnds hg]
  constructor
  · rintro ⟨⟨h1, h2⟩, h3⟩
    refine ⟨h1, by unfold ordF; rw [List.length_map]; exact h1, h3, fun k hk => ?_, fun k hk => ?_⟩
    · obtain ⟨t, ht, hw⟩ := h2 k hk
      rw [nth_ordF (by omega), lst_last hw.2.2]
      have := idx_mem' hg.td ht
      exact ⟨this.1, this.2.1⟩
    · obtain ⟨t, ht, hw⟩ := h2 k hk
      rw [nth_ordF (by omega), lst_last hw.2.2, (idx_mem' hg.td ht).2.2]
      exact hw
  · intro h
    refine ⟨⟨h.fl, fun k hk => ⟨_, ?_, h.w k hk⟩⟩, h.nd⟩
    have hb := h.ob k hk
    exact nth_mem (by omega)
/-- a family's order is that of its ends. -/
theorem gd_ord {r c : Int} {S Y T : List Int} (hg : ChkG r c S Y T) {F : List (List Int)} {o : List Int} (h : GdF c (r * c) S Y T F o) : o = ordF T F := by
  refine List.ext_getElem (by unfold ordF; rw [List.length_map, h.ol, h.fl]) fun k h1 h2 => ?_
  have hk : k < Y.length := by have := h.ol; omega
  have hw := h.w k hk
  have hb := h.ob k hk
  rw [← nth_get h1, ← nth_get h2, nth_ordF (by have := h.fl; omega), lst_last hw.2.2, nth_get (show (nth o k).toNat < T.length by omega), idxF_nd hg.td _ (nth o k).toNat (by omega) rfl]
  omega
/-- the pairing: rests exchanged at the first meeting. -/
def phiF (F : List (List Int)) : List (List Int) := match fmE F with
  | some (i, j, x) => swpL F i j (idxE (lth F i) x).toNat (idxE (lth F j) x).toNat
  | none => F
theorem phi_gd {r c : Int} {S Y T : List Int} (hg : ChkG r c S Y T) {F : List (List Int)} (h : GdF c (r * c) S Y T F (ordF T F)) (hm : (fmE F).isSome = true) :
    ∃ i j x, fmE F = some (i, j, x) ∧ i < j ∧ j < Y.length ∧ GdF c (r * c) S Y T (phiF F) (oxc (ordF T F) i j) ∧ (fmE (phiF F)).isSome = true ∧ phiF (phiF F) = F ∧
      (∀ k, k ≠ i → k ≠ j → lth (phiF F) k = lth F k) ∧ ∃ a b p q, lth F i = a ++ x :: b ∧ lth F j = p ++ x :: q ∧ lth (phiF F) i = a ++ x :: q ∧ lth (phiF F) j = p ++ x :: b := by
  obtain ⟨⟨i, j, x⟩, he⟩ := Option.isSome_iff_exists.1 hm
  obtain ⟨a, b, hf⟩ := fmE_spec he
  obtain ⟨p, q, hj, hpn⟩ := split_at hf.xj
  have hil : i < Y.length := by have := hf.hi; have := h.fl; omega
  have hjl : j < Y.length := by have := hf.hj; have := h.fl; omega
  have pw : ∀ k, k < Y.length → (lth F k).Pairwise (· < ·) := fun k hk => by
    have hw := h.w k hk
    have hy := hg.y _ (nth_mem hk)
    match e : lth F k with
    | [] => simp
    | z :: t =>
      rw [e] at hw
      have hz : z = nth Y k := by simpa using hw.2.1
      exact (Wy.asc (up_stL hg.side S) t z (by rw [hz]; exact hy.1) hw.1).2
  have notin : ∀ {u v : List Int}, (u ++ x :: v).Pairwise (· < ·) → x ∉ u := fun {u v} hp hx => by
    rw [List.pairwise_append] at hp
    have := hp.2.2 x hx x (by simp)
    omega
  have han : x ∉ a := notin (by rw [← hf.e]; exact pw i hil)
  have e1 : phiF F = xch F i j (a ++ x :: q) (p ++ x :: b) := by
    unfold phiF
    rw [he]
    exact swp_xch hf hj han hpn
  have hf2 := hf.xch hj (pw i hil)
  have hgd := h.xch hil hjl hf.ne hf.e hj
  have L := lth_xch (F := F) (a ++ x :: q) (p ++ x :: b) hf.hi hf.hj hf.ne
  have hj2 : lth (xch F i j (a ++ x :: q) (p ++ x :: b)) j = p ++ x :: b := by rw [L, if_pos rfl]
  have hi2 : lth (xch F i j (a ++ x :: q) (p ++ x :: b)) i = a ++ x :: q := by rw [L, if_neg (fun e => hf.ne e.symm), if_pos rfl]
  refine ⟨i, j, x, he, hf.lt, hjl, by rw [e1]; exact hgd, by rw [e1, hf2.some]; rfl, ?_, fun k k1 k2 => by rw [e1, L, if_neg k2, if_neg k1], a, b, p, q, hf.e, hj, by rw [e1]; exact hi2, by rw [e1]; exact hj2⟩
  rw [e1]
  have e2 : phiF (xch F i j (a ++ x :: q) (p ++ x :: b)) = xch (xch F i j (a ++ x :: q) (p ++ x :: b)) i j (a ++ x :: b) (p ++ x :: q) := by
    unfold phiF
    rw [hf2.some]
    exact swp_xch hf2 hj2 han hpn
  rw [e2, ← hf.e, ← hj]
  exact xch_back _ _ hf.hi hf.hj hf.ne
/-- the sign of an order, nothing where two numbers are the same. -/
def sg0 (o : List Int) : Int := if o.Nodup then sgnO o else 0
theorem cands_nodup {r c : Int} {S Y T : List Int} (hg : ChkG r c S Y T) : (tup (cnds c (r * c) S Y T)).Nodup := by
  refine tup_nodup fun L hL => ?_
  unfold cnds at hL
  obtain ⟨y, hy, rfl⟩ := List.mem_map.1 hL
  exact cnd_nodup hg.side (hg.y y hy) hg.td
/-- families that are apart have different ends. -/
theorem apart_nodup {r c : Int} {S Y T : List Int} (hg : ChkG r c S Y T) {F : List (List Int)} (h : F ∈ tup (cnds c (r * c) S Y T)) (ha : fmE F = none) : (ordF T F).Nodup := by
  obtain ⟨h1, h2⟩ := (mem_cnds hg).1 h
  rw [nd_nth]
  intro a b hab hbb e
  have hl : (ordF T F).length = F.length := by unfold ordF; rw [List.length_map]
  rw [hl] at hab hbb
  rw [nth_ordF hab, nth_ordF hbb] at e
  obtain ⟨t, ht, hw⟩ := h2 a (by omega)
  obtain ⟨t', ht', hw'⟩ := h2 b (by omega)
  rw [lst_last hw.2.2, lst_last hw'.2.2] at e
  have et : t = t' := by rw [← (idx_mem' hg.td ht).2.2, ← (idx_mem' hg.td ht').2.2, e]
  subst et
  refine Classical.byContradiction fun hne => ?_
  have m1 := List.mem_of_getLast? hw.2.2
  have m2 := List.mem_of_getLast? hw'.2.2
  rcases Nat.lt_or_gt_of_ne hne with q | q
  · have := fmE_on hbb q (metW_iff.2 ⟨t, m2, m1⟩)
    rw [ha] at this; cases this
  · have := fmE_on hab q (metW_iff.2 ⟨t, m1, m2⟩)
    rw [ha] at this; cases this
/-- what meets cancels. -/
theorem meet_zero {r c : Int} {S Y T : List Int} (hg : ChkG r c S Y T) : (((tup (cnds c (r * c) S Y T)).filter fun F => !(fmE F).isNone).map fun F => sg0 (ordF T F)).sum = 0 := by
  rw [sum_split (fun F => decide (ordF T F).Nodup)]
  have h2 : ((((tup (cnds c (r * c) S Y T)).filter fun F => !(fmE F).isNone).filter fun F => !decide (ordF T F).Nodup).map fun F => sg0 (ordF T F)).sum = 0 := sum_all0 fun F hF => by
    have := (List.mem_filter.1 hF).2
    unfold sg0
    rw [if_neg (by simpa using this)]
  rw [h2, Int.add_zero]
  refine sum_inv (φ := phiF) (((cands_nodup hg).filter _).filter _) (fun F hF => ?_) (fun F hF => ?_) (fun F hF => ?_)
  all_goals
    obtain ⟨h3, h4⟩ := List.mem_filter.1 hF
    obtain ⟨h5, h6⟩ := List.mem_filter.1 h3
    have h7 : (ordF T F).Nodup := by simpa using h4
    have h8 : (fmE F).isSome = true := by simpa [Option.isSome_iff_ne_none] using h6
    obtain ⟨i, j, x, he, hij, hj, hgd, hs, hb, _⟩ := phi_gd hg ((tup_gd hg).1 ⟨h5, h7⟩) h8
    have ho := gd_ord hg hgd
  · have hgd' := hgd
    rw [ho] at hgd'
    obtain ⟨g1, g2⟩ := (tup_gd hg).2 hgd'
    refine List.mem_filter.2 ⟨List.mem_filter.2 ⟨g1, ?_⟩, by simpa using g2⟩
    simpa [Option.isSome_iff_ne_none] using hs
  · exact hb
  · have g2 := hgd.nd
    rw [ho] at g2
    unfold sg0
    rw [if_pos g2, if_pos h7, ← ho]
    refine sgn_oxc h7 ?_ hij ?_
    · unfold ordF; rw [List.length_map, ((mem_cnds hg).1 h5).1]; exact hg.three
    · unfold ordF; rw [List.length_map, ((mem_cnds hg).1 h5).1]; exact hj
theorem sum_flat {α β : Type} (f : β → Int) (g : α → List β) : ∀ l : List α, ((l.flatMap g).map f).sum = (l.map fun a => ((g a).map f).sum).sum
  | [] => rfl
  | a :: l => by rw [List.flatMap_cons, List.map_append, List.sum_append, List.map_cons, List.sum_cons, sum_flat f g l]
theorem sum_const {α : Type} (b : Int) : ∀ l : List α, (l.map fun _ => b).sum = (l.length : Int) * b
  | [] => by simp
  | a :: l => by rw [List.map_cons, List.sum_cons, sum_const b l, List.length_cons]; grind
/-- a sum over ways by their ends. -/
theorem cnd_sum {r c : Int} {S Y T : List Int} (hg : ChkG r c S Y T) {y : Int} (hy : y ∈ Y) (h : Int → Int) : ((cnd c (r * c) S T y).map fun w => h (idxE T (lst w))).sum = (T.map fun t => (wayN c (r * c) S y t : Int) * h (idxE T t)).sum := by
  unfold cnd
  rw [sum_flat]
  congr 1
  refine List.map_congr_left fun t _ => ?_
  have hyy := hg.y y hy
  rw [wayN_len hg.side S y t ⟨hyy.1, hyy.2.1⟩, ← sum_const]
  congr 1
  refine List.map_congr_left fun w hw => ?_
  rw [lst_last ((mem_wyL hg.side hyy).1 hw).2.2]
theorem tup_one {α : Type} (A : List α) (f : List α → Int) : ((tup [A]).map f).sum = (A.map fun a => f [a]).sum := by
  unfold tup tup
  rw [sum_flat]
  congr 1
  refine List.map_congr_left fun a _ => ?_
  simp
theorem tup_cons {α : Type} (A : List α) (Ls : List (List α)) (f : List α → Int) : ((tup (A :: Ls)).map f).sum = (A.map fun a => ((tup Ls).map fun F => f (a :: F)).sum).sum := by
  conv => lhs; unfold tup
  rw [sum_flat]
  congr 1
  refine List.map_congr_left fun a _ => ?_
  rw [List.map_map]
  rfl
/-- all tuples with signs: the determinant. -/
theorem all_det {r c : Int} {S Y T : List Int} (hg : ChkG r c S Y T) : ((tup (cnds c (r * c) S Y T)).map fun F => sg0 (ordF T F)).sum = detF Y.length (tbF (fun y t => ((wayN c (r * c) S y t : Nat) : Int)) Y T) := by
  obtain ⟨g, hgg⟩ : ∃ g : Int → Int → Int, g = fun y t => ((wayN c (r * c) S y t : Nat) : Int) := ⟨_, rfl⟩
  have hcs : ∀ y ∈ Y, ∀ h : Int → Int, ((cnd c (r * c) S T y).map fun w => h (idxE T (lst w))).sum = (T.map fun t => g y t * h (idxE T t)).sum := fun y hy h => by rw [hgg]; exact cnd_sum hg hy h
  have hl := hg.len
  have h1 := hg.one
  have h3 := hg.three
  have htd := hg.td
  rw [← hgg]
  clear hg hgg
  have s1 : sg0 [0] = 1 := by decide
  have s2 : sg0 [0, 0] = 0 ∧ sg0 [0, 1] = 1 ∧ sg0 [1, 0] = -1 ∧ sg0 [1, 1] = 0 := by decide
  match Y, T, hl, h1, h3 with
  | [a], [x], _, _, _ =>
    show ((tup [cnd c (r * c) S [x] a]).map _).sum = detF 1 [[g a x]]
    rw [tup_one, det1]
    have h := hcs a (by simp) (fun i => sg0 [i])
    refine h.trans ?_
    have i0 : idxE [x] x = 0 := by simp [idxE, idxF]
    simp [i0, s1]
  | [a, b], [x, y], _, _, _ =>
    show ((tup [cnd c (r * c) S [x, y] a, cnd c (r * c) S [x, y] b]).map _).sum = detF 2 [[g a x, g a y], [g b x, g b y]]
    have hxy : ¬ x = y := by simpa using htd
    have i0 : idxE [x, y] x = 0 := by simp [idxE, idxF]
    have i1 : idxE [x, y] y = 1 := by simp [idxE, idxF, hxy]
    rw [tup_cons, det2]
    have e1 : ∀ w : List Int, ((tup [cnd c (r * c) S [x, y] b]).map fun F => sg0 (ordF [x, y] (w :: F))).sum = (fun i => g b x * sg0 [i, 0] + g b y * sg0 [i, 1]) (idxE [x, y] (lst w)) := fun w => by
      rw [tup_one]
      refine (hcs b (by simp) (fun k => sg0 [idxE [x, y] (lst w), k])).trans ?_
      simp [i0, i1]
    have e2 := hcs a (by simp) (fun i => g b x * sg0 [i, 0] + g b y * sg0 [i, 1])
    simp only [e1]
    refine e2.trans ?_
    simp only [List.map_cons, List.map_nil, List.sum_cons, List.sum_nil, i0, i1, s2]
    grind
  | [a, b, d], [x, y, z], _, _, _ =>
    show ((tup [cnd c (r * c) S [x, y, z] a, cnd c (r * c) S [x, y, z] b, cnd c (r * c) S [x, y, z] d]).map _).sum = detF 3 [[g a x, g a y, g a z], [g b x, g b y, g b z], [g d x, g d y, g d z]]
    obtain ⟨⟨hxy, hxz⟩, hyz⟩ : (¬ x = y ∧ ¬ x = z) ∧ ¬ y = z := by simpa using htd
    have i0 : idxE [x, y, z] x = 0 := by simp [idxE, idxF]
    have i1 : idxE [x, y, z] y = 1 := by simp [idxE, idxF, hxy]
    have i2 : idxE [x, y, z] z = 2 := by simp [idxE, idxF, hxz, hyz]
    rw [tup_cons, det3]
    have e1 : ∀ w v : List Int, ((tup [cnd c (r * c) S [x, y, z] d]).map fun F => sg0 (ordF [x, y, z] (w :: v :: F))).sum = (fun i j => g d x * sg0 [i, j, 0] + (g d y * sg0 [i, j, 1] + g d z * sg0 [i, j, 2])) (idxE [x, y, z] (lst w)) (idxE [x, y, z] (lst v)) := fun w v => by
      rw [tup_one]
      refine (hcs d (by simp) (fun k => sg0 [idxE [x, y, z] (lst w), idxE [x, y, z] (lst v), k])).trans ?_
      simp [i0, i1, i2]
    obtain ⟨G, hG⟩ : ∃ G : Int → Int → Int, G = fun i j => g d x * sg0 [i, j, 0] + (g d y * sg0 [i, j, 1] + g d z * sg0 [i, j, 2]) := ⟨_, rfl⟩
    have e1' : ∀ w v : List Int, ((tup [cnd c (r * c) S [x, y, z] d]).map fun F => sg0 (ordF [x, y, z] (w :: v :: F))).sum = G (idxE [x, y, z] (lst w)) (idxE [x, y, z] (lst v)) := fun w v => by rw [hG]; exact e1 w v
    have e2 : ∀ w : List Int, ((tup [cnd c (r * c) S [x, y, z] b, cnd c (r * c) S [x, y, z] d]).map fun F => sg0 (ordF [x, y, z] (w :: F))).sum = (fun i => g b x * G i 0 + (g b y * G i 1 + g b z * G i 2)) (idxE [x, y, z] (lst w)) := fun w => by
      rw [tup_cons]
      simp only [e1']
      refine (hcs b (by simp) (fun j => G (idxE [x, y, z] (lst w)) j)).trans ?_
      simp [i0, i1, i2]
    have e3 := hcs a (by simp) (fun i => g b x * G i 0 + (g b y * G i 1 + g b z * G i 2))
    simp only [e2]
    refine e3.trans ?_
    simp only [List.map_cons, List.map_nil, List.sum_cons, List.sum_nil, i0, i1, i2]
    rw [hG]
    have t1 : sg0 [0, 1, 2] = 1 ∧ sg0 [0, 2, 1] = -1 ∧ sg0 [1, 0, 2] = -1 ∧ sg0 [1, 2, 0] = 1 ∧ sg0 [2, 0, 1] = 1 ∧ sg0 [2, 1, 0] = -1 := by decide
    have t2 : sg0 [0, 0, 0] = 0 ∧ sg0 [0, 0, 1] = 0 ∧ sg0 [0, 0, 2] = 0 ∧ sg0 [0, 1, 0] = 0 ∧ sg0 [0, 1, 1] = 0 ∧ sg0 [0, 2, 0] = 0 ∧ sg0 [0, 2, 2] = 0 := by decide
    have t3 : sg0 [1, 0, 0] = 0 ∧ sg0 [1, 0, 1] = 0 ∧ sg0 [1, 1, 0] = 0 ∧ sg0 [1, 1, 1] = 0 ∧ sg0 [1, 1, 2] = 0 ∧ sg0 [1, 2, 1] = 0 ∧ sg0 [1, 2, 2] = 0 := by decide
    have t4 : sg0 [2, 0, 0] = 0 ∧ sg0 [2, 0, 2] = 0 ∧ sg0 [2, 1, 1] = 0 ∧ sg0 [2, 1, 2] = 0 ∧ sg0 [2, 2, 0] = 0 ∧ sg0 [2, 2, 1] = 0 ∧ sg0 [2, 2, 2] = 0 := by decide
    simp only [t1, t2, t3, t4, Int.mul_zero, Int.mul_one, Int.add_zero, Int.zero_add]
    clear e1 e1' e2 e3 hcs t1 t2 t3 t4
    generalize g a x = p1
    generalize g a y = p2
    generalize g a z = p3
    generalize g b x = q1
    generalize g b y = q2
    generalize g b z = q3
    generalize g d x = u1
    generalize g d y = u2
    generalize g d z = u3
    grind
/-- the families that are apart, as the code finds them, are these tuples. -/
theorem fam_perm_tup {r c : Int} {S Y T : List Int} (hc : chkP r c S Y T = 0) : (famL c (r * c) S Y T).Perm ((tup (cnds c (r * c) S Y T)).filter fun F => (fmE F).isNone) := by
  have hg := chk_all hc
  have hn1 : (famL c (r * c) S Y T).Nodup := (sendF_pw (asc_stL hg.side S) Y T Y.length []).imp (fun {a b} h e => by subst e; rw [lsB_irr] at h; cases h)
  refine (List.perm_ext_iff_of_nodup hn1 ((cands_nodup hg).filter _)).2 fun G => ?_
  rw [← fam_ref hc, mem_rfam2, List.mem_filter, mem_cnds hg]
  simp only [List.length_nil, Nat.zero_add, List.take_zero, Nat.zero_le, true_implies, true_and]
  constructor
  · rintro ⟨h1, h2⟩
    refine ⟨⟨h1, fun k hk => ?_⟩, ?_⟩
    · have hy := hg.y _ (nth_mem hk)
      exact (mem_cnd hg.side hy).1 ((mem_fy hg.side hy).1 (h2 k (by omega)).1)
    · have : fmE G = none := fmE_none.2 fun j hj => (h2 j hj).2
      rw [this]; rfl
  · rintro ⟨⟨h1, h2⟩, h3⟩
    have h4 : fmE G = none := by simpa using h3
    refine ⟨h1, fun j hj => ⟨?_, fmE_none.1 h4 j hj⟩⟩
    have hy := hg.y _ (nth_mem (show j < Y.length by omega))
    exact (mem_fy hg.side hy).2 ((mem_cnd hg.side hy).2 (h2 j (by omega)))
/-- THE STAGE'S THEOREM: the determinant is the sum of the signs of all families that are apart. -/
theorem lgv {r c : Int} {S Y T : List Int} (hc : chkP r c S Y T = 0) : ((famL c (r * c) S Y T).map fun G => sgnO (ordF T G)).sum = sgnV r c S Y T := by
  have hg := chk_all hc
  have h1 := all_det hg
  rw [sum_split (fun F => (fmE F).isNone), meet_zero hg, Int.add_zero] at h1
  have h2 : sgnV r c S Y T = detF Y.length (tbF (fun y t => ((wayN c (r * c) S y t : Nat) : Int)) Y T) := by
    unfold sgnV
    rw [if_pos hc, tab_tb hc]
  rw [h2, ← h1, sum_perm ((fam_perm_tup hc).map _)]
  congr 1
  refine List.map_congr_left fun F hF => ?_
  obtain ⟨h3, h4⟩ := List.mem_filter.1 hF
  have := apart_nodup hg h3 (by simpa using h4)
  unfold sg0
  rw [if_pos this]
theorem leave {r c m : Int} (hs : Side r c m) {S : List Int} {t : Int} (ht : t % c = c - 1) : ∀ (w : List Int) (k : Int), Wto (stL c m S) k t w → 0 ≤ k → ¬ k % c = c - 1 → ∃ (q : Int) (v : List Int), Wto (stL c m S) (q + 1) t v ∧ k ≤ q ∧ q % c = k % c ∧ ∀ x ∈ v, x ∈ w
  | [], k, h, _, _ => absurd h.1 (by simp [Wy])
  | [a], k, h, _, hk => by
    have h1 : a = k := by simpa using h.2.1
    have h2 : a = t := by simpa using h.2.2
    exact absurd (by rw [← h1, h2]; exact ht) hk
  | a :: y :: l, k, h, h0, hk => by
    obtain rfl : a = k := by simpa using h.2.1
    obtain ⟨h1, h2⟩ := h.1
    have hw : Wto (stL c m S) y t (y :: l) := ⟨h2, rfl, by rw [← h.2.2, List.getLast?_cons_cons]⟩
    obtain ⟨_, _, c1, c4, _⟩ := id hs
    rcases (mem_stL.1 h1).1 with ⟨rfl, _⟩ | rfl
    · exact ⟨a, _, hw, Int.le_refl _, rfl, fun x hx => List.mem_cons_of_mem _ hx⟩
    · have e : (a + c) % c = a % c := by simp
      obtain ⟨q, v, g1, g2, g3, g4⟩ := leave hs ht (_ :: l) _ hw (by omega) (by rw [e]; exact hk)
      exact ⟨q, v, g1, by omega, by rw [g3, e], fun x hx => List.mem_cons_of_mem _ (g4 x hx)⟩
/-- ways that do not meet do not cross. -/
theorem planar {r c m : Int} (hs : Side r c m) {S : List Int} {t t' : Int} (ht : t % c = c - 1) (ht' : t' % c = c - 1) : ∀ (w : List Int) (k k' : Int) (w' : List Int), Wto (stL c m S) k t w → Wto (stL c m S) k' t' w' → 0 ≤ k → k % c = k' % c → k < k' → (∀ x ∈ w, x ∉ w') → t < t'
  | [], k, k', w', h, _, _, _, _, _ => absurd h.1 (by simp [Wy])
  | [a], k, k', w', h, h', h0, he, hl, hd => by
    have h1 : a = k := by simpa using h.2.1
    have h2 : a = t := by simpa using h.2.2
    match w', h' with
    | [], h' => exact absurd h'.1 (by simp [Wy])
    | b :: l, h' =>
      have hb : b = k' := by simpa using h'.2.1
      have hasc := (Wy.asc (up_stL hs S) l b (by omega) h'.1).1
      have ht2 := List.mem_of_getLast? h'.2.2
      rcases List.mem_cons.1 ht2 with e | e
      · omega
      · have := hasc t' e; omega
  | a :: y :: l, k, k', w', h, h', h0, he, hl, hd => by
    obtain rfl : a = k := by simpa using h.2.1
    obtain ⟨h1, h2⟩ := h.1
    have hw : Wto (stL c m S) y t (y :: l) := ⟨h2, rfl, by rw [← h.2.2, List.getLast?_cons_cons]⟩
    obtain ⟨_, _, c1, c4, _⟩ := id hs
    rcases (mem_stL.1 h1).1 with ⟨rfl, hne⟩ | rfl
    · have hk : ¬ a % c = c - 1 := fun e => hne (by rcases (by omega : c = 1 ∨ c = 2 ∨ c = 3 ∨ c = 4) with rfl | rfl | rfl | rfl <;> omega)
      obtain ⟨q, v, g1, g2, g3, g4⟩ := leave hs ht' w' k' h' (by omega) (by rw [← he]; exact hk)
      refine planar hs ht ht' ((a + 1) :: l) (a + 1) (q + 1) v hw g1 (by omega) ?_ (by omega) (fun x hx hv => hd x (List.mem_cons_of_mem _ hx) (g4 x hv))
      rw [← he] at g3
      rcases (by omega : c = 1 ∨ c = 2 ∨ c = 3 ∨ c = 4) with rfl | rfl | rfl | rfl <;> omega
    · have hk' : k' ∈ w' := by
        match w', h' with
        | [], h' => exact absurd h'.1 (by simp [Wy])
        | b :: l, h' => have hb : b = k' := by simpa using h'.2.1
                        rw [hb]; simp
      have hne : ¬ a + c = k' := fun e => hd (a + c) (by simp) (e ▸ hk')
      have hlt : a + c < k' := by rcases (by omega : c = 1 ∨ c = 2 ∨ c = 3 ∨ c = 4) with rfl | rfl | rfl | rfl <;> omega
      refine planar hs ht ht' ((a + c) :: l) (a + c) k' w' hw h' (by omega) (by rw [← he]; simp) hlt (fun x hx hv => hd x (List.mem_cons_of_mem _ hx) hv)
theorem invK_zero {o : List Int} {i : Nat} : ∀ k, (∀ a, a < k → ¬ nth o i < nth o a) → invK o i k = 0
  | 0, _ => rfl
  | k + 1, h => by
    unfold invK
    rw [invK_zero k (fun a ha => h a (by omega)), if_neg (h k (by omega))]
theorem invN_zero {o : List Int} : ∀ n, (∀ a b, a < b → b < n → ¬ nth o b < nth o a) → invN o n = 0
  | 0, _ => rfl
  | n + 1, h => by
    unfold invN
    rw [invN_zero n (fun a b h1 h2 => h a b h1 (by omega)), invK_zero n (fun a ha => h a n ha (by omega))]
/-- yards in the first column, tips in the last one, both in order: no crossing. -/
theorem straight {r c : Int} {S Y T : List Int} (hc : chkP r c S Y T = 0) (hY : Y.Pairwise (· < ·)) (hT : T.Pairwise (· < ·)) (hY0 : ∀ y ∈ Y, y % c = 0) (hT0 : ∀ t ∈ T, t % c = c - 1) : sgnV r c S Y T = ((famL c (r * c) S Y T).length : Int) := by
  have hg := chk_all hc
  rw [← lgv hc]
  have e : (famL c (r * c) S Y T).map (fun G => sgnO (ordF T G)) = (famL c (r * c) S Y T).map fun _ => (1 : Int) := by
    refine List.map_congr_left fun G hG => ?_
    obtain ⟨h1, h2⟩ := List.mem_filter.1 ((fam_perm_tup hc).mem_iff.1 hG)
    have h3 : fmE G = none := by simpa using h2
    obtain ⟨h4, h5⟩ := (mem_cnds hg).1 h1
    have hl : (ordF T G).length = G.length := by unfold ordF; rw [List.length_map]
    unfold sgnO
    rw [invN_zero, if_pos rfl]
    intro a b hab hb
    rw [hl] at hb
    rw [nth_ordF hb, nth_ordF (by omega)]
    obtain ⟨t, ht, hw⟩ := h5 a (by omega)
    obtain ⟨t', ht', hw'⟩ := h5 b (by omega)
    rw [lst_last hw.2.2, lst_last hw'.2.2]
    have hdis : ∀ x ∈ lth G a, x ∉ lth G b := fun x hx hx' => by
      have := fmE_on hb hab (metW_iff.2 ⟨x, hx', hx⟩)
      rw [h3] at this; cases this
    have hya := hg.y _ (nth_mem (show a < Y.length by omega))
    have hyl : nth Y a < nth Y b := by
      rw [nth_get (show a < Y.length by omega), nth_get (show b < Y.length by omega)]
      exact List.pairwise_iff_getElem.1 hY a b (by omega) (by omega) hab
    have hlt := planar hg.side (hT0 t ht) (hT0 t' ht') _ _ _ _ hw hw' hya.1 (by rw [hY0 _ (nth_mem (by omega)), hY0 _ (nth_mem (by omega))]) hyl hdis
    have i1 := idx_mem' hg.td ht
    have i2 := idx_mem' hg.td ht'
    intro q
    have : nth T (idxE T t').toNat < nth T (idxE T t).toNat := by
      rw [nth_get (by omega), nth_get (by omega)]
      exact List.pairwise_iff_getElem.1 hT _ _ (by omega) (by omega) (by omega)
    rw [i1.2.2, i2.2.2] at this
    omega
  rw [e, sum_const, Int.mul_one]
end Go.Proofs.Ytflllkamdihfaaa
