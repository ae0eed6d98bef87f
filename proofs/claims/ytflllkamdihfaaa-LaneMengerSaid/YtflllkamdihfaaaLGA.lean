/- pure: what is drawn, the law's ways, more corners shut, what Check accepts, rows and columns exchanged, carts in another order -/
import Derived.Test.YtflllkamdihfaaaLBB
import Derived.Test.YtflllkamdihfaaaLCA
import Derived.Test.YtflllkamdihfaaaLEB
import Derived.Test.YtflllkamdihfaaaLBG
import Derived.Test.YtflllkamdihfaaaLMA
import Derived.Test.YtflllkamdihfaaaLMB
namespace Go.Proofs.Ytflllkamdihfaaa
open Go.RowKit Go.Sort
theorem nth_take_drop {L : List Int} {k : Nat} : ∀ x, x ∈ L.take k ++ L.drop (k + 1) → x ∈ L := fun x hx => by
  rcases List.mem_append.1 hx with h | h
  · exact List.mem_of_mem_take h
  · exact List.mem_of_mem_drop h
theorem drw_len (f : Nat → Nat) : ∀ (n i : Nat) (L : List Int), (drw f n i L).length = n
  | 0, _, _ => rfl
  | n + 1, i, L => by unfold drw; rw [List.length_cons, drw_len f n]
theorem drw_sub (f : Nat → Nat) : ∀ (n i : Nat) (L : List Int), n ≤ L.length → ∀ x ∈ drw f n i L, x ∈ L
  | 0, _, _, _, x, hx => by simp [drw] at hx
  | n + 1, i, L, hn, x, hx => by
    have hk : f i % L.length < L.length := Nat.mod_lt _ (by omega)
    unfold drw at hx
    rcases List.mem_cons.1 hx with rfl | hx
    · exact nth_mem hk
    · exact nth_take_drop _ (drw_sub f n _ _ (by simp; omega) x hx)
theorem drw_nodup (f : Nat → Nat) : ∀ (n i : Nat) (L : List Int), n ≤ L.length → L.Nodup → (drw f n i L).Nodup
  | 0, _, _, _, _ => by simp [drw]
  | n + 1, i, L, hn, hL => by
    have hk : f i % L.length < L.length := Nat.mod_lt _ (by omega)
    unfold drw
    generalize f i % L.length = k at *
    have e : L = L.take k ++ L[k] :: L.drop (k + 1) := by simp
    have hx : nth L k = L[k] := by rw [nth_eq, List.getElem?_eq_getElem hk]; rfl
    rw [hx]
    rw [e] at hL
    have hp : (L.take k ++ L[k] :: L.drop (k + 1)).Perm (L[k] :: (L.take k ++ L.drop (k + 1))) := List.perm_middle
    have hL2 := hp.nodup_iff.1 hL
    obtain ⟨h1, h2⟩ := List.nodup_cons.1 hL2
    exact List.nodup_cons.2 ⟨fun q => h1 (drw_sub f n _ _ (by simp; omega) _ q), drw_nodup f n _ _ (by simp; omega) h2⟩
/-- the ways from a corner to some others, as the law finds them. -/
def atL (st : Int → List Int) (T : List Int) : Nat → Int → List (List Int)
  | 0, _ => []
  | f + 1, k => (if T.contains k = true then [[k]] else []) ++ (st k).reverse.flatMap fun y => (atL st T f y).map (k :: ·)
theorem atL_fuel {m : Int} {st : Int → List Int} (hu : Up m st) (T : List Int) : ∀ (f f' : Nat) (k : Int), 0 ≤ k → k < m → m - k ≤ f → m - k ≤ f' → atL st T f k = atL st T f' k
  | 0, _, k, h0, h1, h2, _ => by omega
  | _ + 1, 0, k, h0, h1, _, h2 => by omega
  | f + 1, f' + 1, k, h0, h1, h2, h3 => by
    unfold atL
    congr 1
    have : ∀ l : List Int, (∀ y ∈ l, k < y ∧ y < m) → (l.flatMap fun y => (atL st T f y).map (k :: ·)) = l.flatMap fun y => (atL st T f' y).map (k :: ·) := fun l => by
      induction l with
      | nil => intro _; rfl
      | cons y l ih =>
        intro hl
        have := hl y (by simp)
        rw [List.flatMap_cons, List.flatMap_cons, ih (fun z hz => hl z (by simp [hz])), atL_fuel hu T f f' y (by omega) (by omega) (by omega) (by omega)]
    exact this _ (fun y hy => hu k h0 y (by simpa using hy))
theorem rtL_fuel {m : Int} {st : Int → List Int} (hu : Up m st) (tz : Int) : ∀ (f f' : Nat) (k : Int), 0 ≤ k → k < m → m - k ≤ f → m - k ≤ f' → rtL st tz f k = rtL st tz f' k
  | 0, _, k, h0, h1, h2, _ => by omega
  | _ + 1, 0, k, h0, h1, _, h2 => by omega
  | f + 1, f' + 1, k, h0, h1, h2, h3 => by
    unfold rtL
    congr 1
    have : ∀ l : List Int, (∀ y ∈ l, k < y ∧ y < m) → (l.flatMap fun y => (rtL st tz f y).map (k :: ·)) = l.flatMap fun y => (rtL st tz f' y).map (k :: ·) := fun l => by
      induction l with
      | nil => intro _; rfl
      | cons y l ih =>
        intro hl
        have := hl y (by simp)
        rw [List.flatMap_cons, List.flatMap_cons, ih (fun z hz => hl z (by simp [hz])), rtL_fuel hu tz f f' y (by omega) (by omega) (by omega) (by omega)]
    exact this _ (fun y hy => hu k h0 y hy)
theorem flat_perm {α β : Type} {g g' : α → List β} : ∀ {l : List α}, (∀ a ∈ l, (g a).Perm (g' a)) → (l.flatMap g).Perm (l.flatMap g')
  | [], _ => List.Perm.refl _
  | a :: l, h => by
    rw [List.flatMap_cons, List.flatMap_cons]
    exact (h a (by simp)).append (flat_perm (fun b hb => h b (by simp [hb])))
theorem perm_flat {α β : Type} {g g' : α → List β} {l l' : List α} (hp : l.Perm l') (h : ∀ a ∈ l, (g a).Perm (g' a)) : (l.flatMap g).Perm (l'.flatMap g') :=
  (flat_perm h).trans (hp.flatMap_right g')
/-- one target: the ways that the reference finds, in another order. -/
theorem atL_perm (st : Int → List Int) (tz : Int) : ∀ (f : Nat) (k : Int), (atL st [tz] f k).Perm (rtL st tz f k)
  | 0, _ => by simp [atL, rtL]
  | f + 1, k => by
    unfold atL rtL
    refine List.Perm.append ?_ (perm_flat (List.reverse_perm _) (fun y _ => (atL_perm st tz f y).map _))
    by_cases h : k = tz
    · subst h; simp
    · rw [if_neg (by simpa using h), if_neg h]
/-- how many ways begin with some corner. -/
def ndL (st : Int → List Int) : Nat → Int → Nat
  | 0, _ => 0
  | f + 1, k => 1 + ((st k).map (ndL st f)).sum
theorem ndL_fuel {m : Int} {st : Int → List Int} (hu : Up m st) : ∀ (f f' : Nat) (k : Int), 0 ≤ k → k < m → m - k ≤ f → m - k ≤ f' → ndL st f k = ndL st f' k
  | 0, _, k, h0, h1, h2, _ => by omega
  | _ + 1, 0, k, h0, h1, _, h2 => by omega
  | f + 1, f' + 1, k, h0, h1, h2, h3 => by
    unfold ndL
    congr 2
    refine List.map_congr_left fun y hy => ?_
    have := hu k h0 y hy
    exact ndL_fuel hu f f' y (by omega) (by omega) (by omega) (by omega)
theorem ndL_le (c m : Int) (S : List Int) : ∀ (f : Nat) (k : Int), ndL (stL c m S) f k + 1 ≤ 2 ^ f
  | 0, k => by simp [ndL]
  | f + 1, k => by
    unfold ndL
    have hp : 1 ≤ 2 ^ f := Nat.one_le_two_pow
    have h1 := sum_le (l := stL c m S k) (g := ndL (stL c m S) f) (b := 2 ^ f - 1) (fun x => by have := ndL_le c m S f x; omega)
    have h2 := stL_len c m S k
    have h3 := Nat.mul_le_mul_right (2 ^ f - 1) h2
    rw [Nat.pow_succ]
    omega
theorem atL_nd (st : Int → List Int) (T : List Int) : ∀ (f : Nat) (k : Int), (atL st T f k).length ≤ ndL st f k
  | 0, k => by simp [atL]
  | f + 1, k => by
    unfold atL ndL
    rw [List.length_append, List.length_flatMap]
    have h1 : (if T.contains k = true then [[k]] else []).length ≤ 1 := by split <;> simp
    have h2 : ((st k).reverse.map fun y => ((atL st T f y).map (k :: ·)).length).sum ≤ ((st k).map (ndL st f)).sum := by
      rw [List.map_reverse, List.sum_reverse]
      have : ∀ l : List Int, (l.map fun y => ((atL st T f y).map (k :: ·)).length).sum ≤ (l.map (ndL st f)).sum := fun l => by
        induction l with
        | nil => simp
        | cons a l ih =>
          rw [List.map_cons, List.sum_cons, List.map_cons, List.sum_cons, List.length_map]
          have := atL_nd st T f a
          omega
      exact this _
    omega
/-- the ways that begin with some corners. -/
def awL (st : Int → List Int) (T : List Int) (w : List Int) : List (List Int) := (atL st T 16 (lst w)).map (w.dropLast ++ ·)
/-- those that the stack leads to. -/
def stkL (st : Int → List Int) (T : List Int) (L : List (List Int)) : List (List Int) := L.reverse.flatMap (awL st T)
def stkN (st : Int → List Int) (L : List (List Int)) : Nat := (L.map fun w => ndL st 16 (lst w)).sum
theorem stk_le (st : Int → List Int) (T : List Int) (L : List (List Int)) : (stkL st T L).length ≤ stkN st L := by
  unfold stkL stkN
  rw [List.length_flatMap, List.map_reverse, List.sum_reverse]
  induction L with
  | nil => simp
  | cons w L ih =>
    rw [List.map_cons, List.sum_cons, List.map_cons, List.sum_cons]
    have : (awL st T w).length ≤ ndL st 16 (lst w) := by unfold awL; rw [List.length_map]; exact atL_nd st T 16 _
    omega
theorem lst_eq' {w : List Int} (h : w ≠ []) : w = w.dropLast ++ [lst w] := by
  have h1 := List.dropLast_concat_getLast h
  have h2 : lst w = w.getLast h := by
    unfold lst
    rw [nth_eq, List.getLast_eq_getElem, List.getElem?_eq_getElem (by have := List.length_pos_iff.2 h; omega)]; rfl
  rw [h2]; exact h1.symm
theorem awL_step {m : Int} {st : Int → List Int} (hu : Up m st) (hm : m ≤ 16) (T : List Int) (w : List Int) (hw : w ≠ []) (h0 : 0 ≤ lst w) (h1 : lst w < m) :
    awL st T w = (if T.contains (lst w) = true then [w] else []) ++ (st (lst w)).reverse.flatMap fun y => awL st T (w ++ [y]) := by
  obtain ⟨k, hk⟩ : ∃ k, k = lst w := ⟨_, rfl⟩
  have e := lst_eq' hw
  rw [← hk] at e h0 h1 ⊢
  unfold awL
  rw [← hk]
  have h16 : atL st T 16 k = atL st T (15 + 1) k := rfl
  rw [h16]
  unfold atL
  rw [List.map_append, List.map_flatMap]
  congr 1
  · split
    · rw [List.map_cons, List.map_nil, ← e]
    · rfl
  · have : ∀ l : List Int, (∀ y ∈ l, k < y ∧ y < m) → (l.flatMap fun y => List.map (w.dropLast ++ ·) ((atL st T 15 y).map (k :: ·))) = l.flatMap fun y => (atL st T 16 (lst (w ++ [y]))).map ((w ++ [y]).dropLast ++ ·) := fun l => by
      induction l with
      | nil => intro _; rfl
      | cons y l ih =>
        intro hl
        have hy := hl y (by simp)
        rw [List.flatMap_cons, List.flatMap_cons, ih (fun z hz => hl z (by simp [hz])), lst_app, List.dropLast_concat, List.map_map, atL_fuel hu T 15 16 y (by omega) (by omega) (by omega) (by omega)]
        congr 1
        refine List.map_congr_left fun z _ => ?_
        show w.dropLast ++ k :: z = w ++ z
        conv => rhs; rw [e]
        simp
    exact this _ (fun y hy => hu k h0 y (by simpa using hy))
theorem stk_nil (st : Int → List Int) (T : List Int) : stkL st T [] = [] := rfl
/-- one round of the search. -/
theorem stk_step {m : Int} {st : Int → List Int} (hu : Up m st) (hm : m ≤ 16) (T : List Int) (L : List (List Int)) (w : List Int) (hw : w ≠ []) (h0 : 0 ≤ lst w) (h1 : lst w < m) :
    stkL st T (L ++ [w]) = (if T.contains (lst w) = true then [w] else []) ++ stkL st T (L ++ (st (lst w)).map fun y => w ++ [y]) ∧
    stkN st (L ++ [w]) = 1 + stkN st (L ++ (st (lst w)).map fun y => w ++ [y]) := by
  constructor
  · unfold stkL
    rw [List.reverse_append, List.reverse_singleton, List.singleton_append, List.flatMap_cons, awL_step hu hm T w hw h0 h1, List.append_assoc]
    congr 1
    rw [List.reverse_append, List.flatMap_append]
    congr 1
    rw [← List.map_reverse, List.flatMap_map]
  · unfold stkN
    rw [List.map_append, List.sum_append, List.map_append, List.sum_append]
    have : ([w].map fun w => ndL st 16 (lst w)).sum = 1 + (((st (lst w)).map fun y => w ++ [y]).map fun w => ndL st 16 (lst w)).sum := by
      rw [List.map_cons, List.map_nil, List.sum_cons, List.sum_nil, Nat.add_zero]
      have h16 : ndL st 16 (lst w) = ndL st (15 + 1) (lst w) := rfl
      rw [h16]
      unfold ndL
      rw [List.map_map]
      congr 2
      refine List.map_congr_left fun y hy => ?_
      have := hu _ h0 y hy
      show _ = ndL st 16 (lst (w ++ [y]))
      rw [lst_app]
      exact ndL_fuel hu 15 16 y (by omega) (by omega) (by omega) (by omega)
    omega
/-- the law's ways. -/
def lwL (st : Int → List Int) (S T : List Int) (k : Int) : List (List Int) := if S.contains k = true then [] else stkL st T [[k]]
theorem lwL_perm {c m : Int} (S : List Int) (k tz : Int) : (lwL (stL c m S) S [tz] k).Perm (wyL c m S k tz) := by
  unfold lwL wyL stkL awL
  split
  · exact List.Perm.refl _
  · have h1 : lst [k] = k := rfl
    simp only [List.reverse_singleton, List.flatMap_cons, List.flatMap_nil, List.append_nil, h1, List.dropLast_singleton, List.nil_append, List.map_id']
    exact atL_perm _ _ _ _
theorem flat_sub {α β : Type} {g g' : α → List β} : ∀ {l l' : List α}, l.Sublist l' → (∀ a ∈ l, (g a).Sublist (g' a)) → (l.flatMap g).Sublist (l'.flatMap g') := by
  intro l l' h
  induction h with
  | slnil => intro _; exact List.Sublist.refl _
  | cons a _ ih => intro h; rw [List.flatMap_cons]; exact (ih h).trans (List.sublist_append_right _ _)
  | cons_cons a _ ih => intro h; rw [List.flatMap_cons, List.flatMap_cons]; exact (h a (by simp)).append (ih (fun b hb => h b (by simp [hb])))
/-- more corners shut. -/
theorem stL_sub {c m : Int} {S S' : List Int} (h : ∀ x ∈ S, x ∈ S') (k : Int) : (stL c m S' k).Sublist (stL c m S k) := by
  have h0 : ∀ y, atE m S' y = 0 → atE m S y = 0 := fun y hy => by
    rw [atE_zero] at hy ⊢
    exact ⟨hy.1, hy.2.1, fun q => hy.2.2 (h y q)⟩
  unfold stL
  refine List.Sublist.append ?_ ?_
  · by_cases q : ¬ (k + 1) % c = 0 ∧ atE m S' (k + 1) = 0
    · rw [if_pos q, if_pos ⟨q.1, h0 _ q.2⟩]; exact List.Sublist.refl _
    · rw [if_neg q]; exact List.nil_sublist _
  · by_cases q : atE m S' (k + c) = 0
    · rw [if_pos q, if_pos (h0 _ q)]; exact List.Sublist.refl _
    · rw [if_neg q]; exact List.nil_sublist _
theorem rtL_sub {st st' : Int → List Int} (h : ∀ k, (st' k).Sublist (st k)) (tz : Int) : ∀ (f : Nat) (k : Int), (rtL st' tz f k).Sublist (rtL st tz f k)
  | 0, _ => by unfold rtL; exact List.Sublist.refl _
  | f + 1, k => by
    unfold rtL
    exact (List.Sublist.refl _).append (flat_sub (h k) (fun y _ => (rtL_sub h tz f y).map _))
theorem gtL_sub {st st' : Int → List Int} (h : ∀ k, (st' k).Sublist (st k)) (T : List Int) : ∀ (f : Nat) (k : Int), (gtL st' T f k).Sublist (gtL st T f k)
  | 0, _ => by unfold gtL; exact List.Sublist.refl _
  | f + 1, k => by
    unfold gtL
    split
    · exact List.Sublist.refl _
    · exact flat_sub (h k) (fun y _ => (gtL_sub h T f y).map _)
theorem sendF_sub {st st' : Int → List Int} (h : ∀ k, (st' k).Sublist (st k)) (Y T : List Int) : ∀ (n : Nat) (F : List (List Int)), (sendF st' Y T n F).Sublist (sendF st Y T n F)
  | 0, _ => by unfold sendF; exact List.Sublist.refl _
  | n + 1, F => by
    rw [sendF_succ, sendF_succ]
    exact flat_sub ((gtL_sub h T 16 _).filter _) (fun w _ => sendF_sub h Y T n _)
/-- with more corners shut there are no more ways. -/
theorem wayN_sub {r c m : Int} (hs : Side r c m) {S S' : List Int} (h : ∀ x ∈ S, x ∈ S') (k tz : Int) (hk : 0 ≤ k ∧ k < m) : wayN c m S' k tz ≤ wayN c m S k tz := by
  rw [wayN_len hs S' k tz hk, wayN_len hs S k tz hk]
  unfold wyL
  by_cases q : S'.contains k = true
  · rw [if_pos q]; exact Nat.zero_le _
  · rw [if_neg q, if_neg (fun p => q (by simp at p ⊢; exact h k p))]
    exact (rtL_sub (stL_sub h) tz 16 k).length_le
/-- the ways go on to the right or down. -/
theorem way_sum {r c m : Int} (hs : Side r c m) (S : List Int) (k tz : Int) (hk : 0 ≤ k ∧ k < m) (hkS : k ∉ S) (hne : k ≠ tz) :
    wayN c m S k tz = (if (k + 1) % c = 0 ∨ m ≤ k + 1 then 0 else wayN c m S (k + 1) tz) + (if m ≤ k + c then 0 else wayN c m S (k + c) tz) := by
  have hu := up_stL hs S
  have hmm := side_m hs
  have hc := hs.2.2.1
  have key : ∀ y, 0 ≤ y → y < m → k < y → (rtL (stL c m S) tz 15 y).length = if atE m S y = 0 then wayN c m S y tz else (rtL (stL c m S) tz 15 y).length := fun y h0 h1 h2 => by
    split
    · rename_i h
      rw [wayN_len hs S y tz ⟨h0, h1⟩]
      unfold wyL
      rw [if_neg (by have := (atE_zero.1 h).2.2; simpa using this), rtL_fuel hu tz 15 16 y h0 h1 (by omega) (by omega)]
    · rfl
  have zero : ∀ y, 0 ≤ y → y < m → ¬ atE m S y = 0 → wayN c m S y tz = 0 := fun y h0 h1 h => by
    unfold wayN; rw [if_neg h]
  rw [wayN_len hs S k tz hk]
  unfold wyL
  rw [if_neg (by simpa using hkS)]
  have h16 : rtL (stL c m S) tz 16 k = rtL (stL c m S) tz (15 + 1) k := rfl
  rw [h16]
  unfold rtL
  rw [if_neg hne, List.nil_append]
  unfold stL
  rw [List.flatMap_append, List.length_append]
  congr 1
  · by_cases q : ¬ (k + 1) % c = 0 ∧ atE m S (k + 1) = 0
    · have q2 := atE_zero.1 q.2
      rw [if_pos q, if_neg (by omega)]
      simp only [List.flatMap_cons, List.flatMap_nil, List.append_nil, List.length_map]
      have := key (k + 1) (by omega) (by omega) (by omega)
      rw [if_pos q.2] at this
      exact this
    · rw [if_neg q]
      split
      · rfl
      · rename_i h
        rw [zero (k + 1) (by omega) (by omega) (fun e => q ⟨fun e2 => h (.inl e2), e⟩)]; rfl
  · by_cases q : atE m S (k + c) = 0
    · have q2 := atE_zero.1 q
      rw [if_pos q, if_neg (by omega)]
      simp only [List.flatMap_cons, List.flatMap_nil, List.append_nil, List.length_map]
      have := key (k + c) (by omega) (by omega) (by omega)
      rw [if_pos q] at this
      exact this
    · rw [if_neg q]
      split
      · rfl
      · rw [zero (k + c) (by omega) (by omega) q]; rfl
theorem ascF_ok {m : Int} {all : List Int} : ∀ (l : List Int) (k : Nat), all.drop k = l → (∀ x ∈ all, 0 ≤ x ∧ x < m) → all.Pairwise (· < ·) → ascF m all l k = 0
  | [], _, _, _, _ => rfl
  | x :: t, k, h, hb, hp => by
    have hk : k < all.length := by
      refine Classical.byContradiction fun q => ?_
      rw [List.drop_of_length_le (by omega)] at h; cases h
    have hx : all[k] = x := by
      have := List.drop_eq_getElem_cons hk
      rw [h] at this
      exact (List.cons.inj this).1.symm
    have ht : all.drop (k + 1) = t := by
      have := List.drop_eq_getElem_cons hk
      rw [h] at this
      exact (List.cons.inj this).2.symm
    have hxm := hb x (by rw [← hx]; exact List.getElem_mem _)
    unfold ascF
    rw [if_pos (by unfold inB; simp; omega)]
    by_cases q : 0 < k ∧ x ≤ nth all (k - 1)
    · exfalso
      have h1 : nth all (k - 1) = all[k - 1] := by rw [nth_eq, List.getElem?_eq_getElem (by omega)]; rfl
      have h2 := List.pairwise_iff_getElem.1 hp (k - 1) k (by omega) hk (by omega)
      rw [hx, ← h1] at h2
      omega
    · rw [if_neg q]; exact ascF_ok t (k + 1) ht hb hp
theorem difF_ok {m : Int} {S all : List Int} : ∀ (l : List Int) (k : Nat), all.drop k = l → (∀ x ∈ all, 0 ≤ x ∧ x < m ∧ x ∉ S) → all.Nodup → difF m S all l k = 0
  | [], _, _, _, _ => rfl
  | x :: t, k, h, hb, hp => by
    have hk : k < all.length := by
      refine Classical.byContradiction fun q => ?_
      rw [List.drop_of_length_le (by omega)] at h; cases h
    have hx : all[k] = x := by
      have := List.drop_eq_getElem_cons hk
      rw [h] at this
      exact (List.cons.inj this).1.symm
    have ht : all.drop (k + 1) = t := by
      have := List.drop_eq_getElem_cons hk
      rw [h] at this
      exact (List.cons.inj this).2.symm
    have hxm := hb x (by rw [← hx]; exact List.getElem_mem _)
    unfold difF
    rw [if_pos (atE_zero.2 hxm), if_neg ?_]
    · exact difF_ok t (k + 1) ht hb hp
    · intro q
      rw [List.contains_iff_mem] at q
      obtain ⟨j, hj, e⟩ := List.getElem_of_mem q
      rw [List.length_take] at hj
      rw [List.getElem_take] at e
      have h2 := List.pairwise_iff_getElem.1 hp j k (by omega) hk (by omega)
      exact h2 (e.trans hx.symm)
theorem chk_good {r c : Int} {S Y T : List Int} (h : ChkG r c S Y T) (h1 : ∀ x ∈ S, 0 ≤ x ∧ x < r * c) (h2 : S.Pairwise (· < ·)) : chkP r c S Y T = 0 := by
  obtain ⟨a1, a2, a3, a4, _⟩ := h.side
  have b1 := h.len
  have b2 := h.one
  have b3 := h.three
  unfold chkP
  rw [if_pos (by simpa using ⟨a1, a2⟩), if_pos (by simpa using ⟨a3, a4⟩)]
  have e1 : ascE (r * c) S = 0 := ascF_ok S 0 rfl h1 h2
  have e2 : difE (r * c) S Y = 0 := difF_ok Y 0 rfl h.y h.yd
  have e3 : difE (r * c) S T = 0 := difF_ok T 0 rfl h.t h.td
  rw [if_pos e1, if_pos b1, if_neg (by omega), if_neg (by omega), if_pos e2]
  exact e3
/-- rows and columns change places. -/
def tauI (r c m n : Int) : Int := if 0 ≤ n ∧ n < m then n % c * r + n / c else n
theorem tau_in {r c m : Int} (hs : Side r c m) {n : Int} (h : 0 ≤ n ∧ n < m) : 0 ≤ tauI r c m n ∧ tauI r c m n < m ∧ tauI r c m n % r = n / c ∧ tauI r c m n / r = n % c := by
  obtain ⟨h1, h2, h3, h4, rfl⟩ := hs
  unfold tauI
  rw [if_pos h]
  rcases (by omega : r = 1 ∨ r = 2 ∨ r = 3 ∨ r = 4) with rfl | rfl | rfl | rfl <;> rcases (by omega : c = 1 ∨ c = 2 ∨ c = 3 ∨ c = 4) with rfl | rfl | rfl | rfl <;> omega
theorem tau_out {r c m n : Int} (h : ¬ (0 ≤ n ∧ n < m)) : tauI r c m n = n := by unfold tauI; rw [if_neg h]
theorem tau_inj {r c m : Int} (hs : Side r c m) {a b : Int} (h : tauI r c m a = tauI r c m b) : a = b := by
  by_cases ha : 0 ≤ a ∧ a < m
  · have h1 := tau_in hs ha
    by_cases hb : 0 ≤ b ∧ b < m
    · have h2 := tau_in hs hb
      rw [h] at h1
      have e1 := h1.2.2.1.symm.trans h2.2.2.1
      have e2 := h1.2.2.2.symm.trans h2.2.2.2
      have := Int.mul_ediv_add_emod a c
      have := Int.mul_ediv_add_emod b c
      rw [e1, e2] at *
      omega
    · rw [h, tau_out hb] at h1; omega
  · rw [tau_out ha] at h
    by_cases hb : 0 ≤ b ∧ b < m
    · have h2 := tau_in hs hb; rw [← h] at h2; omega
    · rw [tau_out hb] at h; exact h
theorem tau_one {r c m : Int} (hs : Side r c m) {k : Int} (hk : 0 ≤ k ∧ k < m) : (¬ (k + 1) % c = 0 → k + 1 < m ∧ tauI r c m (k + 1) = tauI r c m k + r) ∧ ((k + 1) % c = 0 → m ≤ tauI r c m k + r) ∧
    (k + c < m → tauI r c m (k + c) = tauI r c m k + 1 ∧ ¬ (tauI r c m k + 1) % r = 0) ∧ (m ≤ k + c → (tauI r c m k + 1) % r = 0) := by
  refine ⟨?_, ?_, ?_, fun h => ?_⟩
  rotate_right
  · have hi := (tau_in hs hk).2.2.1
    generalize tauI r c m k = z at *
    obtain ⟨h1, h2, h3, h4, rfl⟩ := hs
    rcases (by omega : r = 1 ∨ r = 2 ∨ r = 3 ∨ r = 4) with rfl | rfl | rfl | rfl <;> rcases (by omega : c = 1 ∨ c = 2 ∨ c = 3 ∨ c = 4) with rfl | rfl | rfl | rfl <;> omega
  all_goals
  obtain ⟨h1, h2, h3, h4, rfl⟩ := hs
  unfold tauI
  rcases (by omega : r = 1 ∨ r = 2 ∨ r = 3 ∨ r = 4) with rfl | rfl | rfl | rfl <;> rcases (by omega : c = 1 ∨ c = 2 ∨ c = 3 ∨ c = 4) with rfl | rfl | rfl | rfl <;> ((intro h; try refine ⟨?_, ?_⟩) <;> (try split) <;> (try split) <;> omega)
/-- steps there are the steps here. -/
theorem tau_step {r c m : Int} (hs : Side r c m) (S S' : List Int) (hS : ∀ x, 0 ≤ x → x < m → (tauI r c m x ∈ S' ↔ x ∈ S)) (k : Int) (hk : 0 ≤ k ∧ k < m) :
    (stL r m S' (tauI r c m k)).Perm ((stL c m S k).map (tauI r c m)) := by
  obtain ⟨t1, t2, t3, t4⟩ := tau_one hs hk
  obtain ⟨i1, i2, _, _⟩ := tau_in hs hk
  have hc1 := hs.2.2.1
  have hr1 := hs.1
  unfold stL
  rw [List.map_append]
  refine List.perm_append_comm.trans (List.Perm.append ?_ ?_)
  · by_cases q : (k + 1) % c = 0
    · have h1 := t2 q
      have hA : ¬ atE m S' (tauI r c m k + r) = 0 := fun e => by have := atE_zero.1 e; omega
      have hB : ¬ (¬ (k + 1) % c = 0 ∧ atE m S (k + 1) = 0) := fun e => e.1 q
      rw [if_neg hA, if_neg hB]; exact List.Perm.refl _
    · obtain ⟨h1, h2⟩ := t1 q
      have hin := tau_in hs (n := k + 1) (by omega)
      rw [← h2]
      by_cases q2 : atE m S (k + 1) = 0
      · have q3 := atE_zero.1 q2
        have hA : atE m S' (tauI r c m (k + 1)) = 0 := atE_zero.2 ⟨hin.1, hin.2.1, fun e => q3.2.2 ((hS _ q3.1 q3.2.1).1 e)⟩
        have hB : ¬ (k + 1) % c = 0 ∧ atE m S (k + 1) = 0 := ⟨q, q2⟩
        rw [if_pos hA, if_pos hB]; exact List.Perm.refl _
      · have hA : ¬ atE m S' (tauI r c m (k + 1)) = 0 := fun e => q2 (atE_zero.2 ⟨by omega, h1, fun e2 => (atE_zero.1 e).2.2 ((hS _ (by omega) h1).2 e2)⟩)
        have hB : ¬ (¬ (k + 1) % c = 0 ∧ atE m S (k + 1) = 0) := fun e => q2 e.2
        rw [if_neg hA, if_neg hB]; exact List.Perm.refl _
  · by_cases q : k + c < m
    · obtain ⟨h1, h2⟩ := t3 q
      have hin := tau_in hs (n := k + c) (by omega)
      rw [← h1] at h2 ⊢
      by_cases q2 : atE m S (k + c) = 0
      · have q3 := atE_zero.1 q2
        have hA : ¬ tauI r c m (k + c) % r = 0 ∧ atE m S' (tauI r c m (k + c)) = 0 := ⟨h2, atE_zero.2 ⟨hin.1, hin.2.1, fun e => q3.2.2 ((hS _ q3.1 q3.2.1).1 e)⟩⟩
        rw [if_pos q2, if_pos hA]; exact List.Perm.refl _
      · have hA : ¬ (¬ tauI r c m (k + c) % r = 0 ∧ atE m S' (tauI r c m (k + c)) = 0) := fun e => q2 (atE_zero.2 ⟨by omega, q, fun e2 => (atE_zero.1 e.2).2.2 ((hS _ (by omega) q).2 e2)⟩)
        rw [if_neg q2, if_neg hA]; exact List.Perm.refl _
    · have h1 := t4 (by omega)
      have hA : ¬ (¬ (tauI r c m k + 1) % r = 0 ∧ atE m S' (tauI r c m k + 1) = 0) := fun e => e.1 h1
      have hB : ¬ atE m S (k + c) = 0 := fun e => by have := atE_zero.1 e; omega
      rw [if_neg hA, if_neg hB]; exact List.Perm.refl _
section
variable {m : Int} {st st' : Int → List Int} {τ : Int → Int}
theorem contains_tau (inj : ∀ a b, τ a = τ b → a = b) (T : List Int) (k : Int) : (T.map τ).contains (τ k) = T.contains k := by
  rw [Bool.eq_iff_iff, List.contains_iff_mem, List.contains_iff_mem, List.mem_map]
  exact ⟨fun ⟨x, h, e⟩ => inj _ _ e ▸ h, fun h => ⟨k, h, rfl⟩⟩
theorem gtL_tau (hu : Up m st) (inj : ∀ a b, τ a = τ b → a = b) (hst : ∀ k, 0 ≤ k → k < m → (st' (τ k)).Perm ((st k).map τ)) (T : List Int) : ∀ (f : Nat) (k : Int), 0 ≤ k → k < m → (gtL st' (T.map τ) f (τ k)).Perm ((gtL st T f k).map (List.map τ))
  | 0, k, _, _ => by simp [gtL]
  | f + 1, k, h0, h1 => by
    unfold gtL
    rw [contains_tau inj T k]
    split
    · simp
    · refine (perm_flat (hst k h0 h1) (fun y _ => List.Perm.refl _)).trans ?_
      rw [List.flatMap_map, List.map_flatMap]
      refine flat_perm fun y hy => ?_
      have := hu k h0 y hy
      refine ((gtL_tau hu inj hst T f y (by omega) (by omega)).map (τ k :: ·)).trans ?_
      rw [List.map_map, List.map_map]
      exact List.Perm.refl _
theorem rtL_tau (hu : Up m st) (inj : ∀ a b, τ a = τ b → a = b) (hst : ∀ k, 0 ≤ k → k < m → (st' (τ k)).Perm ((st k).map τ)) (tz : Int) : ∀ (f : Nat) (k : Int), 0 ≤ k → k < m → (rtL st' (τ tz) f (τ k)).Perm ((rtL st tz f k).map (List.map τ))
  | 0, k, _, _ => by simp [rtL]
  | f + 1, k, h0, h1 => by
    unfold rtL
    rw [List.map_append]
    refine List.Perm.append ?_ ?_
    · by_cases q : k = tz
      · rw [if_pos q, if_pos (by rw [q])]; exact List.Perm.refl _
      · rw [if_neg q, if_neg (fun e => q (inj _ _ e))]; exact List.Perm.refl _
    · refine (perm_flat (hst k h0 h1) (fun y _ => List.Perm.refl _)).trans ?_
      rw [List.flatMap_map, List.map_flatMap]
      refine flat_perm fun y hy => ?_
      have := hu k h0 y hy
      refine ((rtL_tau hu inj hst tz f y (by omega) (by omega)).map (τ k :: ·)).trans ?_
      rw [List.map_map, List.map_map]
      exact List.Perm.refl _
theorem onL_tau (inj : ∀ a b, τ a = τ b → a = b) (F : List (List Int)) (x : Int) : onL (F.map (List.map τ)) (τ x) = onL F x := by
  unfold onL
  rw [List.any_map]
  congr 1
  funext l
  exact contains_tau inj l x
theorem apB_tau (inj : ∀ a b, τ a = τ b → a = b) (F : List (List Int)) (w : List Int) : apB (F.map (List.map τ)) (w.map τ) = apB F w := by
  unfold apB
  rw [List.all_map]
  congr 1
  funext x
  show (!onL (F.map (List.map τ)) (τ x)) = _
  rw [onL_tau inj]
theorem sendF_tau (hu : Up m st) (inj : ∀ a b, τ a = τ b → a = b) (hst : ∀ k, 0 ≤ k → k < m → (st' (τ k)).Perm ((st k).map τ)) (Y T : List Int) (hY : ∀ y ∈ Y, 0 ≤ y ∧ y < m) : ∀ (n : Nat) (F : List (List Int)), F.length + n ≤ Y.length →
    (sendF st' (Y.map τ) (T.map τ) n (F.map (List.map τ))).Perm ((sendF st Y T n F).map (List.map (List.map τ)))
  | 0, F, _ => by simp [sendF]
  | n + 1, F, hn => by
    rw [sendF_succ, sendF_succ]
    have hy := hY _ (nth_mem (l := Y) (k := F.length) (by omega))
    have e : nth (Y.map τ) (F.map (List.map τ)).length = τ (nth Y F.length) := by
      rw [List.length_map, nth_eq, nth_eq, List.getElem?_map, List.getElem?_eq_getElem (show F.length < Y.length by omega)]; rfl
    rw [e]
    refine (((gtL_tau hu inj hst T 16 _ hy.1 hy.2).filter _).flatMap_right _).trans ?_
    rw [List.filter_map, List.flatMap_map, List.map_flatMap]
    have e2 : (apB (F.map (List.map τ)) ∘ List.map τ) = apB F := by funext w; exact apB_tau inj F w
    rw [e2]
    refine flat_perm fun w _ => ?_
    have := sendF_tau hu inj hst Y T hY n (F ++ [w]) (by rw [List.length_append, List.length_singleton]; omega)
    rw [List.map_append] at this
    exact this
end
/-- carts by a list of yards. -/
def snd (st : Int → List Int) (T : List Int) : List Int → List (List Int) → List (List (List Int))
  | [], F => [F]
  | y :: ys, F => ((gtL st T 16 y).filter (apB F)).flatMap fun w => snd st T ys (F ++ [w])
theorem snd_cons (st : Int → List Int) (T : List Int) (y : Int) (ys : List Int) (F : List (List Int)) : snd st T (y :: ys) F = ((gtL st T 16 y).filter (apB F)).flatMap fun w => snd st T ys (F ++ [w]) := rfl
theorem send_snd (st : Int → List Int) (Y T : List Int) : ∀ (n : Nat) (F : List (List Int)), F.length + n = Y.length → sendF st Y T n F = snd st T (Y.drop F.length) F
  | 0, F, h => by rw [List.drop_of_length_le (by omega)]; rfl
  | n + 1, F, h => by
    rw [sendF_succ, List.drop_eq_getElem_cons (show F.length < Y.length by omega)]
    unfold snd
    have e : nth Y F.length = Y[F.length] := by rw [nth_eq, List.getElem?_eq_getElem (show F.length < Y.length by omega)]; rfl
    rw [e]
    congr 1
    funext w
    rw [send_snd st Y T n (F ++ [w]) (by rw [List.length_append, List.length_singleton]; omega), List.length_append, List.length_singleton]
theorem onL_app (F G : List (List Int)) (x : Int) : onL (F ++ G) x = (onL F x || onL G x) := by unfold onL; rw [List.any_append]
theorem apB_app (F G : List (List Int)) (w : List Int) : apB (F ++ G) w = (apB F w && apB G w) := by
  unfold apB
  induction w with
  | nil => rfl
  | cons x w ih => rw [List.all_cons, List.all_cons, List.all_cons, ih, onL_app]; cases onL F x <;> cases onL G x <;> simp
theorem apB_sym (a b : List Int) : apB [a] b = apB [b] a := by
  unfold apB onL
  rw [Bool.eq_iff_iff, List.all_eq_true, List.all_eq_true]
  simp only [List.any_cons, List.any_nil, Bool.or_false]
  constructor <;> (intro h x hx; simp; intro hx2; have := h x hx2; simp at this; exact this hx)
theorem apB_congr {F G : List (List Int)} (h : ∀ x, onL F x = onL G x) (w : List Int) : apB F w = apB G w := by unfold apB; simp only [h]
theorem sum_filter {α : Type} (p : α → Bool) (g : α → Nat) : ∀ l : List α, ((l.filter p).map g).sum = (l.map fun a => if p a = true then g a else 0).sum
  | [] => rfl
  | a :: l => by
    rw [List.map_cons, List.sum_cons, ← sum_filter p g l]
    by_cases h : p a = true
    · rw [List.filter_cons_of_pos h, List.map_cons, List.sum_cons, if_pos h]
    · rw [List.filter_cons_of_neg h, if_neg h, Nat.zero_add]
theorem sum_zero {α : Type} : ∀ l : List α, (l.map fun _ => 0).sum = 0
  | [] => rfl
  | a :: l => by rw [List.map_cons, List.sum_cons, sum_zero l]
theorem sum_add {α : Type} (g h : α → Nat) : ∀ l : List α, (l.map fun a => g a + h a).sum = (l.map g).sum + (l.map h).sum
  | [] => rfl
  | a :: l => by rw [List.map_cons, List.sum_cons, List.map_cons, List.sum_cons, List.map_cons, List.sum_cons, sum_add g h l]; omega
theorem sum_swap {α β : Type} (g : α → β → Nat) (m : List β) : ∀ l : List α, (l.map fun a => (m.map fun b => g a b).sum).sum = (m.map fun b => (l.map fun a => g a b).sum).sum
  | [] => by simp [sum_zero]
  | a :: l => by
    rw [List.map_cons, List.sum_cons, sum_swap g m l, ← sum_add]
    rfl
theorem snd_congr (st : Int → List Int) (T : List Int) : ∀ (ys : List Int) (F G : List (List Int)), (∀ x, onL F x = onL G x) → (snd st T ys F).length = (snd st T ys G).length
  | [], _, _, _ => rfl
  | y :: ys, F, G, h => by
    unfold snd
    rw [List.length_flatMap, List.length_flatMap]
    have e : apB F = apB G := by funext w; exact apB_congr h w
    rw [e]
    congr 1
    refine List.map_congr_left fun w _ => ?_
    exact snd_congr st T ys _ _ (fun x => by rw [onL_app, onL_app, h])
theorem snd_two (st : Int → List Int) (T : List Int) (a b : Int) (ys : List Int) (F : List (List Int)) : (snd st T (a :: b :: ys) F).length = ((gtL st T 16 a).map fun w => ((gtL st T 16 b).map fun v => if (apB F w && (apB F v && apB [w] v)) = true then (snd st T ys (F ++ [w] ++ [v])).length else 0).sum).sum := by
  rw [snd_cons]
  rw [List.length_flatMap, sum_filter]
  congr 1
  refine List.map_congr_left fun w _ => ?_
  by_cases h : apB F w = true
  · rw [if_pos h]
    rw [snd_cons]
    rw [List.length_flatMap, sum_filter]
    congr 1
    refine List.map_congr_left fun v _ => ?_
    rw [h, apB_app, Bool.true_and]
  · rw [if_neg h]
    simp only [Bool.not_eq_true] at h
    simp only [h, Bool.false_and, Bool.false_eq_true, if_false]
    exact (sum_zero _).symm
theorem snd_swap (st : Int → List Int) (T : List Int) (a b : Int) (ys : List Int) (F : List (List Int)) : (snd st T (a :: b :: ys) F).length = (snd st T (b :: a :: ys) F).length := by
  rw [snd_two, snd_two, sum_swap]
  congr 1
  refine List.map_congr_left fun v _ => ?_
  congr 1
  refine List.map_congr_left fun w _ => ?_
  have e : (apB F w && (apB F v && apB [w] v)) = (apB F v && (apB F w && apB [v] w)) := by rw [apB_sym w v]; cases apB F w <;> cases apB F v <;> rfl
  rw [e]
  congr 1
  exact snd_congr st T ys _ _ (fun x => by simp only [onL_app]; cases onL F x <;> cases onL [w] x <;> cases onL [v] x <;> rfl)
/-- the count does not depend on the order of carts. -/
theorem snd_perm (st : Int → List Int) (T : List Int) {l l' : List Int} (h : l.Perm l') : ∀ F, (snd st T l F).length = (snd st T l' F).length := by
  induction h with
  | nil => intro F; rfl
  | cons y _ ih =>
    intro F
    unfold snd
    rw [List.length_flatMap, List.length_flatMap]
    congr 1
    exact List.map_congr_left fun w _ => ih _
  | swap a b l => intro F; exact snd_swap st T b a l F
  | trans _ _ ih1 ih2 => intro F; rw [ih1, ih2]
theorem fam_perm (c m : Int) (S T : List Int) {Y Y' : List Int} (h : Y.Perm Y') : (famL c m S Y T).length = (famL c m S Y' T).length := by
  unfold famL
  rw [send_snd _ _ _ _ _ (by simp), send_snd _ _ _ _ _ (by simp)]
  exact snd_perm _ T h []
theorem det1 (a : Int) : detF 1 [[a]] = a := by simp [detF, sgI, lth, nth, List.range_succ]
theorem det2 (a b c d : Int) : detF 2 [[a, b], [c, d]] = a * d - b * c := by
  simp [detF, woL, sgI, lth, nth, List.range_succ]
  grind
theorem det3 (a b c d e f g h i : Int) : detF 3 [[a, b, c], [d, e, f], [g, h, i]] = a * (e * i - f * h) - b * (d * i - f * g) + c * (d * h - e * g) := by
  simp [detF, woL, sgI, lth, nth, List.range_succ]
  grind
/-- a table by a function. -/
def tbF (g : Int → Int → Int) (Y T : List Int) : List (List Int) := Y.map fun y => T.map fun t => g y t
theorem det_rev (g : Int → Int → Int) (Y T : List Int) (hl : T.length = Y.length) (h1 : 1 ≤ Y.length) (h3 : Y.length ≤ 3) : detF Y.length (tbF g Y.reverse T) = if 1 < Y.length then - detF Y.length (tbF g Y T) else detF Y.length (tbF g Y T) := by
  match Y, T, hl, h1, h3 with
  | [a], [x], _, _, _ => rfl
  | [a, b], [x, y], _, _, _ =>
    show detF 2 [[g b x, g b y], [g a x, g a y]] = - detF 2 [[g a x, g a y], [g b x, g b y]]
    rw [det2, det2]
    grind
  | [a, b, d], [x, y, z], _, _, _ =>
    show detF 3 [[g d x, g d y, g d z], [g b x, g b y, g b z], [g a x, g a y, g a z]] = - detF 3 [[g a x, g a y, g a z], [g b x, g b y, g b z], [g d x, g d y, g d z]]
    rw [det3, det3]
    grind
theorem tab_tb {r c : Int} {S Y T : List Int} (h : chkP r c S Y T = 0) : tabL r c S Y T = tbF (fun y t => ((wayN c (r * c) S y t : Nat) : Int)) Y T := by
  unfold tabL tbF
  rw [if_pos h]
  refine List.ext_getElem (by simp) fun i h1 h2 => ?_
  simp only [List.getElem_map, List.getElem_range]
  unfold rowT
  rw [List.take_length]
  have e : nth Y i = Y[i]'(by simpa using h2) := by rw [nth_eq, List.getElem?_eq_getElem (by simpa using h2)]; rfl
  rw [e]
theorem sgn_rev {r c : Int} {S Y T : List Int} (h : chkP r c S Y T = 0) (h' : chkP r c S Y.reverse T = 0) : sgnV r c S Y.reverse T = if 1 < Y.length then - sgnV r c S Y T else sgnV r c S Y T := by
  have hg := chk_all h
  unfold sgnV
  rw [if_pos h, if_pos h', tab_tb h, tab_tb h', List.length_reverse]
  exact det_rev _ Y T hg.len hg.one hg.three
/-- ways there are the ways here. -/
theorem way_tau {r c m : Int} (hs : Side r c m) {S S' : List Int} (hS : ∀ x, 0 ≤ x → x < m → (tauI r c m x ∈ S' ↔ x ∈ S)) (y t : Int) (hy : 0 ≤ y ∧ y < m) : wayN r m S' (tauI r c m y) (tauI r c m t) = wayN c m S y t := by
  have hs' : Side c r m := by
    obtain ⟨h1, h2, h3, h4, h5⟩ := hs
    exact ⟨h3, h4, h1, h2, by rw [Int.mul_comm]; exact h5⟩
  have hi := tau_in hs hy
  rw [wayN_len hs' S' _ _ ⟨hi.1, hi.2.1⟩, wayN_len hs S y t hy]
  unfold wyL
  have e : S'.contains (tauI r c m y) = S.contains y := by
    rw [Bool.eq_iff_iff, List.contains_iff_mem, List.contains_iff_mem]
    exact hS y hy.1 hy.2
  rw [e]
  split
  · rfl
  · have := rtL_tau (st := stL c m S) (st' := stL r m S') (up_stL hs S) (fun a b h => tau_inj hs h) (fun k h0 h1 => tau_step hs S S' hS k ⟨h0, h1⟩) t 16 y hy.1 hy.2
    rw [this.length_eq, List.length_map]
/-- families there are as many as here. -/
theorem fam_tau {r c m : Int} (hs : Side r c m) {S S' : List Int} (hS : ∀ x, 0 ≤ x → x < m → (tauI r c m x ∈ S' ↔ x ∈ S)) (Y T : List Int) (hY : ∀ y ∈ Y, 0 ≤ y ∧ y < m) : (famL r m S' (Y.map (tauI r c m)) (T.map (tauI r c m))).length = (famL c m S Y T).length := by
  unfold famL
  have := sendF_tau (st := stL c m S) (st' := stL r m S') (up_stL hs S) (fun a b h => tau_inj hs h) (fun k h0 h1 => tau_step hs S S' hS k ⟨h0, h1⟩) Y T hY Y.length [] (by simp)
  rw [List.length_map]
  have h2 := this.length_eq
  rw [List.length_map] at h2
  exact h2
end Go.Proofs.Ytflllkamdihfaaa
