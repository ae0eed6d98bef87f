/- pure: families, ways to the first tip, ways to all tips; the reference's families are the code's, in order -/
import Derived.Test.YtflllkamdihfaaaLMC
import Derived.Test.YtflllkamdihfaaaLB
namespace Go.Proofs.Ytflllkamdihfaaa
open Go.RowKit Go.Sort
/-- the last corner of a way. -/
def lst (w : List Int) : Int := nth w (w.length - 1)
theorem lst_app (b : List Int) (x : Int) : lst (b ++ [x]) = x := by
  unfold lst; rw [nth_eq]; simp
/-- the families that a cart's going on leads to (the code). -/
def goF {α : Type} (k : List (List Int) → List α) (st : Int → List Int) (T : List Int) : Nat → List (List Int) → List Int → List α
  | 0, _, _ => []
  | f + 1, F, way => if onL F (lst way) = true then [] else if T.contains (lst way) = true then k (F ++ [way]) else (st (lst way)).flatMap fun y => goF k st T f F (way ++ [y])
/-- the families that begin with some ways (the code). -/
def sendF (st : Int → List Int) (Y T : List Int) : Nat → List (List Int) → List (List (List Int))
  | 0, F => [F]
  | n + 1, F => goF (sendF st Y T n) st T 16 F [nth Y F.length]
/-- the ways from a corner to the first tip that they meet. -/
def gtL (st : Int → List Int) (T : List Int) : Nat → Int → List (List Int)
  | 0, _ => []
  | f + 1, k => if T.contains k = true then [[k]] else (st k).flatMap fun y => (gtL st T f y).map (k :: ·)
/-- the ways from a corner to another one. -/
def rtL (st : Int → List Int) (tz : Int) : Nat → Int → List (List Int)
  | 0, _ => []
  | f + 1, k => (if k = tz then [[k]] else []) ++ (st k).flatMap fun y => (rtL st tz f y).map (k :: ·)
/-- a way goes by steps. -/
def Wy (st : Int → List Int) : List Int → Prop
  | [] => False
  | [_] => True
  | k :: y :: t => y ∈ st k ∧ Wy st (y :: t)
/-- steps go up, and not too far. -/
def Up (m : Int) (st : Int → List Int) : Prop := ∀ k, 0 ≤ k → ∀ x ∈ st k, k < x ∧ x < m
/-- steps in order. -/
def Asc (st : Int → List Int) : Prop := ∀ k, (st k).Pairwise (· < ·)
theorem Wy.asc {m : Int} {st : Int → List Int} (hu : Up m st) : ∀ (w : List Int) (k : Int), 0 ≤ k → Wy st (k :: w) → (∀ x ∈ w, k < x ∧ x < m) ∧ (k :: w).Pairwise (· < ·)
  | [], k, _, _ => ⟨fun x hx => absurd hx (by simp), by simp⟩
  | y :: t, k, hk, h => by
    obtain ⟨h1, h2⟩ := h
    have hy := hu k hk y h1
    obtain ⟨a1, a2⟩ := Wy.asc hu t y (by omega) h2
    have h3 : ∀ x ∈ y :: t, k < x ∧ x < m := fun x hx => by
      rcases List.mem_cons.1 hx with rfl | hx
      · exact hy
      · have := a1 x hx; omega
    exact ⟨h3, List.pairwise_cons.2 ⟨fun x hx => (h3 x hx).1, a2⟩⟩
theorem mem_gtL {m : Int} {st : Int → List Int} (hu : Up m st) (T : List Int) : ∀ (f : Nat) (k : Int) (w : List Int), 0 ≤ k → k < m → m - k ≤ f →
    (w ∈ gtL st T f k ↔ Wy st w ∧ w.head? = some k ∧ (∃ t, w.getLast? = some t ∧ t ∈ T) ∧ ∀ x ∈ w.dropLast, x ∉ T)
  | 0, k, w, h0, h1, h2 => by omega
  | f + 1, k, w, h0, h1, h2 => by
    unfold gtL
    by_cases hT : T.contains k = true
    · rw [if_pos hT]
      have hT' : k ∈ T := by simpa using hT
      constructor
      · intro h
        obtain rfl : w = [k] := by simpa using h
        exact ⟨trivial, rfl, ⟨k, rfl, hT'⟩, fun x hx => by simp at hx⟩
      · rintro ⟨h3, h4, h5, h6⟩
        match w, h3, h4, h5, h6 with
        | [a], _, h4, _, _ => simp at h4; simp [h4]
        | a :: b :: t, _, h4, _, h6 =>
          simp at h4
          subst h4
          exact absurd hT' (h6 _ (by simp))
    · rw [if_neg hT]
      have hT' : k ∉ T := by simpa using hT
      rw [List.mem_flatMap]
      constructor
      · rintro ⟨y, hy, hw⟩
        obtain ⟨w', hw', rfl⟩ := List.mem_map.1 hw
        have hyk := hu k h0 y hy
        obtain ⟨g1, g2, ⟨t, g3, g4⟩, g5⟩ := (mem_gtL hu T f y w' (by omega) (by omega) (by omega)).1 hw'
        match w', g1, g2, g3, g5 with
        | a :: t', g1, g2, g3, g5 =>
          simp at g2
          subst g2
          refine ⟨⟨hy, g1⟩, rfl, ⟨t, by rw [List.getLast?_cons_cons]; exact g3, g4⟩, fun x hx => ?_⟩
          rw [List.dropLast_cons_of_ne_nil (by simp)] at hx
          rcases List.mem_cons.1 hx with rfl | hx
          · exact hT'
          · exact g5 x hx
      · rintro ⟨h3, h4, ⟨t, h5, h5'⟩, h6⟩
        match w, h3, h4, h5, h6 with
        | [a], _, h4, h5, _ =>
          simp at h4 h5
          subst h4; subst h5
          exact absurd h5' hT'
        | a :: b :: t', h3, h4, h5, h6 =>
          simp at h4
          subst h4
          have hyk := hu a h0 b h3.1
          refine ⟨b, h3.1, List.mem_map.2 ⟨b :: t', (mem_gtL hu T f b _ (by omega) (by omega) (by omega)).2 ⟨h3.2, rfl, ⟨t, by rw [← h5, List.getLast?_cons_cons], h5'⟩, fun x hx => h6 x ?_⟩, rfl⟩⟩
          rw [List.dropLast_cons_of_ne_nil (by simp)]
          exact List.mem_cons_of_mem _ hx
theorem mem_rtL {m : Int} {st : Int → List Int} (hu : Up m st) (tz : Int) : ∀ (f : Nat) (k : Int) (w : List Int), 0 ≤ k → k < m → m - k ≤ f →
    (w ∈ rtL st tz f k ↔ Wy st w ∧ w.head? = some k ∧ w.getLast? = some tz)
  | 0, k, w, h0, h1, h2 => by omega
  | f + 1, k, w, h0, h1, h2 => by
    unfold rtL
    rw [List.mem_append, List.mem_flatMap]
    constructor
    · rintro (h | ⟨y, hy, hw⟩)
      · by_cases hk : k = tz
        · rw [if_pos hk] at h
          obtain rfl : w = [k] := by simpa using h
          exact ⟨trivial, rfl, by simp [hk]⟩
        · rw [if_neg hk] at h; cases h
      · obtain ⟨w', hw', rfl⟩ := List.mem_map.1 hw
        have hyk := hu k h0 y hy
        obtain ⟨g1, g2, g3⟩ := (mem_rtL hu tz f y w' (by omega) (by omega) (by omega)).1 hw'
        match w', g1, g2, g3 with
        | a :: t', g1, g2, g3 =>
          simp at g2
          subst g2
          exact ⟨⟨hy, g1⟩, rfl, by rw [List.getLast?_cons_cons]; exact g3⟩
    · rintro ⟨h3, h4, h5⟩
      match w, h3, h4, h5 with
      | [a], _, h4, h5 =>
        simp at h4 h5
        subst h4; subst h5
        left; simp
      | a :: b :: t', h3, h4, h5 =>
        simp at h4
        subst h4
        have hyk := hu a h0 b h3.1
        right
        exact ⟨b, h3.1, List.mem_map.2 ⟨b :: t', (mem_rtL hu tz f b _ (by omega) (by omega) (by omega)).2 ⟨h3.2, rfl, by rw [← h5, List.getLast?_cons_cons]⟩, rfl⟩⟩
/-- one list goes below the other where they part. -/
def LtP (w w' : List Int) : Prop := ∃ p a b x y, w = p ++ a :: x ∧ w' = p ++ b :: y ∧ a < b
theorem LtP.cons {w w' : List Int} (h : LtP w w') (k : Int) : LtP (k :: w) (k :: w') := by
  obtain ⟨p, a, b, x, y, rfl, rfl, h⟩ := h
  exact ⟨k :: p, a, b, x, y, rfl, rfl, h⟩
theorem head_gtL (st : Int → List Int) (T : List Int) : ∀ (f : Nat) (k : Int), ∀ w ∈ gtL st T f k, ∃ t, w = k :: t
  | 0, k, w, h => by simp [gtL] at h
  | f + 1, k, w, h => by
    unfold gtL at h
    split at h
    · exact ⟨[], by simpa using h⟩
    · obtain ⟨y, _, hw⟩ := List.mem_flatMap.1 h
      obtain ⟨w', _, rfl⟩ := List.mem_map.1 hw
      exact ⟨w', rfl⟩
theorem head_rtL (st : Int → List Int) (tz : Int) : ∀ (f : Nat) (k : Int), ∀ w ∈ rtL st tz f k, ∃ t, w = k :: t
  | 0, k, w, h => by simp [rtL] at h
  | f + 1, k, w, h => by
    unfold rtL at h
    rcases List.mem_append.1 h with h | h
    · split at h
      · exact ⟨[], by simpa using h⟩
      · cases h
    · obtain ⟨y, _, hw⟩ := List.mem_flatMap.1 h
      obtain ⟨w', _, rfl⟩ := List.mem_map.1 hw
      exact ⟨w', rfl⟩
theorem flat_pw {α β : Type} {R : β → β → Prop} {g : α → List β} : ∀ {l : List α}, (∀ a ∈ l, (g a).Pairwise R) → l.Pairwise (fun a b => ∀ x ∈ g a, ∀ y ∈ g b, R x y) → (l.flatMap g).Pairwise R
  | [], _, _ => by simp
  | a :: l, h, hp => by
    rw [List.flatMap_cons, List.pairwise_append]
    obtain ⟨h1, h2⟩ := List.pairwise_cons.1 hp
    refine ⟨h a (by simp), flat_pw (fun b hb => h b (by simp [hb])) h2, fun x hx y hy => ?_⟩
    obtain ⟨b, hb, hy⟩ := List.mem_flatMap.1 hy
    exact h1 b hb x hx y hy
theorem map_pw {k : Int} {R : List Int → List Int → Prop} (hR : ∀ a b, R a b → R (k :: a) (k :: b)) {l : List (List Int)} (h : l.Pairwise R) : (l.map (k :: ·)).Pairwise R := by
  rw [List.pairwise_map]
  exact h.imp (fun hab => hR _ _ hab)
theorem gtL_pw {st : Int → List Int} (ha : Asc st) (T : List Int) : ∀ (f : Nat) (k : Int), (gtL st T f k).Pairwise LtP
  | 0, k => by simp [gtL]
  | f + 1, k => by
    unfold gtL
    split
    · simp
    · refine flat_pw (fun y _ => map_pw (fun a b h => h.cons k) (gtL_pw ha T f y)) ((ha k).imp fun {a b} hab x hx y hy => ?_)
      obtain ⟨x', hx', rfl⟩ := List.mem_map.1 hx
      obtain ⟨y', hy', rfl⟩ := List.mem_map.1 hy
      obtain ⟨s, rfl⟩ := head_gtL st T f _ _ hx'
      obtain ⟨t, rfl⟩ := head_gtL st T f _ _ hy'
      exact ⟨[k], a, b, s, t, rfl, rfl, hab⟩
/-- is a list less than another one? -/
def lsB : List Int → List Int → Bool
  | [], [] => false
  | [], _ :: _ => true
  | _ :: _, [] => false
  | a :: l, b :: m => if a = b then lsB l m else decide (a < b)
theorem lsB_ltP {w w' : List Int} (h : LtP w w') (x y : List Int) : lsB (w ++ x) (w' ++ y) = true := by
  obtain ⟨p, a, b, s, t, rfl, rfl, h⟩ := h
  induction p with
  | nil => simp [lsB, show ¬ a = b by omega, h]
  | cons k p ih => simpa [lsB] using ih
theorem lsB_cons (k : Int) (l m : List Int) : lsB (k :: l) (k :: m) = lsB l m := by simp [lsB]
theorem lsB_irr : ∀ l, lsB l l = false
  | [] => rfl
  | a :: l => by simp [lsB, lsB_irr l]
theorem lsB_asym : ∀ l m, lsB l m = true → lsB m l = false
  | [], [], h => by simp [lsB] at h
  | [], _ :: _, _ => rfl
  | _ :: _, [], h => by simp [lsB] at h
  | a :: l, b :: m, h => by
    unfold lsB at h ⊢
    by_cases e : a = b
    · subst e; simp at h ⊢; exact lsB_asym l m h
    · rw [if_neg e] at h; rw [if_neg (fun q => e q.symm)]; simp at h ⊢; omega
theorem lsB_trans : ∀ l m n, lsB l m = true → lsB m n = true → lsB l n = true
  | [], [], _, h, _ => by simp [lsB] at h
  | [], _ :: _, [], _, h => by simp [lsB] at h
  | [], _ :: _, _ :: _, _, _ => rfl
  | _ :: _, [], _, h, _ => by simp [lsB] at h
  | _ :: _, _ :: _, [], _, h => by simp [lsB] at h
  | a :: l, b :: m, c :: n, h, h' => by
    unfold lsB at h h' ⊢
    by_cases e : a = b
    · subst e
      simp at h
      by_cases e2 : a = c
      · subst e2; simp at h' ⊢; exact lsB_trans l m n h h'
      · rw [if_neg e2] at h' ⊢; exact h'
    · rw [if_neg e] at h
      simp at h
      by_cases e2 : b = c
      · subst e2; rw [if_neg e]; simp; omega
      · rw [if_neg e2] at h'; simp at h'; rw [if_neg (by omega)]; simp; omega
theorem lsB_total : ∀ l m, l ≠ m → lsB l m = false → lsB m l = true
  | [], [], h, _ => absurd rfl h
  | [], _ :: _, _, h => by simp [lsB] at h
  | _ :: _, [], _, _ => rfl
  | a :: l, b :: m, hne, h => by
    unfold lsB at h ⊢
    by_cases e : a = b
    · subst e; simp at h ⊢; exact lsB_total l m (fun q => hne (by rw [q])) h
    · rw [if_neg e] at h; rw [if_neg (fun q => e q.symm)]; simp at h ⊢; omega
theorem rtL_pw {st : Int → List Int} (ha : Asc st) (tz : Int) : ∀ (f : Nat) (k : Int), (rtL st tz f k).Pairwise (fun a b => lsB a b = true)
  | 0, k => by simp [rtL]
  | f + 1, k => by
    unfold rtL
    rw [List.pairwise_append]
    refine ⟨by split <;> simp, flat_pw (fun y _ => map_pw (fun a b h => by rw [lsB_cons]; exact h) (rtL_pw ha tz f y)) ((ha k).imp fun {a b} hab x hx y hy => ?_), fun x hx y hy => ?_⟩
    · obtain ⟨x', hx', rfl⟩ := List.mem_map.1 hx
      obtain ⟨y', hy', rfl⟩ := List.mem_map.1 hy
      obtain ⟨s, rfl⟩ := head_rtL st tz f _ _ hx'
      obtain ⟨t, rfl⟩ := head_rtL st tz f _ _ hy'
      rw [lsB_cons]
      unfold lsB
      rw [if_neg (by omega)]
      simp; exact hab
    · obtain ⟨y0, _, hy⟩ := List.mem_flatMap.1 hy
      obtain ⟨y', hy', rfl⟩ := List.mem_map.1 hy
      obtain ⟨t, rfl⟩ := head_rtL st tz f _ _ hy'
      split at hx
      · obtain rfl : x = [k] := by simpa using hx
        rw [lsB_cons]; rfl
      · cases hx
/-- strictly sorted lists with the same members are the same. -/
theorem srt_eq {α : Type} {R : α → α → Prop} (irr : ∀ a, ¬ R a a) (tr : ∀ a b, R a b → R b a → False) : ∀ (l l' : List α), l.Pairwise R → l'.Pairwise R → (∀ x, x ∈ l ↔ x ∈ l') → l = l'
  | [], [], _, _, _ => rfl
  | [], b :: l', _, _, h => absurd ((h b).2 (by simp)) (by simp)
  | a :: l, [], _, _, h => absurd ((h a).1 (by simp)) (by simp)
  | a :: l, b :: l', h1, h2, h => by
    obtain ⟨a1, a2⟩ := List.pairwise_cons.1 h1
    obtain ⟨b1, b2⟩ := List.pairwise_cons.1 h2
    have hab : a = b := by
      rcases List.mem_cons.1 ((h a).1 (by simp)) with e | e
      · exact e
      · rcases List.mem_cons.1 ((h b).2 (by simp)) with e' | e'
        · exact e'.symm
        · exact (tr a b (a1 b e') (b1 a e)).elim
    subst hab
    have : l = l' := srt_eq irr tr l l' a2 b2 (fun x => ⟨fun hx => by
      rcases List.mem_cons.1 ((h x).1 (by simp [hx])) with e | e
      · subst e; exact (irr _ (a1 _ hx)).elim
      · exact e, fun hx => by
      rcases List.mem_cons.1 ((h x).2 (by simp [hx])) with e | e
      · subst e; exact (irr _ (b1 _ hx)).elim
      · exact e⟩)
    rw [this]
/-- does a way keep off some ways? -/
def apB (F : List (List Int)) (w : List Int) : Bool := w.all fun x => !onL F x
theorem apB_cons (F : List (List Int)) (x : Int) (w : List Int) : apB F (x :: w) = (!onL F x && apB F w) := rfl
theorem goF_eq {α : Type} (k : List (List Int) → List α) (st : Int → List Int) (T : List Int) : ∀ (f : Nat) (F : List (List Int)) (b : List Int) (x : Int),
    goF k st T f F (b ++ [x]) = ((gtL st T f x).filter (apB F)).flatMap fun t => k (F ++ [b ++ t])
  | 0, F, b, x => by simp [goF, gtL]
  | f + 1, F, b, x => by
    have hno : onL F x = true → ∀ t ∈ gtL st T (f + 1) x, apB F t = false := fun h t ht => by
      obtain ⟨s, rfl⟩ := head_gtL st T _ _ _ ht
      rw [apB_cons, h]; rfl
    unfold goF
    rw [lst_app]
    by_cases h1 : onL F x = true
    · rw [if_pos h1]
      have : (gtL st T (f + 1) x).filter (apB F) = [] := List.filter_eq_nil_iff.2 (fun t ht => by rw [hno h1 t ht]; simp)
      rw [this]; rfl
    · rw [if_neg h1]
      have h1' : onL F x = false := by simpa using h1
      unfold gtL
      by_cases h2 : T.contains x = true
      · rw [if_pos h2, if_pos h2]
        simp [apB, h1']
      · rw [if_neg h2, if_neg h2, List.filter_flatMap, List.flatMap_assoc]
        congr 1
        funext y
        rw [goF_eq k st T f F (b ++ [x]) y, List.filter_map, List.flatMap_map]
        have : (apB F ∘ fun t => x :: t) = apB F := by funext t; simp [apB_cons, h1']
        rw [this]
        simp
theorem sendF_succ (st : Int → List Int) (Y T : List Int) (n : Nat) (F : List (List Int)) :
    sendF st Y T (n + 1) F = ((gtL st T 16 (nth Y F.length)).filter (apB F)).flatMap fun w => sendF st Y T n (F ++ [w]) := by
  have := goF_eq (sendF st Y T n) st T 16 F [] (nth Y F.length)
  simpa [sendF] using this
/-- a way laid among smaller and greater ones. -/
def insW (x : List Int) : List (List Int) → List (List Int)
  | [] => [x]
  | y :: l => if lsB y x = true then y :: insW x l else x :: y :: l
theorem mem_insW (x z : List Int) : ∀ l, z ∈ insW x l ↔ z = x ∨ z ∈ l
  | [] => by simp [insW]
  | y :: l => by
    unfold insW
    split
    · rw [List.mem_cons, mem_insW x z l, List.mem_cons]
      constructor
      · rintro (h | h | h) <;> simp [h]
      · rintro (h | h | h) <;> simp [h]
    · rw [List.mem_cons]
theorem pw_insW (x : List Int) : ∀ l : List (List Int), x ∉ l → l.Pairwise (fun a b => lsB a b = true) → (insW x l).Pairwise (fun a b => lsB a b = true)
  | [], _, _ => by simp [insW]
  | y :: l, hx, h => by
    obtain ⟨h1, h2⟩ := List.pairwise_cons.1 h
    have hne : x ≠ y := fun e => hx (by simp [e])
    unfold insW
    split
    · rename_i hl
      refine List.pairwise_cons.2 ⟨fun z hz => ?_, pw_insW x l (fun q => hx (by simp [q])) h2⟩
      rcases (mem_insW x z l).1 hz with rfl | hz
      · exact hl
      · exact h1 z hz
    · rename_i hl
      have hxy : lsB x y = true := lsB_total y x (fun e => hne e.symm) (by simpa using hl)
      refine List.pairwise_cons.2 ⟨fun z hz => ?_, h⟩
      rcases List.mem_cons.1 hz with rfl | hz
      · exact hxy
      · exact lsB_trans _ _ _ hxy (h1 z hz)
/-- some ways laid in, one after another. -/
def insL (acc l : List (List Int)) : List (List Int) := l.foldl (fun a w => insW w a) acc
theorem insL_cons (acc : List (List Int)) (w : List Int) (l : List (List Int)) : insL acc (w :: l) = insL (insW w acc) l := rfl
theorem mem_insL (z : List Int) : ∀ l acc : List (List Int), z ∈ insL acc l ↔ z ∈ l ∨ z ∈ acc
  | [], acc => by simp [insL]
  | w :: l, acc => by
    rw [insL_cons, mem_insL z l, mem_insW, List.mem_cons]
    constructor
    · rintro (h | h | h) <;> simp [h]
    · rintro ((h | h) | h) <;> simp [h]
theorem pw_insL : ∀ (l acc : List (List Int)), l.Pairwise (fun a b => lsB a b = true) → acc.Pairwise (fun a b => lsB a b = true) → (∀ w ∈ l, w ∉ acc) → (insL acc l).Pairwise (fun a b => lsB a b = true)
  | [], acc, _, h, _ => by simpa [insL] using h
  | w :: l, acc, hl, h, hd => by
    obtain ⟨h1, h2⟩ := List.pairwise_cons.1 hl
    rw [insL_cons]
    refine pw_insL l _ h2 (pw_insW w acc (hd w (by simp)) h) (fun z hz hin => ?_)
    rcases (mem_insW w z acc).1 hin with rfl | hin
    · have := h1 z hz; rw [lsB_irr] at this; cases this
    · exact hd z (by simp [hz]) hin
/-- all ways from a yard to some tips, smaller ones first. -/
def fyF (st : Int → List Int) (y : Int) : List Int → List (List Int) → List (List Int)
  | [], acc => acc
  | t :: T, acc => fyF st y T (insL acc (rtL st t 16 y))
def fyL (st : Int → List Int) (T : List Int) (y : Int) : List (List Int) := fyF st y T []
theorem mem_fyF (st : Int → List Int) (y : Int) (z : List Int) : ∀ (T : List Int) acc, z ∈ fyF st y T acc ↔ (∃ t ∈ T, z ∈ rtL st t 16 y) ∨ z ∈ acc
  | [], acc => by simp [fyF]
  | t :: T, acc => by
    unfold fyF
    rw [mem_fyF st y z T, mem_insL]
    constructor
    · rintro (⟨t', h1, h2⟩ | h | h)
      · exact .inl ⟨t', by simp [h1], h2⟩
      · exact .inl ⟨t, by simp, h⟩
      · exact .inr h
    · rintro (⟨t', h1, h2⟩ | h)
      · rcases List.mem_cons.1 h1 with rfl | h1
        · exact .inr (.inl h2)
        · exact .inl ⟨t', h1, h2⟩
      · exact .inr (.inr h)
theorem pw_fyF {m : Int} {st : Int → List Int} (hu : Up m st) (ha : Asc st) (y : Int) (hy : 0 ≤ y ∧ y < m) (hm : m ≤ 16) : ∀ (T : List Int) acc, T.Nodup → acc.Pairwise (fun a b => lsB a b = true) → (∀ w ∈ acc, ∀ t ∈ T, w.getLast? ≠ some t) → (fyF st y T acc).Pairwise (fun a b => lsB a b = true)
  | [], acc, _, h, _ => h
  | t :: T, acc, hn, h, hd => by
    obtain ⟨n1, n2⟩ := List.nodup_cons.1 hn
    unfold fyF
    refine pw_fyF hu ha y hy hm T _ n2 (pw_insL _ _ (rtL_pw ha t 16 y) h (fun w hw hin => ?_)) (fun w hw t' ht' => ?_)
    · exact hd w hin t (by simp) ((mem_rtL hu t 16 y w hy.1 hy.2 (by omega)).1 hw).2.2
    · rcases (mem_insL w _ _).1 hw with hw | hw
      · have := ((mem_rtL hu t 16 y w hy.1 hy.2 (by omega)).1 hw).2.2
        rw [this]
        intro e
        simp at e
        subst e
        exact n1 ht'
      · exact hd w hw t' (by simp [ht'])
/-- does a way meet no tip before its end? -/
def noIn (T : List Int) (w : List Int) : Bool := w.dropLast.all fun x => !T.contains x
theorem ltP_lsB {a b : List Int} (h : LtP a b) : lsB a b = true := by
  have := lsB_ltP h [] []
  simpa using this
theorem gt_fy {m : Int} {st : Int → List Int} (hu : Up m st) (ha : Asc st) (T : List Int) (hT : T.Nodup) (y : Int) (hy : 0 ≤ y ∧ y < m) (hm : m ≤ 16) : gtL st T 16 y = (fyL st T y).filter (noIn T) := by
  refine srt_eq (R := fun a b => lsB a b = true) (fun a h => by rw [lsB_irr] at h; cases h) (fun a b h h' => by rw [lsB_asym a b h] at h'; cases h') _ _ ((gtL_pw ha T 16 y).imp ltP_lsB) ((pw_fyF hu ha y hy hm T [] hT (by simp) (fun w hw => by cases hw)).filter _) (fun w => ?_)
  rw [mem_gtL hu T 16 y w hy.1 hy.2 (by omega), List.mem_filter]
  unfold fyL
  rw [mem_fyF]
  constructor
  · rintro ⟨h1, h2, ⟨t, h3, h4⟩, h5⟩
    refine ⟨.inl ⟨t, h4, (mem_rtL hu t 16 y w hy.1 hy.2 (by omega)).2 ⟨h1, h2, h3⟩⟩, ?_⟩
    unfold noIn
    rw [List.all_eq_true]
    intro x hx
    simpa using h5 x hx
  · rintro ⟨h | h, h5⟩
    · obtain ⟨t, h4, h⟩ := h
      obtain ⟨h1, h2, h3⟩ := (mem_rtL hu t 16 y w hy.1 hy.2 (by omega)).1 h
      refine ⟨h1, h2, ⟨t, h3, h4⟩, fun x hx => ?_⟩
      unfold noIn at h5
      rw [List.all_eq_true] at h5
      simpa using h5 x hx
    · cases h
/-- the families that begin with some ways (the reference). -/
def rfamF (st : Int → List Int) (Y T : List Int) : Nat → List (List Int) → List (List (List Int))
  | 0, F => [F]
  | n + 1, F => ((fyL st T (nth Y F.length)).filter (apB F)).flatMap fun w => rfamF st Y T n (F ++ [w])
/-- two ways have no corner in common. -/
def Dis (a b : List Int) : Prop := ∀ x ∈ a, x ∉ b
theorem Dis.symm {a b : List Int} (h : Dis a b) : Dis b a := fun x hx hx' => h x hx' hx
theorem apB_dis {F : List (List Int)} {w : List Int} (h : apB F w = true) : ∀ a ∈ F, Dis a w := fun a ha x hx hw => by
  unfold apB at h
  rw [List.all_eq_true] at h
  have := h x hw
  unfold onL at this
  simp at this
  exact this a ha hx
/-- a way that ends at a tip. -/
def Good (_m : Int) (st : Int → List Int) (T : List Int) (w : List Int) : Prop := Wy st w ∧ (∃ k, w.head? = some k ∧ 0 ≤ k) ∧ ∃ t, w.getLast? = some t ∧ t ∈ T
theorem pw_ne {α : Type} {R : α → α → Prop} (sym : ∀ a b, R a b → R b a) : ∀ {l : List α}, l.Pairwise R → ∀ a ∈ l, ∀ b ∈ l, a ≠ b → R a b
  | [], _, a, ha, _, _, _ => absurd ha (by simp)
  | c :: l, h, a, ha, b, hb, hne => by
    obtain ⟨h1, h2⟩ := List.pairwise_cons.1 h
    rcases List.mem_cons.1 ha with ea | ha'
    · rcases List.mem_cons.1 hb with eb | hb'
      · exact absurd (ea.trans eb.symm) hne
      · rw [ea]; exact h1 b hb'
    · rcases List.mem_cons.1 hb with eb | hb'
      · rw [eb]; exact sym _ _ (h1 a ha')
      · exact pw_ne sym h2 a ha' b hb' hne
theorem last_mem {w : List Int} {t : Int} (h : w.getLast? = some t) : t ∈ w := List.mem_of_getLast? h
theorem Good.last_out {m : Int} {st : Int → List Int} (hu : Up m st) {T : List Int} {w : List Int} (h : Good m st T w) {t : Int} (ht : w.getLast? = some t) : t ∉ w.dropLast := fun hx => by
  obtain ⟨h1, ⟨k, h2, h3⟩, _⟩ := h
  match w, h1, h2, ht, hx with
  | a :: s, h1, h2, ht, hx =>
    simp at h2
    subst h2
    have hp := (Wy.asc hu s a h3 h1).2
    have e : a :: s = (a :: s).dropLast ++ [t] := by
      have hne : a :: s ≠ [] := by simp
      have := List.dropLast_concat_getLast hne
      rw [List.getLast?_eq_some_getLast hne] at ht
      simp only [Option.some.injEq] at ht
      rw [ht] at this
      exact this.symm
    rw [e, List.pairwise_append] at hp
    have := hp.2.2 t hx t (by simp)
    omega
theorem no_in {m : Int} {st : Int → List Int} (hu : Up m st) {T : List Int} {G : List (List Int)} (hp : G.Pairwise Dis) (hg : ∀ w ∈ G, Good m st T w) (hl : T.length ≤ G.length) : ∀ w ∈ G, noIn T w = true := fun w hw => by
  have e : ∀ w ∈ G, w.getLast? = some (w.getLast?.getD 0) := fun w hw => by
    obtain ⟨_, _, t, h, _⟩ := hg w hw
    rw [h]; rfl
  have hnd : (G.map fun w => w.getLast?.getD 0).Nodup := by
    unfold List.Nodup
    rw [List.pairwise_map]
    refine List.Pairwise.imp_of_mem (R := Dis) (fun {a b} ha hb hd heq => ?_) hp
    exact hd _ (last_mem (e a ha)) (by rw [heq]; exact last_mem (e b hb))
  have hsub : (G.map fun w => w.getLast?.getD 0) ⊆ T := fun t ht => by
    obtain ⟨w, hw, rfl⟩ := List.mem_map.1 ht
    obtain ⟨_, _, t, h, h'⟩ := hg w hw
    rw [h]; exact h'
  unfold noIn
  rw [List.all_eq_true]
  intro x hx
  refine Classical.byContradiction fun hc => ?_
  have hxT : x ∈ T := by simpa using hc
  have hxL : x ∈ G.map fun w => w.getLast?.getD 0 := by
    refine Classical.byContradiction fun hn => ?_
    have := nodup_le (l := x :: G.map fun w => w.getLast?.getD 0) (m := T) (List.nodup_cons.2 ⟨hn, hnd⟩) (fun z hz => by
      rcases List.mem_cons.1 hz with rfl | hz
      · exact hxT
      · exact hsub hz)
    simp at this
    omega
  obtain ⟨w', hw', h⟩ := List.mem_map.1 hxL
  have hl' := e w' hw'
  rw [h] at hl'
  by_cases hq : w' = w
  · subst hq
    exact (hg w' hw').last_out hu hl' hx
  · exact pw_ne (fun a b h => Dis.symm h) hp w' hw' w hw hq x (last_mem hl') (List.dropLast_subset _ hx)
theorem fy_good {m : Int} {st : Int → List Int} (hu : Up m st) {T : List Int} {y : Int} (hy : 0 ≤ y ∧ y < m) (hm : m ≤ 16) {w : List Int} (h : w ∈ fyL st T y) : Good m st T w := by
  unfold fyL at h
  rw [mem_fyF] at h
  rcases h with ⟨t, ht, h⟩ | h
  · obtain ⟨h1, h2, h3⟩ := (mem_rtL hu t 16 y w hy.1 hy.2 (by omega)).1 h
    exact ⟨h1, ⟨y, h2, hy.1⟩, t, h3, ht⟩
  · cases h
theorem mem_rfam {m : Int} {st : Int → List Int} (hu : Up m st) (hm : m ≤ 16) (Y T : List Int) (hY : ∀ y ∈ Y, 0 ≤ y ∧ y < m) : ∀ (n : Nat) (F G : List (List Int)), F.length + n = Y.length → F.Pairwise Dis → (∀ w ∈ F, Good m st T w) → G ∈ rfamF st Y T n F →
    G.Pairwise Dis ∧ (∀ w ∈ G, Good m st T w) ∧ G.length = Y.length ∧ F <+: G
  | 0, F, G, hl, hp, hg, h => by
    obtain rfl : G = F := by simpa [rfamF] using h
    exact ⟨hp, hg, by omega, List.prefix_refl _⟩
  | n + 1, F, G, hl, hp, hg, h => by
    unfold rfamF at h
    obtain ⟨w, hw, h⟩ := List.mem_flatMap.1 h
    obtain ⟨hw1, hw2⟩ := List.mem_filter.1 hw
    have hyin : nth Y F.length ∈ Y := by
      rw [nth_eq, List.getElem?_eq_getElem (show F.length < Y.length by omega)]
      exact List.getElem_mem _
    obtain ⟨g1, g2, g3, g4⟩ := mem_rfam hu hm Y T hY n (F ++ [w]) G (by simp; omega) (by
      rw [List.pairwise_append]
      exact ⟨hp, by simp, fun a ha b hb => by
        obtain rfl : b = w := by simpa using hb
        exact apB_dis hw2 a ha⟩) (fun z hz => by
      rcases List.mem_append.1 hz with hz | hz
      · exact hg z hz
      · obtain rfl : z = w := by simpa using hz
        exact fy_good hu (hY _ hyin) hm hw1) h
    exact ⟨g1, g2, g3, (List.prefix_append _ _).trans g4⟩
theorem flat_two {α β : Type} {p q : α → Bool} {g g' : α → List β} : ∀ {l : List α}, (∀ w ∈ l, p w = true → (q w = true → g' w = g w) ∧ (q w = false → g' w = [])) → (l.filter p).flatMap g' = ((l.filter q).filter p).flatMap g
  | [], _ => rfl
  | a :: l, h => by
    have ih := flat_two (l := l) (fun w hw => h w (by simp [hw]))
    have ha := h a (by simp)
    cases hp : p a
    · cases hq : q a
      · rw [List.filter_cons_of_neg (by simp [hp]), List.filter_cons_of_neg (l := l) (p := q) (by simp [hq])]; exact ih
      · rw [List.filter_cons_of_neg (by simp [hp]), List.filter_cons_of_pos (l := l) (p := q) (by simp [hq]), List.filter_cons_of_neg (by simp [hp])]; exact ih
    · cases hq : q a
      · rw [List.filter_cons_of_pos (by simp [hp]), List.filter_cons_of_neg (l := l) (p := q) (by simp [hq]), List.flatMap_cons, (ha hp).2 hq, List.nil_append]; exact ih
      · rw [List.filter_cons_of_pos (by simp [hp]), List.filter_cons_of_pos (l := l) (p := q) (by simp [hq]), List.filter_cons_of_pos (by simp [hp]), List.flatMap_cons, List.flatMap_cons, (ha hp).1 hq, ih]
/-- the reference's families are the code's, in the same order. -/
theorem fam_eq {m : Int} {st : Int → List Int} (hu : Up m st) (ha : Asc st) (hm : m ≤ 16) (Y T : List Int) (hT : T.Nodup) (hY : ∀ y ∈ Y, 0 ≤ y ∧ y < m) (hYT : T.length = Y.length) : ∀ (n : Nat) (F : List (List Int)), F.length + n = Y.length → F.Pairwise Dis → (∀ w ∈ F, Good m st T w) →
    rfamF st Y T n F = sendF st Y T n F
  | 0, F, _, _, _ => rfl
  | n + 1, F, hl, hp, hg => by
    rw [sendF_succ]
    unfold rfamF
    have hyin : nth Y F.length ∈ Y := by
      rw [nth_eq, List.getElem?_eq_getElem (show F.length < Y.length by omega)]
      exact List.getElem_mem _
    rw [gt_fy hu ha T hT _ (hY _ hyin) hm]
    refine flat_two (fun w hw hpw => ?_)
    have hp' : (F ++ [w]).Pairwise Dis := by
      rw [List.pairwise_append]
      exact ⟨hp, by simp, fun a ha b hb => by
        obtain rfl : b = w := by simpa using hb
        exact apB_dis hpw a ha⟩
    have hg' : ∀ z ∈ F ++ [w], Good m st T z := fun z hz => by
      rcases List.mem_append.1 hz with hz | hz
      · exact hg z hz
      · obtain rfl : z = w := by simpa using hz
        exact fy_good hu (hY _ hyin) hm hw
    refine ⟨fun _ => fam_eq hu ha hm Y T hT hY hYT n (F ++ [w]) (by simp; omega) hp' hg', fun hq => ?_⟩
    refine List.eq_nil_iff_forall_not_mem.2 fun G hG => ?_
    obtain ⟨g1, g2, g3, g4⟩ := mem_rfam hu hm Y T hY n (F ++ [w]) G (by simp; omega) hp' hg' hG
    have := no_in hu g1 g2 (by omega) w (g4.subset (by simp))
    rw [hq] at this
    cases this
theorem lsB_pre (p l m : List Int) : lsB (p ++ l) (p ++ m) = lsB l m := by
  induction p with
  | nil => rfl
  | cons k p ih => simpa [lsB] using ih
theorem mem_sendF (st : Int → List Int) (Y T : List Int) : ∀ (n : Nat) (F G : List (List Int)), G ∈ sendF st Y T n F → ∃ R, G = F ++ R
  | 0, F, G, h => ⟨[], by simpa [sendF] using h⟩
  | n + 1, F, G, h => by
    rw [sendF_succ] at h
    obtain ⟨w, _, h⟩ := List.mem_flatMap.1 h
    obtain ⟨R, rfl⟩ := mem_sendF st Y T n _ _ h
    exact ⟨[w] ++ R, by simp⟩
/-- families come in ascending order. -/
theorem sendF_pw {st : Int → List Int} (ha : Asc st) (Y T : List Int) : ∀ (n : Nat) (F : List (List Int)), (sendF st Y T n F).Pairwise (fun G G' => lsB G.flatten G'.flatten = true)
  | 0, F => by simp [sendF]
  | n + 1, F => by
    rw [sendF_succ]
    refine flat_pw (fun w _ => sendF_pw ha Y T n _) (((gtL_pw ha T 16 _).filter _).imp fun {a b} hab x hx y hy => ?_)
    obtain ⟨R, rfl⟩ := mem_sendF st Y T n _ _ hx
    obtain ⟨R', rfl⟩ := mem_sendF st Y T n _ _ hy
    simp only [List.flatten_append, List.flatten_cons, List.flatten_nil, List.append_nil, List.append_assoc]
    rw [lsB_pre]
    exact lsB_ltP hab _ _
/-- the least of some families, as the reference finds it. -/
def bstF : List (List Int) → List (List (List Int)) → List (List Int)
  | b, [] => b
  | b, G :: l => bstF (if lsB G.flatten b.flatten = true then G else b) l
theorem bst_head : ∀ (l : List (List (List Int))) (b : List (List Int)), (∀ G ∈ l, lsB b.flatten G.flatten = true) → bstF b l = b
  | [], b, _ => rfl
  | G :: l, b, h => by
    unfold bstF
    rw [lsB_asym _ _ (h G (by simp))]
    simp only [Bool.false_eq_true, if_false]
    exact bst_head l b (fun G' hG => h G' (by simp [hG]))
end Go.Proofs.Ytflllkamdihfaaa
