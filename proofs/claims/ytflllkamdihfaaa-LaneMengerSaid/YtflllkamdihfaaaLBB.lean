/- pure: wayN counts the reference's ways; a bar meets all ways; the reference's Bar is the code's -/
import Derived.Test.YtflllkamdihfaaaLBA
import Derived.Test.YtflllkamdihfaaaLMA
import Derived.Test.YtflllkamdihfaaaLMC
namespace Go.Proofs.Ytflllkamdihfaaa
open Go.RowKit Go.Sort
theorem mem_stL {c m : Int} {S : List Int} {k x : Int} : x ∈ stL c m S k ↔ ((x = k + 1 ∧ ¬ (k + 1) % c = 0) ∨ x = k + c) ∧ (0 ≤ x ∧ x < m ∧ x ∉ S) := by
  have h0 : ∀ y, atE m S y = 0 ↔ 0 ≤ y ∧ y < m ∧ y ∉ S := fun y => by
    unfold atE
    by_cases h : inB m y = true
    · rw [if_pos h]
      unfold inB at h
      simp at h
      by_cases h2 : S.contains y = true
      · rw [if_pos h2]; simp at h2; simp [h2]
      · rw [if_neg h2]; simp at h2; simp [h2, h]
    · rw [if_neg h]
      unfold inB at h
      simp at h
      constructor
      · intro q; omega
      · rintro ⟨q1, q2, _⟩; have := h q1; omega
  unfold stL
  rw [List.mem_append]
  constructor
  · rintro (h | h)
    · by_cases q : ¬ (k + 1) % c = 0 ∧ atE m S (k + 1) = 0
      · rw [if_pos q] at h
        obtain rfl : x = k + 1 := by simpa using h
        exact ⟨.inl ⟨rfl, q.1⟩, (h0 _).1 q.2⟩
      · rw [if_neg q] at h; cases h
    · by_cases q : atE m S (k + c) = 0
      · rw [if_pos q] at h
        obtain rfl : x = k + c := by simpa using h
        exact ⟨.inr rfl, (h0 _).1 q⟩
      · rw [if_neg q] at h; cases h
  · rintro ⟨⟨rfl, h⟩ | rfl, h'⟩
    · left
      rw [if_pos ⟨h, (h0 _).2 h'⟩]; simp
    · right
      rw [if_pos ((h0 _).2 h')]; simp
theorem up_stL {r c m : Int} (hs : Side r c m) (S : List Int) : Up m (stL c m S) := fun k hk x hx => by
  obtain ⟨_, _, hc, _, _⟩ := hs
  obtain ⟨h1, h2, h3, _⟩ := mem_stL.1 hx
  refine ⟨?_, h3⟩
  rcases h1 with ⟨rfl, _⟩ | rfl <;> omega
theorem asc_stL {r c m : Int} (hs : Side r c m) (S : List Int) : Asc (stL c m S) := fun k => by
  obtain ⟨_, _, hc, _, _⟩ := hs
  unfold stL
  rw [List.pairwise_append]
  refine ⟨by split <;> simp, by split <;> simp, fun a ha b hb => ?_⟩
  by_cases q : ¬ (k + 1) % c = 0 ∧ atE m S (k + 1) = 0
  · rw [if_pos q] at ha
    obtain rfl : a = k + 1 := by simpa using ha
    by_cases q2 : atE m S (k + c) = 0
    · rw [if_pos q2] at hb
      obtain rfl : b = k + c := by simpa using hb
      have : c ≠ 1 := fun e => q.1 (by rw [e]; exact Int.emod_one _)
      omega
    · rw [if_neg q2] at hb; cases hb
  · rw [if_neg q] at ha; cases ha
theorem rt_nil {m : Int} {st : Int → List Int} (hu : Up m st) {f : Nat} {k tz : Int} (h0 : 0 ≤ k) (h1 : k < m) (hf : m - k ≤ f) (h : tz < k) : rtL st tz f k = [] := by
  refine List.eq_nil_iff_forall_not_mem.2 fun w hw => ?_
  obtain ⟨g1, g2, g3⟩ := (mem_rtL hu tz f k w h0 h1 hf).1 hw
  match w, g1, g2, g3 with
  | a :: t, g1, g2, g3 =>
    simp at g2
    subst g2
    have := (Wy.asc hu t a h0 g1).1
    rcases List.mem_cons.1 (List.mem_of_getLast? g3) with e | e
    · omega
    · have := this tz e; omega
theorem wn_len {r c m : Int} (hs : Side r c m) (S : List Int) (tz : Int) : ∀ (f : Nat) (k : Int), 0 ≤ k → k < m → m - k ≤ f → wn c m S tz f k = (rtL (stL c m S) tz f k).length
  | 0, k, h0, h1, h2 => by omega
  | f + 1, k, h0, h1, h2 => by
    have hu := up_stL hs S
    unfold wn rtL
    have hin : ∀ y ∈ stL c m S k, 0 ≤ y ∧ y < m ∧ m - y ≤ f ∧ k < y := fun y hy => by
      have := hu k h0 y hy; omega
    by_cases h : k = tz
    · rw [if_pos h, if_pos h]
      have : (stL c m S k).flatMap (fun y => (rtL (stL c m S) tz f y).map (k :: ·)) = [] := by
        rw [List.flatMap_eq_nil_iff]
        intro y hy
        obtain ⟨a1, a2, a3, a4⟩ := hin y hy
        rw [rt_nil hu a1 a2 a3 (by omega)]; rfl
      rw [this]; rfl
    · rw [if_neg h, if_neg h, List.nil_append, List.length_flatMap]
      congr 1
      refine List.map_congr_left fun y hy => ?_
      obtain ⟨a1, a2, a3, _⟩ := hin y hy
      rw [wn_len hs S tz f y a1 a2 a3, List.length_map]
theorem atE_zero {m : Int} {S : List Int} {y : Int} : atE m S y = 0 ↔ 0 ≤ y ∧ y < m ∧ y ∉ S := by
  unfold atE
  by_cases h : inB m y = true
  · rw [if_pos h]
    unfold inB at h
    simp at h
    by_cases h2 : S.contains y = true
    · rw [if_pos h2]; simp at h2; simp [h2]
    · rw [if_neg h2]; simp at h2; simp [h2, h]
  · rw [if_neg h]
    unfold inB at h
    simp at h
    constructor
    · intro q; omega
    · rintro ⟨q1, q2, _⟩; have := h q1; omega
theorem side_m {r c m : Int} (hs : Side r c m) : 1 ≤ m ∧ m ≤ 16 := by
  obtain ⟨h1, h2, h3, h4, rfl⟩ := hs
  have a := Int.mul_le_mul h2 h4 (by omega) (by omega)
  have b := Int.mul_le_mul h1 h3 (by omega) (by omega)
  omega
/-- the ways that the reference finds, from a corner to another one. -/
def wyL (c m : Int) (S : List Int) (k tz : Int) : List (List Int) := if S.contains k = true then [] else rtL (stL c m S) tz 16 k
theorem wayN_len {r c m : Int} (hs : Side r c m) (S : List Int) (k tz : Int) (hk : 0 ≤ k ∧ k < m) : wayN c m S k tz = (wyL c m S k tz).length := by
  unfold wayN wyL
  have hm := side_m hs
  by_cases h : S.contains k = true
  · have : ¬ atE m S k = 0 := fun q => (atE_zero.1 q).2.2 (by simpa using h)
    rw [if_neg this, if_pos h]; rfl
  · have : atE m S k = 0 := atE_zero.2 ⟨hk.1, hk.2, by simpa using h⟩
    rw [if_pos this, if_neg h]
    exact wn_len hs S tz 16 k hk.1 hk.2 (by omega)
/-- so many numbers from one on. -/
def rngI (lo : Int) (n : Nat) : List Int := (List.range n).map fun i => lo + (i : Nat)
theorem mem_rngI {lo : Int} {n : Nat} {x : Int} : x ∈ rngI lo n ↔ lo ≤ x ∧ x < lo + n := by
  unfold rngI
  rw [List.mem_map]
  constructor
  · rintro ⟨i, hi, rfl⟩
    rw [List.mem_range] at hi
    omega
  · rintro ⟨h1, h2⟩
    exact ⟨(x - lo).toNat, by rw [List.mem_range]; omega, by omega⟩
theorem pw_rngI (lo : Int) (n : Nat) : (rngI lo n).Pairwise (· < ·) := by
  unfold rngI
  rw [List.pairwise_map]
  exact List.pairwise_lt_range.imp (fun h => by omega)
/-- the ways that begin with some corners (the reference). -/
def rwL (c m : Int) (S : List Int) (tz : Int) : Nat → List Int → List (List Int)
  | 0, _ => []
  | f + 1, b => if S.contains (lst b) = true then [] else (if lst b = tz then [b] else []) ++ ((rngI (lst b + 1) (m - 1 - lst b).toNat).filter (rstE c (lst b))).flatMap fun n => rwL c m S tz f (b ++ [n])
theorem rst_stL {r c m : Int} (hs : Side r c m) (S : List Int) (k : Int) (hk : 0 ≤ k) : ((rngI (k + 1) (m - 1 - k).toNat).filter (rstE c k)).filter (fun n => !S.contains n) = stL c m S k := by
  have hc := hs.2.2.1
  refine srt_eq (R := (· < ·)) (fun a h => by omega) (fun a b h h' => by omega) _ _ (((pw_rngI _ _).filter _).filter _) (asc_stL hs S k) (fun x => ?_)
  rw [List.mem_filter, List.mem_filter, mem_rngI, mem_stL]
  unfold rstE
  have hnn := Int.emod_nonneg (k + 1) (show c ≠ 0 by omega)
  constructor
  · rintro ⟨⟨⟨h1, h2⟩, h3⟩, h4⟩
    simp at h3 h4
    refine ⟨?_, by omega, by omega, h4⟩
    rcases h3 with ⟨rfl, h3⟩ | h3
    · exact .inl ⟨rfl, by omega⟩
    · exact .inr h3
  · rintro ⟨h1, h2, h3, h4⟩
    refine ⟨⟨⟨?_, ?_⟩, ?_⟩, by simpa using h4⟩
    · rcases h1 with ⟨rfl, _⟩ | rfl <;> omega
    · rcases h1 with ⟨rfl, _⟩ | rfl <;> omega
    · simp
      rcases h1 with ⟨rfl, h⟩ | h
      · exact .inl ⟨rfl, by omega⟩
      · exact .inr h
theorem flat_if {α β : Type} {p : α → Bool} {g : α → List β} : ∀ (l : List α), l.flatMap (fun a => if p a = true then [] else g a) = (l.filter fun a => !p a).flatMap g
  | [] => rfl
  | a :: l => by
    rw [List.flatMap_cons, flat_if l]
    cases h : p a
    · rw [List.filter_cons_of_pos (by simp [h]), List.flatMap_cons]; simp
    · rw [List.filter_cons_of_neg (by simp [h])]; simp
theorem rw_eq {r c m : Int} (hs : Side r c m) (S : List Int) (tz : Int) : ∀ (f : Nat) (b : List Int) (k : Int), 0 ≤ k → rwL c m S tz f (b ++ [k]) = if S.contains k = true then [] else (rtL (stL c m S) tz f k).map (b ++ ·)
  | 0, b, k, _ => by simp [rwL, rtL]
  | f + 1, b, k, hk => by
    unfold rwL rtL
    rw [lst_app]
    by_cases h : S.contains k = true
    · rw [if_pos h, if_pos h]
    · rw [if_neg h, if_neg h, List.map_append]
      congr 1
      · split <;> simp
      · rw [List.map_flatMap]
        have h1 : (fun n => rwL c m S tz f (b ++ [k] ++ [n])) = fun n => rwL c m S tz f ((b ++ [k]) ++ [n]) := rfl
        have h2 : ((rngI (k + 1) (m - 1 - k).toNat).filter (rstE c k)).flatMap (fun n => rwL c m S tz f (b ++ [k] ++ [n])) = ((rngI (k + 1) (m - 1 - k).toNat).filter (rstE c k)).flatMap (fun n => if S.contains n = true then [] else (rtL (stL c m S) tz f n).map ((b ++ [k]) ++ ·)) := by
          have : ∀ l : List Int, (∀ n ∈ l, 0 ≤ n) → l.flatMap (fun n => rwL c m S tz f (b ++ [k] ++ [n])) = l.flatMap (fun n => if S.contains n = true then [] else (rtL (stL c m S) tz f n).map ((b ++ [k]) ++ ·)) := fun l => by
            induction l with
            | nil => intro _; rfl
            | cons n l ih =>
              intro hl
              rw [List.flatMap_cons, List.flatMap_cons, ih (fun x hx => hl x (by simp [hx])), rw_eq hs S tz f (b ++ [k]) n (hl n (by simp))]
          refine this _ (fun n hn => ?_)
          have := (mem_rngI.1 (List.mem_filter.1 hn).1).1
          omega
        rw [h2, flat_if, rst_stL hs S k hk]
        congr 1
        funext y
        rw [List.map_map]
        congr 1
        funext z
        simp
theorem rw_wy {r c m : Int} (hs : Side r c m) (S : List Int) (tz k : Int) (hk : 0 ≤ k) : rwL c m S tz 16 [k] = wyL c m S k tz := by
  have := rw_eq hs S tz 16 [] k hk
  simp only [List.nil_append] at this
  rw [this]
  unfold wyL
  simp
/-- do two ways meet? -/
def metW (a b : List Int) : Bool := a.any fun x => b.contains x
/-- are some corners in all ways from yards to tips (the reference)? -/
def rbrs (c m : Int) (S Y T C : List Int) : Bool := Y.all fun y => (fyL (stL c m S) T y).all fun w => metW w C
theorem Wy.more {c m : Int} {S C : List Int} : ∀ (w : List Int) (k : Int), Wy (stL c m (S ++ C)) (k :: w) ↔ Wy (stL c m S) (k :: w) ∧ ∀ x ∈ w, x ∉ C
  | [], k => by simp [Wy]
  | y :: t, k => by
    have ih := Wy.more (c := c) (m := m) (S := S) (C := C) t y
    show (y ∈ stL c m (S ++ C) k ∧ Wy (stL c m (S ++ C)) (y :: t)) ↔ (y ∈ stL c m S k ∧ Wy (stL c m S) (y :: t)) ∧ _
    rw [ih, mem_stL, mem_stL]
    constructor
    · rintro ⟨⟨h1, h2, h3, h4⟩, h5, h6⟩
      rw [List.mem_append] at h4
      refine ⟨⟨⟨h1, h2, h3, fun q => h4 (.inl q)⟩, h5⟩, fun x hx => ?_⟩
      rcases List.mem_cons.1 hx with rfl | hx
      · exact fun q => h4 (.inr q)
      · exact h6 x hx
    · rintro ⟨⟨⟨h1, h2, h3, h4⟩, h5⟩, h6⟩
      refine ⟨⟨h1, h2, h3, fun q => ?_⟩, h5, fun x hx => h6 x (by simp [hx])⟩
      rcases List.mem_append.1 q with q | q
      · exact h4 q
      · exact h6 y (by simp) q
theorem barT_all (c m : Int) (S : List Int) (y : Int) : ∀ T, barT c m S y T = true ↔ ∀ t ∈ T, wayN c m S y t = 0
  | [] => by simp [barT]
  | t :: T => by
    unfold barT
    by_cases h : wayN c m S y t = 0
    · rw [if_pos h, barT_all c m S y T]; simp [h]
    · rw [if_neg h]; simp [h]
theorem barF_all (c m : Int) (S T : List Int) : ∀ Y, barF c m S T Y = true ↔ ∀ y ∈ Y, ∀ t ∈ T, wayN c m S y t = 0
  | [] => by simp [barF]
  | y :: Y => by
    unfold barF
    by_cases h : barT c m S y T = true
    · rw [if_pos h, barF_all c m S T Y]
      rw [barT_all] at h
      simp only [List.mem_cons, forall_eq_or_imp]
      exact ⟨fun q => ⟨h, q⟩, fun q => q.2⟩
    · rw [if_neg h]
      rw [barT_all] at h
      constructor
      · intro q; cases q
      · intro q; exact absurd (q y (by simp)) h
/-- shutting corners bars the carts just if all ways meet them. -/
theorem bar_met {r c m : Int} (hs : Side r c m) (S Y T C : List Int) (hY : ∀ y ∈ Y, 0 ≤ y ∧ y < m ∧ y ∉ S) : barB c m (S ++ C) Y T = rbrs c m S Y T C := by
  have hu := up_stL hs S
  have hu2 := up_stL hs (S ++ C)
  have hm := side_m hs
  rw [Bool.eq_iff_iff]
  unfold barB
  rw [barF_all]
  unfold rbrs
  simp only [List.all_eq_true]
  have key : ∀ y ∈ Y, ∀ t, (wayN c m (S ++ C) y t = 0 ↔ ∀ w ∈ rtL (stL c m S) t 16 y, metW w C = true) := fun y hy t => by
    obtain ⟨y0, y1, y2⟩ := hY y hy
    rw [wayN_len hs _ _ _ ⟨y0, y1⟩, List.length_eq_zero_iff]
    unfold wyL
    by_cases hC : y ∈ C
    · rw [if_pos (by simp [hC])]
      refine ⟨fun _ w hw => ?_, fun _ => rfl⟩
      obtain ⟨s, rfl⟩ := head_rtL _ _ _ _ _ hw
      unfold metW
      simp [hC]
    · rw [if_neg (by simp [hC, y2])]
      rw [List.eq_nil_iff_forall_not_mem]
      constructor
      · intro h w hw
        obtain ⟨s, rfl⟩ := head_rtL _ _ _ _ _ hw
        obtain ⟨g1, g2, g3⟩ := (mem_rtL hu t 16 y _ y0 y1 (by omega)).1 hw
        refine Classical.byContradiction fun hn => h (y :: s) ((mem_rtL hu2 t 16 y _ y0 y1 (by omega)).2 ⟨(Wy.more s y).2 ⟨g1, fun x hx hxC => hn ?_⟩, g2, g3⟩)
        unfold metW
        rw [List.any_eq_true]
        exact ⟨x, by simp [hx], by simpa using hxC⟩
      · intro h w hw
        obtain ⟨s, rfl⟩ := head_rtL _ _ _ _ _ hw
        obtain ⟨g1, g2, g3⟩ := (mem_rtL hu2 t 16 y _ y0 y1 (by omega)).1 hw
        obtain ⟨g4, g5⟩ := (Wy.more s y).1 g1
        have := h (y :: s) ((mem_rtL hu t 16 y _ y0 y1 (by omega)).2 ⟨g4, g2, g3⟩)
        unfold metW at this
        rw [List.any_eq_true] at this
        obtain ⟨x, hx, hxC⟩ := this
        have hxC' : x ∈ C := by simpa using hxC
        rcases List.mem_cons.1 hx with rfl | hx
        · exact hC hxC'
        · exact g5 x hx hxC'
  constructor
  · intro h y hy w hw
    unfold fyL at hw
    rw [mem_fyF] at hw
    rcases hw with ⟨t, ht, hw⟩ | hw
    · exact (key y hy t).1 (h y hy t ht) w hw
    · cases hw
  · intro h y hy t ht
    refine (key y hy t).2 fun w hw => h y hy w ?_
    unfold fyL
    rw [mem_fyF]
    exact .inl ⟨t, ht, hw⟩
/-- the first list of so many corners that bars the carts and begins with some (the reference). -/
def rbL (g : List Int → Nat → Option (List Int)) (b : List Int) : Nat → Nat → Option (List Int)
  | 0, _ => none
  | f + 1, i => match g (b ++ [(i : Int)]) (i + 1) with
    | some R => some R
    | none => rbL g b f (i + 1)
def rbE (c m : Int) (S Y T : List Int) : Nat → List Int → Nat → Option (List Int)
  | 0, b, _ => if rbrs c m S Y T b = true then some b else none
  | k + 1, b, i => rbL (fun b' i' => rbE c m S Y T k b' i') b (m.toNat - i) i
theorem rbL_eq {g g' : List Int → Nat → Option (List Int)} {S : List Int} (h : ∀ b i, g b i = (g' (S ++ b) i).map (b ++ ·)) (b : List Int) : ∀ (f i : Nat), rbL g b f i = (fbL g' (S ++ b) f i).map (b ++ ·)
  | 0, i => rfl
  | f + 1, i => by
    unfold rbL fbL
    rw [h, ← List.append_assoc]
    cases g' (S ++ b ++ [(i : Int)]) (i + 1) with
    | none => exact rbL_eq h b f (i + 1)
    | some R => simp
theorem rbE_eq {r c m : Int} (hs : Side r c m) (S Y T : List Int) (hY : ∀ y ∈ Y, 0 ≤ y ∧ y < m ∧ y ∉ S) : ∀ (k : Nat) (b : List Int) (i : Nat), rbE c m S Y T k b i = (fbE c m Y T k (S ++ b) i).map (b ++ ·)
  | 0, b, i => by
    unfold rbE fbE
    rw [bar_met hs S Y T b hY]
    split <;> simp
  | k + 1, b, i => by
    unfold rbE fbE
    exact rbL_eq (fun b' i' => rbE_eq hs S Y T hY k b' i') b _ _
end Go.Proofs.Ytflllkamdihfaaa
