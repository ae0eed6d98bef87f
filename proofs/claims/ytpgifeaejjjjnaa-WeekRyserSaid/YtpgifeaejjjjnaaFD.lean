/- pure: a corner can be filled just if no street bars it (flR_bar); fil_ref -/
import Derived.Test.YtpgifeaejjjjnaaFB
import Derived.Test.YtpgifeaejjjjnaaED
namespace Go.Proofs.Ytpgifeaejjjjnaa
open Go.RowKit Go.Sort
theorem cor_part {n : Nat} {zss : List (List Int)} (h : corE n zss = 0) : Part n zss := by
  obtain ⟨_, _, h3, h4⟩ := cor_rows h
  have hin := fun i hi => am_in (h4 i hi).2.2
  have key : ∀ i j, i < j → j < zss.length → ∀ d, d < (lth zss j).length → nth (lth zss i) d ≠ nth (lth zss j) d := fun i j hij hj d hd => (tkn_take (by omega)).1 (hin j hj d hd).2.2.2 i hij
  refine ⟨by omega, fun i hi => by have := (h4 i hi).2.1; omega, fun i hi x hx => ?_, fun i hi => nodup_am (h4 i hi).2.2, fun i j hij hi hj d hdi hdj => ?_⟩
  · obtain ⟨k, hk, e⟩ := List.mem_iff_getElem.1 hx
    have := hin i hi k hk
    rw [nth_eq, List.getElem?_eq_getElem hk, Option.getD_some, e] at this
    exact ⟨this.1, this.2.1⟩
  · rcases Nat.lt_or_gt_of_ne hij with hlt | hgt
    · exact key i j hlt hj d hdj
    · exact fun e => key j i hgt hi d hdi e.symm
theorem part_lat {n w : Nat} {zss : List (List Int)} (h : Part n zss) (hw : ∀ i, i < zss.length → w ≤ (lth zss i).length) : Mh.Lat n zss.length w (cOf zss) := by
  have hin : ∀ i j, i < zss.length → j < w → 0 ≤ nth (lth zss i) j ∧ nth (lth zss i) j < n := fun i j hi hj => h.rng i hi _ (nth_mem (Nat.lt_of_lt_of_le hj (hw i hi)))
  refine ⟨fun i j hi hj => ?_, fun i hi j j' hj hj' hne => ?_, fun j hj i i' hi hi' hne => ?_⟩
  · have := hin i j hi hj; unfold cOf; omega
  · have h1 := hin i j hi hj
    have h2 := hin i j' hi hj'
    have hnd := nodup_take.1 (h.nod i hi)
    have hl := hw i hi
    have : nth (lth zss i) j ≠ nth (lth zss i) j' := by
      rcases Nat.lt_or_gt_of_ne hne with hlt | hgt
      · exact hnd j j' hlt (by omega)
      · exact fun e => hnd j' j hgt (by omega) e.symm
    unfold cOf; omega
  · have h1 := hin i j hi hj
    have h2 := hin i' j hi' hj
    have : nth (lth zss i) j ≠ nth (lth zss i') j := h.col i i' hne hi hi' j (Nat.lt_of_lt_of_le hj (hw i hi)) (Nat.lt_of_lt_of_le hj (hw i' hi'))
    unfold cOf; omega
theorem has_cof {n w k : Nat} {zss : List (List Int)} (h : Part n zss) (hk : k < zss.length) (hw : (lth zss k).length = w) (s : Nat) : Mh.has (cOf zss) w k s = (lth zss k).contains (s : Int) := by
  rw [Bool.eq_iff_iff, Mh.has_iff, List.contains_iff_mem]
  constructor
  · rintro ⟨j, hj, e⟩
    have h1 := h.rng k hk _ (nth_mem (l := lth zss k) (k := j) (by omega))
    have : nth (lth zss k) j = (s : Int) := by unfold cOf at e; omega
    exact this ▸ nth_mem (by omega)
  · intro hm
    obtain ⟨j, hj, e⟩ := List.mem_iff_getElem.1 hm
    refine ⟨j, by omega, ?_⟩
    unfold cOf
    rw [nth_eq, List.getElem?_eq_getElem hj, Option.getD_some, e, Int.toNat_natCast]
theorem hasN_nOf {n w : Nat} {zss : List (List Int)} (h : Part n zss) (hw : ∀ i, i < zss.length → (lth zss i).length = w) (s : Nat) : ∀ k, k ≤ zss.length → hasN zss (s : Int) k = Mh.nOf (cOf zss) k w s
  | 0, _ => by rw [hasN_zero]; rfl
  | k + 1, hk => by
    rw [hasN_succ _ _ _ (by omega), hasN_nOf h hw s k (by omega)]
    unfold Mh.nOf
    rw [List.range_succ, List.countP_append, List.countP_singleton, has_cof h (by omega) (hw k (by omega))]
theorem bars_nOf {n : Nat} {zss : List (List Int)} (h : corE n zss = 0) (s : Nat) : barsE n zss (s : Int) = false ↔ zss.length + (lth zss 0).length ≤ Mh.nOf (cOf zss) zss.length (lth zss 0).length s + n := by
  rw [← bars_same _ h]
  unfold barR
  rw [hasN_nOf (cor_part h) (fun i hi => ((cor_rows h).2.2.2 i hi).1) s _ (Nat.le_refl _), decide_eq_false_iff_not]
  omega
/-- a square of numbers is a plan. -/
theorem lat_plan {n : Nat} {c : Nat → Nat → Nat} (h : Mh.Lat n n n c) : Plan n ((List.range n).map fun i => rowOf n (c i)) ∧ ∀ i, i < n → lth ((List.range n).map fun i => rowOf n (c i)) i = rowOf n (c i) := by
  obtain ⟨h1, h2, h3⟩ := h
  have hl : ∀ i, i < n → lth ((List.range n).map fun i => rowOf n (c i)) i = rowOf n (c i) := fun i hi => by
    rw [lth_eq, List.getElem?_map, List.getElem?_range hi]; rfl
  have hlen : ((List.range n).map fun i => rowOf n (c i)).length = n := by simp
  refine ⟨⟨by omega, fun i hi => ?_, fun i j hij hj d hd => ?_⟩, hl⟩
  · rw [hl i (by omega)]
    exact rowOf_ord (fun d hd => h1 i d (by omega) hd) (fun d e hd he hne => h2 i (by omega) d e hd he hne)
  · rw [hl i (by omega), hl j (by omega), rowOf_nth hd, rowOf_nth hd]
    have := h3 d hd i j (by omega) (by omega) (by omega)
    omega
theorem lth_right (b R : List (List Int)) (i : Nat) : lth (b ++ R) (b.length + i) = lth R i := by
  rw [lth_eq, List.getElem?_append_right (by omega), lth_eq]; congr 2; omega
theorem lth_left (b R : List (List Int)) (i : Nat) (h : i < b.length) : lth (b ++ R) i = lth b i := by
  rw [lth_eq, List.getElem?_append_left h, lth_eq]
theorem nth_left (a u : List Int) (d : Nat) (h : d < a.length) : nth (a ++ u) d = nth a d := by
  rw [nth_eq, List.getElem?_append_left h, nth_eq]
/-- where there is a plan that goes on with lists, one is found. -/
theorem flR_some {n : Nat} : ∀ (t b R : List (List Int)), R.length = t.length → Plan n (b ++ R) → (∀ i, i < t.length → ∃ u, lth R i = lth t i ++ u) → (flR n t b).isSome = true
  | [], _, _, _, _, _ => rfl
  | c :: t, b, R, hR, hp, hu => by
    cases R with
    | nil => simp at hR
    | cons r R =>
      obtain ⟨u, e⟩ := hu 0 (by simp)
      have e : r = c ++ u := e
      have hk : b.length < (b ++ r :: R).length := by simp
      have hrow := hp.row _ hk
      rw [lth_mid] at hrow
      obtain ⟨o1, o2, o3⟩ := mem_ord.1 hrow
      have hmem : r ∈ ordT n (n - c.length) c := by
        rw [e] at o1 o2 o3 ⊢
        rw [List.length_append] at o1
        obtain ⟨n1, n2, n3⟩ := List.nodup_append.1 o3
        exact (mem_ordT n _ _ _).2 ⟨u, rfl, by omega, fun x hx => o2 x (List.mem_append_right _ hx), n2, fun x hx hxc => n3 x hxc x hx rfl⟩
      have hfr : frB n b t r = true := by
        unfold frB
        rw [List.all_eq_true]
        intro d hd
        have hdn := List.mem_range.1 hd
        rw [← Bool.not_or, Bool.not_eq_true', ← Bool.not_eq_true, Bool.or_eq_true, met_iff, met_iff]
        rintro (⟨l, hl, h1, h2⟩ | ⟨l, hl, h1, h2⟩)
        · obtain ⟨i, hi, rfl⟩ := lth_mem hl
          have := hp.col i b.length hi hk d hdn
          rw [lth_mid, lth_left _ _ _ hi] at this
          exact this h2
        · obtain ⟨i, hi, rfl⟩ := lth_mem hl
          obtain ⟨u', e'⟩ := hu (i + 1) (by simp; omega)
          have e' : lth R i = lth t i ++ u' := e'
          have hiR : i < R.length := by simp at hR; omega
          have := hp.col b.length (b.length + (i + 1)) (by omega) (by simp; omega) d hdn
          rw [lth_mid, lth_right] at this
          have e2 : lth (r :: R) (i + 1) = lth R i := rfl
          rw [e2, e', nth_left _ _ _ h1, h2] at this
          exact this rfl
      rw [flR, List.findSome?_isSome_iff]
      refine ⟨r, List.mem_filter.2 ⟨hmem, hfr⟩, flR_some t (b ++ [r]) R (by simpa using hR) (by rw [List.append_assoc]; exact hp) fun i hi => hu (i + 1) (by simp; omega)⟩
/-- what is found is a plan that goes on with the lists. -/
theorem flR_good {n : Nat} : ∀ (t b z : List (List Int)), Part n (b ++ t) → (∀ i, i < b.length → (lth b i).length = n) → flR n t b = some z →
    Plan n z ∧ z.length = b.length + t.length ∧ (∀ i, i < b.length → lth z i = lth b i) ∧ ∀ i, i < t.length → ∃ u, lth z (b.length + i) = lth t i ++ u
  | [], b, z, h, hb, he => by
    rw [flR] at he
    cases he
    rw [List.append_nil] at h
    exact ⟨h.plan hb, by simp, fun _ _ => rfl, fun i hi => absurd hi (by simp)⟩
  | c :: t, b, z, h, hb, he => by
    rw [flR] at he
    obtain ⟨r, hr, he⟩ := List.exists_of_findSome?_eq_some he
    obtain ⟨h1, h2⟩ := List.mem_filter.1 hr
    obtain ⟨u, hu, hul, _⟩ := (mem_ordT n _ _ _).1 h1
    have hc := h.wid b.length (by simp)
    rw [lth_mid] at hc
    have hrl : r.length = n := by rw [hu, List.length_append]; omega
    obtain ⟨g1, g2, g3, g4⟩ := flR_good t (b ++ [r]) z (part_row h h1 h2) (fun i hi => by
      rw [List.length_append, List.length_singleton] at hi
      rcases Nat.lt_or_ge i b.length with hl | hl
      · rw [lth_app1 _ _ _ hl]; exact hb i hl
      · obtain rfl : i = b.length := by omega
        rw [lth_app2]; exact hrl) he
    refine ⟨g1, by rw [g2]; simp; omega, fun i hi => ?_, fun i hi => ?_⟩
    · rw [g3 i (by simp; omega), lth_app1 _ _ _ hi]
    · cases i with
      | zero => exact ⟨u, by rw [Nat.add_zero, g3 _ (by simp), lth_app2, hu]; rfl⟩
      | succ i =>
        obtain ⟨u', hu'⟩ := g4 i (by simp at hi; omega)
        rw [List.length_append, List.length_singleton] at hu'
        exact ⟨u', by rw [show b.length + (i + 1) = b.length + 1 + i by omega, hu']; rfl⟩
/-- a plan is found just if no street bars the corner. -/
theorem flR_bar {n : Nat} {zss : List (List Int)} (h : corE n zss = 0) : (flR n zss []).isSome = true ↔ ∀ s : Nat, s < n → barsE n zss (s : Int) = false := by
  obtain ⟨c1, c5, cl, hr⟩ := cor_rows h
  have hp := cor_part h
  have hw : (lth zss 0).length ≤ n := by
    rcases Nat.eq_zero_or_pos zss.length with h0 | h0
    · rw [lth_eq, List.getElem?_eq_none (by omega)]; simp
    · exact hp.wid 0 h0
  constructor
  · intro hs s hsn
    obtain ⟨z, hz⟩ := Option.isSome_iff_exists.1 hs
    obtain ⟨g1, g2, _, g4⟩ := flR_good zss [] z hp (fun i hi => absurd hi (by simp)) hz
    rw [List.length_nil, Nat.zero_add] at g2
    obtain ⟨p1, p2⟩ := grd_plan (n - z.length) z g1 (by have := g1.len; omega)
    obtain ⟨c', e', l'⟩ := Mh.rows (n - z.length) z.length (cOf z) (by have := g1.len; omega) (plan_lat g1)
    refine (bars_nOf h s).2 (Mh.ryser_only (by omega) hw (c' := c') (fun i j hi hj => ?_) l' s hsn)
    rw [e' i j (by omega)]
    obtain ⟨u, hu⟩ := g4 i hi
    rw [List.length_nil, Nat.zero_add] at hu
    unfold cOf
    rw [hu, nth_left _ _ _ (by rw [(hr i hi).1]; exact hj)]
  · intro hb
    obtain ⟨c', e', l'⟩ := Mh.ryser (by omega) hw (part_lat hp (w := (lth zss 0).length) fun i hi => by rw [(hr i hi).1]; exact Nat.le_refl _) fun s hs => (bars_nOf h s).1 (hb s hs)
    obtain ⟨q1, q2⟩ := lat_plan l'
    refine flR_some zss [] (((List.range n).map fun i => rowOf n (c' i)).take zss.length) (by simp; omega) ?_ fun i hi => ?_
    · rw [List.nil_append]
      have hlen : ((List.range n).map fun i => rowOf n (c' i)).length = n := by simp
      have htl : (((List.range n).map fun i => rowOf n (c' i)).take zss.length).length = zss.length := by rw [List.length_take, hlen]; omega
      refine ⟨by omega, fun i hi => ?_, fun i j hij hj d hd => ?_⟩
      · rw [lth_take _ _ _ (by omega)]; exact q1.row i (by omega)
      · rw [lth_take _ _ _ (by omega), lth_take _ _ _ (by omega)]; exact q1.col i j hij (by omega) d hd
    · rw [lth_take _ _ _ hi, q2 i (by omega)]
      refine ⟨(rowOf n (c' i)).drop (lth zss i).length, ?_⟩
      have hwi := hp.wid i hi
      have : lth zss i = (rowOf n (c' i)).take (lth zss i).length := by
        refine nth_same (by rw [List.length_take, rowOf_len]; omega) fun j hj => ?_
        rw [nth_take _ _ _ hj, rowOf_nth (by omega), e' i j hi (by rw [← (hr i hi).1]; exact hj)]
        have := (hp.rng i hi _ (nth_mem hj)).1
        unfold cOf
        omega
      conv => lhs; rw [← List.take_append_drop (lth zss i).length (rowOf n (c' i)), ← this]
theorem barF_some {n : Nat} {zss : List (List Int)} : (barF n zss).isSome = true ↔ ¬ ∀ s : Nat, s < n → barsE n zss (s : Int) = false := by
  unfold barF
  rw [List.findSome?_isSome_iff]
  constructor
  · rintro ⟨s, hs, h⟩ hb
    rw [hb s (List.mem_range.1 hs)] at h
    simp at h
  · intro h
    refine Classical.byContradiction fun hn => h fun s hs => ?_
    cases hb : barsE n zss (s : Int)
    · rfl
    · exact absurd ⟨s, List.mem_range.2 hs, by rw [hb]; rfl⟩ hn
/-- what the reference's Fill answers. -/
def filRE (c : Int) (zss : List (List Int)) : Int := if corE c zss = 0 then (if (flR c.toNat zss []).isSome = true then 0 else 12) else corE c zss
def fin (n : Nat) : Option (List (List Int)) → List (List Int)
  | some z => grdF n (n - z.length) z
  | none => []
def filRL (c : Int) (zss : List (List Int)) : List (List Int) := if corE c zss = 0 then fin c.toNat (flR c.toNat zss []) else []
theorem fil_ref (c : Int) (zss : List (List Int)) : filE c zss = filRE c zss ∧ filL c zss = filRL c zss := by
  unfold filE filRE filL filRL
  by_cases h : corE c zss = 0
  · obtain ⟨c1, c5, cl, hr⟩ := cor_rows h
    obtain ⟨n, rfl⟩ := Int.eq_ofNat_of_zero_le (show 0 ≤ c by omega)
    rw [Int.toNat_natCast, if_pos h, if_pos h, if_pos h, if_pos h]
    have hb : (barF n zss).isSome = true ↔ ¬ (flR n zss []).isSome = true := by rw [barF_some, flR_bar h]
    by_cases hf : (flR n zss []).isSome = true
    · rw [if_pos hf, if_neg (fun q => hb.1 q hf), if_neg (fun q => hb.1 q hf)]
      refine ⟨rfl, ?_⟩
      obtain ⟨z, hz⟩ := Option.isSome_iff_exists.1 hf
      have hp := cor_part h
      obtain ⟨g1, g2, _, _⟩ := flR_good zss [] z hp (fun i hi => absurd hi (by simp)) hz
      obtain ⟨p1, p2⟩ := grd_plan (n - z.length) z g1 (by have := g1.len; omega)
      have hq := fill_flR zss [] hp (fun i hi => absurd hi (by simp))
      rw [List.nil_append, List.length_nil, Nat.sub_zero, Nat.zero_mul, hz] at hq
      unfold fullF
      rw [hq, hz]
      exact grid_kn p1 p2
    · rw [if_neg hf, if_pos (hb.2 hf), if_pos (hb.2 hf)]
      refine ⟨rfl, ?_⟩
      rw [Option.not_isSome_iff_eq_none.1 hf]; rfl
  · rw [if_neg h, if_neg h, if_neg h, if_neg h]; exact ⟨rfl, rfl⟩
end Go.Proofs.Ytpgifeaejjjjnaa
