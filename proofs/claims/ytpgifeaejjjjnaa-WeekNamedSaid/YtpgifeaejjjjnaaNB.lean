/- pure: other numbers of streets and days (nm_count), carts in the opposite order (fit_rev), corners of a plan (cut_fill) -/
import Derived.Test.YtpgifeaejjjjnaaFD
import Derived.Test.YtpgifeaejjjjnaaFK
import Derived.Test.YtpgifeaejjjjnaaFR
namespace Go.Proofs.Ytpgifeaejjjjnaa
open Go.RowKit Go.Sort
/-- the first i numbers of a list are the numbers below i in some order. -/
structure PmL (N i : Nat) (T : List Int) : Prop where
  len : T.length = N
  rng : ∀ j, j < i → 0 ≤ nth T j ∧ nth T j < i
  inj : ∀ j k, j < i → k < i → j ≠ k → nth T j ≠ nth T k
/-- two numbers of a list changed. -/
def swL (L : List Int) (i k : Nat) : List Int := (L.set i (nth L k)).set k (nth L i)
theorem swL_len (L : List Int) (i k : Nat) : (swL L i k).length = L.length := by unfold swL; simp
theorem swL_nth {L : List Int} {i k : Nat} (hi : i < L.length) (hk : k < L.length) (a : Nat) : nth (swL L i k) a = nth L (sw i k a) := by
  unfold swL
  rw [nth_set (by rw [List.length_set]; exact hk), nth_set hi]
  unfold sw
  by_cases h1 : a = k
  · rw [if_pos h1, if_pos h1]
  · rw [if_neg h1, if_neg h1]
    by_cases h2 : a = i
    · rw [if_pos h2, if_pos h2]
    · rw [if_neg h2, if_neg h2]
theorem PmL.zero {N : Nat} {T : List Int} (h : T.length = N) : PmL N 0 T := ⟨h, fun j hj => absurd hj (Nat.not_lt_zero j), fun _ _ hj => absurd hj (Nat.not_lt_zero _)⟩
theorem PmL.put {N i : Nat} {T : List Int} (h : PmL N i T) (hi : i < N) : PmL N (i + 1) (T.set i (i : Int)) := by
  have hl : i < T.length := by rw [h.len]; exact hi
  have key : ∀ a, nth (T.set i (i : Int)) a = if a = i then (i : Int) else nth T a := fun a => nth_set hl
  refine ⟨by rw [List.length_set]; exact h.len, fun j hj => ?_, fun j k hj hk hne => ?_⟩
  · rw [key]
    by_cases e : j = i
    · rw [if_pos e]; omega
    · rw [if_neg e]; have := h.rng j (by omega); omega
  · rw [key, key]
    by_cases e : j = i
    · rw [if_pos e, if_neg (by omega)]; have := h.rng k (by omega); omega
    · rw [if_neg e]
      by_cases e2 : k = i
      · rw [if_pos e2]; have := h.rng j (by omega); omega
      · rw [if_neg e2]; exact h.inj j k (by omega) (by omega) hne
theorem PmL.swap {N m i k : Nat} {T : List Int} (h : PmL N m T) (hm : m ≤ N) (hi : i < m) (hk : k < m) : PmL N m (swL T i k) := by
  have hl := h.len
  refine ⟨by rw [swL_len]; exact hl, fun j hj => ?_, fun j j' hj hj' hne => ?_⟩
  · rw [swL_nth (by omega) (by omega)]; exact h.rng _ (sw_lt hi hk hj)
  · rw [swL_nth (by omega) (by omega), swL_nth (by omega) (by omega)]
    exact h.inj _ _ (sw_lt hi hk hj) (sw_lt hi hk hj') fun e => hne (sw_inj e)
/-- no place changes from the first w to the others. -/
def WpL (i w : Nat) (T : List Int) : Prop := ∀ j, j < i → (nth T j < w ↔ j < w)
theorem WpL.zero (w : Nat) (T : List Int) : WpL 0 w T := fun j hj => absurd hj (Nat.not_lt_zero j)
theorem WpL.put {i w : Nat} {T : List Int} (h : WpL i w T) (hl : i < T.length) : WpL (i + 1) w (T.set i (i : Int)) := fun j hj => by
  rw [nth_set hl]
  by_cases e : j = i
  · rw [if_pos e]; omega
  · rw [if_neg e]; exact h j (by omega)
theorem WpL.swap {m w i k : Nat} {T : List Int} (h : WpL m w T) (hi : i < m) (hk : k < m) (hli : i < T.length) (hlk : k < T.length) (hs : i < w ↔ k < w) : WpL m w (swL T i k) := fun j hj => by
  rw [swL_nth hli hlk, h _ (sw_lt hi hk hj)]
  unfold sw
  by_cases h1 : j = k
  · rw [if_pos h1]; omega
  · rw [if_neg h1]
    by_cases h2 : j = i
    · rw [if_pos h2]; omega
    · rw [if_neg h2]
theorem PmL.inv {N : Nat} {T : List Int} (h : PmL N N T) : ∃ R, PmL N N R ∧ ∀ u, u < N → nth T (nth R u).toNat = u := by
  have hon : ∀ u, u < N → ∃ i, i < N ∧ (nth T i).toNat = u := Mh.onto (fun i hi => by have := h.rng i hi; omega) (fun i j hi hj hne => by
    have h1 := h.rng i hi
    have h2 := h.rng j hj
    have := h.inj i j hi hj hne
    omega)
  have hch : ∀ u, ∃ i, u < N → i < N ∧ (nth T i).toNat = u := fun u => by
    by_cases hu : u < N
    · obtain ⟨i, hi⟩ := hon u hu; exact ⟨i, fun _ => hi⟩
    · exact ⟨0, fun q => absurd q hu⟩
  obtain ⟨f, hf⟩ := Classical.axiomOfChoice hch
  have hfn : ∀ u, u < N → nth (rowOf N f) u = f u := fun u hu => rowOf_nth hu
  refine ⟨rowOf N f, ⟨rowOf_len _ _, fun j hj => ?_, fun j k hj hk hne => ?_⟩, fun u hu => ?_⟩
  · rw [hfn j hj]; have := (hf j hj).1; omega
  · rw [hfn j hj, hfn k hk]
    intro e
    have h1 := (hf j hj).2
    have h2 := (hf k hk).2
    have : f j = f k := by omega
    rw [this, h2] at h1
    exact hne h1.symm
  · rw [hfn u hu, Int.toNat_natCast]
    have h1 := hf u hu
    have := h.rng _ h1.1
    omega
/-- a row with other numbers of streets, and its days in another order. -/
def nmR (T F l : List Int) : List Int := F.map fun d => nth T (nth l d.toNat).toNat
theorem nmR_len (T F l : List Int) : (nmR T F l).length = F.length := by unfold nmR; simp
theorem nmR_nth {T F l : List Int} {d : Nat} (h : d < F.length) : nth (nmR T F l) d = nth T (nth l (nth F d).toNat).toNat := by
  unfold nmR
  rw [nth_eq, List.getElem?_map, nth_eq F, List.getElem?_eq_getElem h]; rfl
theorem nmR_ord {N : Nat} {T F l : List Int} (hT : PmL N N T) (hF : PmL N N F) (hl : l ∈ ordT N N []) : nmR T F l ∈ ordT N N [] := by
  have hfl := hF.len
  have e : nmR T F l = rowOf N (fun d => (nth T (nth l (nth F d).toNat).toNat).toNat) := by
    refine nth_same (by rw [nmR_len, rowOf_len, hfl]) fun d hd => ?_
    rw [nmR_len] at hd
    rw [nmR_nth hd, rowOf_nth (by omega)]
    have h1 := hF.rng d (by omega)
    have h2 := ord_in hl (k := (nth F d).toNat) (by omega)
    have h3 := hT.rng (nth l (nth F d).toNat).toNat (by omega)
    omega
  rw [e]
  have hnd := nodup_take.1 (mem_ord.1 hl).2.2
  have hll := ord_len hl
  refine rowOf_ord (fun d hd => ?_) (fun d d' hd hd' hne => ?_)
  · have h1 := hF.rng d hd
    have h2 := ord_in hl (k := (nth F d).toNat) (by omega)
    have h3 := hT.rng (nth l (nth F d).toNat).toNat (by omega)
    omega
  · have h1 := hF.rng d hd
    have h1' := hF.rng d' hd'
    have h0 := hF.inj d d' hd hd' hne
    have h2 := ord_in hl (k := (nth F d).toNat) (by omega)
    have h2' := ord_in hl (k := (nth F d').toNat) (by omega)
    have h3 := hT.rng (nth l (nth F d).toNat).toNat (by omega)
    have h3' := hT.rng (nth l (nth F d').toNat).toNat (by omega)
    have hx : nth l (nth F d).toNat ≠ nth l (nth F d').toNat := by
      rcases Nat.lt_or_gt_of_ne (show (nth F d).toNat ≠ (nth F d').toNat by omega) with hlt | hgt
      · exact hnd _ _ hlt (by omega)
      · exact fun q => hnd _ _ hgt (by omega) q.symm
    have := hT.inj (nth l (nth F d).toNat).toNat (nth l (nth F d').toNat).toNat (by omega) (by omega) (by omega)
    omega
theorem lth_map {zss : List (List Int)} {f : List Int → List Int} {i : Nat} (h : i < zss.length) : lth (zss.map f) i = f (lth zss i) := by
  rw [lth_eq, List.getElem?_map, lth_eq, List.getElem?_eq_getElem h]; rfl
theorem nm_plan {N : Nat} {T F : List Int} {P : List (List Int)} (hT : PmL N N T) (hF : PmL N N F) (hP : Plan N P) : Plan N (P.map (nmR T F)) := by
  refine ⟨by rw [List.length_map]; exact hP.len, fun i hi => ?_, fun i j hij hj d hd => ?_⟩
  · rw [List.length_map] at hi
    rw [lth_map hi]; exact nmR_ord hT hF (hP.row i hi)
  · rw [List.length_map] at hj
    have hfl := hF.len
    rw [lth_map (by omega), lth_map hj, nmR_nth (by omega), nmR_nth (by omega)]
    have h1 := hF.rng d hd
    have h2 := ord_in (hP.row i (by omega)) (k := (nth F d).toNat) (by omega)
    have h3 := ord_in (hP.row j hj) (k := (nth F d).toNat) (by omega)
    have h4 := hP.col i j hij hj (nth F d).toNat (by omega)
    exact hT.inj _ _ (by omega) (by omega) (by omega)
theorem nm_le {N : Nat} {T F : List Int} {P : List (List Int)} (hT : PmL N N T) (hF : PmL N N F) (hP : Plan N P) : (fitL N P).length ≤ (fitL N (P.map (nmR T F))).length := by
  have hfl := hF.len
  obtain ⟨R, hR, hRF⟩ := hF.inv
  have hinj : ∀ r r', r ∈ ordT N N [] → r' ∈ ordT N N [] → nmR T F r = nmR T F r' → r = r' := fun r r' hr hr' e => by
    refine ord_ext hr hr' fun d hd => ?_
    have hRd := hR.rng d hd
    have h1 := congrArg (fun l => nth l (nth R d).toNat) e
    simp only [nmR_nth (T := T) (l := r) (show (nth R d).toNat < F.length by omega), nmR_nth (T := T) (l := r') (show (nth R d).toNat < F.length by omega)] at h1
    rw [hRF d hd, Int.toNat_natCast] at h1
    have a1 := ord_in hr hd
    have a2 := ord_in hr' hd
    refine Classical.byContradiction fun hne => hT.inj _ _ (by omega) (by omega) hne h1
  have hnd : ((fitL N P).map (nmR T F)).Nodup := by
    unfold List.Nodup
    rw [List.pairwise_map]
    refine List.Pairwise.imp_of_mem (fun {a b} ha hb hab => ?_) (List.Pairwise.filter _ (ord_nodup N N []))
    exact fun e => hab (hinj a b (List.mem_filter.1 ha).1 (List.mem_filter.1 hb).1 e)
  have hsub : (fitL N P).map (nmR T F) ⊆ fitL N (P.map (nmR T F)) := fun x hx => by
    obtain ⟨r, hr, rfl⟩ := List.mem_map.1 hx
    obtain ⟨q1, q2⟩ := List.mem_filter.1 hr
    have q3 := (am_iff (ord_len q1)).1 (by simpa using q2)
    have q4 := nmR_ord hT hF q1
    refine List.mem_filter.2 ⟨q4, ?_⟩
    have : amE N (P.map (nmR T F)) (nmR T F r) = 0 := (am_iff (ord_len q4)).2 ⟨q4, fun d hd => tkn_no.2 fun i hi => ?_⟩
    · simpa using this
    · rw [List.length_map] at hi
      rw [lth_map hi, nmR_nth (by omega), nmR_nth (by omega)]
      have h1 := hF.rng d hd
      have h2 := ord_in (hP.row i hi) (k := (nth F d).toNat) (by omega)
      have h3 := ord_in q1 (k := (nth F d).toNat) (by omega)
      have h4 := tkn_no.1 (q3.2 (nth F d).toNat (by omega)) i hi
      exact hT.inj _ _ (by omega) (by omega) (by omega)
  have := Mh.nodup_le hnd hsub
  rwa [List.length_map] at this
theorem nm_count {N : Nat} {T F : List Int} {P : List (List Int)} (hT : PmL N N T) (hF : PmL N N F) (hP : Plan N P) : (fitL N (P.map (nmR T F))).length = (fitL N P).length := by
  obtain ⟨R, hR, hRT⟩ := hT.inv
  obtain ⟨S, hS, hSF⟩ := hF.inv
  have hfl := hF.len
  have hsl := hS.len
  have hback : (P.map (nmR T F)).map (nmR R S) = P := by
    refine lth_ext (by simp) fun i hi => ?_
    rw [List.length_map, List.length_map] at hi
    rw [lth_map (by rw [List.length_map]; exact hi), lth_map hi]
    have hro := hP.row i hi
    refine nth_same (by rw [nmR_len, hsl, ord_len hro]) fun d hd => ?_
    rw [nmR_len, hsl] at hd
    have h1 := hS.rng d hd
    rw [nmR_nth (by omega), nmR_nth (by omega), hSF d hd, Int.toNat_natCast]
    have h2 := ord_in hro hd
    have h3 := hT.rng (nth (lth P i) d).toNat (by omega)
    have h4 := hR.rng (nth T (nth (lth P i) d).toNat).toNat (by omega)
    have h5 := hRT (nth T (nth (lth P i) d).toNat).toNat (by omega)
    have h6 : (nth R (nth T (nth (lth P i) d).toNat).toNat).toNat = (nth (lth P i) d).toNat := by
      refine Classical.byContradiction fun hne => hT.inj _ _ (by omega) (by omega) hne ?_
      omega
    omega
  have h1 := nm_le hT hF hP
  have h2 := nm_le hR hS (nm_plan hT hF hP)
  rw [hback] at h2
  omega
theorem fit_rev (N : Nat) (P : List (List Int)) : fitL N P.reverse = fitL N P := by
  unfold fitL
  refine List.filter_congr fun r hr => ?_
  rw [Bool.eq_iff_iff, beq_iff_eq, beq_iff_eq, am_iff (ord_len hr), am_iff (ord_len hr)]
  have : ∀ d s, tkn P.reverse d s = tkn P d s := fun d s => by unfold tkn; rw [List.any_reverse]
  simp only [this]
theorem lth_rev {P : List (List Int)} {i : Nat} (h : i < P.length) : lth P.reverse i = lth P (P.length - 1 - i) := by
  rw [lth_eq, lth_eq, List.getElem?_reverse h]
theorem rev_plan {N : Nat} {P : List (List Int)} (hP : Plan N P) : Plan N P.reverse := by
  refine ⟨by rw [List.length_reverse]; exact hP.len, fun i hi => ?_, fun i j hij hj d hd => ?_⟩
  · rw [List.length_reverse] at hi
    rw [lth_rev hi]; exact hP.row _ (by omega)
  · rw [List.length_reverse] at hj
    rw [lth_rev (by omega), lth_rev hj]
    exact fun q => hP.col (P.length - 1 - j) (P.length - 1 - i) (by omega) (by omega) d hd q.symm
/-- the corner of a plan is one, and can be completed. -/
theorem cut_cor {N w : Nat} {P : List (List Int)} (h1 : 1 ≤ N) (h5 : N ≤ 5) (hP : Plan N P) (hw : w ≤ N) : corE N (P.map (List.take w)) = 0 := by
  have hs : sizeE N (P.map (List.take w)).length = 0 := by
    have := hP.len
    rw [List.length_map]
    unfold sizeE
    split
    · omega
    · split
      · omega
      · rfl
  have hwl : ∀ i, i < P.length → (lth (P.map (List.take w)) i).length = w := fun i hi => by
    rw [lth_map hi, List.length_take, ord_len (hP.row i hi)]; omega
  have hnt : ∀ i d, i < P.length → d < w → nth (lth (P.map (List.take w)) i) d = nth (lth P i) d := fun i d hi hd => by
    rw [lth_map hi, nth_take _ _ _ hd]
  unfold corE
  rw [if_pos hs]
  have key : ∀ (t : List (List Int)) (k : Nat), k + t.length = P.length → (∀ i, i < t.length → lth t i = lth (P.map (List.take w)) (k + i)) → coG N (P.map (List.take w)) t k = 0 := by
    intro t
    induction t with
    | nil => intro k _ _; rfl
    | cons l t ih =>
      intro k hk ht
      have hl : l = lth (P.map (List.take w)) k := by have := ht 0 (by simp); exact this
      have hkl : k < P.length := by simp at hk; omega
      have hr := hP.row k hkl
      have hll : l.length = w := by rw [hl]; exact hwl k hkl
      have ha : amE N ((P.map (List.take w)).take k) l = 0 := by
        refine am_zero fun d hd => ?_
        rw [hll] at hd
        have hnd : nth l d = nth (lth P k) d := by rw [hl]; exact hnt k d hkl hd
        refine ⟨inB_iff.2 (by rw [hnd]; exact ord_in hr (by omega)), ?_, ?_⟩
        · rw [← Bool.not_eq_true, take_has (by omega)]
          rintro ⟨j, hj, e⟩
          have hj' : nth l j = nth (lth P k) j := by rw [hl]; exact hnt k j hkl (by omega)
          rw [hj', hnd] at e
          exact nodup_take.1 (mem_ord.1 hr).2.2 j d hj (by rw [ord_len hr]; omega) e
        · refine (tkn_take (by rw [List.length_map]; omega)).2 fun j hj => ?_
          rw [hnt j d (by omega) hd, hnd]
          exact hP.col j k hj hkl d (by omega)
      unfold coG
      rw [if_pos ⟨by rw [hll, hwl 0 (by omega)], by omega⟩, if_pos ha]
      refine ih (k + 1) (by simp at hk; omega) fun i hi => ?_
      have := ht (i + 1) (by simp; omega)
      rw [show k + 1 + i = k + (i + 1) by omega]
      exact this
  exact key (P.map (List.take w)) 0 (by simp) (fun i _ => by rw [Nat.zero_add])
theorem cut_fill {N w : Nat} {P : List (List Int)} (h1 : 1 ≤ N) (h5 : N ≤ 5) (hP : Plan N P) (hw : w ≤ N) : filE N (P.map (List.take w)) = 0 ∧ whyE N (P.map (List.take w)) = 13 := by
  have hc := cut_cor h1 h5 hP hw
  have hs : (flR N (P.map (List.take w)) []).isSome = true := flR_some _ [] P (by simp) (by simpa using hP) fun i hi => by
    rw [List.length_map] at hi
    rw [lth_map hi]
    exact ⟨(lth P i).drop w, (List.take_append_drop w (lth P i)).symm⟩
  have hb : ¬ (barF N (P.map (List.take w))).isSome = true := fun q => barF_some.1 q ((flR_bar hc).1 hs)
  unfold filE whyE
  rw [if_pos hc, if_pos hc, Int.toNat_natCast, if_neg hb, if_neg hb]
  exact ⟨rfl, rfl⟩
end Go.Proofs.Ytpgifeaejjjjnaa
