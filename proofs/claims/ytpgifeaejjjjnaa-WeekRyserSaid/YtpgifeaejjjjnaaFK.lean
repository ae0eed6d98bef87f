/- pure: the free streets of a day, on how many days a street is free (fcn_all), what WeekFilled's times read (tmR) -/
import Derived.Test.YtpgifeaejjjjnaaCU
namespace Go.Proofs.Ytpgifeaejjjjnaa
open Go.RowKit Go.Sort
theorem frT_eq (zss : List (List Int)) (d : Nat) : ∀ m, frT zss d m = ((List.range m).filter fun (s : Nat) => !tkn zss d (s : Int)).map (fun (s : Nat) => (s : Int))
  | 0 => rfl
  | m + 1 => by
    rw [List.range_succ, List.filter_append, List.map_append, ← frT_eq zss d m]
    show (if tkn zss d m = true then frT zss d m else frT zss d m ++ [(m : Int)]) = _
    cases h : tkn zss d (m : Int) <;> simp [h]
theorem frT_mem {zss : List (List Int)} {d m s : Nat} : (s : Int) ∈ frT zss d m ↔ s < m ∧ tkn zss d (s : Int) = false := by
  rw [frT_eq, List.mem_map]
  constructor
  · rintro ⟨u, hu, e⟩
    obtain rfl : u = s := by omega
    rw [List.mem_filter, List.mem_range] at hu
    exact ⟨hu.1, by simpa using hu.2⟩
  · rintro ⟨h1, h2⟩
    exact ⟨s, by rw [List.mem_filter, List.mem_range]; exact ⟨h1, by simp [h2]⟩, rfl⟩
theorem frT_nth {zss : List (List Int)} {d m k : Nat} (hk : k < (frT zss d m).length) : ∃ s : Nat, nth (frT zss d m) k = s ∧ s < m ∧ tkn zss d (s : Int) = false := by
  have h := nth_mem hk
  generalize nth (frT zss d m) k = x at h ⊢
  have h2 := h
  rw [frT_eq, List.mem_map] at h2
  obtain ⟨u, _, e⟩ := h2
  subst e
  obtain ⟨q1, q2⟩ := frT_mem.1 h
  exact ⟨u, rfl, q1, q2⟩
theorem frT_pair (zss : List (List Int)) (d m : Nat) : (frT zss d m).Pairwise (· < ·) := by
  rw [frT_eq]
  refine List.Pairwise.map _ (fun a b hab => ?_) (List.Pairwise.filter _ List.pairwise_lt_range)
  omega
theorem frT_asc {zss : List (List Int)} {d m j k : Nat} (hjk : j < k) (hk : k < (frT zss d m).length) : nth (frT zss d m) j < nth (frT zss d m) k := by
  have := List.pairwise_iff_getElem.1 (frT_pair zss d m) j k (by omega) hk hjk
  rwa [nth_eq, nth_eq, List.getElem?_eq_getElem (by omega), List.getElem?_eq_getElem hk]
/-- on how many of the first days a street is free. -/
def fcn (P : List (List Int)) (d s : Nat) : Nat := (List.range d).countP fun e => !tkn P e (s : Int)
theorem fcn_succ (P : List (List Int)) (d s : Nat) : fcn P (d + 1) s = fcn P d s + (if tkn P d (s : Int) = false then 1 else 0) := by
  unfold fcn
  rw [List.range_succ, List.countP_append, List.countP_singleton]
  cases tkn P d (s : Int) <;> rfl
theorem fcn_all {n : Nat} {P : List (List Int)} (h : Plan n P) {s : Nat} (hs : s < n) : fcn P n s = n - P.length := by
  have h1 := (Mh.lat_free (plan_lat h) h.len).2 s hs
  rw [← h1]
  unfold fcn
  refine List.countP_congr fun d hd => ?_
  have hdn := List.mem_range.1 hd
  rw [Mh.fr_iff, Bool.not_eq_true', tkn_no]
  constructor
  · intro h2 i hi e
    have := h2 i hi
    have h3 := ord_in (h.row i hi) hdn
    unfold cOf at e
    omega
  · intro h2 i hi e
    exact h2 i hi (by unfold cOf; omega)
/-- what times reads after some days, and some streets of the next one. -/
def tmR (n : Nat) (P : List (List Int)) (d k : Nat) (ts : List Int) : Prop := ts.length = n ∧ ∀ s : Nat, s < n → nth ts s = (fcn P d s : Int) + (if (s : Int) ∈ (frT P d n).take k then 1 else 0)
theorem tmR_zero (n : Nat) (P : List (List Int)) (ts : List Int) (hl : ts.length = n) (hz : ∀ s, s < n → nth ts s = 0) : tmR n P 0 0 ts := by
  refine ⟨hl, fun s hs => ?_⟩
  rw [hz s hs]
  simp [fcn]
theorem tmR_next {n : Nat} {P : List (List Int)} {d : Nat} {ts : List Int} (h : tmR n P d (frT P d n).length ts) : tmR n P (d + 1) 0 ts := by
  refine ⟨h.1, fun s hs => ?_⟩
  rw [h.2 s hs, fcn_succ, List.take_length, List.take_zero]
  have := frT_mem (zss := P) (d := d) (m := n) (s := s)
  cases ht : tkn P d (s : Int)
  · rw [if_pos (this.2 ⟨hs, ht⟩)]; simp
  · rw [if_neg (fun q => by have := (this.1 q).2; rw [ht] at this; cases this)]; simp
theorem nth_set {ts : List Int} {s u : Nat} {x : Int} (hs : s < ts.length) : nth (ts.set s x) u = if u = s then x else nth ts u := by
  rw [nth_eq, nth_eq]
  by_cases e : u = s
  · subst e; rw [List.getElem?_set_self hs, if_pos rfl]; rfl
  · rw [List.getElem?_set_ne (fun q => e q.symm), if_neg e]
theorem tmR_put {n : Nat} {P : List (List Int)} {d k s : Nat} {ts : List Int} (h : tmR n P d k ts) (hk : k < (frT P d n).length) (hs : nth (frT P d n) k = s) (hsn : s < n) : tmR n P d (k + 1) (ts.set s (nth ts s + 1)) := by
  have hl := h.1
  refine ⟨by rw [List.length_set]; exact hl, fun u hu => ?_⟩
  rw [nth_set (by omega), h.2 u hu]
  have e : (frT P d n).take (k + 1) = (frT P d n).take k ++ [(s : Int)] := by
    rw [List.take_succ_eq_append_getElem hk, ← hs, nth_eq, List.getElem?_eq_getElem hk]; rfl
  have hno : (s : Int) ∉ (frT P d n).take k := fun hm => by
    obtain ⟨j, hj, e2⟩ := List.mem_iff_getElem.1 hm
    rw [List.length_take] at hj
    rw [List.getElem_take] at e2
    have := frT_asc (zss := P) (d := d) (m := n) (j := j) (k := k) (by omega) hk
    rw [hs, nth_eq, List.getElem?_eq_getElem (by omega), Option.getD_some, e2] at this
    omega
  by_cases eu : u = s
  · subst eu
    rw [if_pos rfl, h.2 u hu, if_neg hno, e, if_pos (by simp)]
    omega
  · rw [if_neg eu, e]
    have : ((u : Int) ∈ (frT P d n).take k ++ [(s : Int)]) ↔ (u : Int) ∈ (frT P d n).take k := by
      rw [List.mem_append, List.mem_singleton]
      exact ⟨fun q => q.elim id fun q => absurd (by omega : u = s) eu, .inl⟩
    simp only [this]
theorem tmR_end {n : Nat} {P : List (List Int)} {ts : List Int} (hP : Plan n P) (h : tmR n P n 0 ts) {s : Nat} (hs : s < n) : nth ts s = (n : Int) - P.length := by
  rw [h.2 s hs, fcn_all hP hs, List.take_zero]
  have := hP.len
  simp
  omega
end Go.Proofs.Ytpgifeaejjjjnaa
