/- rows of beginnings of lists (RowZ); slices.Reverse at lists (57) -/
import Derived.Test.YtpgifeaejjjjnaaCO
import Derived.Test.YtpgifeaejjjjnaaFE
import Derived.Test.YtpgifeaejjjjnaaFS
namespace Go.Proofs.Ytpgifeaejjjjnaa
open Go.RowKit Go.Sort
/-- a value is the beginning of a list of one's own. -/
def CutZ (w : World) (v : Value) (zs : List Int) : Prop := ∃ l lc L c, v = .slice l zs.length lc ∧ zs.length ≤ lc ∧ lc ≤ 9223372036854775807 ∧ zs = L.take zs.length ∧ Owns w 0 (.slice l L.length c) L
theorem CutZ.kept {w w' : World} {B : Nat} {u v : Value} {n : Nat} {xs : List Value} {zs : List Int} (h : CutZ w v zs) (hu : w.ownsRow B 28 1 u n xs) (g : w.grownBy w' u.ownBlock) : CutZ w' v zs := by
  obtain ⟨l, lc, L, c, e, h1, h2, h3, h4⟩ := h
  exact ⟨l, lc, L, c, e, h1, h2, h3, World.ownsRow.kept h4 g (own_apart h4 hu)⟩
theorem CutZ.fut {w w' : World} {v : Value} {zs : List Int} (h : CutZ w v zs) (F : Fut w w') : CutZ w' v zs := by
  obtain ⟨l, lc, L, c, e, h1, h2, h3, h4⟩ := h
  exact ⟨l, lc, L, c, e, h1, h2, h3, Owns.fut h4 F⟩
theorem CutZ.ints {w : World} {v : Value} {zs : List Int} (h : CutZ w v zs) : ∃ l lc, v = .slice l zs.length lc ∧ zs.length ≤ lc ∧ lc ≤ 9223372036854775807 ∧ IntsAt w l zs := by
  obtain ⟨l, lc, L, c, e, h1, h2, h3, h4⟩ := h
  refine ⟨l, lc, e, h1, h2, ?_⟩
  obtain ⟨a', c', e', hI⟩ := h4.ints
  simp only [Value.slice.injEq, true_and] at e'
  obtain ⟨rfl, rfl⟩ := e'
  rw [h3]
  exact hI.take _
/-- a row of one's own of such values. -/
def RowZ (w : World) (B : Nat) (v : Value) (zss : List (List Int)) : Prop := ∃ vals, w.ownsRow B 28 1 v zss.length vals ∧ vals.length = zss.length ∧ ∀ j, j < zss.length → ∃ u, vals[j]? = some u ∧ CutZ w u (lth zss j)
theorem RowZ.nil (w : World) (B : Nat) : RowZ w B (.slice none 0 0) [] := ⟨[], World.ownsRow_nil _ _ _ _, rfl, fun j hj => absurd hj (by simp)⟩
theorem RowZ.fut {w w' : World} {B : Nat} {v : Value} {zss : List (List Int)} (h : RowZ w B v zss) (F : Fut w w') : RowZ w' B v zss := by
  obtain ⟨vals, h1, h2, h3⟩ := h
  exact ⟨vals, row_fut h1 F, h2, fun j hj => by obtain ⟨u, e, hu⟩ := h3 j hj; exact ⟨u, e, hu.fut F⟩⟩
theorem RowZ.other {w w' : World} {B B' : Nat} {u v : Value} {n : Nat} {xs : List Value} {zss : List (List Int)} (h : RowZ w B v zss) (hu : w.ownsRow B' 28 1 u n xs) (g : w.grownBy w' u.ownBlock) (hne : ∀ k, v.ownBlock = some k → u.ownBlock ≠ some k) : RowZ w' B v zss := by
  obtain ⟨vals, h1, h2, h3⟩ := h
  refine ⟨vals, World.ownsRow.kept h1 g ?_, h2, fun j hj => by obtain ⟨z, e, hz⟩ := h3 j hj; exact ⟨z, e, hz.kept hu g⟩⟩
  cases hv : v.ownBlock with
  | none => exact .inl rfl
  | some k => exact .inr fun e => hne k hv e.symm
theorem RowZ.app {w w' : World} {B : Nat} {v : Value} {zss : List (List Int)} {vals : List Value} {nv : Value} {zs : List Int} {g c : Nat} (h1 : w.ownsRow B 28 1 v zss.length vals) (h2 : vals.length = zss.length) (h3 : ∀ j, j < zss.length → ∃ u, vals[j]? = some u ∧ CutZ w u (lth zss j)) (hn : CutZ w nv zs)
    (hown : w'.ownsRow B 28 1 (.slice (some ⟨g, 0, none⟩) (zss.length + 1) c) (zss.length + 1) (vals ++ [nv])) (hg : w.grownBy w' v.ownBlock) : RowZ w' B (.slice (some ⟨g, 0, none⟩) (zss.length + 1) c) (zss ++ [zs]) := by
  refine ⟨vals ++ [nv], by simpa using hown, by simp [h2], fun j hj => ?_⟩
  rw [List.length_append, List.length_singleton] at hj
  rcases Nat.lt_or_ge j zss.length with hlt | hge
  · obtain ⟨u, e, hu⟩ := h3 j hlt
    exact ⟨u, by rw [List.getElem?_append_left (by omega)]; exact e, by rw [lth_app1 _ _ _ hlt]; exact hu.kept h1 hg⟩
  · obtain rfl : j = zss.length := by omega
    exact ⟨nv, by rw [← h2]; simp, by rw [lth_app2]; exact hn.kept h1 hg⟩
theorem RowZ.lists {w : World} {B : Nat} {v : Value} {zss : List (List Int)} (h : RowZ w B v zss) : ∃ l lc, v = .slice l zss.length lc ∧ zss.length ≤ lc ∧ lc ≤ 9223372036854775807 ∧ LstC w l zss := by
  obtain ⟨vals, h1, h2, h3⟩ := h
  have h1' := h1
  rcases h1.2 with ⟨rfl, h0⟩ | ⟨g, cap, cur, rfl, hb, hg, hnc, hcm, _⟩
  · exact ⟨none, 0, by rw [h0], by omega, by omega, fun j hj => by omega⟩
  · refine ⟨_, cap, rfl, hnc, by unfold maxLen at hcm; omega, fun j hj => ?_⟩
    obtain ⟨u, e, hu⟩ := h3 j hj
    obtain ⟨a, c, rfl, q1, q2, hI⟩ := hu.ints
    have hc := World.ownsRow.cells h1' (g := g) rfl j _ e
    rw [Addr.add_lit] at hc
    exact ⟨g, 0, a, c, rfl, (Array.getElem?_eq_some_iff.1 hg).1, hc, q1, q2, hI⟩
theorem RowZ.block {w : World} {B : Nat} {v : Value} {zss : List (List Int)} (h : RowZ w B v zss) : ∀ k, v.ownBlock = some k → B ≤ k ∧ k < w.heap.size := by
  obtain ⟨vals, h1, _⟩ := h
  exact World.ownsRow.lt h1
/-- a row turned round, the first i places. -/
def rvL (xs : List Value) (i : Nat) : List Value := (List.range xs.length).map fun a => (xs[if a < i ∨ xs.length - 1 - a < i then xs.length - 1 - a else a]?).getD (.bool false)
theorem rvL_len (xs : List Value) (i : Nat) : (rvL xs i).length = xs.length := by unfold rvL; simp
theorem rvL_at (xs : List Value) (i a : Nat) (h : a < xs.length) : (rvL xs i)[a]? = some ((xs[if a < i ∨ xs.length - 1 - a < i then xs.length - 1 - a else a]?).getD (.bool false)) := by
  unfold rvL; rw [List.getElem?_map, List.getElem?_range h]; rfl
theorem rvL_zero (xs : List Value) : rvL xs 0 = xs := by
  apply List.ext_getElem?
  intro a
  by_cases h : a < xs.length
  · rw [rvL_at _ _ _ h, if_neg (by omega), List.getElem?_eq_getElem h]; rfl
  · rw [List.getElem?_eq_none (by rw [rvL_len]; omega), List.getElem?_eq_none (by omega)]
theorem rvL_all (xs : List Value) (i : Nat) (hi : xs.length ≤ 2 * i + 1) : rvL xs i = xs.reverse := by
  apply List.ext_getElem?
  intro a
  by_cases h : a < xs.length
  · rw [rvL_at _ _ _ h, List.getElem?_reverse h]
    by_cases hc : a < i ∨ xs.length - 1 - a < i
    · rw [if_pos hc, List.getElem?_eq_getElem (by omega)]; rfl
    · rw [if_neg hc, List.getElem?_eq_getElem (by omega)]
      have : xs.length - 1 - a = a := by omega
      simp only [this]
      rw [List.getElem?_eq_getElem h]; rfl
  · rw [List.getElem?_eq_none (by rw [rvL_len]; omega), List.getElem?_eq_none (by rw [List.length_reverse]; omega)]
theorem rvL_step (xs : List Value) (i : Nat) (_hi : i < xs.length - 1 - i) (hx : xs.length - 1 - i < xs.length) (hix : i < xs.length) : ((rvL xs i).set i (xs[xs.length - 1 - i])).set (xs.length - 1 - i) xs[i] = rvL xs (i + 1) := by
  apply List.ext_getElem?
  intro a
  by_cases h : a < xs.length
  · rw [rvL_at _ _ _ h]
    by_cases h1 : xs.length - 1 - i = a
    · rw [← h1, List.getElem?_set_self (by rw [List.length_set, rvL_len]; exact hx), if_pos (by omega)]
      have : xs.length - 1 - (xs.length - 1 - i) = i := by omega
      rw [this, List.getElem?_eq_getElem hix]; rfl
    · rw [List.getElem?_set_ne h1]
      by_cases h2 : i = a
      · subst h2
        rw [List.getElem?_set_self (by rw [rvL_len]; exact hix), if_pos (by omega), List.getElem?_eq_getElem hx]; rfl
      · rw [List.getElem?_set_ne h2, rvL_at _ _ _ h]
        have : (a < i ∨ xs.length - 1 - a < i) ↔ (a < i + 1 ∨ xs.length - 1 - a < i + 1) := by omega
        simp only [this]
  · rw [List.getElem?_eq_none (by rw [List.length_set, List.length_set, rvL_len]; omega), List.getElem?_eq_none (by rw [rvL_len]; omega)]
theorem rvL_keep {xs : List Value} {i a : Nat} {u : Value} (h : a < xs.length) (hc : ¬ (a < i ∨ xs.length - 1 - a < i)) (hu : xs[a]? = some u) : (rvL xs i)[a]? = some u := by
  rw [rvL_at _ _ _ h, if_neg hc, hu]; rfl
theorem rvL_next {xs : List Value} {i : Nat} {u v : Value} (hi : i < xs.length - 1 - i) (hu : xs[i]? = some u) (hv : xs[xs.length - 1 - i]? = some v) : ((rvL xs i).set i v).set (xs.length - 1 - i) u = rvL xs (i + 1) := by
  obtain ⟨h1, e1⟩ := List.getElem?_eq_some_iff.1 hu
  obtain ⟨h2, e2⟩ := List.getElem?_eq_some_iff.1 hv
  rw [← rvL_step xs i hi h2 h1, e1, e2]
theorem grown_drew {w w' : World} {r : Option Nat} (h : w.grownBy w' r) : w.grownBy w'.drew r := h.trans ⟨rfl, rfl, rfl, Nat.le_refl _, fun _ _ _ => rfl⟩
set_option maxRecDepth 100000 in
set_option maxHeartbeats 4000000 in
/-- slices.Reverse at a row of slices of one's own. -/
theorem rev_vals (B g cap n : Nat) (xs : List Value) (w : World) (hl : xs.length = n) (h : w.ownsRow B 28 1 (.slice (some ⟨g, 0, none⟩) n cap) n xs) (hn : n ≤ 5) (hf : ∀ a, a < n → ∃ l m c, xs[a]? = some (.slice l m c)) :
    Calls Try.prog 57 #[.slice (some ⟨g, 0, none⟩) n cap] w fun e w' => e = .returned (.tuple #[]) ∧ w'.ownsRow B 28 1 (.slice (some ⟨g, 0, none⟩) n cap) n xs.reverse ∧ w.grownBy w' (some g) := by
  have HO : Hid (w.ownsRow B 28 1 (.slice (some ⟨g, 0, none⟩) n cap) n (rvL xs 0)) := Lib.hid (by rw [rvL_zero]; exact h)
  have HF := Lib.hid hf
  have HA : Hid (∀ i, n ≤ 2 * i + 1 → rvL xs i = xs.reverse) := Lib.hid (fun i hi => rvL_all xs i (by omega))
  have HS : Hid (∀ i u v, i < n - 1 - i → xs[i]? = some u → xs[n - 1 - i]? = some v → ((rvL xs i).set i v).set (n - 1 - i) u = rvL xs (i + 1)) := Lib.hid (fun i u v hi hu hv => by
    rw [← hl] at hi hv ⊢
    exact rvL_next hi hu hv)
  have HAT : Hid (∀ i a u, a < n → ¬ (a < i ∨ n - 1 - a < i) → xs[a]? = some u → (rvL xs i)[a]? = some u) := Lib.hid (fun i a u h1 h2 h3 => rvL_keep (by omega) (by rw [hl]; exact h2) h3)
  have hnx : (n : Int) ≤ 5 := by omega
  clear h hf hl
  go_enter Try.func57, Try.ntmps57
  go_wp2_with fail
  go_loopw [2, 3] (fun iv jv wx => ∃ i : Nat, 2 * i ≤ n + 1 ∧ iv = .int .i64 i ∧ jv = .int .i64 ((n : Int) - 1 - i) ∧ Hid (wx.ownsRow B 28 1 (.slice (some ⟨g, 0, none⟩) n cap) n (rvL xs i)) ∧ Hid (w.grownBy wx (some g))) (fun iv _ _ => n - (intOf iv).toNat)
  case atStart => exact ⟨0, by omega, rfl, by go_num, HO, Lib.hid (World.grownBy.refl _ _)⟩
  case round =>
    obtain ⟨i, hi, rfl, rfl, HOX, HGX⟩ := hrel
    by_cases hlt : i < n - 1 - i
    · have hix : (i : Int) < (n : Int) - 1 - i := by omega
      obtain ⟨l1, m1, k1, q1⟩ := HF.out i (by omega)
      obtain ⟨l2, m2, k2, q2⟩ := HF.out (n - 1 - i) (by omega)
      have hst := HS.out i _ _ hlt q1 q2
      have e1 := HOX.out.cellAt i (by omega)
      have e2 := HOX.out.cellAt (n - 1 - i) (by omega)
      rw [HAT.out i i _ (by omega) (by omega) q1] at e1
      rw [HAT.out i (n - 1 - i) _ (by omega) (by omega) q2] at e2
      obtain ⟨s1, g1⟩ := HOX.out.stored i (.slice l2 m2 k2)
      obtain ⟨s2, g2⟩ := s1.stored (n - 1 - i) (.slice l1 m1 k1)
      rw [hst] at s2
      have f1 := HOX.out.frozenAt i
      have f2 := HOX.out.frozenAt (n - 1 - i)
      have HS2 := Lib.hid s2
      have HG2 := Lib.hid ((HGX.out.trans g1).trans g2)
      have hjx : ((n : Int) - 1 - i) = ((n - 1 - i : Nat) : Int) := by omega
      rw [hjx] at hix ⊢
      have hjn : n - 1 - i < n := by omega
      have hij : ¬ i = n - 1 - i := by omega
      have hji : ¬ n - 1 - i = i := by omega
      have HNX : Hid ((n : Int) - 1 - ((i + 1 : Nat) : Int) = ((n - 1 - i : Nat) : Int) - 1) := Lib.hid (by omega)
      have hi2 : 2 * (i + 1) ≤ n + 1 := by omega
      clear hst q1 q2 s1 s2 g1 g2 HOX HGX hlt hjx
      generalize n - 1 - i = j at *
      have hjnx : (j : Int) < n := by omega
      have hinx : (i : Int) < n := by omega
      go_wp2_with fail
      go_region
      all_goals
        go_wp2_with fail
        go_roundw
      all_goals first
        | exact ⟨i + 1, by omega, by go_num, by rw [HNX.out], Lib.hid (row_fut HS2.out (Fut.drewN _ 1)), Lib.hid (grown_drew HG2.out)⟩
        | (simp [intOf]; omega)
    · have hge : ¬ (i : Int) < (n : Int) - 1 - i := by omega
      have HR := HOX
      rw [HA.out i (by omega)] at HR
      clear HOX
      go_wp2_with fail
      go_end0
      exact ⟨rfl, HR.out, HGX.out⟩
/-- slices.Reverse at lists. -/
theorem rev_lists {B : Nat} (v : Value) (zss : List (List Int)) (w : World) (hX : RowZ w B v zss) (hl : zss.length ≤ 5) :
    Calls Try.prog 57 #[v] w fun e w' => e = .returned (.tuple #[]) ∧ RowZ w' B v zss.reverse ∧ w.grownBy w' v.ownBlock := by
  obtain ⟨vals, h1, h2, h3⟩ := hX
  have h1' := h1
  rcases h1.2 with ⟨rfl, h0⟩ | ⟨g, cap, cur, rfl, _⟩
  · obtain rfl : zss = [] := List.eq_nil_of_length_eq_zero h0
    clear h1 h1' h2 h3
    go_enter Try.func57, Try.ntmps57
    go_wp2_with fail
    go_loopw [2, 3] (fun iv jv wx => iv = .int .i64 0 ∧ jv = .int .i64 (-1) ∧ wx = w) (fun _ _ _ => 0)
    case atStart => exact ⟨rfl, by go_num, rfl⟩
    case round =>
      obtain ⟨rfl, rfl, rfl⟩ := hrel
      go_wp2_with fail
      go_end0
      exact ⟨rfl, RowZ.nil _ _, World.grownBy.refl _ _⟩
  · refine (rev_vals B g cap zss.length vals w h2 h1' hl fun a ha => ?_).mono fun e w' ⟨he, ho, hg⟩ => ?_
    · obtain ⟨u, e, hu⟩ := h3 a ha
      obtain ⟨l, lc, rfl, _⟩ := hu.ints
      exact ⟨l, _, lc, e⟩
    · refine ⟨he, ⟨vals.reverse, by rw [List.length_reverse]; exact ho, by simp [h2], fun j hj => ?_⟩, hg⟩
      rw [List.length_reverse] at hj
      obtain ⟨u, e, hu⟩ := h3 (zss.length - 1 - j) (by omega)
      refine ⟨u, by rw [List.getElem?_reverse (by omega), h2]; exact e, ?_⟩
      have : lth zss.reverse j = lth zss (zss.length - 1 - j) := by rw [lth_eq, lth_eq, List.getElem?_reverse hj]
      rw [this]
      exact hu.kept h1' hg
end Go.Proofs.Ytpgifeaejjjjnaa
