/- SieveMore: one load more, equal loads -/
import Derived.Test.YtjapconhehdcjaaVJ
import Derived.Test.YtjapconhehdcjaaVG
import Derived.Test.YtjapconhehdcjaaVH
import Derived.Lib.Slices
namespace Go.Proofs.Ytjapconhehdcjaa
open Go.RowKit Go.Sort
namespace Sv
theorem dotI_set : ∀ (zs : List Int) (ds : List Nat) (k : Nat), k < zs.length → k < ds.length → dotI (zs.set k (nth zs k + 1)) ds = dotI zs ds + nth (castL ds) k
  | [], _, _, h, _ => by simp at h
  | _ :: _, [], _, _, h => by simp at h
  | z :: zs, d :: ds, 0, _, _ => by
    show (z + 1) * (d : Int) + dotI zs ds = z * (d : Int) + dotI zs ds + (d : Int)
    rw [Int.add_mul]; omega
  | z :: zs, d :: ds, k + 1, h, h' => by
    have e := dotI_set zs ds k (by simpa using h) (by simpa using h')
    show z * (d : Int) + dotI (zs.set k (nth zs k + 1)) ds = z * (d : Int) + dotI zs ds + nth (castL ds) k
    rw [e]; omega
theorem fold_min : ∀ (l : List Int) (x : Int), (l.foldl min x ≤ x ∧ ∀ y ∈ l, l.foldl min x ≤ y) ∧ (l.foldl min x = x ∨ l.foldl min x ∈ l)
  | [], x => ⟨⟨Int.le_refl _, by simp⟩, .inl rfl⟩
  | a :: l, x => by
    obtain ⟨⟨h1, h2⟩, h3⟩ := fold_min l (min x a)
    rw [List.foldl_cons]
    refine ⟨⟨by omega, fun y hy => ?_⟩, ?_⟩
    · rcases List.mem_cons.1 hy with rfl | hy
      · omega
      · exact h2 y hy
    · rcases h3 with h3 | h3
      · rcases Int.le_total a x with q | q
        · right; rw [h3, Int.min_eq_right q]; simp
        · left; rw [h3, Int.min_eq_left q]
      · right; exact List.mem_cons_of_mem _ h3
theorem min_spec {l : List Int} (h : l ≠ []) : Lib.minOf l ∈ l ∧ ∀ y ∈ l, Lib.minOf l ≤ y := by
  cases l with
  | nil => exact absurd rfl h
  | cons a l =>
    unfold Lib.minOf
    show (a :: l).foldl min a ∈ a :: l ∧ ∀ y ∈ a :: l, (a :: l).foldl min a ≤ y
    obtain ⟨⟨h1, h2⟩, h3⟩ := fold_min (a :: l) a
    exact ⟨by rcases h3 with h3 | h3; rw [h3]; simp; exact h3, h2⟩
end Sv
theorem more_vals {zs : List Int} {k : Nat} (hk : k < zs.length) (h8 : zs.length ≤ 8) (hc : chkL zs = 0) (hb : ∀ z ∈ zs, 1 ≤ z ∧ z ≤ 99) : chkL (zs.set k (nth zs k + 1)) = 0 ∧ ∃ t u : Sv.Tr, t.size = zs.length ∧ u.size = zs.length ∧ bestE zs = t.lst 0 ∧ bestE (zs.set k (nth zs k + 1)) = u.lst 0 ∧ leastE (zs.set k (nth zs k + 1)) - leastE zs ≤ nth (castL t.dep) k ∧ nth (castL u.dep) k ≤ leastE (zs.set k (nth zs k + 1)) - leastE zs := by
  have hm : chkL (zs.set k (nth zs k + 1)) = 0 := chk_of (m := 100) (by rw [List.length_set]; omega) (by rw [List.length_set]; exact h8) (by omega) fun z hz => by
    rcases List.mem_or_eq_of_mem_set hz with h | rfl
    · have := hb z h; omega
    · have := hb _ (nth_mem hk); omega
  obtain ⟨a1, _, _, t, _, a5, a6, a7⟩ := good_vals hc
  obtain ⟨b1, _, _, u, _, b5, b6, b7⟩ := good_vals hm
  rw [List.length_set] at b5
  have z1 := Sv.bst_le (chk_nn hc) (by omega) b5
  have z2 := Sv.bst_le (chk_nn hm) (by rw [List.length_set]; omega) (t := t) (by rw [List.length_set]; exact a5)
  have e1 := Sv.dotI_set zs t.dep k hk (by rw [Sv.dep_len, a5]; exact hk)
  have e2 := Sv.dotI_set zs u.dep k hk (by rw [Sv.dep_len, b5]; exact hk)
  unfold Sv.qst at *
  refine ⟨hm, t, u, a5, b5, a7, b7, ?_, ?_⟩
  · rw [b1, a1]; omega
  · rw [b1, a1]; omega
theorem eq_bal : ∀ n ∈ [1, 2, 3, 4, 5, 6, 7, 8], (let d := depthsE (n : Nat) (bestE (List.replicate n 1)); d.all fun x => d.all fun y => decide (x ≤ y + 1)) = true := by decide +kernel
theorem flat_vals {n : Nat} (h1 : 1 ≤ n) (h8 : n ≤ 8) {z : Int} (hz : 1 ≤ z ∧ z ≤ 99) : chkL (List.replicate n z) = 0 ∧ ∃ t : Sv.Tr, t.size = n ∧ bestE (List.replicate n z) = t.lst 0 ∧ Lib.maxOf (castL t.dep) - Lib.minOf (castL t.dep) ≤ 1 := by
  have c0 : ∀ y : Int, 1 ≤ y → y ≤ 99 → chkL (List.replicate n y) = 0 := fun y p q => chk_of (m := 99) (by simp; omega) (by simp; omega) (by omega) fun x hx => by
    rw [(List.mem_replicate.1 hx).2]; omega
  have hc := c0 1 (by omega) (by omega)
  have hm := c0 z hz.1 hz.2
  have em : (List.replicate n (1 : Int)).map (z * ·) = List.replicate n z := by rw [List.map_replicate, Int.mul_one]
  obtain ⟨_, _, _, t, _, a5, _, a7⟩ := good_vals hc
  rw [List.length_replicate] at a5
  have tv := (turned_vals hc (c := z) (by omega) (by rw [em]; exact hm)).2.2.2.2.2.1
  rw [em] at tv
  refine ⟨hm, t, a5, by rw [tv, a7], ?_⟩
  have hb := eq_bal n (by
    have : n = 1 ∨ n = 2 ∨ n = 3 ∨ n = 4 ∨ n = 5 ∨ n = 6 ∨ n = 7 ∨ n = 8 := by omega
    simpa using this)
  have hd := depths_tree t (by omega)
  rw [a5] at hd
  rw [a7, hd] at hb
  have hne : castL t.dep ≠ [] := by
    intro e
    have := congrArg List.length e
    rw [castL_len, Sv.dep_len, a5] at this
    simp at this; omega
  have x1 := (Sv.max_spec hne).1
  have x2 := (Sv.min_spec hne).1
  simp only [List.all_eq_true, decide_eq_true_eq] at hb
  have := hb _ x1 _ x2
  omega
end Go.Proofs.Ytjapconhehdcjaa
