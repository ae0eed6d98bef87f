/- Layer 2, of layer 1: equal gains and equal losses. -/
import Derived.Test.YtimddkofcejijaaVD
import Derived.Deep.DeepCutAuto
namespace Go.Proofs.Ytimddkofcejijaa.Cl
open Go.RowKit Go.Sort
set_option maxRecDepth 100000
theorem levRun_pt (m : Fin 5 → Int) (n : Nat) (hm : ∀ i, Pt (m i)) : ∀ (o : List (Fin 5)) (k : Nat) (p : Int) (g : Fin 5 → Int), k + o.length ≤ n → 0 ≤ p → (∀ i, Pt (g i)) → ∀ i, Pt (levRun m n k o p g i)
  | [], _, _, _, _, _, hg, i => hg i
  | j :: o, k, p, g, hk, hp, hg, i => by
    simp only [List.length_cons] at hk
    have h0 : 0 ≤ p / ((n : Int) - k) := Int.ediv_nonneg hp (by omega : (0 : Int) ≤ (n : Int) - k)
    have h1 : p / ((n : Int) - k) ≤ p := Int.ediv_le_self _ hp
    have hmj := hm j
    refine levRun_pt m n hm o (k + 1) _ _ (by omega) (by omega) (fun i => ?_) i
    unfold upd
    split
    · exact ⟨by omega, by omega⟩
    · exact hg i
theorem sum5 : ∀ {zs : List Int}, zs.length ≤ 5 → zs.sum = nth zs 0 + nth zs 1 + nth zs 2 + nth zs 3 + nth zs 4
  | [], _ => rfl
  | [a], _ => by simp [nth]
  | [a, b], _ => by simp [nth]
  | [a, b, c], _ => by simp [nth]; omega
  | [a, b, c, d], _ => by simp [nth]; omega
  | [a, b, c, d, e], _ => by simp [nth]; omega
  | _ :: _ :: _ :: _ :: _ :: _ :: _, h => by simp at h
theorem K_sum {zs : List Int} (h : zs.length ≤ 5) : K zs 0 + K zs 1 + K zs 2 + K zs 3 + K zs 4 = zs.sum * 120 := by
  rw [sum5 h]; show nth zs 0 * 120 + nth zs 1 * 120 + nth zs 2 * 120 + nth zs 3 * 120 + nth zs 4 * 120 = _; omega
abbrev agg5 (f : Fin 5 → Int) : Value := .agg #[.int .i64 (f 0), .int .i64 (f 1), .int .i64 (f 2), .int .i64 (f 3), .int .i64 (f 4)]
theorem sum_f (f : Fin 5 → Int) (hf : ∀ i, Pt (f i)) (w : World) : Calls Try.prog 89 #[agg5 f] w fun r w' => r = .returned (.int .i64 (f 0 + f 1 + f 2 + f 3 + f 4)) ∧ RowKit.Below w.heap.size w w' :=
  sum_any _ _ _ _ _ w (hf 0) (hf 1) (hf 2) (hf 3) (hf 4)
theorem half_f (f : Fin 5 → Int) (hf : ∀ i, Pt (f i)) (w : World) : Calls Try.prog 88 #[agg5 f] w fun r w' => r = .returned (agg5 fun i => f i / 2) ∧ RowKit.Below w.heap.size w w' :=
  half_any _ _ _ _ _ w (hf 0) (hf 1) (hf 2) (hf 3) (hf 4)
theorem without_f (f g : Fin 5 → Int) (hf : ∀ i, Pt (f i)) (hg : ∀ i, Pt (g i)) (w : World) : Calls Try.prog 93 #[agg5 f, agg5 g] w fun r w' => r = .returned (agg5 fun i => f i - g i) ∧ RowKit.Below w.heap.size w w' :=
  without_any _ _ _ _ _ _ _ _ _ _ w (hf 0) (hf 1) (hf 2) (hf 3) (hf 4) (hg 0) (hg 1) (hg 2) (hg 3) (hg 4)
theorem missing_f (n x : Int) (f : Fin 5 → Int) (hx : 0 ≤ x ∧ x ≤ 10000000) (hf : ∀ i, Pt (f i)) (w : World) : Calls Try.prog 92 #[hv n x (f 0) (f 1) (f 2) (f 3) (f 4)] w fun r w' => r = .returned (.int .i64 (f 0 + f 1 + f 2 + f 3 + f 4 - x)) ∧ RowKit.Below w.heap.size w w' :=
  missing_any _ _ _ _ _ _ _ w hx (hf 0) (hf 1) (hf 2) (hf 3) (hf 4)
def lev (m : Fin 5 → Int) (n : Nat) (p : Int) : Fin 5 → Int := levRun m n 0 (sorted5 m (idx5 n)).toList p (fun _ => 0)
theorem level_f (n : Nat) (h1 : 1 ≤ n) (h5 : n ≤ 5) (x p : Int) (f m : Fin 5 → Int) (w : World) (hp : 0 ≤ p) (hp' : p ≤ 10000000) (hm : ∀ i, Pt (m i)) :
    Calls Try.prog 91 #[hv n x (f 0) (f 1) (f 2) (f 3) (f 4), .int .i64 p, agg5 m] w fun r w' => r = .returned (agg5 (lev m n p)) ∧ RowKit.Below w.heap.size w w' :=
  level_any n h1 h5 x _ _ _ _ _ p m w hp hp' hm
theorem list_f (n : Nat) (h1 : 1 ≤ n) (h5 : n ≤ 5) (x : Int) (f r : Fin 5 → Int) (w : World) :
    Calls Try.prog 90 #[hv n x (f 0) (f 1) (f 2) (f 3) (f 4), agg5 r] w fun t w' => ∃ v, t = .returned v ∧ Owns w' w.heap.size v ((list5 r).take n) ∧ RowKit.Below w.heap.size w w' :=
  list_any n h1 h5 x _ _ _ _ _ r w
/-- what is said of a division, or of an error. -/
abbrev cellsH (w' : World) (b : Nat) (n : Nat) (x : Int) (f : Fin 5 → Int) : Prop :=
  w'.cell? ⟨b, 0, none⟩ = some (.int .i64 n) ∧ w'.cell? ⟨b, 1, none⟩ = some (.int .i64 x) ∧ w'.cell? ⟨b, 2, none⟩ = some (.int .i64 (f 0)) ∧ w'.cell? ⟨b, 3, none⟩ = some (.int .i64 (f 1)) ∧ w'.cell? ⟨b, 4, none⟩ = some (.int .i64 (f 2)) ∧ w'.cell? ⟨b, 5, none⟩ = some (.int .i64 (f 3)) ∧ w'.cell? ⟨b, 6, none⟩ = some (.int .i64 (f 4))
theorem cellsH.below {w w' : World} {b n : Nat} {x : Int} {f : Fin 5 → Int} (hB : RowKit.Below w.heap.size w w') (h : cellsH w b n x f) : cellsH w' b n x f := by
  have hb : b < w.heap.size := World.block_lt_of_cell? w _ h.1
  obtain ⟨hc, _⟩ := bcell hB
  obtain ⟨h0, h1, h2, h3, h4, h5, h6⟩ := h
  refine ⟨?_, ?_, ?_, ?_, ?_, ?_, ?_⟩ <;> rw [hc _ _ hb] <;> assumption
abbrev cellsR (w' : World) (b : Nat) (g : Fin 5 → Int) : Prop :=
  w'.cell? ⟨b, 0, none⟩ = some (.int .i64 (g 0)) ∧ w'.cell? ⟨b, 1, none⟩ = some (.int .i64 (g 1)) ∧ w'.cell? ⟨b, 2, none⟩ = some (.int .i64 (g 2)) ∧ w'.cell? ⟨b, 3, none⟩ = some (.int .i64 (g 3)) ∧ w'.cell? ⟨b, 4, none⟩ = some (.int .i64 (g 4))
theorem cellsR.below {w w' : World} {b : Nat} {g : Fin 5 → Int} (hB : RowKit.Below w.heap.size w w') (h : cellsR w b g) : cellsR w' b g := by
  have hb : b < w.heap.size := World.block_lt_of_cell? w _ h.1
  obtain ⟨hc, _⟩ := bcell hB
  obtain ⟨h0, h1, h2, h3, h4⟩ := h
  refine ⟨?_, ?_, ?_, ?_, ?_⟩ <;> rw [hc _ _ hb] <;> assumption
theorem bcellD {W w1 : World} (hb : RowKit.Below W.drew.heap.size W.drew w1) : (∀ b o, b < W.heap.size → w1.cell? ⟨b, o, none⟩ = W.cell? ⟨b, o, none⟩) ∧ (∀ b o, b < W.heap.size → w1.frozen? ⟨b, o, none⟩ = W.frozen? ⟨b, o, none⟩) := bcell (W := W.drew) hb
theorem lev_pt (m : Fin 5 → Int) (n : Nat) (p : Int) (hn : n ≤ 5) (hp : 0 ≤ p) (hm : ∀ i, Pt (m i)) (i : Fin 5) : Pt (lev m n p i) := by
  refine levRun_pt m n hm _ 0 p _ ?_ hp (fun _ => ⟨by decide, by decide⟩) i
  have := sorted5_size m (idx5 n)
  have h2 : (idx5 n).size = n := by simp [idx5]; omega
  simp only [Array.length_toList]; omega
end Go.Proofs.Ytimddkofcejijaa.Cl
