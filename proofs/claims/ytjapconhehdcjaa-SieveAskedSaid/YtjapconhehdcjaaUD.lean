/- parts in a row -/
import Derived.Test.YtjapconhehdcjaaUC
import Derived.Deep.DeepCutAuto
import Derived.Deep.AppendLies
import Derived.Test.YtjapconhehdcjaaSN
import Derived.Test.YtjapconhehdcjaaSE
namespace Go.Proofs.Ytjapconhehdcjaa
open Go.RowKit Go.Sort
/-- parts in a row, the last one first. -/
def flatT : List (Int × Int × Value) → List Value
  | [] => []
  | p :: l => flatT l ++ [.int .i64 p.1, .int .i64 p.2.1, p.2.2]
theorem flatT_len : ∀ l : List (Int × Int × Value), (flatT l).length = l.length * 3
  | [] => rfl
  | p :: l => by rw [flatT, List.length_append, flatT_len l]; simp only [List.length_cons, List.length_nil]; omega
def Mt (w : World) (B : Nat) : List (Int × Int × Value) → List Sv.Prt → Prop
  | [], [] => True
  | r :: rs, p :: ps => r.1 = p.last ∧ r.2.1 = p.depth ∧ Owns w B r.2.2 p.tree ∧ Mt w B rs ps
  | _, _ => False
theorem Mt.len {w : World} {B : Nat} : ∀ {rs : List (Int × Int × Value)} {ps : List Sv.Prt}, Mt w B rs ps → rs.length = ps.length
  | [], [], _ => rfl
  | _ :: _, _ :: _, h => by rw [List.length_cons, List.length_cons, Mt.len h.2.2.2]
  | [], _ :: _, h => absurd h (by simp [Mt])
  | _ :: _, [], h => absurd h (by simp [Mt])
theorem Mt.fut {w w' : World} {B : Nat} (F : Fut w w') : ∀ {rs : List (Int × Int × Value)} {ps : List Sv.Prt}, Mt w B rs ps → Mt w' B rs ps
  | [], [], _ => trivial
  | _ :: _, _ :: _, h => ⟨h.1, h.2.1, h.2.2.1.fut F, Mt.fut F h.2.2.2⟩
  | [], _ :: _, h => absurd h (by simp [Mt])
  | _ :: _, [], h => absurd h (by simp [Mt])
theorem Mt.kept {w w' : World} {B : Nat} {row : Option Nat} (g : w.grownBy w' row) (hr : ∀ v L, Owns w B v L → v.ownBlock = none ∨ v.ownBlock ≠ row) : ∀ {rs : List (Int × Int × Value)} {ps : List Sv.Prt}, Mt w B rs ps → Mt w' B rs ps
  | [], [], _ => trivial
  | _ :: _, _ :: _, h => ⟨h.1, h.2.1, h.2.2.1.kept g (hr _ _ h.2.2.1), Mt.kept g hr h.2.2.2⟩
  | [], _ :: _, h => absurd h (by simp [Mt])
  | _ :: _, [], h => absurd h (by simp [Mt])
def Pts (w : World) (B : Nat) (v : Value) (S : List Sv.Prt) : Prop := ∃ rs, w.ownsRow B 116 3 v S.length (flatT rs) ∧ Mt w B rs S
theorem Pts.fut {w w' : World} {B : Nat} {v : Value} {S : List Sv.Prt} (h : Pts w B v S) (F : Fut w w') : Pts w' B v S := by
  obtain ⟨rs, h1, h2⟩ := h
  exact ⟨rs, row_futs h1 F, h2.fut F⟩
theorem row_apart2 {w : World} {B B' : Nat} {t t' : TypeId} {s s' : Nat} {v u : Value} {n n' : Nat} {xs xs' : List Value} (ht : t ≠ t') (h : w.ownsRow B t s v n xs) (h' : w.ownsRow B' t' s' u n' xs') : v.ownBlock = none ∨ v.ownBlock ≠ u.ownBlock := by
  rcases h.2 with ⟨rfl, _⟩ | ⟨g, cap, cur, rfl, _, hg, _⟩
  · exact .inl rfl
  · rcases h'.2 with ⟨rfl, _⟩ | ⟨g', cap', cur', rfl, _, hg', _⟩
    · exact .inr (by simp [Value.ownBlock])
    · refine .inr fun e => ?_
      simp [Value.ownBlock] at e
      rw [e, hg'] at hg
      simp at hg
      exact ht hg.2.symm
theorem own_pop2 {w : World} {B e s n g c : Nat} {xs : List Value} (h : w.ownsRow B e s (.slice (some ⟨g, 0, none⟩) (n + 1) c) (n + 1) xs) : w.ownsRow B e s (.slice (some ⟨g, 0, none⟩) n c) n (xs.take (n * s)) := by
  have hl := h.1
  have hns : n * s ≤ (n + 1) * s := Nat.mul_le_mul_right _ (by omega)
  refine ⟨by rw [List.length_take]; omega, ?_⟩
  rcases h.2 with ⟨e1, e2⟩ | ⟨g', cap, cur, e1, hb, hh, hn, hm, hs, ht⟩
  · cases e1
  · cases e1
    refine .inr ⟨g, c, cur, rfl, hb, hh, by omega, hm, hs, ?_⟩
    rw [← ht, List.take_take]
    congr 1
    omega
/-- the last part: its cells, and the row without it. -/
theorem Pts.top {w : World} {B : Nat} {v : Value} {p : Sv.Prt} {S : List Sv.Prt} (h : Pts w B v (p :: S)) : ∃ g c u, v = .slice (some ⟨g, 0, none⟩) (S.length + 1) c ∧ B ≤ g ∧ g < w.heap.size ∧ S.length + 1 ≤ c ∧ w.cell? ⟨g, 0 + S.length * 3, none⟩ = some (.int .i64 p.last) ∧ w.cell? ⟨g, 0 + S.length * 3 + 1, none⟩ = some (.int .i64 p.depth) ∧ w.cell? ⟨g, 0 + S.length * 3 + 2, none⟩ = some u ∧ Owns w B u p.tree ∧ Pts w B (.slice (some ⟨g, 0, none⟩) S.length c) S := by
  obtain ⟨rs, h1, h2⟩ := h
  cases rs with
  | nil => exact absurd h2 (by simp [Mt])
  | cons r rs =>
    obtain ⟨e1, e2, e3, e4⟩ := h2
    have hlen := e4.len
    rw [List.length_cons] at h1
    have hfl := flatT_len rs
    rw [hlen] at hfl
    have hg : ∀ k, (hk : k < 3) → (flatT (r :: rs))[S.length * 3 + k]? = ([.int .i64 r.1, .int .i64 r.2.1, r.2.2] : List Value)[k]? := fun k hk => by
      rw [flatT, List.getElem?_append_right (by omega), hfl, Nat.add_sub_cancel_left]
    have h0 := h1
    rcases h1.2 with ⟨_, q⟩ | ⟨g, cap, cur, rfl, hb, hh, hn, hm, hs, ht⟩
    · omega
    · have hp := own_pop2 h0
      refine ⟨g, cap, r.2.2, rfl, hb, (Array.getElem?_eq_some_iff.1 hh).1, hn, ?_, ?_, ?_, e3, rs, ?_, e4⟩
      · rw [Nat.zero_add, World.ownsRow.cellAt h0 _ (by omega), ← e1]; have := hg 0 (by omega); rw [Nat.add_zero] at this; exact this
      · rw [Nat.zero_add, World.ownsRow.cellAt h0 _ (by omega), ← e2]; exact hg 1 (by omega)
      · rw [Nat.zero_add, World.ownsRow.cellAt h0 _ (by omega)]; exact hg 2 (by omega)
      · rw [flatT, List.take_append_of_le_length (by omega), List.take_of_length_le (by omega)] at hp
        exact hp
theorem slice_to114 (g o n cap k : Nat) (h : k ≤ cap) (W : World) : (Instr.sliceAt 114 (.slice (some ⟨g, o, none⟩) n cap) none (some (.int .i64 k)) none).run Try.prog W = .ok (.slice (some ⟨g, o, none⟩) k cap) W := by
  have hu : Try.prog.underlying 114 = some (.slice (Try.prog.elem 114)) := by kernel_rfl
  have hs : (sizeOf (Try.prog.elem 114)).run Try.prog W = .ok 3 W := by kernel_rfl
  rw [run_sliceAt_slice _ _ _ _ _ _ hu, run_slice_h _ _ _ _ _ hu _ _ (by omega) (by omega), hs]
  simp [sliced, Result.andThen, Addr.add]
theorem info116 : (Try.prog.info? 116).map (fun i => (i.zero, i.size, i.bytes)) = some (some (.agg #[.int .i64 0, .int .i64 0, .slice none 0 0]), 3, 40) := by kernel_rfl
theorem cells_three {w : World} {b : Nat} {x y z : Value} (h : w.cell? ⟨b, 0, none⟩ = some x) (h' : w.cell? ⟨b, 1, none⟩ = some y) (h'' : w.cell? ⟨b, 2, none⟩ = some z) : ∀ j u, [x, y, z][j]? = some u → w.cell? ((⟨b, 0, none⟩ : Addr).add j) = some u := fun j u hj => by
  match j, hj with
  | 0, hj => simp at hj; subst hj; exact h
  | 1, hj => simp at hj; subst hj; exact h'
  | 2, hj => simp at hj; subst hj; exact h''
/-- the parts cover so many kinds, and their depths are not too small. -/
def BdS (S : List Sv.Prt) (i : Nat) : Prop := (∀ p ∈ S, -(p.tree.length : Int) ≤ p.depth ∧ p.depth ≤ 1000) ∧ (S.map fun p => p.tree.length + 1).sum = i
theorem BdS.join {S : List Sv.Prt} {q p : Sv.Prt} {i : Nat} (h : BdS (p :: q :: S) i) : BdS (q.join p :: S) i := by
  obtain ⟨h1, h2⟩ := h
  have hq := h1 q (by simp)
  have hlen : (q.join p).tree.length = q.tree.length + p.tree.length + 1 := by show (q.last :: (q.tree ++ p.tree)).length = _; simp
  have hd : (q.join p).depth = q.depth - 1 := rfl
  refine ⟨fun r hr => ?_, ?_⟩
  · rcases List.mem_cons.1 hr with rfl | hr
    · rw [hlen, hd]; omega
    · exact h1 r (by simp [hr])
  · rw [List.map_cons, List.sum_cons] at h2 ⊢
    rw [List.map_cons, List.sum_cons] at h2
    rw [hlen]; omega
theorem BdS.tree {S : List Sv.Prt} {p : Sv.Prt} {i : Nat} (h : BdS S i) (hp : p ∈ S) : p.tree.length + 1 ≤ i := by
  obtain ⟨_, h2⟩ := h
  rw [← h2]
  cases S with
  | nil => cases hp
  | cons q S =>
    rw [List.map_cons, List.sum_cons]
    rcases List.mem_cons.1 hp with rfl | hp
    · omega
    · have h3 : ∀ (T : List Sv.Prt), p ∈ T → p.tree.length + 1 ≤ (T.map fun p => p.tree.length + 1).sum := fun T hT => by
        induction T with
        | nil => cases hT
        | cons a T iT =>
          rw [List.map_cons, List.sum_cons]
          rcases List.mem_cons.1 hT with rfl | hT
          · omega
          · have := iT hT; omega
      have := h3 S hp; omega
theorem BdS.len : ∀ {S : List Sv.Prt} {i : Nat}, BdS S i → S.length ≤ i
  | [], _, _ => by simp
  | p :: S, i, h => by
    have h2 := h.2
    rw [List.map_cons, List.sum_cons] at h2
    have := BdS.len (S := S) ⟨fun q hq => h.1 q (by simp [hq]), rfl⟩
    rw [List.length_cons]; omega
theorem BdS.perm {S S' : List Sv.Prt} {i : Nat} (h : BdS S i) (hp : S.Perm S') : BdS S' i :=
  ⟨fun p q => h.1 p (hp.mem_iff.2 q), by rw [← h.2]; exact ((hp.map _).sum_nat).symm⟩
end Go.Proofs.Ytjapconhehdcjaa
