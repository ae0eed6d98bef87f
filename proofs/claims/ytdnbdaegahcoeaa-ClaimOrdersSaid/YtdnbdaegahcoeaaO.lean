/- Layer 1: all orders of houses. -/
import Derived.Test.YtdnbdaegahcoeaaN
namespace Go.Proofs.Ytdnbdaegahcoeaa
open Go.RowKit Go.Sort
def swapL (o : List (Fin 5)) (i j : Nat) : List (Fin 5) := (o.set i (o[j]?.getD 0)).set j (o[i]?.getD 0)
theorem swapL_length (o : List (Fin 5)) (i j : Nat) : (swapL o i j).length = o.length := by simp [swapL]
theorem swapL_get (o : List (Fin 5)) (i j k : Nat) (hi : i < o.length) (hj : j < o.length) : (swapL o i j)[k]? = if k = j then o[i]? else if k = i then o[j]? else o[k]? := by
  unfold swapL
  rw [List.getElem?_set]
  by_cases h1 : j = k
  · subst h1; rw [if_pos rfl, if_pos (by simpa using hj), if_pos rfl, List.getElem?_eq_getElem hi]; rfl
  · rw [if_neg h1, if_neg (Ne.symm h1), List.getElem?_set]
    by_cases h2 : i = k
    · subst h2; rw [if_pos rfl, if_pos hi, if_pos rfl, List.getElem?_eq_getElem hj]; rfl
    · rw [if_neg h2, if_neg (Ne.symm h2)]
theorem swapL_swapL (o : List (Fin 5)) (i j : Nat) (hi : i < o.length) (hj : j < o.length) : swapL (swapL o i j) i j = o := by
  apply List.ext_getElem?
  intro k
  rw [swapL_get _ _ _ _ (by rw [swapL_length]; exact hi) (by rw [swapL_length]; exact hj), swapL_get _ _ _ _ hi hj, swapL_get _ _ _ _ hi hj, swapL_get _ _ _ _ hi hj]
  split
  · subst_vars; split
    · subst_vars; rfl
    · rw [if_pos rfl]
  · split
    · subst_vars; rw [if_pos rfl]
    · rfl
def vis : Nat → List (Fin 5) → Nat → List (List (Fin 5))
  | 0, o, _ => [o]
  | r + 1, o, first => (List.range (r + 1)).flatMap fun t => vis r (swapL o first (first + t)) (first + 1)
def visK (r : Nat) (o : List (Fin 5)) (first t : Nat) : List (List (Fin 5)) := (List.range t).flatMap fun s => vis r (swapL o first (first + s)) (first + 1)
theorem visK_succ (r : Nat) (o : List (Fin 5)) (first t : Nat) : visK r o first (t + 1) = visK r o first t ++ vis r (swapL o first (first + t)) (first + 1) := by
  unfold visK; rw [List.range_succ, List.flatMap_append]; simp
def fct : Nat → Nat
  | 0 => 1
  | r + 1 => (r + 1) * fct r
theorem vis_length : ∀ (r : Nat) (o : List (Fin 5)) (first : Nat), (vis r o first).length = fct r
  | 0, _, _ => rfl
  | r + 1, o, first => by
    have : ∀ t, (visK r o first t).length = t * fct r := by
      intro t
      induction t with
      | zero => simp [visK]
      | succ t ih => rw [visK_succ, List.length_append, ih, vis_length r, Nat.succ_mul]
    exact this (r + 1)
def addAll (m : Fin 5 → Int) (x : Int) (l : List (List (Fin 5))) (g : Fin 5 → Int) : Fin 5 → Int := l.foldl (fun g o => fun i => g i + inF m o x (fun _ => 0) i) g
theorem addAll_append (m : Fin 5 → Int) (x : Int) (l l' : List (List (Fin 5))) (g : Fin 5 → Int) : addAll m x (l ++ l') g = addAll m x l' (addAll m x l g) := by
  unfold addAll; rw [List.foldl_append]
theorem inF_pt (m : Fin 5 → Int) (hm : ∀ i, Pt (m i)) : ∀ (o : List (Fin 5)) (x : Int) (g : Fin 5 → Int), 0 ≤ x → (∀ i, Pt (g i)) → ∀ i, Pt (inF m o x g i)
  | [], _, _, _, hg, i => hg i
  | j :: o, x, g, hx, hg, i => by
    have hmj := hm j
    refine inF_pt m hm o _ _ (by omega) (fun i => ?_) i
    unfold upd
    split
    · exact ⟨by omega, by omega⟩
    · exact hg i
theorem addAll_bd (m : Fin 5 → Int) (hm : ∀ i, Pt (m i)) (x : Int) (hx : 0 ≤ x) : ∀ (l : List (List (Fin 5))) (g : Fin 5 → Int) (M : Int), (∀ i, 0 ≤ g i ∧ g i ≤ M) → ∀ i, 0 ≤ addAll m x l g i ∧ addAll m x l g i ≤ M + 1000000 * l.length
  | [], g, M, hg, i => by have := hg i; simp [addAll]; omega
  | o :: l, g, M, hg, i => by
    have := addAll_bd m hm x hx l (fun i => g i + inF m o x (fun _ => 0) i) (M + 1000000) (fun i => by
      have h1 := hg i; have h2 := inF_pt m hm o x (fun _ => 0) hx (fun _ => ⟨by decide, by decide⟩) i
      exact ⟨by omega, by omega⟩) i
    show 0 ≤ addAll m x l _ i ∧ addAll m x l _ i ≤ _
    simp only [List.length_cons]
    omega
/-- block b holds an order. -/
def OrdAt (w : World) (b : Nat) (o : List (Fin 5)) : Prop := w.heap[b]? = some (.cells (o.map enc5).toArray 3 (0, 0))
theorem OrdAt.lt {w : World} {b : Nat} {o : List (Fin 5)} (h : OrdAt w b o) : b < w.heap.size := (Array.getElem?_eq_some_iff.1 h).1
theorem OrdAt.cell {w : World} {b : Nat} {o : List (Fin 5)} (h : OrdAt w b o) (k : Nat) (hk : k < o.length) : w.cell? ⟨b, k, none⟩ = some (.int .i64 ((o[k]?.getD 0).val : Int)) := by
  rw [cell_of_row w b k _ _ _ h]; simp [hk]
theorem OrdAt.free {w : World} {b : Nat} {o : List (Fin 5)} (h : OrdAt w b o) (k : Nat) : w.frozen? ⟨b, k, none⟩ = false := frozen_of_row w b k _ _ h
theorem OrdAt.set {w : World} {b : Nat} {o : List (Fin 5)} (h : OrdAt w b o) (k : Nat) (x : Fin 5) : OrdAt (w.setCell ⟨b, k, none⟩ (.int .i64 (x.val : Int))) b (o.set k x) := by
  have hlt := h.lt
  have h' : w.heap[b] = .cells (o.map enc5).toArray 3 (0, 0) := by
    have := h; unfold OrdAt at this
    simpa [Array.getElem?_eq_getElem hlt] using this
  show (w.heap.modify b _)[b]? = _
  rw [Array.getElem?_eq_getElem (by simpa using hlt), Array.getElem_modify_self, h']
  show some (Obj.cells ((o.map enc5).toArray.setIfInBounds k _) 3 (0, 0)) = _
  rw [List.setIfInBounds_toArray, List.map_set]
theorem OrdAt.swap {w : World} {b : Nat} {o : List (Fin 5)} (h : OrdAt w b o) (i j : Nat) : OrdAt ((w.setCell ⟨b, i, none⟩ (.int .i64 ((o[j]?.getD 0).val : Int))).setCell ⟨b, j, none⟩ (.int .i64 ((o[i]?.getD 0).val : Int))) b (swapL o i j) := (h.set i _).set j _
theorem OrdAt.ints {w : World} {b : Nat} {o : List (Fin 5)} (h : OrdAt w b o) : IntsAt w (some ⟨b, 0, none⟩) (valL o) := fun k hk => by
  rw [valL_length] at hk
  refine ⟨b, 0, rfl, h.lt, ?_⟩
  rw [Nat.zero_add, h.cell k hk, valL_nth o k hk, List.getElem?_eq_getElem hk]; rfl
/-- all but block s is as it was. -/
structure But (s : Nat) (w w' : World) : Prop where
  os : w'.os = w.os
  tape : w'.tape = w.tape
  output : w'.output = w.output
  size : w.heap.size ≤ w'.heap.size
  block : ∀ k, k < w.heap.size → k ≠ s → w'.heap[k]? = w.heap[k]?
theorem But.refl (s : Nat) (w : World) : But s w w := ⟨rfl, rfl, rfl, Nat.le_refl _, fun _ _ _ => rfl⟩
theorem But.trans {s : Nat} {a b c : World} (h : But s a b) (k : But s b c) : But s a c :=
  ⟨k.os.trans h.os, k.tape.trans h.tape, k.output.trans h.output, Nat.le_trans h.size k.size, fun i hi hn => (k.block i (Nat.lt_of_lt_of_le hi h.size) hn).trans (h.block i hi hn)⟩
theorem But.of {s : Nat} {a b : World} (h : RowKit.Below a.heap.size a b) : But s a b := ⟨h.os, h.tape, h.output, h.size, fun k hk _ => h.block k hk⟩
theorem But.drew {s : Nat} {a b : World} (h : But s a b) : But s a b.drew := ⟨h.os, h.tape, h.output, h.size, h.block⟩
theorem But.setS {s : Nat} {a b : World} (h : But s a b) (k : Nat) (v : Value) : But s a (b.setCell ⟨s, k, none⟩ v) :=
  h.trans ⟨rfl, rfl, rfl, by simp [World.setCell], fun i _ hn => RowKit.Below.heap_setCell _ _ _ _ hn⟩
theorem But.alloc (s : Nat) (w : World) (o : Obj) : But s w (w.alloc o) := But.of ((RowKit.Below.refl _ _).alloc (Nat.le_refl _) o)
theorem But.row {s b : Nat} {w w' : World} {g : Fin 5 → Int} (h : But s w w') (hr : RowAt w b g) (hn : b ≠ s) : RowAt w' b g := (h.block b hr.lt hn).trans hr
theorem But.ord {s b : Nat} {w w' : World} {o : List (Fin 5)} (h : But s w w') (hr : OrdAt w b o) (hn : b ≠ s) : OrdAt w' b o := (h.block b hr.lt hn).trans hr
theorem But.cellsH {s b n : Nat} {w w' : World} {x : Int} {f : Fin 5 → Int} (h : But s w w') (hr : cellsH w b n x f) (hn : b ≠ s) : cellsH w' b n x f := by
  have hb : b < w.heap.size := World.block_lt_of_cell? w _ hr.1
  have hc : ∀ o, w'.cell? ⟨b, o, none⟩ = w.cell? ⟨b, o, none⟩ := fun o => World.cell?_of_block (w := w) (h.block b hb hn)
  obtain ⟨h0, h1, h2, h3, h4, h5, h6⟩ := hr
  refine ⟨?_, ?_, ?_, ?_, ?_, ?_, ?_⟩ <;> rw [hc] <;> assumption
end Go.Proofs.Ytdnbdaegahcoeaa
