/- goOn 127 (go_step: one step more, from send's contract) -/
import Derived.Test.YtflllkamdihfaaaLBA
import Derived.Test.YtflllkamdihfaaaLMC
import Derived.Test.YtflllkamdihfaaaLMB
namespace Go.Proofs.Ytflllkamdihfaaa
open Go.RowKit Go.Sort
section
attribute [local go_sem] Oper.semAt_some
open Go.Shelf
/-- a search as a value. -/
abbrev srV (ya : Option Addr) (yn yc : Nat) (ta : Option Addr) (tn tc : Nat) (r c : Int) (a : Option Addr) (n cap l : Nat) : Value :=
  .agg #[.slice ya yn yc, .slice ta tn tc, .func (.func 108) #[parV r c a n cap] #[], .func (.yield l) #[] #[]]
/-- the box of a search. -/
structure BoxS (w : World) (B : Nat) (ya : Option Addr) (yn yc : Nat) (ta : Option Addr) (tn tc : Nat) (r c : Int) (a : Option Addr) (n cap l : Nat) : Prop where
  lt : B < w.heap.size
  c0 : w.cell? ⟨B, 0, none⟩ = some (.slice ya yn yc)
  c1 : w.cell? ⟨B, 1, none⟩ = some (.slice ta tn tc)
  c2 : w.cell? ⟨B, 2, none⟩ = some (.func (.func 108) #[parV r c a n cap] #[])
  c3 : w.cell? ⟨B, 3, none⟩ = some (.func (.yield l) #[] #[])
section
variable {ya : Option Addr} {yn yc : Nat} {ta : Option Addr} {tn tc : Nat} {r c : Int} {a : Option Addr} {n cap l : Nat}
theorem BoxS.but {Z : Nat → Prop} {w w' : World} {B : Nat} (h : BoxS w B ya yn yc ta tn tc r c a n cap l) (F : But Z w w') (hz : ¬ Z B) : BoxS w' B ya yn yc ta tn tc r c a n cap l :=
  ⟨Nat.lt_of_lt_of_le h.lt F.size, (F.cell (p := ⟨B, 0, none⟩) h.lt hz).trans h.c0, (F.cell (p := ⟨B, 1, none⟩) h.lt hz).trans h.c1, (F.cell (p := ⟨B, 2, none⟩) h.lt hz).trans h.c2, (F.cell (p := ⟨B, 3, none⟩) h.lt hz).trans h.c3⟩
theorem BoxS.fut {w w' : World} {B : Nat} (h : BoxS w B ya yn yc ta tn tc r c a n cap l) (F : Fut w w') : BoxS w' B ya yn yc ta tn tc r c a n cap l :=
  h.but (Z := fun _ => False) (But.of_below F) (fun q => q)
theorem BoxS.new (w : World) : BoxS (w.alloc (.cells #[.slice ya yn yc, .slice ta tn tc, .func (.func 108) #[parV r c a n cap] #[], .func (.yield l) #[] #[]] 136)) w.heap.size ya yn yc ta tn tc r c a n cap l := by
  have h := World.alloc_heap_new w (.cells #[.slice ya yn yc, .slice ta tn tc, .func (.func 108) #[parV r c a n cap] #[], .func (.yield l) #[] #[]] 136)
  exact ⟨by simp, by unfold World.cell?; rw [h]; rfl, by unfold World.cell?; rw [h]; rfl, by unfold World.cell?; rw [h]; rfl, by unfold World.cell?; rw [h]; rfl⟩
end
/-- a family of one's own. -/
structure Fam (w : World) (B : Nat) (v : Value) (vals : List Value) (F : List (List Int)) : Prop where
  own : w.ownsRow B 22 1 v F.length vals
  el : Elems w B vals F
theorem Fam.lst {w : World} {B : Nat} {v : Value} {vals : List Value} {F : List (List Int)} (h : Fam w B v vals F) : ∃ l lc, v = .slice l F.length lc ∧ LstAt w l F := OwnL.lists ⟨vals, h.own, h.el⟩
theorem Fam.fut {w w' : World} {B : Nat} {v : Value} {vals : List Value} {F : List (List Int)} (h : Fam w B v vals F) (k : Fut w w') : Fam w' B v vals F := ⟨row_fut h.own k, h.el.fut k⟩
/-- what a yielded family reads as. -/
def RdF (x : List (List Int)) (v : Value) (w : World) : Prop := ∃ g vs, v = .slice (some ⟨g, 0, none⟩) x.length x.length ∧ x.length ≤ 1000 ∧ FreeSt w g x.length vs x.length (fun i => lth x i)
theorem owns_keep {w w' : World} {B : Nat} {v : Value} {zs : List Int} (h : Owns w B v zs) (k : ∀ (g : Nat) (c : Array Value), w.heap[g]? = some (.cells c 3 (0, 0)) → w'.heap[g]? = some (.cells c 3 (0, 0))) : Owns w' B v zs := by
  obtain ⟨h1, h2⟩ := h
  refine ⟨h1, ?_⟩
  rcases h2 with h2 | ⟨g, cap, cur, h3, h4, h5, h6⟩
  · exact .inl h2
  · exact .inr ⟨g, cap, cur, h3, h4, k g cur h5, h6⟩
theorem RdF.keep {x : List (List Int)} {v : Value} {w w' : World} (h : RdF x v w) (k : ∀ (g : Nat) (c : Array Value) (t : TypeId), (t = 3 ∨ t = 22) → w.heap[g]? = some (.cells c t (0, 0)) → w'.heap[g]? = some (.cells c t (0, 0))) : RdF x v w' := by
  obtain ⟨g, vs, e, hl, h1, h2, h3⟩ := h
  obtain ⟨c, hc, hcs⟩ := h1
  exact ⟨g, vs, e, hl, ⟨c, k g c 22 (.inr rfl) hc, hcs⟩, fun i hi => owns_keep (h2 i hi) (fun g c hg => k g c 3 (.inl rfl) hg), h3⟩
theorem RdF.calm {x : List (List Int)} {v : Value} {w w' : World} (h : RdF x v w) (k : Calm 0 w w') : RdF x v w' := h.keep (fun g _ _ _ hg => k.cells g _ hg rfl)
theorem RdF.listsC {x : List (List Int)} {v : Value} {w : World} (h : RdF x v w) : ∃ l lc, v = .slice l x.length lc ∧ x.length ≤ lc ∧ lc ≤ 9223372036854775807 ∧ LstC w l x := by
  obtain ⟨g, vs, rfl, hl, h⟩ := h
  have e : (List.range x.length).map (fun i => lth x i) = x := by
    apply List.ext_getElem
    · simp
    · intro i h1 h2
      simp [lth, List.getElem?_eq_getElem h2]
  have := h.lists
  rw [e] at this
  exact ⟨_, _, rfl, Nat.le_refl _, by omega, this⟩
/-- what is read lies elsewhere than in a box of another type. -/
theorem RdF.store {x : List (List Int)} {v : Value} {w : World} (h : RdF x v w) {B : Nat} {u0 : Value} {t : TypeId} (hb : w.heap[B]? = some (.cells #[u0] t)) (ht : t ≠ 3 ∧ t ≠ 22) (u : Value) : RdF x v (w.setCell ⟨B, 0, none⟩ u) :=
  h.keep (fun g _ t' ht' hg => (RowKit.Below.heap_setCell w ⟨B, 0, none⟩ u g (fun e => by
    have e : g = B := e
    subst e
    rw [hb] at hg
    injection hg with hg
    injection hg with _ e2
    rcases ht' with rfl | rfl
    · exact ht.1 e2
    · exact ht.2 e2)).trans hg)
theorem stepIn_append_where {F : Fence} {n : Nat} {P : Program} (w : World) {ops : Array Oper} {o : Oper} {a : Act} {K : Act → World → Prop} {Q : Exit → Act → World → Prop} {E : Prop}
    (hg : Region.wanted o (yielded ops a.tmps) = true) (s x : Operand) (t : TypeId) (hop : o.op = Op.call { callee := Callee.builtin Builtin.append, args := #[s, x], argTypes := #[t, t] })
    (base : Nat) (e : TypeId) (i : TypeInfo) (z : Value) (size bytes : Nat) (h1 : P.underlying t = some (.slice e)) (h2 : P.info? e = some i) (h3 : i.zero = some z) (h4 : i.size = size) (h5 : i.bytes = bytes) (h6 : z.cells.size = size) (h7 : 0 < size)
    (v : Value) (k : Nat) (xs : List Value) (hs : a.eval s = v) (hown : w.ownsRow base e size v k xs) (ad : Addr) (m c : Nat) (news : List Value) (hx : a.eval x = .slice (some ad) m c) (hn : news.length = m * size)
    (hc : ∀ j u, news[j]? = some u → w.cell? (ad.add j) = some u) (h1c : ∀ u ∈ news, u.oneCell' = true) (hm : 0 < m) (b1 : k + m ≤ maxLen) (b2 : (k + m) * bytes ≤ 140737488355328) (b3 : base ≤ w.heap.size)
    (hK : ∀ g cap w', w'.ownsRow base e size (.slice (some ⟨g, 0, none⟩) (k + m) cap) (k + m) (xs ++ news) → ((g = w.heap.size ∧ RowKit.Below w.heap.size w w') ∨ (v = .slice (some ⟨g, 0, none⟩) k cap ∧ w.grownBy w' (some g))) → g < w'.heap.size →
      K (a.put o.dst (.slice (some ⟨g, 0, none⟩) (k + m) cap)) w') :
    if Region.wanted o (yielded ops a.tmps) = true then Oper.wpIn F n P o a w K Q else E := by
  rw [if_pos hg]
  obtain ⟨g, cap, w', hrun, r1, r2, r3⟩ := run_append_where (P := P) w t o.type base e i z size bytes h1 h2 h3 h4 h5 h6 h7 v k xs hown ad m c news hn hc h1c hm b1 b2 b3
  unfold Oper.wpIn
  refine ⟨?_, ?_⟩
  · simp [Oper.about, hop, resolve, Target.leads, Sem.run_pure]
  · rw [Oper.semAt_plain F _ _ (by rw [hop]; intro c hc'; cases hc')]
    simp [execOp, hop, resolve, invoke, builtin, hs, hx, hrun, Result.andThen]
    exact hK _ _ _ r1 r2 r3
/-- where an append's row lies. -/
abbrev Whr (w1 w2 : World) (v : Value) (n g cap : Nat) : Prop := (g = w1.heap.size ∧ RowKit.Below w1.heap.size w1 w2) ∨ (v = .slice (some ⟨g, 0, none⟩) n cap ∧ w1.grownBy w2 (some g))
theorem whr_but {w1 w2 : World} {v : Value} {n g cap : Nat} (h : Whr w1 w2 v n g cap) : But (fun k => v.ownBlock = some k) w1 w2 := by
  rcases h with ⟨_, h⟩ | ⟨rfl, h⟩
  · exact But.of_below h
  · exact ⟨h.os, h.tape, h.output, h.size, fun k hk hn => h.block k hk (fun e => hn e.symm)⟩
theorem whr_grown {w1 w2 : World} {v : Value} {n g cap : Nat} (h : Whr w1 w2 v n g cap) : w1.grownBy w2 v.ownBlock := by
  rcases h with ⟨_, h⟩ | ⟨rfl, h⟩
  · exact ⟨h.os, h.tape, h.output, h.size, fun k hk _ => h.block k hk⟩
  · exact h
theorem whr_old {w1 w2 : World} {v : Value} {n g cap : Nat} (h : Whr w1 w2 v n g cap) : v.ownBlock = some g ∨ g = w1.heap.size := by
  rcases h with ⟨h, _⟩ | ⟨rfl, _⟩
  · exact .inr h
  · exact .inl rfl
theorem row_back {w1 w2 w3 : World} {B n m cap g : Nat} {e : TypeId} {v : Value} {xs news : List Value} {Z : Nat → Prop} (hv : w1.ownsRow B e 1 v n xs) (hw : Whr w1 w2 v n g cap) (hB : But (fun k => Z k ∨ some g = some k) w2 w3) (hZ : ∀ k, v.ownBlock = some k → ¬ Z k)
    (ho : w3.ownsRow B e 1 (.slice (some ⟨g, 0, none⟩) (n + m) cap) (n + m) (xs ++ news)) : w3.ownsRow B e 1 v n xs := by
  obtain ⟨h1, h2⟩ := hv
  refine ⟨h1, ?_⟩
  rcases hw with ⟨rfl, hb⟩ | ⟨rfl, _⟩
  · rcases h2 with h2 | ⟨g', cap', cur, e', hb', hg', hr⟩
    · exact .inl h2
    · have hlt := (Array.getElem?_eq_some_iff.1 hg').1
      refine .inr ⟨g', cap', cur, e', hb', ?_, hr⟩
      rw [hB.block g' (Nat.lt_of_lt_of_le hlt hb.size) (fun q => by
        rcases q with q | q
        · exact hZ g' (by rw [e']; rfl) q
        · simp at q; omega), hb.block g' hlt]
      exact hg'
  · rcases h2 with ⟨h2, _⟩ | ⟨g1, cap1, cur1, e1, hb1, hg1, hn1, hm1, _⟩
    · cases h2
    · rcases ho.2 with ⟨h3, _⟩ | ⟨g', cap', cur, e', hb', hg', hn, hm, hs, htake⟩
      · cases h3
      · simp only [Value.slice.injEq, Option.some.injEq, Addr.mk.injEq, and_true, true_and] at e'
        obtain ⟨rfl, rfl⟩ := e'
        refine .inr ⟨g, cap, cur, rfl, hb', hg', by omega, hm, hs, ?_⟩
        have e3 := congrArg (List.take xs.length) htake
        rw [List.take_take, List.take_left] at e3
        rw [Nat.min_eq_left (by omega)] at e3
        rw [← h1]; exact e3
theorem Fam.way {w w' : World} {B : Nat} {vF vw : Value} {vals : List Value} {F : List (List Int)} {way : List Int} (h : Fam w B vF vals F) (hw : Owns w B vw way) (hap : ∀ u ∈ vals, ∀ k, u.ownBlock = some k → vw.ownBlock ≠ some k) (g : w.grownBy w' vw.ownBlock) : Fam w' B vF vals F := by
  refine ⟨World.ownsRow.kept h.own g ?_, h.el.1, fun j hj => ?_⟩
  · rcases own_apart hw h.own with q | q
    · cases hb : vF.ownBlock with
      | none => exact .inl rfl
      | some k => exact .inr (by rw [q]; simp)
    · exact .inr (fun e => q e.symm)
  · obtain ⟨u, e, hu⟩ := h.el.2 j hj
    refine ⟨u, e, World.ownsRow.kept hu g ?_⟩
    cases hb : u.ownBlock with
    | none => exact .inl rfl
    | some k => exact .inr (fun q => hap u (List.mem_of_getElem? e) k hb q.symm)
theorem Fam.lt {w : World} {B : Nat} {v : Value} {vals : List Value} {F : List (List Int)} (h : Fam w B v vals F) : ∀ u ∈ vals, ∀ k, u.ownBlock = some k → k < w.heap.size := fun u hu k hk => by
  obtain ⟨j, hj, rfl⟩ := List.getElem_of_mem hu
  obtain ⟨u, e, h2⟩ := h.el.2 j (by have := h.el.1; omega)
  rw [List.getElem?_eq_getElem hj] at e
  obtain rfl : vals[j] = u := by simpa using e
  exact (World.ownsRow.lt h2 k hk).2
/-- a family with one way more. -/
theorem Fam.app {w w' : World} {B : Nat} {vF vw : Value} {vals : List Value} {F : List (List Int)} {way : List Int} {g cap : Nat} (h : Fam w B vF vals F) (hw : Owns w B vw way) (hr : Whr w w' vF F.length g cap)
    (hown : w'.ownsRow B 22 1 (.slice (some ⟨g, 0, none⟩) (F.length + 1) cap) (F.length + 1) (vals ++ [vw])) : Fam w' B (.slice (some ⟨g, 0, none⟩) (F ++ [way]).length cap) (vals ++ [vw]) (F ++ [way]) :=
  ⟨by rw [List.length_append]; exact hown, Elems.app h.el hw h.own (whr_grown hr)⟩
/-- a family as it was, behind what was done with one way more. -/
theorem Fam.back {w1 w2 w3 : World} {B : Nat} {vF vw : Value} {vals : List Value} {F : List (List Int)} {way : List Int} {g cap : Nat} {Z : Nat → Prop} (h : Fam w1 B vF vals F) (hr : Whr w1 w2 vF F.length g cap) (hB : But (fun k => Z k ∨ some g = some k) w2 w3) (hZ : ∀ k, Z k → k < B)
    (h3 : Fam w3 B (.slice (some ⟨g, 0, none⟩) (F ++ [way]).length cap) (vals ++ [vw]) (F ++ [way])) : Fam w3 B vF vals F ∧ Owns w3 B vw way := by
  have hl := h.el.1
  refine ⟨⟨row_back h.own hr hB (fun k hk hz => ?_) (m := 1) (news := [vw]) (by have := h3.own; rwa [List.length_append] at this), hl, fun j hj => ?_⟩, ?_⟩
  · have := (World.ownsRow.lt h.own k hk).1
    have := hZ k hz
    omega
  · obtain ⟨u, e, hu⟩ := h3.el.2 j (by rw [List.length_append]; omega)
    rw [List.getElem?_append_left (by omega)] at e
    rw [lth_app1 _ _ _ hj] at hu
    exact ⟨u, e, hu⟩
  · obtain ⟨u, e, hu⟩ := h3.el.2 F.length (by simp)
    rw [← hl, List.getElem?_append_right (Nat.le_refl _)] at e
    rw [lth_app2] at hu
    simp at e
    rw [e]; exact hu
/-- what stays the same while a search goes on. -/
structure Srch (w0 : World) (B : Nat) (Z : Nat → Prop) (r c m : Int) (a : Option Addr) (S : List Int) (ya : Option Addr) (yc : Nat) (Y : List Int) (ta : Option Addr) (tc : Nat) (T : List Int) : Prop where
  hs : Side r c m
  hin : InPQ w0 a S ya yc Y ta tc T
  hz : ∀ k, Z k → w0.heap.size ≤ k ∧ k < B
  hb : w0.heap.size ≤ B
  hy : ∀ y ∈ Y, 0 ≤ y ∧ y < m
/-- send's contract. -/
def SendP (w0 : World) (B : Nat) (Z : Nat → Prop) (r c m : Int) (a : Option Addr) (cap : Nat) (S : List Int) (ya : Option Addr) (yc : Nat) (Y : List Int) (ta : Option Addr) (tc : Nat) (T : List Int) (l : Nat) (J Jx : List (List (List Int)) → World → Prop) (xs : List (List (List Int))) (n : Nat) : Prop :=
  ∀ (F : List (List Int)) (vF : Value) (vals : List Value) (pre : List (List (List Int))) (W : World) (d : Nat), F.length + n = Y.length → (∀ k, k < F.length → (lth F k).length ≤ 20) → Fam W B vF vals F → B ≤ W.heap.size → Fut w0 W → J pre W → pre ++ sendF (stL c m S) Y T n F <+: xs →
    CallsIn Fence.wide d Try.prog 111 #[srV ya Y.length yc ta T.length tc r c a S.length cap l, vF] W fun e W' =>
      But (fun k => Z k ∨ vF.ownBlock = some k) W W' ∧
      ((e = .returned (.bool true) ∧ J (pre ++ sendF (stL c m S) Y T n F) W' ∧ Fam W' B vF vals F) ∨ (e = .returned (.bool false) ∧ ∃ q, q <+: sendF (stL c m S) Y T n F ∧ Jx (pre ++ q) W'))
/-- goOn's contract. -/
def GoP (w0 : World) (B : Nat) (Z : Nat → Prop) (r c m : Int) (a : Option Addr) (cap : Nat) (S : List Int) (ya : Option Addr) (yc : Nat) (Y : List Int) (ta : Option Addr) (tc : Nat) (T : List Int) (l : Nat) (J Jx : List (List (List Int)) → World → Prop) (xs : List (List (List Int))) (n f : Nat) : Prop :=
  ∀ (F : List (List Int)) (vF : Value) (vals : List Value) (way : List Int) (vw : Value) (pre : List (List (List Int))) (W : World) (d : Nat), F.length + n + 1 = Y.length → (∀ k, k < F.length → (lth F k).length ≤ 20) → Fam W B vF vals F → Owns W B vw way →
    0 < way.length → way.length + f ≤ 18 → 0 ≤ lst way → lst way < m → m - lst way ≤ f → (∀ u ∈ vals, ∀ k, u.ownBlock = some k → vw.ownBlock ≠ some k) → B ≤ W.heap.size → Fut w0 W → J pre W → pre ++ goF (sendF (stL c m S) Y T n) (stL c m S) T f F way <+: xs →
    CallsIn Fence.wide d Try.prog 127 #[srV ya Y.length yc ta T.length tc r c a S.length cap l, vF, vw] W fun e W' =>
      But (fun k => (Z k ∨ vF.ownBlock = some k) ∨ vw.ownBlock = some k) W W' ∧
      ((e = .returned (.bool true) ∧ J (pre ++ goF (sendF (stL c m S) Y T n) (stL c m S) T f F way) W' ∧ Fam W' B vF vals F ∧ Owns W' B vw way) ∨ (e = .returned (.bool false) ∧ ∃ q, q <+: goF (sendF (stL c m S) Y T n) (stL c m S) T f F way ∧ Jx (pre ++ q) W'))
set_option maxRecDepth 100000 in
set_option maxHeartbeats 4000000 in
theorem go_step (w0 : World) (B : Nat) (Z : Nat → Prop) (r c m : Int) (a : Option Addr) (cap : Nat) (S : List Int) (ya : Option Addr) (yc : Nat) (Y : List Int) (ta : Option Addr) (tc : Nat) (T : List Int) (l : Nat) (J Jx : List (List (List Int)) → World → Prop) (xs : List (List (List Int))) (n f : Nat)
    (hC : Srch w0 B Z r c m a S ya yc Y ta tc T) (hJ : OldJ B J) (HS : SendP w0 B Z r c m a cap S ya yc Y ta tc T l J Jx xs n) (ih : GoP w0 B Z r c m a cap S ya yc Y ta tc T l J Jx xs n f) : GoP w0 B Z r c m a cap S ya yc Y ta tc T l J Jx xs n (f + 1) := by
  intro F vF vals way vw pre W d hn hFk hF hW hw0 hwf hx0 hx1 hxf hap hB hK hJ0 hpre
  obtain ⟨i0, hi0, hz0, hz1, hz2⟩ := info_parts info3
  obtain ⟨i1, hi1, hy0, hy1, hy2⟩ := info_parts info22
  obtain ⟨la, lc, rfl, hL⟩ := hF.lst
  obtain ⟨wa, wc, rfl, hw1, hw2, hI⟩ := hW.form
  have hIW := hC.hin.fut hK
  have hbox := BoxS.new (ya := ya) (yn := Y.length) (yc := yc) (ta := ta) (tn := T.length) (tc := tc) (r := r) (c := c) (a := a) (n := S.length) (cap := cap) (l := l) W
  have hFa : Fut W (W.alloc (.cells #[.slice ya Y.length yc, .slice ta T.length tc, .func (.func 108) #[parV r c a S.length cap] #[], .func (.yield l) #[] #[]] 136)) := Fut.alloc _ _
  have HON := Lib.hid (fun x W' (k : Fut W W') => isOn_any la lc F x W' (hL.fut k) (fun k hk => Nat.le_trans (hFk k hk) (by omega)) (by have := hC.hin.yl; omega))
  have HCT := Lib.hid (fun x W' (k : Fut W W') => contains_any ta tc T x W' (hIW.t.fut k) hIW.tl)
  have HST := Lib.hid (fun x W' (h0 : 0 ≤ x) (h1 : x < m) (k : Fut W W') => steps_any r c m hC.hs a cap S x ⟨h0, h1⟩ W' (hIW.s.fut k) hIW.sl)
  obtain ⟨wb, wo, ewa, hwb, cw⟩ := hI (way.length - 1) (by omega)
  have hlw : lst way = nth way (way.length - 1) := rfl
  obtain ⟨x, hxe⟩ : ∃ x, x = lst way := ⟨_, rfl⟩
  rw [← hlw, ← hxe] at cw
  rw [← hxe] at hx0 hx1 hxf
  subst ewa
  have hwr : IntKind.i64.wrap ((way.length : Int) - 1) = ((way.length - 1 : Nat) : Int) := by rw [IntWalk.i64_in _ ⟨by omega, by omega⟩]; omega
  have hwlx : ((way.length - 1 : Nat) : Int) < way.length := by omega
  have hwln : (0 : Int) ≤ ((way.length - 1 : Nat) : Int) := by omega
  have c1 : (W.alloc (.cells #[.slice ya Y.length yc, .slice ta T.length tc, .func (.func 108) #[parV r c a S.length cap] #[], .func (.yield l) #[] #[]] 136)).cell? ⟨wb, wo + (way.length - 1), none⟩ = some (.int .i64 x) := (RowKit.Below.cell hFa (p := ⟨wb, wo + (way.length - 1), none⟩) hwb).trans cw
  have HW := Lib.hid hW
  have HF := Lib.hid hF
  have HP := Lib.hid hpre
  have HAP := Lib.hid hap
  have HNN := Lib.hid (And.intro hn hFk)
  have HX := Lib.hid (And.intro hx0 (And.intro hx1 hxf))
  have HWF := Lib.hid (And.intro hw0 hwf)
  have HIH := Lib.hid ih
  have HSD := Lib.hid HS
  have HK := Lib.hid hK
  have HBX := Lib.hid hbox
  have HFA := Lib.hid hFa
  have HC := Lib.hid hC
  have hHl : Hid (goF (sendF (stL c m S) Y T n) (stL c m S) T (f + 1) F way = if onL F x = true then [] else if T.contains x = true then sendF (stL c m S) Y T n (F ++ [way]) else (stL c m S x).flatMap fun y => goF (sendF (stL c m S) Y T n) (stL c m S) T f F (way ++ [y])) := Lib.hid (by rw [hxe]; rfl)
  clear hW hF hpre hap hn hFk hx0 hx1 hxf hw0 hwf ih HS hK hbox hFa hC hI cw hwb hL hIW hlw
  obtain ⟨_, b0, b1, b2, b3⟩ := HBX.out
  replace HON := Lib.hid (HON.out x)
  replace HCT := Lib.hid (HCT.out x)
  replace HST := Lib.hid (fun W' => HST.out x W' HX.out.1 HX.out.2.1)
  generalize hgo : goF (sendF (stL c m S) Y T n) (stL c m S) T (f + 1) F way = G at *
  clear hgo hxe
  refine callsIn_of_wp Try.func127 rfl trivial ?_ rfl
  simp only [Try.ntmps127, List.size_toArray, List.length_cons, List.length_nil, Nat.reduceAdd, Nat.reduceSub, Array.replicate_succ, Array.replicate_zero, List.push_toArray, List.append_toArray, List.nil_append, List.cons_append]
  gi_wp2_with fail
  generalize W.alloc (.cells #[.slice ya Y.length yc, .slice ta T.length tc, .func (.func 108) #[parV r c a S.length cap] #[], .func (.yield l) #[] #[]] 136) = W1 at *
  cases hon : onL F x
  · rw [hon] at hHl HON
    simp only [Bool.false_eq_true, if_false] at hHl
    clear hon
    gi_wp2_with (first
      | (refine ⟨trivial, fun hh => (by cases hh), ?_⟩; gi_at_call 133; refine (callsIn_wide.2 (HON.out _ HFA.out)).mono ?_; clear HON; rintro e w1 ⟨rfl, F1⟩; have HF1 := Lib.hid (HFA.out.trans F1); have HB1 := Lib.hid (HBX.out.fut F1); clear HFA HBX F1 c1 b0 b1 b2 b3; obtain ⟨_, b0, b1, b2, b3⟩ := HB1.out))
    cases hct : T.contains x
    · rw [hct] at hHl HCT
      simp only [Bool.false_eq_true, if_false] at hHl
      clear hct
      have HLI := Lib.hid (stL_in HC.out.hs (S := S) HX.out.1)
      have hlx : ((stL c m S x).length : Int) ≤ 1000 := by have := stL_len c m S x; omega
      generalize stL c m S x = LL at *
      gi_wp2_with (first
        | (refine ⟨trivial, fun hh => (by cases hh), ?_⟩; gi_at_call 57; refine (callsIn_wide.2 (HCT.out _ HF1.out)).mono ?_; clear HCT; rintro e w2 ⟨rfl, rfl⟩))
      gi_wp2_with (first
        | (refine ⟨trivial, fun hh => (by cases hh), ?_⟩; gi_at_call 108; refine (callsIn_wide.2 (HST.out _ HF1.out)).mono ?_; clear HST; rintro e w2 ⟨v, rfl, hOS, F2⟩; obtain ⟨sa, sc, rfl, _, _, _⟩ := hOS.form))
      have HOS := Lib.hid hOS
      have HF2 := Lib.hid (HF1.out.trans F2)
      have HB2 := Lib.hid (HB1.out.fut F2)
      have HS1 : Hid (W.heap.size ≤ w1.heap.size) := Lib.hid (RowKit.Below.size HF1.out)
      clear hOS F2 HB1 HF1 b0 b1 b2 b3
      have HFw := Lib.hid (HF.out.fut HF2.out)
      have HWw := Lib.hid (HW.out.fut HF2.out)
      have hJ2 : J (pre ++ (LL.take 0).flatMap fun y => goF (sendF (stL c m S) Y T n) (stL c m S) T f F (way ++ [y])) w2 := by
        rw [List.take_zero, List.flatMap_nil, List.append_nil]; exact hJ _ _ _ hJ0 (RowKit.Below.mono HF2.out hB)
      gi_loopw [35] (fun iv wr => ∃ k : Nat, k ≤ LL.length ∧ iv = .int .i64 k ∧ J (pre ++ (LL.take k).flatMap fun y => goF (sendF (stL c m S) Y T n) (stL c m S) T f F (way ++ [y])) wr ∧ Hid (Owns wr B (.slice (some ⟨wb, wo, none⟩) way.length wc) way) ∧ Hid (Fam wr B (.slice la F.length lc) vals F) ∧ Hid (But (fun k => (Z k ∨ (Value.slice la F.length lc).ownBlock = some k) ∨ (Value.slice (some ⟨wb, wo, none⟩) way.length wc).ownBlock = some k) w2 wr)) (fun iv _ => LL.length - (intOf iv).toNat)
      case atStart => exact ⟨0, Nat.zero_le _, rfl, hJ2, HWw, HFw, Lib.hid (But.refl _ _)⟩
      case round =>
        obtain ⟨k, hk, rfl, hJr, HWr, HFr, HBr⟩ := hrel
        obtain ⟨wo2, hwo2⟩ : ∃ wo2, wo2 = wr := ⟨_, rfl⟩
        subst hwo2
        have HBK : Hid (∀ q, ((Z q ∨ (Value.slice la F.length lc).ownBlock = some q) ∨ (Value.slice (some ⟨wb, wo, none⟩) way.length wc).ownBlock = some q) → w0.heap.size ≤ q ∧ q < W.heap.size) := Lib.hid (fun q hq => by
          have hb2 := HC.out.hb
          rcases hq with (hq | hq) | hq
          · have := HC.out.hz q hq; omega
          · have := World.ownsRow.lt HF.out.own q hq; omega
          · have := World.ownsRow.lt HW.out q hq; omega)
        by_cases hlt : k < LL.length
        · have hkx : (k : Int) < LL.length := by omega
          have HSS : Hid ((LL.take (k + 1)).flatMap (fun y => goF (sendF (stL c m S) Y T n) (stL c m S) T f F (way ++ [y])) = ((LL.take k).flatMap fun y => goF (sendF (stL c m S) Y T n) (stL c m S) T f F (way ++ [y])) ++ goF (sendF (stL c m S) Y T n) (stL c m S) T f F (way ++ [nth LL k])) := Lib.hid (by
            rw [List.take_succ_eq_append_getElem hlt, List.flatMap_append, nth_eq, List.getElem?_eq_getElem hlt]; simp)
          have HPG : Hid ((LL.take (k + 1)).flatMap (fun y => goF (sendF (stL c m S) Y T n) (stL c m S) T f F (way ++ [y])) <+: G) := Lib.hid (by
            rw [hHl.out]
            conv => rhs; rw [← List.take_append_drop (k + 1) LL, List.flatMap_append]
            exact List.prefix_append _ _)
          have hOSr := HOS.out.but HBr.out (fun q hq => by have := HBK.out q hq; have := HS1.out; omega)
          obtain ⟨_, _, e', _, _, hIr⟩ := hOSr.form
          simp only [Value.slice.injEq, true_and] at e'
          obtain ⟨rfl, rfl⟩ := e'
          obtain ⟨sb, so, rfl, _, d1⟩ := hIr k hlt
          have HNI := Lib.hid (HLI.out _ (nth_mem hlt))
          generalize nth LL k = y at *
          have HI9 := Lib.hid hIr
          clear hIr hOSr
          have FD : Fut wo2 wo2.drew := below_drewN Fut.rfl 1
          have HB0 := Lib.hid ((HB2.out.but HBr.out (fun q => by have := HBK.out _ q; omega)).fut FD)
          have HSZ := Lib.hid (Nat.le_trans hB (Nat.le_trans (RowKit.Below.size HF2.out) (Nat.le_trans HBr.out.size (RowKit.Below.size FD))))
          have HFX := Lib.hid (HFr.out.fut (FD.trans (Fut.alloc _ (.cells #[.int .i64 y] 3))))
          have HW1u := Lib.hid (HWr.out.fut (FD.trans (Fut.alloc _ (.cells #[.int .i64 y] 3))))
          have HGO : ∀ (g capp : Nat) (w3 : World) (d : Nat), Whr (wo2.drew.alloc (.cells #[.int .i64 y] 3)) w3 (.slice (some ⟨wb, wo, none⟩) way.length wc) way.length g capp → Owns w3 B (.slice (some ⟨g, 0, none⟩) (way ++ [y]).length capp) (way ++ [y]) →
              CallsIn Fence.wide d Try.prog 127 #[srV ya Y.length yc ta T.length tc r c a S.length cap l, .slice la F.length lc, .slice (some ⟨g, 0, none⟩) (way.length + 1) capp] w3 fun e W' => ∃ b : Bool, e = .returned (.bool b) ∧ Hid (But (fun k => (Z k ∨ (Value.slice la F.length lc).ownBlock = some k) ∨ (Value.slice (some ⟨wb, wo, none⟩) way.length wc).ownBlock = some k) w2 W' ∧ ((b = true ∧ J (pre ++ (LL.take (k + 1)).flatMap fun y => goF (sendF (stL c m S) Y T n) (stL c m S) T f F (way ++ [y])) W' ∧ Fam W' B (.slice la F.length lc) vals F ∧ Owns W' B (.slice (some ⟨wb, wo, none⟩) way.length wc) way) ∨ (b = false ∧ ∃ q, q <+: G ∧ Jx (pre ++ q) W'))) := by
            intro g capp w3 dd hw ho3
            have FA := FD.trans (Fut.alloc wo2.drew (.cells #[.int .i64 y] 3))
            have hbu0 := whr_but hw
            have hsz1 : B ≤ (wo2.drew.alloc (.cells #[.int .i64 y] 3)).heap.size := Nat.le_trans HSZ.out (RowKit.Below.size (Fut.alloc _ _))
            have hbB := hbu0.below B hsz1 (fun k hk => (World.ownsRow.lt HW1u.out k hk).1)
            have hF3 := HFX.out.way HW1u.out HAP.out (whr_grown hw)
            have hBr2 : RowKit.Below w0.heap.size W wo2 := RowKit.Below.trans (RowKit.Below.mono HF2.out (Nat.le_trans HC.out.hb hB)) (HBr.out.below _ (Nat.le_trans HC.out.hb (Nat.le_trans hB (RowKit.Below.size HF2.out))) (fun q hq => (HBK.out q hq).1))
            have hJ3 : J (pre ++ (LL.take k).flatMap fun y => goF (sendF (stL c m S) Y T n) (stL c m S) T f F (way ++ [y])) w3 := hJ _ _ _ hJr ((RowKit.Below.mono FA (Nat.le_trans hB (Nat.le_trans (RowKit.Below.size HF2.out) HBr.out.size))).trans hbB)
            have hfu : Fut w0 w3 := RowKit.Below.trans HK.out (RowKit.Below.trans hBr2 (RowKit.Below.trans (RowKit.Below.mono FA (Nat.le_trans HC.out.hb (Nat.le_trans hB (Nat.le_trans (RowKit.Below.size HF2.out) HBr.out.size)))) (RowKit.Below.mono hbB HC.out.hb)))
            have h := HIH.out F (.slice la F.length lc) vals (way ++ [y]) (.slice (some ⟨g, 0, none⟩) (way ++ [y]).length capp) (pre ++ (LL.take k).flatMap fun y => goF (sendF (stL c m S) Y T n) (stL c m S) T f F (way ++ [y])) w3 dd HNN.out.1 HNN.out.2 hF3 ho3 (by simp) (by rw [List.length_append, List.length_singleton]; have := HWF.out.2; omega)
              (by rw [lst_app]; have := HNI.out; have := HX.out.1; omega) (by rw [lst_app]; exact HNI.out.2) (by rw [lst_app]; have := HNI.out; have := HX.out; omega)
              (fun u hu k hk e => by
                have e2 : g = k := by simpa [Value.ownBlock] using e
                subst e2
                rcases whr_old hw with q | q
                · exact HAP.out u hu g hk q
                · have := HFX.out.lt u hu g hk; omega)
              (Nat.le_trans hsz1 hbu0.size) hfu hJ3 (by
                rw [List.append_assoc, ← HSS.out]
                exact ((List.prefix_append_right_inj _).2 HPG.out).trans HP.out)
            rw [List.length_append, List.length_singleton] at h
            refine h.mono ?_
            rintro e w4 ⟨hbu, h4⟩
            have hbk := but_back hw hbu
            have hb2 := HBr.out.trans ((But.of_below FA).trans hbk)
            rcases h4 with ⟨rfl, hJ4, hF4, hO4⟩ | ⟨rfl, q, hq, hx⟩
            · refine ⟨true, rfl, Lib.hid ⟨hb2, .inl ⟨rfl, ?_, hF4, ?_⟩⟩⟩
              · rw [HSS.out, ← List.append_assoc]; exact hJ4
              · unfold Owns
                refine row_back HW1u.out hw hbu (fun k hk hz => ?_) (m := 1) (news := [.int .i64 y]) (by unfold Owns at hO4; rwa [List.length_append, List.length_singleton, List.map_append] at hO4)
                rcases hz with hz | hz
                · have := (World.ownsRow.lt HW1u.out k hk).1; have := HC.out.hz k hz; omega
                · rcases own_apart HW1u.out HFX.out.own with q | q
                  · rw [q] at hk; cases hk
                  · exact q (by rw [hk, hz])
            · refine ⟨false, rfl, Lib.hid ⟨hb2, .inr ⟨rfl, (LL.take k).flatMap (fun y => goF (sendF (stL c m S) Y T n) (stL c m S) T f F (way ++ [y])) ++ q, ?_, by rw [← List.append_assoc]; exact hx⟩⟩⟩
              have e1 : (LL.take k).flatMap (fun y => goF (sendF (stL c m S) Y T n) (stL c m S) T f F (way ++ [y])) ++ q <+: (LL.take (k + 1)).flatMap (fun y => goF (sendF (stL c m S) Y T n) (stL c m S) T f F (way ++ [y])) := by
                rw [HSS.out]; exact (List.prefix_append_right_inj _).2 hq
              exact e1.trans HPG.out
          clear HSS HPG HNI HI9 hJr HFr HBr HWr
          gi_wp2_with fail
          refine wpIn_region_any (by kernel_rfl) ?_
          change wpAnyIn _ _ _ _ _ _ _ _ _ (World.drew _)
          generalize wo2.drew = u0 at *
          refine wpAnyIn_take (i := 1) (v := ?_) rfl rfl (by kernel_rfl) (by kernel_rfl) (by kernel_rfl) (fun _ _ _ h => h) ⟨Or.inl ⟨by rfl, ?_⟩, fun _ => rfl⟩ ?_
          rotate_left
          · (intro w; go_simp <;> with_reducible rfl)
          try simp only [Act.put, List.setIfInBounds_toArray]
          refine wpAnyIn_take (i := 2) (v := ?_) rfl rfl (by kernel_rfl) (by kernel_rfl) (by kernel_rfl) (fun _ _ _ h => h) ⟨Or.inl ⟨by rfl, ?_⟩, fun _ => rfl⟩ ?_
          rotate_left
          · (intro w; go_simp <;> with_reducible rfl)
          try simp only [Act.put]
          refine wpAnyIn_take (i := 3) (v := ?_) rfl rfl (by kernel_rfl) (by kernel_rfl) (by kernel_rfl) (fun _ _ _ h => h) ⟨Or.inl ⟨by rfl, ?_⟩, fun _ => rfl⟩ ?_
          rotate_left
          · (intro w; go_simp <;> with_reducible rfl)
          try simp only [Act.put]
          refine wpAnyIn_ready (rs := [0, 4]) (by kernel_rfl) (by simp) ?_
          refine AllReadyIn.cons rfl (fun K hK => ?_) (AllReadyIn.cons rfl (fun K hK => ?_) (AllReadyIn.nil))
          · obtain ⟨_, s0, s1, s2, s3⟩ := HB0.out
            go_simp
            clear s0 s1 s2 s3
            refine hK _ _ ?_
            clear hK K
            try simp only [Act.put, List.setIfInBounds_toArray, List.set_cons_zero, List.set_cons_succ]
            refine wpAnyIn_ready (rs := [4]) (by kernel_rfl) (by simp) ?_
            refine AllReadyIn.cons rfl (fun K hK => ?_) AllReadyIn.nil
            go_simp
            refine hK _ _ ?_
            clear hK K
            try simp only [Act.put, List.setIfInBounds_toArray, List.set_cons_zero, List.set_cons_succ]
            refine wpAnyIn_ready (rs := [5]) (by kernel_rfl) (by simp) ?_
            refine AllReadyIn.cons rfl (fun K hK => ?_) AllReadyIn.nil
            refine stepIn_append_where _ rfl _ _ 22 rfl B 3 i0 (.int .i64 0) 1 8 Try.underlying22 hi0 hz0 hz1 hz2 rfl (by decide) _ way.length (way.map (Value.int .i64)) rfl HW1u.out ⟨u0.heap.size, 0, none⟩ 1 1 [.int .i64 y] rfl rfl (cell_one (by simp [go_sem])) (by simp [Value.oneCell']) (by decide) ?_ ?_ ?_ ?_
            · have := HWF.out; unfold maxLen; omega
            · have := HWF.out; omega
            · have := HSZ.out; simp; omega
            intro g capp w3 hown hwh0 hlt2
            have HWH : Hid (Whr (u0.alloc (.cells #[.int .i64 y] 3)) w3 (.slice (some ⟨wb, wo, none⟩) way.length wc) way.length g capp) := Lib.hid hwh0
            have HB3 := Lib.hid ((HB0.out.fut (Fut.alloc _ (.cells #[.int .i64 y] 3))).but (whr_but HWH.out) (fun q => by have := (World.ownsRow.lt HW.out _ q).2; omega))
            have HOW : Hid (Owns w3 B (.slice (some ⟨g, 0, none⟩) (way ++ [y]).length capp) (way ++ [y])) := Lib.hid (by unfold Owns; rw [List.length_append, List.length_singleton, List.map_append]; exact hown)
            clear hown hwh0 hlt2
            refine hK _ _ ?_
            clear hK K
            try simp only [Act.put, List.setIfInBounds_toArray]
            refine wpAnyIn_ready (rs := [6]) (by kernel_rfl) (by simp) ?_
            refine AllReadyIn.cons rfl (fun K hK => ?_) AllReadyIn.nil
            go_simp
            refine ⟨trivial, fun hh => (by cases hh), ?_⟩
            refine (HGO g capp w3 _ HWH.out HOW.out).mono ?_
            rintro e w4 ⟨bb, rfl, HR⟩
            try simp only []
            refine hK _ _ ?_
            clear hK K
            try simp only [Act.put, List.setIfInBounds_toArray, List.set_cons_zero, List.set_cons_succ]
            refine wpAnyIn_ready (rs := [7]) (by kernel_rfl) (by simp) ?_
            refine AllReadyIn.cons rfl (fun K hK => ?_) AllReadyIn.nil
            go_simp
            refine hK _ _ ?_
            clear hK K
            try simp only [Act.put, List.setIfInBounds_toArray, List.set_cons_zero, List.set_cons_succ]
            refine wpAnyIn_done (by kernel_rfl) ?_ _
            obtain ⟨q1, q2⟩ := HR.out
            cases bb
            · have HR2 := Lib.hid (And.intro q1 (q2.resolve_left (fun q => by cases q.1)).2)
              clear q1 q2 HR
              gi_wp2_with fail
              refine bodyPost_ret (results_tmp rfl _ _ _) rfl ?_
              exact ⟨(But.of_below HF2.out).trans HR2.out.1, .inr ⟨rfl, HR2.out.2⟩⟩
            · have HR2 := Lib.hid (And.intro q1 (q2.resolve_right (fun q => by cases q.1)).2)
              clear q1 q2 HR
              gi_wp2_with fail
              go_roundw
              case rel => exact ⟨k + 1, by omega, by go_num, HR2.out.2.1, Lib.hid HR2.out.2.2.2, Lib.hid HR2.out.2.2.1, Lib.hid HR2.out.1⟩
              case measure => simp [intOf]; omega
          · go_simp
            refine hK _ _ ?_
            clear hK K
            try simp only [Act.put, List.setIfInBounds_toArray, List.set_cons_zero, List.set_cons_succ]
            refine wpAnyIn_ready (rs := [0, 5]) (by kernel_rfl) (by simp) ?_
            refine AllReadyIn.cons rfl (fun K hK => ?_) (AllReadyIn.cons rfl (fun K hK => ?_) (AllReadyIn.nil))
            · obtain ⟨_, s0, s1, s2, s3⟩ := (HB0.out.fut (Fut.alloc _ (.cells #[.int .i64 y] 3)))
              go_simp
              clear s0 s1 s2 s3
              refine hK _ _ ?_
              clear hK K
              try simp only [Act.put, List.setIfInBounds_toArray, List.set_cons_zero, List.set_cons_succ]
              refine wpAnyIn_ready (rs := [5]) (by kernel_rfl) (by simp) ?_
              refine AllReadyIn.cons rfl (fun K hK => ?_) AllReadyIn.nil
              refine stepIn_append_where _ rfl _ _ 22 rfl B 3 i0 (.int .i64 0) 1 8 Try.underlying22 hi0 hz0 hz1 hz2 rfl (by decide) _ way.length (way.map (Value.int .i64)) rfl HW1u.out ⟨u0.heap.size, 0, none⟩ 1 1 [.int .i64 y] rfl rfl (cell_one (by simp [go_sem])) (by simp [Value.oneCell']) (by decide) ?_ ?_ ?_ ?_
              · have := HWF.out; unfold maxLen; omega
              · have := HWF.out; omega
              · have := HSZ.out; simp; omega
              intro g capp w3 hown hwh0 hlt2
              have HWH : Hid (Whr (u0.alloc (.cells #[.int .i64 y] 3)) w3 (.slice (some ⟨wb, wo, none⟩) way.length wc) way.length g capp) := Lib.hid hwh0
              have HB3 := Lib.hid ((HB0.out.fut (Fut.alloc _ (.cells #[.int .i64 y] 3))).but (whr_but HWH.out) (fun q => by have := (World.ownsRow.lt HW.out _ q).2; omega))
              have HOW : Hid (Owns w3 B (.slice (some ⟨g, 0, none⟩) (way ++ [y]).length capp) (way ++ [y])) := Lib.hid (by unfold Owns; rw [List.length_append, List.length_singleton, List.map_append]; exact hown)
              clear hown hwh0 hlt2
              refine hK _ _ ?_
              clear hK K
              try simp only [Act.put, List.setIfInBounds_toArray]
              refine wpAnyIn_ready (rs := [6]) (by kernel_rfl) (by simp) ?_
              refine AllReadyIn.cons rfl (fun K hK => ?_) AllReadyIn.nil
              go_simp
              refine ⟨trivial, fun hh => (by cases hh), ?_⟩
              refine (HGO g capp w3 _ HWH.out HOW.out).mono ?_
              rintro e w4 ⟨bb, rfl, HR⟩
              try simp only []
              refine hK _ _ ?_
              clear hK K
              try simp only [Act.put, List.setIfInBounds_toArray, List.set_cons_zero, List.set_cons_succ]
              refine wpAnyIn_ready (rs := [7]) (by kernel_rfl) (by simp) ?_
              refine AllReadyIn.cons rfl (fun K hK => ?_) AllReadyIn.nil
              go_simp
              refine hK _ _ ?_
              clear hK K
              try simp only [Act.put, List.setIfInBounds_toArray, List.set_cons_zero, List.set_cons_succ]
              refine wpAnyIn_done (by kernel_rfl) ?_ _
              obtain ⟨q1, q2⟩ := HR.out
              cases bb
              · have HR2 := Lib.hid (And.intro q1 (q2.resolve_left (fun q => by cases q.1)).2)
                clear q1 q2 HR
                gi_wp2_with fail
                refine bodyPost_ret (results_tmp rfl _ _ _) rfl ?_
                exact ⟨(But.of_below HF2.out).trans HR2.out.1, .inr ⟨rfl, HR2.out.2⟩⟩
              · have HR2 := Lib.hid (And.intro q1 (q2.resolve_right (fun q => by cases q.1)).2)
                clear q1 q2 HR
                gi_wp2_with fail
                go_roundw
                case rel => exact ⟨k + 1, by omega, by go_num, HR2.out.2.1, Lib.hid HR2.out.2.2.2, Lib.hid HR2.out.2.2.1, Lib.hid HR2.out.1⟩
                case measure => simp [intOf]; omega
            · refine stepIn_append_where _ rfl _ _ 22 rfl B 3 i0 (.int .i64 0) 1 8 Try.underlying22 hi0 hz0 hz1 hz2 rfl (by decide) _ way.length (way.map (Value.int .i64)) rfl HW1u.out ⟨u0.heap.size, 0, none⟩ 1 1 [.int .i64 y] rfl rfl (cell_one (by simp [go_sem])) (by simp [Value.oneCell']) (by decide) ?_ ?_ ?_ ?_
              · have := HWF.out; unfold maxLen; omega
              · have := HWF.out; omega
              · have := HSZ.out; simp; omega
              intro g capp w3 hown hwh0 hlt2
              have HWH : Hid (Whr (u0.alloc (.cells #[.int .i64 y] 3)) w3 (.slice (some ⟨wb, wo, none⟩) way.length wc) way.length g capp) := Lib.hid hwh0
              have HB3 := Lib.hid ((HB0.out.fut (Fut.alloc _ (.cells #[.int .i64 y] 3))).but (whr_but HWH.out) (fun q => by have := (World.ownsRow.lt HW.out _ q).2; omega))
              have HOW : Hid (Owns w3 B (.slice (some ⟨g, 0, none⟩) (way ++ [y]).length capp) (way ++ [y])) := Lib.hid (by unfold Owns; rw [List.length_append, List.length_singleton, List.map_append]; exact hown)
              clear hown hwh0 hlt2
              refine hK _ _ ?_
              clear hK K
              try simp only [Act.put, List.setIfInBounds_toArray]
              refine wpAnyIn_ready (rs := [0]) (by kernel_rfl) (by simp) ?_
              refine AllReadyIn.cons rfl (fun K hK => ?_) AllReadyIn.nil
              obtain ⟨_, s0, s1, s2, s3⟩ := (HB3.out)
              go_simp
              clear s0 s1 s2 s3
              refine hK _ _ ?_
              clear hK K
              try simp only [Act.put, List.setIfInBounds_toArray, List.set_cons_zero, List.set_cons_succ]
              refine wpAnyIn_ready (rs := [6]) (by kernel_rfl) (by simp) ?_
              refine AllReadyIn.cons rfl (fun K hK => ?_) AllReadyIn.nil
              go_simp
              refine ⟨trivial, fun hh => (by cases hh), ?_⟩
              refine (HGO g capp w3 _ HWH.out HOW.out).mono ?_
              rintro e w4 ⟨bb, rfl, HR⟩
              try simp only []
              refine hK _ _ ?_
              clear hK K
              try simp only [Act.put, List.setIfInBounds_toArray, List.set_cons_zero, List.set_cons_succ]
              refine wpAnyIn_ready (rs := [7]) (by kernel_rfl) (by simp) ?_
              refine AllReadyIn.cons rfl (fun K hK => ?_) AllReadyIn.nil
              go_simp
              refine hK _ _ ?_
              clear hK K
              try simp only [Act.put, List.setIfInBounds_toArray, List.set_cons_zero, List.set_cons_succ]
              refine wpAnyIn_done (by kernel_rfl) ?_ _
              obtain ⟨q1, q2⟩ := HR.out
              cases bb
              · have HR2 := Lib.hid (And.intro q1 (q2.resolve_left (fun q => by cases q.1)).2)
                clear q1 q2 HR
                gi_wp2_with fail
                refine bodyPost_ret (results_tmp rfl _ _ _) rfl ?_
                exact ⟨(But.of_below HF2.out).trans HR2.out.1, .inr ⟨rfl, HR2.out.2⟩⟩
              · have HR2 := Lib.hid (And.intro q1 (q2.resolve_right (fun q => by cases q.1)).2)
                clear q1 q2 HR
                gi_wp2_with fail
                go_roundw
                case rel => exact ⟨k + 1, by omega, by go_num, HR2.out.2.1, Lib.hid HR2.out.2.2.2, Lib.hid HR2.out.2.2.1, Lib.hid HR2.out.1⟩
                case measure => simp [intOf]; omega
        · obtain rfl : LL.length = k := by omega
          gi_wp2_with fail
          rw [List.take_length] at hJr
          refine bodyPost_ret (results_tmp rfl _ _ _) rfl ?_
          exact ⟨(But.of_below HF2.out).trans HBr.out, .inl ⟨rfl, by rw [hHl.out]; exact hJr, HFr.out, HWr.out⟩⟩
    · rw [hct] at hHl HCT
      simp only [if_true] at hHl
      clear hct HST
      gi_wp2_with (first
        | (refine ⟨trivial, fun hh => (by cases hh), ?_⟩; gi_at_call 57; refine (callsIn_wide.2 (HCT.out _ HF1.out)).mono ?_; clear HCT; rintro e w2 ⟨rfl, rfl⟩))
      have FD : Fut w1 w1.drew := below_drewN Fut.rfl 1
      have HB0 := Lib.hid (HB1.out.fut FD)
      have HFU := Lib.hid (HF1.out.trans FD)
      clear FD b0 b1 b2 b3 HB1 HF1
      have HFL : Hid (F.length ≤ 1000) := Lib.hid (by have := HNN.out.1; have := HC.out.hin.yl; omega)
      have HSDD : ∀ (g capp : Nat) (w2 : World) (d : Nat), Whr (w1.drew.alloc (.cells #[.slice (some ⟨wb, wo, none⟩) way.length wc] 22)) w2 (.slice la F.length lc) F.length g capp → Fam w2 B (.slice (some ⟨g, 0, none⟩) (F ++ [way]).length capp) (vals ++ [.slice (some ⟨wb, wo, none⟩) way.length wc]) (F ++ [way]) →
          CallsIn Fence.wide d Try.prog 111 #[srV ya Y.length yc ta T.length tc r c a S.length cap l, .slice (some ⟨g, 0, none⟩) (F.length + 1) capp] w2 fun e W' => ∃ b : Bool, e = .returned (.bool b) ∧ Hid (But (fun k => (Z k ∨ (Value.slice la F.length lc).ownBlock = some k) ∨ (Value.slice (some ⟨wb, wo, none⟩) way.length wc).ownBlock = some k) W W' ∧ ((b = true ∧ J (pre ++ G) W' ∧ Fam W' B (.slice la F.length lc) vals F ∧ Owns W' B (.slice (some ⟨wb, wo, none⟩) way.length wc) way) ∨ (b = false ∧ ∃ q, q <+: G ∧ Jx (pre ++ q) W'))) := by
        intro g capp w2 dd hw hf2
        have FA := HFU.out.trans (Fut.alloc w1.drew (.cells #[.slice (some ⟨wb, wo, none⟩) way.length wc] 22))
        have hbu0 := whr_but hw
        have hFA := HF.out.fut FA
        have hsz2 : B ≤ w2.heap.size := Nat.le_trans hB (Nat.le_trans (RowKit.Below.size FA) hbu0.size)
        have hBw : RowKit.Below B W w2 := (RowKit.Below.mono FA hB).trans (hbu0.below B (Nat.le_trans hB (RowKit.Below.size FA)) (fun k hk => (World.ownsRow.lt hFA.own k hk).1))
        have h := HSD.out (F ++ [way]) (.slice (some ⟨g, 0, none⟩) (F ++ [way]).length capp) (vals ++ [.slice (some ⟨wb, wo, none⟩) way.length wc]) pre w2 dd (by rw [List.length_append, List.length_singleton]; have := HNN.out.1; omega) (fun k hk => by
          rw [List.length_append, List.length_singleton] at hk
          rcases Nat.lt_or_ge k F.length with q | q
          · rw [lth_app1 _ _ _ q]; exact HNN.out.2 k q
          · obtain rfl : k = F.length := by omega
            rw [lth_app2]; have := HWF.out; omega) hf2 hsz2 (RowKit.Below.trans HK.out (RowKit.Below.mono hBw HC.out.hb)) (hJ _ _ _ hJ0 hBw) (by rw [← hHl.out]; exact HP.out)
        rw [List.length_append, List.length_singleton] at h
        refine h.mono ?_
        rintro e w3 ⟨hbu, h3⟩
        have hbk := (But.of_below (Z := fun k => Z k ∨ (Value.slice la F.length lc).ownBlock = some k) FA).trans (but_back hw hbu)
        rcases h3 with ⟨rfl, hJ3, hF3⟩ | ⟨rfl, q, hq, hx⟩
        · obtain ⟨g1, g2⟩ := Fam.back hFA hw hbu (fun k hk => (HC.out.hz k hk).2) (by rw [List.length_append, List.length_singleton]; exact hF3)
          exact ⟨true, rfl, Lib.hid ⟨hbk.mono (fun _ _ q => .inl q), .inl ⟨rfl, by rw [hHl.out]; exact hJ3, g1, g2⟩⟩⟩
        · exact ⟨false, rfl, Lib.hid ⟨hbk.mono (fun _ _ q => .inl q), .inr ⟨rfl, q, by rw [hHl.out]; exact hq, hx⟩⟩⟩
      have HF1u := Lib.hid (HF.out.fut (HFU.out.trans (Fut.alloc _ (.cells #[.slice (some ⟨wb, wo, none⟩) way.length wc] 22))))
      have HW1u := Lib.hid (HW.out.fut (HFU.out.trans (Fut.alloc _ (.cells #[.slice (some ⟨wb, wo, none⟩) way.length wc] 22))))
      have HSZ := Lib.hid (Nat.le_trans hB (RowKit.Below.size HFU.out))
      refine wpIn_region_any (by kernel_rfl) ?_
      change wpAnyIn _ _ _ _ _ _ _ _ _ (World.drew _)
      generalize w1.drew = u0 at *
      refine wpAnyIn_take (i := 1) (v := ?_) rfl rfl (by kernel_rfl) (by kernel_rfl) (by kernel_rfl) (fun _ _ _ h => h) ⟨Or.inl ⟨by rfl, ?_⟩, fun _ => rfl⟩ ?_
      rotate_left
      · (intro w; go_simp <;> with_reducible rfl)
      try simp only [Act.put, List.setIfInBounds_toArray]
      refine wpAnyIn_take (i := 2) (v := ?_) rfl rfl (by kernel_rfl) (by kernel_rfl) (by kernel_rfl) (fun _ _ _ h => h) ⟨Or.inl ⟨by rfl, ?_⟩, fun _ => rfl⟩ ?_
      rotate_left
      · (intro w; go_simp <;> with_reducible rfl)
      try simp only [Act.put]
      refine wpAnyIn_ready (rs := [0, 3]) (by kernel_rfl) (by simp) ?_
      refine AllReadyIn.cons rfl (fun K hK => ?_) (AllReadyIn.cons rfl (fun K hK => ?_) (AllReadyIn.nil))
      · obtain ⟨_, s0, s1, s2, s3⟩ := HB0.out
        go_simp
        clear s0 s1 s2 s3
        refine hK _ _ ?_
        clear hK K
        try simp only [Act.put, List.setIfInBounds_toArray, List.set_cons_zero, List.set_cons_succ]
        refine wpAnyIn_ready (rs := [3]) (by kernel_rfl) (by simp) ?_
        refine AllReadyIn.cons rfl (fun K hK => ?_) AllReadyIn.nil
        go_simp
        refine hK _ _ ?_
        clear hK K
        try simp only [Act.put, List.setIfInBounds_toArray, List.set_cons_zero, List.set_cons_succ]
        refine wpAnyIn_ready (rs := [4]) (by kernel_rfl) (by simp) ?_
        refine AllReadyIn.cons rfl (fun K hK => ?_) AllReadyIn.nil
        refine stepIn_append_where _ rfl _ _ 35 rfl B 22 i1 (.slice none 0 0) 1 24 Try.underlying35 hi1 hy0 hy1 hy2 rfl (by decide) _ F.length vals rfl HF1u.out.own ⟨u0.heap.size, 0, none⟩ 1 1 [.slice (some ⟨wb, wo, none⟩) way.length wc] rfl rfl (cell_one (by simp [go_sem])) (by simp [Value.oneCell']) (by decide) ?_ ?_ ?_ ?_
        · have := HFL.out; unfold maxLen; omega
        · have := HFL.out; omega
        · have := HSZ.out; simp; omega
        intro g capp w2 hown hwh0 hlt2
        have HWH : Hid (Whr (u0.alloc (.cells #[.slice (some ⟨wb, wo, none⟩) way.length wc] 22)) w2 (.slice la F.length lc) F.length g capp) := Lib.hid hwh0
        have HF2 := Lib.hid (Fam.app HF1u.out HW1u.out HWH.out hown)
        have HB2 := Lib.hid ((HB0.out.fut (Fut.alloc _ (.cells #[.slice (some ⟨wb, wo, none⟩) way.length wc] 22))).but (whr_but HWH.out) (fun q => by have := (World.ownsRow.lt HF.out.own _ q).2; omega))
        clear hown hwh0 hlt2
        refine hK _ _ ?_
        clear hK K
        try simp only [Act.put, List.setIfInBounds_toArray]
        refine wpAnyIn_ready (rs := [5]) (by kernel_rfl) (by simp) ?_
        refine AllReadyIn.cons rfl (fun K hK => ?_) AllReadyIn.nil
        go_simp
        refine ⟨trivial, fun hh => (by cases hh), ?_⟩
        refine (HSDD g capp w2 _ HWH.out HF2.out).mono ?_
        rintro e w3 ⟨bb, rfl, HR⟩
        try simp only []
        refine hK _ _ ?_
        clear hK K
        try simp only [Act.put, List.setIfInBounds_toArray, List.set_cons_zero, List.set_cons_succ]
        refine wpAnyIn_ready (rs := [6]) (by kernel_rfl) (by simp) ?_
        refine AllReadyIn.cons rfl (fun K hK => ?_) AllReadyIn.nil
        go_simp
        refine hK _ _ ?_
        clear hK K
        try simp only [Act.put, List.setIfInBounds_toArray, List.set_cons_zero, List.set_cons_succ]
        refine wpAnyIn_done (by kernel_rfl) ?_ _
        gi_wp2_with fail
        go_ret
        obtain ⟨q1, q2⟩ := HR.out
        refine ⟨q1, ?_⟩
        rcases q2 with ⟨rfl, q2⟩ | ⟨rfl, q2⟩
        · exact .inl ⟨rfl, q2⟩
        · exact .inr ⟨rfl, q2⟩
      · go_simp
        refine hK _ _ ?_
        clear hK K
        try simp only [Act.put, List.setIfInBounds_toArray, List.set_cons_zero, List.set_cons_succ]
        refine wpAnyIn_ready (rs := [0, 4]) (by kernel_rfl) (by simp) ?_
        refine AllReadyIn.cons rfl (fun K hK => ?_) (AllReadyIn.cons rfl (fun K hK => ?_) (AllReadyIn.nil))
        · obtain ⟨_, s0, s1, s2, s3⟩ := (HB0.out.fut (Fut.alloc _ (.cells #[.slice (some ⟨wb, wo, none⟩) way.length wc] 22)))
          go_simp
          clear s0 s1 s2 s3
          refine hK _ _ ?_
          clear hK K
          try simp only [Act.put, List.setIfInBounds_toArray, List.set_cons_zero, List.set_cons_succ]
          refine wpAnyIn_ready (rs := [4]) (by kernel_rfl) (by simp) ?_
          refine AllReadyIn.cons rfl (fun K hK => ?_) AllReadyIn.nil
          refine stepIn_append_where _ rfl _ _ 35 rfl B 22 i1 (.slice none 0 0) 1 24 Try.underlying35 hi1 hy0 hy1 hy2 rfl (by decide) _ F.length vals rfl HF1u.out.own ⟨u0.heap.size, 0, none⟩ 1 1 [.slice (some ⟨wb, wo, none⟩) way.length wc] rfl rfl (cell_one (by simp [go_sem])) (by simp [Value.oneCell']) (by decide) ?_ ?_ ?_ ?_
          · have := HFL.out; unfold maxLen; omega
          · have := HFL.out; omega
          · have := HSZ.out; simp; omega
          intro g capp w2 hown hwh0 hlt2
          have HWH : Hid (Whr (u0.alloc (.cells #[.slice (some ⟨wb, wo, none⟩) way.length wc] 22)) w2 (.slice la F.length lc) F.length g capp) := Lib.hid hwh0
          have HF2 := Lib.hid (Fam.app HF1u.out HW1u.out HWH.out hown)
          have HB2 := Lib.hid ((HB0.out.fut (Fut.alloc _ (.cells #[.slice (some ⟨wb, wo, none⟩) way.length wc] 22))).but (whr_but HWH.out) (fun q => by have := (World.ownsRow.lt HF.out.own _ q).2; omega))
          clear hown hwh0 hlt2
          refine hK _ _ ?_
          clear hK K
          try simp only [Act.put, List.setIfInBounds_toArray]
          refine wpAnyIn_ready (rs := [5]) (by kernel_rfl) (by simp) ?_
          refine AllReadyIn.cons rfl (fun K hK => ?_) AllReadyIn.nil
          go_simp
          refine ⟨trivial, fun hh => (by cases hh), ?_⟩
          refine (HSDD g capp w2 _ HWH.out HF2.out).mono ?_
          rintro e w3 ⟨bb, rfl, HR⟩
          try simp only []
          refine hK _ _ ?_
          clear hK K
          try simp only [Act.put, List.setIfInBounds_toArray, List.set_cons_zero, List.set_cons_succ]
          refine wpAnyIn_ready (rs := [6]) (by kernel_rfl) (by simp) ?_
          refine AllReadyIn.cons rfl (fun K hK => ?_) AllReadyIn.nil
          go_simp
          refine hK _ _ ?_
          clear hK K
          try simp only [Act.put, List.setIfInBounds_toArray, List.set_cons_zero, List.set_cons_succ]
          refine wpAnyIn_done (by kernel_rfl) ?_ _
          gi_wp2_with fail
          go_ret
          obtain ⟨q1, q2⟩ := HR.out
          refine ⟨q1, ?_⟩
          rcases q2 with ⟨rfl, q2⟩ | ⟨rfl, q2⟩
          · exact .inl ⟨rfl, q2⟩
          · exact .inr ⟨rfl, q2⟩
        · refine stepIn_append_where _ rfl _ _ 35 rfl B 22 i1 (.slice none 0 0) 1 24 Try.underlying35 hi1 hy0 hy1 hy2 rfl (by decide) _ F.length vals rfl HF1u.out.own ⟨u0.heap.size, 0, none⟩ 1 1 [.slice (some ⟨wb, wo, none⟩) way.length wc] rfl rfl (cell_one (by simp [go_sem])) (by simp [Value.oneCell']) (by decide) ?_ ?_ ?_ ?_
          · have := HFL.out; unfold maxLen; omega
          · have := HFL.out; omega
          · have := HSZ.out; simp; omega
          intro g capp w2 hown hwh0 hlt2
          have HWH : Hid (Whr (u0.alloc (.cells #[.slice (some ⟨wb, wo, none⟩) way.length wc] 22)) w2 (.slice la F.length lc) F.length g capp) := Lib.hid hwh0
          have HF2 := Lib.hid (Fam.app HF1u.out HW1u.out HWH.out hown)
          have HB2 := Lib.hid ((HB0.out.fut (Fut.alloc _ (.cells #[.slice (some ⟨wb, wo, none⟩) way.length wc] 22))).but (whr_but HWH.out) (fun q => by have := (World.ownsRow.lt HF.out.own _ q).2; omega))
          clear hown hwh0 hlt2
          refine hK _ _ ?_
          clear hK K
          try simp only [Act.put, List.setIfInBounds_toArray]
          refine wpAnyIn_ready (rs := [0]) (by kernel_rfl) (by simp) ?_
          refine AllReadyIn.cons rfl (fun K hK => ?_) AllReadyIn.nil
          obtain ⟨_, s0, s1, s2, s3⟩ := (HB2.out)
          go_simp
          clear s0 s1 s2 s3
          refine hK _ _ ?_
          clear hK K
          try simp only [Act.put, List.setIfInBounds_toArray, List.set_cons_zero, List.set_cons_succ]
          refine wpAnyIn_ready (rs := [5]) (by kernel_rfl) (by simp) ?_
          refine AllReadyIn.cons rfl (fun K hK => ?_) AllReadyIn.nil
          go_simp
          refine ⟨trivial, fun hh => (by cases hh), ?_⟩
          refine (HSDD g capp w2 _ HWH.out HF2.out).mono ?_
          rintro e w3 ⟨bb, rfl, HR⟩
          try simp only []
          refine hK _ _ ?_
          clear hK K
          try simp only [Act.put, List.setIfInBounds_toArray, List.set_cons_zero, List.set_cons_succ]
          refine wpAnyIn_ready (rs := [6]) (by kernel_rfl) (by simp) ?_
          refine AllReadyIn.cons rfl (fun K hK => ?_) AllReadyIn.nil
          go_simp
          refine hK _ _ ?_
          clear hK K
          try simp only [Act.put, List.setIfInBounds_toArray, List.set_cons_zero, List.set_cons_succ]
          refine wpAnyIn_done (by kernel_rfl) ?_ _
          gi_wp2_with fail
          go_ret
          obtain ⟨q1, q2⟩ := HR.out
          refine ⟨q1, ?_⟩
          rcases q2 with ⟨rfl, q2⟩ | ⟨rfl, q2⟩
          · exact .inl ⟨rfl, q2⟩
          · exact .inr ⟨rfl, q2⟩
  · rw [hon] at hHl HON
    have hG : G = [] := by rw [hHl.out, if_pos rfl]
    subst hG
    clear hon hHl
    gi_wp2_with (first
      | (refine ⟨trivial, fun hh => (by cases hh), ?_⟩; gi_at_call 133; refine (callsIn_wide.2 (HON.out _ HFA.out)).mono ?_; clear HON; rintro e w1 ⟨rfl, F1⟩))
    go_ret
    have F2 := HFA.out.trans F1
    exact ⟨But.of_below F2, .inl ⟨rfl, by rw [List.append_nil]; exact hJ _ _ _ hJ0 (RowKit.Below.mono F2 hB), HF.out.fut F2, HW.out.fut F2⟩⟩
end
end Go.Proofs.Ytflllkamdihfaaa
