/- slices.Clone; the orders; append and its row; what is yielded reads. -/
import Derived.Test.YtpgifeaejjjjnaaCB
namespace Go.Proofs.Ytpgifeaejjjjnaa
open Go.RowKit Go.Sort
open Go.Shelf
theorem ints_news {w : World} {b off : Nat} {zs : List Int} (h : IntsAt w (some ⟨b, off, none⟩) zs) : ∀ j u, (zs.map (Value.int .i64))[j]? = some u → w.cell? ⟨b, off + j, none⟩ = some u := fun j u hj => by
  have hlt : j < zs.length := by simpa using (List.getElem?_eq_some_iff.1 hj).1
  obtain ⟨b', off', e, _, c1⟩ := h j hlt
  simp at e
  obtain ⟨rfl, rfl⟩ := e
  rw [c1, ← hj, nth_eq]
  simp [List.getElem?_eq_getElem hlt]
set_option maxRecDepth 100000 in
set_option maxHeartbeats 1000000 in
/-- slices.Clone at numbers. -/
theorem clone_any (l : Option Addr) (lc : Nat) (zs : List Int) (w : World) (hS : IntsAt w l zs) (hl : zs.length ≤ 1000) :
    Calls Try.prog 50 #[.slice l zs.length lc] w fun e w' => ∃ v, e = .returned v ∧ Owns w' w.heap.size v zs ∧ Fut w w' := by
  have q28 : ∀ (w : World) (a : Option Addr) (n c n' c' : Nat), (binOp .eql 28 (.slice a n c) (.slice none n' c')).run Try.prog w = .ok (.bool a.isNone) w := fun w a n c n' c' => Lib.run_eql_slice_nil w _ _ a n c n' c' Try.underlying28
  cases hn : l with
  | none =>
    subst hn
    have h0 : zs = [] := by
      cases zs with
      | nil => rfl
      | cons p t => obtain ⟨b, off, e, _⟩ := hS 0 (by simp); cases e
    subst h0
    clear hS
    go_enter Try.func50, Try.ntmps50
    go_wp2
    go_ret
    exact ⟨_, rfl, World.ownsRow_nil _ _ _ _, Fut.rfl⟩
  | some ad =>
    subst hn
    obtain ⟨i0, hi0, hz0, hz1, hz2⟩ := info_parts info3
    have HN : Hid (∀ j u, (zs.map (Value.int .i64))[j]? = some u → w.cell? (ad.add j) = some u) := Lib.hid (fun j u hj => by
      have hlt : j < zs.length := by simpa using (List.getElem?_eq_some_iff.1 hj).1
      obtain ⟨b, off, e, _⟩ := hS 0 (by omega)
      simp at e
      subst e
      rw [Addr.add_lit]
      exact ints_news hS j u hj)
    have hlx : (zs.length : Int) ≤ 1000 := by omega
    clear hS
    go_enter Try.func50, Try.ntmps50
    go_wp2_with (at_builtin; refine wpList_append_own _ rfl _ _ 28 rfl w.heap.size 3 i0 (.int .i64 0) 1 8 Try.underlying28 hi0 hz0 hz1 hz2 rfl (by decide) _ _ _ rfl (World.ownsRow_made w #[] 0 (Nat.le_refl _) (Nat.zero_le _) rfl) ad zs.length lc (zs.map (Value.int .i64)) rfl ?qc1 ?qc2 ?qc3 ?qc4 ?qc5 ?qc6 ?_)
    case qc1 => simp
    case qc2 => intro j u hj; exact Lib.cell?_alloc_some _ (HN.out j u hj)
    case qc3 => intro u hu; obtain ⟨z, _, rfl⟩ := List.mem_map.1 hu; rfl
    case qc4 => unfold maxLen; omega
    case qc5 => omega
    case qc6 => simp
    intro v' w1 hown hgrow _
    go_wp2
    go_ret
    refine ⟨v', rfl, ?_, ?_⟩
    · unfold Owns; simpa using hown
    · exact ((RowKit.Below.refl _ w).alloc (Nat.le_refl _) _).grown hgrow (by simp) (by intro k hk; simp [Value.ownBlock] at hk; omega)
/-- the orders that begin as h does, so many numbers being left. -/
def ordT (n : Nat) : Nat → List Int → List (List Int)
  | 0, h => [h]
  | m + 1, h => (List.range n).flatMap fun (i : Nat) => if h.contains (i : Int) then [] else ordT n m (h ++ [(i : Int)])
def segT (n m : Nat) (h : List Int) (k : Nat) : List (List Int) := (List.range k).flatMap fun (i : Nat) => if h.contains (i : Int) then [] else ordT n m (h ++ [(i : Int)])
theorem segT_zero (n m : Nat) (h : List Int) : segT n m h 0 = [] := rfl
theorem segT_succ (n m : Nat) (h : List Int) (k : Nat) : segT n m h (k + 1) = segT n m h k ++ (if h.contains (k : Int) then [] else ordT n m (h ++ [(k : Int)])) := by
  unfold segT
  rw [List.range_succ, List.flatMap_append]
  simp
theorem segT_all (n m : Nat) (h : List Int) : segT n m h n = ordT n (m + 1) h := rfl
theorem segT_mono (n m : Nat) (h : List Int) (k d : Nat) : segT n m h k <+: segT n m h (k + d) := by
  induction d with
  | zero => exact List.prefix_refl _
  | succ d ih => exact ih.trans (by rw [← Nat.add_assoc, segT_succ]; exact List.prefix_append _ _)
theorem segT_pre (n m : Nat) (h : List Int) (k : Nat) (hk : k ≤ n) : segT n m h k <+: ordT n (m + 1) h := by
  rw [← segT_all]
  have := segT_mono n m h k (n - k)
  rwa [show k + (n - k) = n by omega] at this
/-- what a yielded list reads as. -/
def Rd (x : List Int) (v : Value) (w : World) : Prop := ∃ a cap, v = .slice a x.length cap ∧ x.length ≤ cap ∧ cap ≤ maxLen ∧ IntsAt w a x
theorem Rd.calm {x : List Int} {v : Value} {w w' : World} (h : Rd x v w) (k : Calm 0 w w') : Rd x v w' := by
  obtain ⟨a, cap, e, h1, h2, h3⟩ := h
  refine ⟨a, cap, e, h1, h2, fun j hj => ?_⟩
  obtain ⟨b, off, ea, hb, hc⟩ := h3 j hj
  exact ⟨b, off, ea, Nat.lt_of_lt_of_le hb k.size, k.cell hc⟩
theorem Owns.rd {w : World} {B : Nat} {v : Value} {x : List Int} (h : Owns w B v x) : Rd x v w := h.form
theorem own_pre {w : World} {B g n cap : Nat} {h : List Int} {i : Int} (ho : Owns w B (.slice (some ⟨g, 0, none⟩) (n + 1) cap) (h ++ [i])) (hn : h.length = n) : Owns w B (.slice (some ⟨g, 0, none⟩) n cap) h := by
  obtain ⟨h1, h2⟩ := ho
  refine ⟨by simp, .inr ?_⟩
  rcases h2 with ⟨h2, _⟩ | ⟨g', cap', cur, e, hb, hg, hnc, hcm, hcs, htake⟩
  · cases h2
  · simp only [Value.slice.injEq, Option.some.injEq, Addr.mk.injEq, and_true] at e
    obtain ⟨rfl, e2, rfl⟩ := e
    refine ⟨g, cap, cur, by rw [hn], hb, hg, ?_, hcm, hcs, ?_⟩
    · simp at hnc; omega
    · have e3 := congrArg (List.take h.length) htake
      rw [List.take_take] at e3
      simp at e3
      simpa using e3
theorem own_back {W1 W2 W3 : World} {B g cap : Nat} {v : Value} {h : List Int} {i : Int} {Z : Nat → Prop} (hv : Owns W1 B v h) (_hsz : B ≤ W1.heap.size)
    (hw : (g = W1.heap.size ∧ RowKit.Below W1.heap.size W1 W2) ∨ (v = .slice (some ⟨g, 0, none⟩) h.length cap ∧ W1.grownBy W2 (some g)))
    (hB : But (fun k => Z k ∨ some g = some k) W2 W3) (hZ : ∀ k, Z k → k < B) (ho : Owns W3 B (.slice (some ⟨g, 0, none⟩) (h.length + 1) cap) (h ++ [i])) :
    Owns W3 B v h ∧ But (fun k => Z k ∨ v.ownBlock = some k) W1 W3 := by
  rcases hw with ⟨rfl, hb⟩ | ⟨rfl, hg⟩
  · have hall : ∀ k, k < W1.heap.size → ¬ Z k → W3.heap[k]? = W1.heap[k]? := fun k hk hz =>
      (hB.block k (Nat.lt_of_lt_of_le hk hb.size) (fun h => by rcases h with h | h; exact hz h; simp at h; omega)).trans (hb.block k hk)
    refine ⟨?_, hB.os.trans hb.os, hB.tape.trans hb.tape, hB.output.trans hb.output, Nat.le_trans hb.size hB.size, fun k hk hz => hall k hk (fun h => hz (.inl h))⟩
    obtain ⟨h1, h2⟩ := hv
    refine ⟨h1, ?_⟩
    rcases h2 with h2 | ⟨g', cap', cur, e, hb', hg', hr⟩
    · exact .inl h2
    · refine .inr ⟨g', cap', cur, e, hb', ?_, hr⟩
      rw [hall g' (Array.getElem?_eq_some_iff.1 hg').1 (fun h => by have := hZ _ h; omega)]
      exact hg'
  · refine ⟨own_pre ho rfl, hB.os.trans hg.os, hB.tape.trans hg.tape, hB.output.trans hg.output, Nat.le_trans hg.size hB.size, fun k hk hz => ?_⟩
    have hne : ¬ some g = some k := fun e => hz (.inr e)
    exact (hB.block k (Nat.lt_of_lt_of_le hk hg.size) (fun h => by rcases h with h | h; exact hz (.inl h); exact hne h)).trans (hg.block k hk (fun e => hne e.symm))
theorem wpListIn_append_where {F : Fence} {n : Nat} {P : Program} (w : World) {ops : Array Oper} {rest : List Oper} {o : Oper} {a : Act} {Q : Exit → Act → World → Prop}
    (hg : Region.wanted o (yielded ops a.tmps) = true) (s x : Operand) (t : TypeId) (hop : o.op = Op.call { callee := Callee.builtin Builtin.append, args := #[s, x], argTypes := #[t, t] })
    (base : Nat) (e : TypeId) (i : TypeInfo) (z : Value) (size bytes : Nat) (h1 : P.underlying t = some (.slice e)) (h2 : P.info? e = some i) (h3 : i.zero = some z) (h4 : i.size = size) (h5 : i.bytes = bytes) (h6 : z.cells.size = size) (h7 : 0 < size)
    (v : Value) (k : Nat) (xs : List Value) (hs : a.eval s = v) (hown : w.ownsRow base e size v k xs) (ad : Addr) (m c : Nat) (news : List Value) (hx : a.eval x = .slice (some ad) m c) (hn : news.length = m * size)
    (hc : ∀ j u, news[j]? = some u → w.cell? (ad.add j) = some u) (h1c : ∀ u ∈ news, u.oneCell' = true) (hm : 0 < m) (b1 : k + m ≤ maxLen) (b2 : (k + m) * bytes ≤ 140737488355328) (b3 : base ≤ w.heap.size)
    (hK : ∀ g cap w', w'.ownsRow base e size (.slice (some ⟨g, 0, none⟩) (k + m) cap) (k + m) (xs ++ news) → ((g = w.heap.size ∧ RowKit.Below w.heap.size w w') ∨ (v = .slice (some ⟨g, 0, none⟩) k cap ∧ w.grownBy w' (some g))) → g < w'.heap.size →
      wpListIn F n P ops Q rest (a.put o.dst (.slice (some ⟨g, 0, none⟩) (k + m) cap)) w') :
    wpListIn F n P ops Q (o :: rest) a w := by
  refine wpListIn_step fun K hK' => ?_
  rw [if_pos hg]
  obtain ⟨g, cap, w', hrun, r1, r2, r3⟩ := run_append_where (P := P) w t o.type base e i z size bytes h1 h2 h3 h4 h5 h6 h7 v k xs hown ad m c news hn hc h1c hm b1 b2 b3
  unfold Oper.wpIn
  refine ⟨?_, ?_⟩
  · simp [Oper.about, hop, resolve, Target.leads, Sem.run_pure]
  · rw [Oper.semAt_plain F _ _ (by rw [hop]; intro c hc'; cases hc')]
    simp [execOp, hop, resolve, invoke, builtin, hs, hx, hrun, Result.andThen]
    exact hK' _ _ (hK g cap w' r1 r2 r3)
end Go.Proofs.Ytpgifeaejjjjnaa
