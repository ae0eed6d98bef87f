/- ranges over functions: orders, fitting, crossings; count, first; which lists are orders (CB to CI, merged) -/
import Derived.Test.YtpgifeaejjjjnaaMB
import Derived.RangeFuncNested
import Derived.RangeFuncBound
import Derived.RangeFuncCalls
import Derived.RangeFuncLeaves
import Derived.Shelf.Abstract
import Derived.Shelf.RegionOpen
import Derived.OwnWalkIn
import Derived.TacticsInMore
import Derived.LoopNIn
import Derived.LoopIn
namespace Go.Proofs.Ytpgifeaejjjjnaa
open Go.RowKit Go.Sort
section
section
variable {P : Program} (w : World)
/-- append, and where what it returns lies: in a block that is made now, or in the row itself behind its length. -/
theorem run_append_where (t ty : TypeId) (base : Nat) (e : TypeId) (i : TypeInfo) (z : Value) (size bytes : Nat) (ht : P.underlying t = some (.slice e)) (hi : P.info? e = some i) (hz : i.zero = some z)
    (hsize : i.size = size) (hby : i.bytes = bytes) (hzs : z.cells.size = size) (hsz : 0 < size)
    (v : Value) (n : Nat) (xs : List Value) (hown : w.ownsRow base e size v n xs)
    (ad : Addr) (m c : Nat) (news : List Value) (hl : news.length = m * size) (hnews : ∀ j u, news[j]? = some u → w.cell? (ad.add j) = some u) (h1 : ∀ u ∈ news, u.oneCell' = true)
    (hm : 0 < m) (h63 : n + m ≤ maxLen) (hbytes : (n + m) * bytes ≤ 140737488355328) (hbase : base ≤ w.heap.size) :
    ∃ g cap w', (Builtin.append_ #[t, t] ty #[v, .slice (some ad) m c]).run P w = .ok (.slice (some ⟨g, 0, none⟩) (n + m) cap) w' ∧
      w'.ownsRow base e size (.slice (some ⟨g, 0, none⟩) (n + m) cap) (n + m) (xs ++ news) ∧
      ((g = w.heap.size ∧ RowKit.Below w.heap.size w w') ∨ (v = .slice (some ⟨g, 0, none⟩) n cap ∧ w.grownBy w' (some g))) ∧ g < w'.heap.size := by
  obtain ⟨v', w', hr, h2, h3, _, h5⟩ := run_append_own_at (P := P) w base t ty e i z size bytes ht hi hz hsize hby hzs hsz v n xs hown ad m c news hl hnews h1 h63 hbytes hbase
  obtain ⟨g, cap, rfl, _, hlt⟩ := h2.form (by omega)
  refine ⟨g, cap, w', hr, h2, ?_, hlt⟩
  rcases hown.2 with ⟨rfl, h0⟩ | ⟨g0, cap0, cur, rfl, hb, hg, hnc, hcm, hcs, htake⟩
  · left
    refine ⟨?_, h3.os, h3.tape, h3.output, h3.size, fun k hk => h3.block k hk (by simp [Value.ownBlock])⟩
    rcases h5 with h5 | h5
    · simp [Value.ownBlock] at h5
    · simpa [Value.ownBlock] using h5
  · by_cases hroom : n + m ≤ cap0
    · right
      obtain ⟨w2, hr2, _, h8⟩ := run_append_fits (P := P) w base t ty e i size ht hi hsize g0 n cap0 xs hown ad m c news hl hnews h1 hroom
      rw [hr] at hr2
      injection hr2 with e1 e2
      injection e1 with e3 _ e5
      injection e3 with e3
      injection e3 with e3
      subst e2; subst e3; subst e5
      exact ⟨rfl, h8⟩
    · left
      subst hsize
      subst hby
      have holds : ∀ j u, xs[j]? = some u → w.cell? ((⟨g0, 0, none⟩ : Addr).add j) = some u := hown.cells (g := g0) rfl
      have h63' : n + m ≤ 9223372036854775807 := by simp only [maxLen] at h63; omega
      have hr2 := run_append_grow (P := P) w t ty e i z ht hi hz ⟨g0, 0, none⟩ n cap0 xs hown.1 holds ad m c news hl hnews (by omega) (by omega) (growslice_fits (by omega) hbytes)
      rw [hr] at hr2
      injection hr2 with e1 e2
      injection e1 with e3 _ e5
      injection e3 with e3
      injection e3 with e3
      subst e2
      exact ⟨e3, ((RowKit.Below.refl _ w).drew).alloc (Nat.le_refl _) _⟩
end
/-- All blocks that were there, but for those of Z, lie as they lay. -/
structure But (Z : Nat → Prop) (w w' : World) : Prop where
  os : w'.os = w.os
  tape : w'.tape = w.tape
  output : w'.output = w.output
  size : w.heap.size ≤ w'.heap.size
  block : ∀ k : Nat, k < w.heap.size → ¬ Z k → w'.heap[k]? = w.heap[k]?
theorem But.refl (Z : Nat → Prop) (w : World) : But Z w w := ⟨rfl, rfl, rfl, Nat.le_refl _, fun _ _ _ => rfl⟩
theorem But.trans {Z : Nat → Prop} {a b c : World} (h : But Z a b) (k : But Z b c) : But Z a c :=
  ⟨k.os.trans h.os, k.tape.trans h.tape, k.output.trans h.output, Nat.le_trans h.size k.size,
    fun i hi hz => (k.block i (Nat.lt_of_lt_of_le hi h.size) hz).trans (h.block i hi hz)⟩
theorem But.mono {Z Z' : Nat → Prop} {a b : World} (h : But Z a b) (hz : ∀ k, k < a.heap.size → Z k → Z' k) : But Z' a b :=
  ⟨h.os, h.tape, h.output, h.size, fun i hi hn => h.block i hi (fun hh => hn (hz i hi hh))⟩
theorem But.of_below {Z : Nat → Prop} {a b : World} (h : RowKit.Below a.heap.size a b) : But Z a b :=
  ⟨h.os, h.tape, h.output, h.size, fun i hi _ => h.block i hi⟩
theorem But.below {Z : Nat → Prop} {a b : World} (h : But Z a b) (B : Nat) (hB : B ≤ a.heap.size) (hz : ∀ k, Z k → B ≤ k) : RowKit.Below B a b :=
  ⟨h.os, h.tape, h.output, h.size, fun i hi => h.block i (by omega) (fun hh => by have := hz i hh; omega)⟩
theorem But.setCell {Z : Nat → Prop} {a w : World} (h : But Z a w) {p : Addr} (hp : Z p.block ∨ a.heap.size ≤ p.block) (u : Value) : But Z a (w.setCell p u) :=
  ⟨h.os, h.tape, h.output, by simp only [World.setCell, Array.size_modify]; exact h.size, fun k hk hz => (RowKit.Below.heap_setCell _ _ _ _ (fun e => by
    rcases hp with hp | hp
    · exact hz (e ▸ hp)
    · omega)).trans (h.block k hk hz)⟩
theorem But.putObj {Z : Nat → Prop} {a w : World} (h : But Z a w) {r : Nat} (hp : Z r ∨ a.heap.size ≤ r) (o : Obj) : But Z a (w.putObj r o) :=
  ⟨h.os, h.tape, h.output, by simp only [World.putObj_size]; exact h.size, fun k hk hz => (World.putObj_heap_other (fun e => by
    rcases hp with hp | hp
    · exact hz (e ▸ hp)
    · omega)).trans (h.block k hk hz)⟩
/-- What lay below B, and all cells, lie as they lay. -/
structure Calm (B : Nat) (w w' : World) : Prop where
  os : w'.os = w.os
  tape : w'.tape = w.tape
  output : w'.output = w.output
  size : w.heap.size ≤ w'.heap.size
  low : ∀ k : Nat, k < B → k < w.heap.size → w'.heap[k]? = w.heap[k]?
  cells : ∀ (k : Nat) (o : Obj), w.heap[k]? = some o → o.isCells = true → w'.heap[k]? = some o
theorem Calm.refl (B : Nat) (w : World) : Calm B w w := ⟨rfl, rfl, rfl, Nat.le_refl _, fun _ _ _ => rfl, fun _ _ h _ => h⟩
theorem Calm.trans {B : Nat} {a b c : World} (h : Calm B a b) (k : Calm B b c) : Calm B a c :=
  ⟨k.os.trans h.os, k.tape.trans h.tape, k.output.trans h.output, Nat.le_trans h.size k.size,
    fun i hi hl => (k.low i hi (Nat.lt_of_lt_of_le hl h.size)).trans (h.low i hi hl), fun i o hi ho => k.cells i o (h.cells i o hi ho) ho⟩
theorem Calm.mono {B B' : Nat} {a b : World} (h : Calm B a b) (hB : B' ≤ B) : Calm B' a b :=
  ⟨h.os, h.tape, h.output, h.size, fun i hi hl => h.low i (Nat.lt_of_lt_of_le hi hB) hl, h.cells⟩
theorem Calm.of_below {B : Nat} {a b : World} (h : RowKit.Below a.heap.size a b) : Calm B a b :=
  ⟨h.os, h.tape, h.output, h.size, fun i _ hl => h.block i hl, fun i _ hi _ => (h.block i (Array.getElem?_eq_some_iff.1 hi).1).trans hi⟩
theorem Calm.putObj {B : Nat} {w : World} {r : Nat} {o : Obj} (o' : Obj) (hB : B ≤ r) (h : w.heap[r]? = some o) (ho : o.isCells = false) : Calm B w (w.putObj r o') :=
  ⟨rfl, rfl, rfl, by simp, fun k hk _ => World.putObj_heap_other (by omega), fun k o2 hk h2 => (World.putObj_heap_other (fun e => by
    subst e; rw [h] at hk; cases hk; rw [ho] at h2; cases h2)).trans hk⟩
theorem Calm.low_below {B : Nat} {a b : World} (h : Calm B a b) (hB : B ≤ a.heap.size) : RowKit.Below B a b :=
  ⟨h.os, h.tape, h.output, h.size, fun k hk => h.low k hk (by omega)⟩
theorem Calm.cell {B : Nat} {a b : World} (h : Calm B a b) {p : Addr} {v : Value} (hp : a.cell? p = some v) : b.cell? p = some v := by
  obtain ⟨o, ho, hc⟩ := cells_of_cell hp
  exact (World.cell?_of_block ((h.cells _ o ho hc).trans ho.symm)).trans hp
theorem Calm.frozen {B : Nat} {a b : World} (h : Calm B a b) {p : Addr} {v : Value} (hp : a.cell? p = some v) : b.frozen? p = a.frozen? p := by
  obtain ⟨o, ho, hc⟩ := cells_of_cell hp
  exact World.frozen?_of_block ((h.cells _ o ho hc).trans ho.symm)
theorem below_putObj {B : Nat} (w : World) {r : Nat} (o' : Obj) (hB : B ≤ r) : RowKit.Below B w (w.putObj r o') :=
  ⟨rfl, rfl, rfl, by simp, fun k hk => World.putObj_heap_other (by omega)⟩
/-- what the rounds have come to, which does not mind what happens from B on. -/
def OldJ {β : Type} (B : Nat) (J : β → World → Prop) : Prop := ∀ s W W', J s W → RowKit.Below B W W' → J s W'
def OldX {β : Type} (B : Nat) (J : β → World → Prop) : Prop := ∀ s W W', J s W → Calm B W W' → J s W'
/-- the function g yields, in order, values that read as xs do, where the memory is as Ok says, for whatever rounds keep all but Z, which lies from N0 on. -/
def SeqV {α : Type} (P : Program) (g : Nat) (lb : Array Value) (V : α → Value → World → Prop) (xs : List α) (N0 : Nat) (Ok : World → Prop) : Prop :=
  ∀ (l : Nat) (Z : Nat → Prop) (J Jx : List α → World → Prop) (W : World) (n : Nat), (∀ k, Z k → N0 ≤ k ∧ k < W.heap.size) → N0 ≤ W.heap.size → Ok W → OldJ W.heap.size J → OldX W.heap.size Jx →
    (∀ (m : Nat) pre x v W1, W.heap.size ≤ W1.heap.size → J pre W1 → V x v W1 → pre ++ [x] <+: xs → YieldAt Fence.wide m P l #[v] W1 fun e W' =>
      But Z W1 W' ∧ ((e = .returned (.bool true) ∧ J (pre ++ [x]) W') ∨ (e = .returned (.bool false) ∧ Jx (pre ++ [x]) W'))) →
    J [] W → CallsIn Fence.wide n P g (#[.func (.yield l) #[] #[]] ++ lb) W fun e W' => (∃ v, e = .returned v) ∧ (J xs W' ∨ ∃ pre, pre <+: xs ∧ Jx pre W')
/-- how the body of a round may be left. -/
def vPost {α : Type} (Z : Nat → Prop) (I : List α → World → Prop) (Ix : Code → List α → World → Prop) (xs : List α) (W : World) : Exit → Act → World → Prop
  | .normal, _, W' => But Z W W' ∧ I xs W'
  | .ret, _, W' => But Z W W' ∧ Ix .ret xs W'
  | .exit id, _, W' => But Z W W' ∧ Ix (.exit id) xs W'
  | .goto t, _, W' => But Z W W' ∧ Ix (.goto t) xs W'
  | .panic _, _, _ => False
  | .outgrown, _, _ => False
variable {P : Program}
/-- A range over a function whose yielded values are read in the body. -/
theorem range_v {α : Type} {g : Operand} {ps : Array Tmp} {assign body : Code} {n : Nat} {Q : Exit → Act → World → Prop} {a : Act} {w : World}
    {gf : Nat} {lb : Array Value} (hg : a.eval g = .func (.func gf) #[] lb) (eg : ∀ args w, (callFunc gf args).run P w = .ok (.enter gf args) w)
    {V : α → Value → World → Prop} (hV : ∀ x v W W', V x v W → Calm 0 W W' → V x v W') {xs : List α} {N0 : Nat} {Ok : World → Prop} (hseq : SeqV P gf lb V xs N0 Ok) (hN0 : N0 ≤ w.heap.size) (hOk : ∀ W, RowKit.Below w.heap.size w W → Ok W) (hps : ps.size = 1)
    (Z : Nat → Prop) (hZ : ∀ k, Z k → N0 ≤ k ∧ k < w.heap.size)
    (I : List α → World → Prop) (Ix : Code → List α → World → Prop) (hI : OldJ w.heap.size I) (hIx : ∀ c, OldX w.heap.size (Ix c)) (h0 : I [] w) (a₁ : Value → Act)
    (hassign : ∀ (m l : Nat) (v : Value) (W : World) (K : Act → World → Prop), K (a₁ v) W →
      assign.wpIn (Fence.wide.inRound l) m P (Exit.then K (fun _ _ _ => False)) { tmps := (ps.zip #[v]).foldl (fun t (p, v) => t.setIfInBounds p v) a.tmps, defers := [] } W)
    (hbody : ∀ (m l : Nat) (pre : List α) (x : α) (v : Value) (W : World), w.heap.size ≤ W.heap.size → I pre W → V x v W → pre ++ [x] <+: xs → body.wpIn (Fence.wide.inRound l) m P (vPost Z I Ix (pre ++ [x]) W) (a₁ v) W)
    (hdone : ∀ (D : Nat) (W : World), w.heap.size ≤ D → I xs W → W.heap[D]? = some (.deferred (some [])) → Q .normal { a with defers := { target := .collected D, args := #[] } :: a.defers } W)
    (hstop : ∀ (D : Nat) (c : Code) (pre : List α) (W : World), w.heap.size ≤ D → pre <+: xs → Ix c pre W → W.heap[D]? = some (.deferred (some [])) → c.wpIn Fence.wide n P Q { a with defers := { target := .collected D, args := #[] } :: a.defers } W) :
    (Code.rangeFunc g ps assign body).wpIn Fence.wide n P Q a w := by
  refine wpIn_rangeFunc ?_
  intro fn hfn
  obtain ⟨rec, hrec⟩ : ∃ rec : LoopState → Option Code → Loop, rec = fun st pe => { state := st, pending := pe, fn, tmps := a.tmps, params := ps, assign, body, defers := w.heap.size } := ⟨_, rfl⟩
  obtain ⟨W1, hW1⟩ : ∃ W1, (w.alloc (.deferred (some []))).alloc (.loop (rec .ready none)) = W1 := ⟨_, rfl⟩
  have hs1 : W1.heap.size = w.heap.size + 2 := by rw [← hW1]; simp
  have hL1 : W1.heap[w.heap.size + 1]? = some (.loop (rec .ready none)) := by
    rw [← hW1]; have := World.alloc_heap_new (w.alloc (.deferred (some []))) (.loop (rec .ready none)); rwa [World.size_alloc] at this
  have hK1 : W1.heap[w.heap.size]? = some (.deferred (some [])) := by
    rw [← hW1]; exact (RowKit.Below.heap_alloc _ _ _ (by simp)).trans (World.alloc_heap_new w _)
  have hw1 : RowKit.Below w.heap.size w W1 := by
    rw [← hW1]; exact ((RowKit.Below.refl _ w).alloc (Nat.le_refl _) _).alloc (by simp) _
  have hI1 : I [] W1 := hI _ _ _ h0 hw1
  refine ⟨w.heap.size + 1, [{ target := .collected w.heap.size, args := #[] }], W1, { target := .fn (.func gf) lb, args := #[.func (.yield (w.heap.size + 1)) #[] #[]] }, W1, gf,
    #[.func (.yield (w.heap.size + 1)) #[] #[]] ++ lb, W1, ?_, ?_, ?_, ?_, fun h => (by cases h), ?_⟩
  · rw [← hW1, hrec]; exact run_enterLoop_outer _ _ _ _ _
  · simp only [resolve, hg]
    simp [go_sem]
  · intro f' _; trivial
  · simp [invoke, go_sem, eg]
  · refine (hseq (w.heap.size + 1) (fun k => Z k ∨ k = w.heap.size + 1)
      (fun pre W => I pre W ∧ W.heap[w.heap.size + 1]? = some (.loop (rec .ready none)) ∧ W.heap[w.heap.size]? = some (.deferred (some [])))
      (fun pre W => ∃ c, Ix c pre W ∧ W.heap[w.heap.size + 1]? = some (.loop (rec .done (some c))) ∧ W.heap[w.heap.size]? = some (.deferred (some [])))
      W1 _
      (fun k hk => by
        rcases hk with hk | rfl
        · have := hZ k hk; omega
        · omega)
      (by omega) (hOk _ hw1)
      (fun s A B hs hb => ⟨hI s A B hs.1 (hb.mono (by omega)), (hb.block _ (by omega)).trans hs.2.1, (hb.block _ (by omega)).trans hs.2.2⟩)
      (fun s A B hs hb => by
        obtain ⟨c, hc, hl, hk⟩ := hs
        have h1 := (Array.getElem?_eq_some_iff.1 hl).1
        exact ⟨c, hIx c s A B hc (hb.mono (by omega)), (hb.low _ (by omega) h1).trans hl, (hb.low _ (by omega) (by omega)).trans hk⟩)
      ?_ ⟨hI1, hL1, hK1⟩).mono ?_
    · rintro m pre x v W hsW ⟨hi, hl, hk⟩ hv hpre
      have hlt : w.heap.size + 1 < W.heap.size := (Array.getElem?_eq_some_iff.1 hl).1
      have hy := run_yield (P := P) (args := #[v]) hl (by rw [hrec]; exact hps.symm)
      rw [hrec] at hy
      refine ⟨fn, _, assign, body, hy, roundIn_of_wpIn hfn (hassign _ _ v W _ ⟨_, run_beginRound hl (by rw [hrec]), ?_⟩)⟩
      have hl2 : (W.putObj (w.heap.size + 1) (.loop { rec .ready none with state := .busy })).heap[w.heap.size + 1]? = some (.loop { rec .ready none with state := .busy }) := World.putObj_heap_same hlt
      have hk2 : (W.putObj (w.heap.size + 1) (.loop { rec .ready none with state := .busy })).heap[w.heap.size]? = some (.deferred (some [])) := (World.putObj_heap_other (by omega)).trans hk
      have hbu : But (fun k => Z k ∨ k = w.heap.size + 1) W (W.putObj (w.heap.size + 1) (.loop { rec .ready none with state := .busy })) := (But.refl _ W).putObj (.inl (.inr rfl)) _
      refine wpIn_mono (hbody _ _ pre x v _ (by simp; omega) (hI _ _ _ hi (below_putObj _ _ (by omega))) (hV _ _ _ _ hv (Calm.putObj _ (Nat.zero_le _) hl rfl)) hpre) ?_
      have fin : ∀ (jump : Option Code) (W3 : World), But Z (W.putObj (w.heap.size + 1) (.loop { rec .ready none with state := .busy })) W3 →
          (Instr.endRound (w.heap.size + 1) jump).run P W3 = .ok (.bool jump.isNone) (W3.putObj (w.heap.size + 1) (.loop (rec (if jump.isNone then .ready else .done) jump))) ∧
          W3.heap[w.heap.size + 1]? = some (.loop { rec .ready none with state := .busy }) ∧
          (W3.putObj (w.heap.size + 1) (.loop (rec (if jump.isNone then .ready else .done) jump))).heap[w.heap.size + 1]? = some (.loop (rec (if jump.isNone then .ready else .done) jump)) ∧
          (W3.putObj (w.heap.size + 1) (.loop (rec (if jump.isNone then .ready else .done) jump))).heap[w.heap.size]? = some (.deferred (some [])) ∧
          But (fun k => Z k ∨ k = w.heap.size + 1) W (W3.putObj (w.heap.size + 1) (.loop (rec (if jump.isNone then .ready else .done) jump))) := fun jump W3 hk3 => by
        have hl3 := (hk3.block (w.heap.size + 1) (by simpa using hlt) (fun hz => by have := (hZ _ hz).2; omega)).trans hl2
        have hd3 := (hk3.block w.heap.size (by simp; omega) (fun hz => by have := (hZ _ hz).2; omega)).trans hk2
        have := run_endRound (P := P) jump hl3
        rw [hrec] at this ⊢
        exact ⟨this, by rw [hrec] at hl3; exact hl3, World.putObj_heap_same (Array.getElem?_eq_some_iff.1 hl3).1, (World.putObj_heap_other (by omega)).trans hd3,
          (hbu.trans (hk3.mono (fun _ _ h => .inl h))).putObj (.inl (.inr rfl)) _⟩
      rintro e a3 W3 hp
      cases e with
      | normal =>
        obtain ⟨hk3, hi3⟩ := hp
        obtain ⟨hr, hl3, hl4, hk4, hbb⟩ := fin none W3 hk3
        exact ⟨_, _, hr, hbb, .inl ⟨rfl, hI _ _ _ hi3 (below_putObj _ _ (by omega)), hl4, hk4⟩⟩
      | ret =>
        obtain ⟨hk3, hi3⟩ := hp
        obtain ⟨hr, hl3, hl4, hk4, hbb⟩ := fin (some .ret) W3 hk3
        exact ⟨_, _, hr, hbb, .inr ⟨rfl, .ret, hIx _ _ _ _ hi3 (Calm.putObj _ (by omega) hl3 rfl), hl4, hk4⟩⟩
      | exit id =>
        obtain ⟨hk3, hi3⟩ := hp
        obtain ⟨hr, hl3, hl4, hk4, hbb⟩ := fin (some (.exit id)) W3 hk3
        exact ⟨_, _, hr, hbb, .inr ⟨rfl, .exit id, hIx _ _ _ _ hi3 (Calm.putObj _ (by omega) hl3 rfl), hl4, hk4⟩⟩
      | goto t =>
        obtain ⟨hk3, hi3⟩ := hp
        obtain ⟨hr, hl3, hl4, hk4, hbb⟩ := fin (some (.goto t)) W3 hk3
        exact ⟨_, _, hr, hbb, .inr ⟨rfl, .goto t, hIx _ _ _ _ hi3 (Calm.putObj _ (by omega) hl3 rfl), hl4, hk4⟩⟩
      | panic ch => exact hp.elim
      | outgrown => exact hp.elim
    · rintro e W2 ⟨⟨v, rfl⟩, (⟨hi, hl, hk⟩ | ⟨pre, hpre, c, hi, hl, hk⟩)⟩
      · exact ⟨none, _, by have := run_endLoop (P := P) hl (by rw [hrec]; simp); rw [hrec] at this; exact this, hdone _ _ (Nat.le_refl _) (hI _ _ _ hi (below_putObj _ _ (by omega))) ((World.putObj_heap_other (by omega)).trans hk)⟩
      · exact ⟨some c, _, by have := run_endLoop (P := P) hl (by rw [hrec]; simp); rw [hrec] at this; exact this, hstop _ c pre _ (Nat.le_refl _) hpre (hIx _ _ _ _ hi (Calm.putObj _ (by omega) hl rfl)) ((World.putObj_heap_other (by omega)).trans hk)⟩
end
section
open Go.Shelf
theorem ints_news {w : World} {b off : Nat} {zs : List Int} (h : IntsAt w (some ⟨b, off, none⟩) zs) : ∀ j u, (zs.map (Value.int .i64))[j]? = some u → w.cell? ⟨b, off + j, none⟩ = some u := fun j u hj => by
  have hlt : j < zs.length := by simpa using (List.getElem?_eq_some_iff.1 hj).1
  obtain ⟨b', off', e, _, c1⟩ := h j hlt
  simp at e
  obtain ⟨rfl, rfl⟩ := e
  rw [c1, ← hj, nth_eq]
  simp [List.getElem?_eq_getElem hlt]
set_option maxRecDepth 100000 in
set_option maxHeartbeats 1000000 in
/-- slices.Clone at numbers. -/
theorem clone_any (l : Option Addr) (lc : Nat) (zs : List Int) (w : World) (hS : IntsAt w l zs) (hl : zs.length ≤ 1000) :
    Calls Try.prog 50 #[.slice l zs.length lc] w fun e w' => ∃ v, e = .returned v ∧ Owns w' w.heap.size v zs ∧ Fut w w' := by
  have q28 : ∀ (w : World) (a : Option Addr) (n c n' c' : Nat), (binOp .eql 28 (.slice a n c) (.slice none n' c')).run Try.prog w = .ok (.bool a.isNone) w := fun w a n c n' c' => Lib.run_eql_slice_nil w _ _ a n c n' c' Try.underlying28
  cases hn : l with
  | none =>
    subst hn
    have h0 : zs = [] := by
      cases zs with
      | nil => rfl
      | cons p t => obtain ⟨b, off, e, _⟩ := hS 0 (by simp); cases e
    subst h0
    clear hS
    go_enter Try.func50, Try.ntmps50
    go_wp2
    go_ret
    exact ⟨_, rfl, World.ownsRow_nil _ _ _ _, Fut.rfl⟩
  | some ad =>
    subst hn
    obtain ⟨i0, hi0, hz0, hz1, hz2⟩ := info_parts info3
    have HN : Hid (∀ j u, (zs.map (Value.int .i64))[j]? = some u → w.cell? (ad.add j) = some u) := Lib.hid (fun j u hj => by
      have hlt : j < zs.length := by simpa using (List.getElem?_eq_some_iff.1 hj).1
      obtain ⟨b, off, e, _⟩ := hS 0 (by omega)
      simp at e
      subst e
      rw [Addr.add_lit]
      exact ints_news hS j u hj)
    have hlx : (zs.length : Int) ≤ 1000 := by omega
    clear hS
    go_enter Try.func50, Try.ntmps50
    go_wp2_with (at_builtin; refine wpList_append_own _ rfl _ _ 28 rfl w.heap.size 3 i0 (.int .i64 0) 1 8 Try.underlying28 hi0 hz0 hz1 hz2 rfl (by decide) _ _ _ rfl (World.ownsRow_made w #[] 0 (Nat.le_refl _) (Nat.zero_le _) rfl) ad zs.length lc (zs.map (Value.int .i64)) rfl ?qc1 ?qc2 ?qc3 ?qc4 ?qc5 ?qc6 ?_)
    case qc1 => simp
    case qc2 => intro j u hj; exact Lib.cell?_alloc_some _ (HN.out j u hj)
    case qc3 => intro u hu; obtain ⟨z, _, rfl⟩ := List.mem_map.1 hu; rfl
    case qc4 => unfold maxLen; omega
    case qc5 => omega
    case qc6 => simp
    intro v' w1 hown hgrow _
    go_wp2
    go_ret
    refine ⟨v', rfl, ?_, ?_⟩
    · unfold Owns; simpa using hown
    · exact ((RowKit.Below.refl _ w).alloc (Nat.le_refl _) _).grown hgrow (by simp) (by intro k hk; simp [Value.ownBlock] at hk; omega)
/-- the orders that begin as h does, so many numbers being left. -/
def ordT (n : Nat) : Nat → List Int → List (List Int)
  | 0, h => [h]
  | m + 1, h => (List.range n).flatMap fun (i : Nat) => if h.contains (i : Int) then [] else ordT n m (h ++ [(i : Int)])
def segT (n m : Nat) (h : List Int) (k : Nat) : List (List Int) := (List.range k).flatMap fun (i : Nat) => if h.contains (i : Int) then [] else ordT n m (h ++ [(i : Int)])
theorem segT_zero (n m : Nat) (h : List Int) : segT n m h 0 = [] := rfl
theorem segT_succ (n m : Nat) (h : List Int) (k : Nat) : segT n m h (k + 1) = segT n m h k ++ (if h.contains (k : Int) then [] else ordT n m (h ++ [(k : Int)])) := by
  unfold segT
  rw [List.range_succ, List.flatMap_append]
  simp
theorem segT_all (n m : Nat) (h : List Int) : segT n m h n = ordT n (m + 1) h := rfl
theorem segT_mono (n m : Nat) (h : List Int) (k d : Nat) : segT n m h k <+: segT n m h (k + d) := by
  induction d with
  | zero => exact List.prefix_refl _
  | succ d ih => exact ih.trans (by rw [← Nat.add_assoc, segT_succ]; exact List.prefix_append _ _)
theorem segT_pre (n m : Nat) (h : List Int) (k : Nat) (hk : k ≤ n) : segT n m h k <+: ordT n (m + 1) h := by
  rw [← segT_all]
  have := segT_mono n m h k (n - k)
  rwa [show k + (n - k) = n by omega] at this
/-- what a yielded list reads as. -/
def Rd (x : List Int) (v : Value) (w : World) : Prop := ∃ a cap, v = .slice a x.length cap ∧ x.length ≤ cap ∧ cap ≤ maxLen ∧ IntsAt w a x
theorem Rd.calm {x : List Int} {v : Value} {w w' : World} (h : Rd x v w) (k : Calm 0 w w') : Rd x v w' := by
  obtain ⟨a, cap, e, h1, h2, h3⟩ := h
  refine ⟨a, cap, e, h1, h2, fun j hj => ?_⟩
  obtain ⟨b, off, ea, hb, hc⟩ := h3 j hj
  exact ⟨b, off, ea, Nat.lt_of_lt_of_le hb k.size, k.cell hc⟩
theorem Owns.rd {w : World} {B : Nat} {v : Value} {x : List Int} (h : Owns w B v x) : Rd x v w := h.form
theorem own_pre {w : World} {B g n cap : Nat} {h : List Int} {i : Int} (ho : Owns w B (.slice (some ⟨g, 0, none⟩) (n + 1) cap) (h ++ [i])) (hn : h.length = n) : Owns w B (.slice (some ⟨g, 0, none⟩) n cap) h := by
  obtain ⟨h1, h2⟩ := ho
  refine ⟨by simp, .inr ?_⟩
  rcases h2 with ⟨h2, _⟩ | ⟨g', cap', cur, e, hb, hg, hnc, hcm, hcs, htake⟩
  · cases h2
  · simp only [Value.slice.injEq, Option.some.injEq, Addr.mk.injEq, and_true] at e
    obtain ⟨rfl, e2, rfl⟩ := e
    refine ⟨g, cap, cur, by rw [hn], hb, hg, ?_, hcm, hcs, ?_⟩
    · simp at hnc; omega
    · have e3 := congrArg (List.take h.length) htake
      rw [List.take_take] at e3
      simp at e3
      simpa using e3
theorem own_back {W1 W2 W3 : World} {B g cap : Nat} {v : Value} {h : List Int} {i : Int} {Z : Nat → Prop} (hv : Owns W1 B v h) (_hsz : B ≤ W1.heap.size)
    (hw : (g = W1.heap.size ∧ RowKit.Below W1.heap.size W1 W2) ∨ (v = .slice (some ⟨g, 0, none⟩) h.length cap ∧ W1.grownBy W2 (some g)))
    (hB : But (fun k => Z k ∨ some g = some k) W2 W3) (hZ : ∀ k, Z k → k < B) (ho : Owns W3 B (.slice (some ⟨g, 0, none⟩) (h.length + 1) cap) (h ++ [i])) :
    Owns W3 B v h ∧ But (fun k => Z k ∨ v.ownBlock = some k) W1 W3 := by
  rcases hw with ⟨rfl, hb⟩ | ⟨rfl, hg⟩
  · have hall : ∀ k, k < W1.heap.size → ¬ Z k → W3.heap[k]? = W1.heap[k]? := fun k hk hz =>
      (hB.block k (Nat.lt_of_lt_of_le hk hb.size) (fun h => by rcases h with h | h; exact hz h; simp at h; omega)).trans (hb.block k hk)
    refine ⟨?_, hB.os.trans hb.os, hB.tape.trans hb.tape, hB.output.trans hb.output, Nat.le_trans hb.size hB.size, fun k hk hz => hall k hk (fun h => hz (.inl h))⟩
    obtain ⟨h1, h2⟩ := hv
    refine ⟨h1, ?_⟩
    rcases h2 with h2 | ⟨g', cap', cur, e, hb', hg', hr⟩
    · exact .inl h2
    · refine .inr ⟨g', cap', cur, e, hb', ?_, hr⟩
      rw [hall g' (Array.getElem?_eq_some_iff.1 hg').1 (fun h => by have := hZ _ h; omega)]
      exact hg'
  · refine ⟨own_pre ho rfl, hB.os.trans hg.os, hB.tape.trans hg.tape, hB.output.trans hg.output, Nat.le_trans hg.size hB.size, fun k hk hz => ?_⟩
    have hne : ¬ some g = some k := fun e => hz (.inr e)
    exact (hB.block k (Nat.lt_of_lt_of_le hk hg.size) (fun h => by rcases h with h | h; exact hz (.inl h); exact hne h)).trans (hg.block k hk (fun e => hne e.symm))
theorem wpListIn_append_where {F : Fence} {n : Nat} {P : Program} (w : World) {ops : Array Oper} {rest : List Oper} {o : Oper} {a : Act} {Q : Exit → Act → World → Prop}
    (hg : Region.wanted o (yielded ops a.tmps) = true) (s x : Operand) (t : TypeId) (hop : o.op = Op.call { callee := Callee.builtin Builtin.append, args := #[s, x], argTypes := #[t, t] })
    (base : Nat) (e : TypeId) (i : TypeInfo) (z : Value) (size bytes : Nat) (h1 : P.underlying t = some (.slice e)) (h2 : P.info? e = some i) (h3 : i.zero = some z) (h4 : i.size = size) (h5 : i.bytes = bytes) (h6 : z.cells.size = size) (h7 : 0 < size)
    (v : Value) (k : Nat) (xs : List Value) (hs : a.eval s = v) (hown : w.ownsRow base e size v k xs) (ad : Addr) (m c : Nat) (news : List Value) (hx : a.eval x = .slice (some ad) m c) (hn : news.length = m * size)
    (hc : ∀ j u, news[j]? = some u → w.cell? (ad.add j) = some u) (h1c : ∀ u ∈ news, u.oneCell' = true) (hm : 0 < m) (b1 : k + m ≤ maxLen) (b2 : (k + m) * bytes ≤ 140737488355328) (b3 : base ≤ w.heap.size)
    (hK : ∀ g cap w', w'.ownsRow base e size (.slice (some ⟨g, 0, none⟩) (k + m) cap) (k + m) (xs ++ news) → ((g = w.heap.size ∧ RowKit.Below w.heap.size w w') ∨ (v = .slice (some ⟨g, 0, none⟩) k cap ∧ w.grownBy w' (some g))) → g < w'.heap.size →
      wpListIn F n P ops Q rest (a.put o.dst (.slice (some ⟨g, 0, none⟩) (k + m) cap)) w') :
    wpListIn F n P ops Q (o :: rest) a w := by
  refine wpListIn_step fun K hK' => ?_
  rw [if_pos hg]
  obtain ⟨g, cap, w', hrun, r1, r2, r3⟩ := run_append_where (P := P) w t o.type base e i z size bytes h1 h2 h3 h4 h5 h6 h7 v k xs hown ad m c news hn hc h1c hm b1 b2 b3
  unfold Oper.wpIn
  refine ⟨?_, ?_⟩
  · simp [Oper.about, hop, resolve, Target.leads, Sem.run_pure]
  · rw [Oper.semAt_plain F _ _ (by rw [hop]; intro c hc'; cases hc')]
    simp [execOp, hop, resolve, invoke, builtin, hs, hx, hrun, Result.andThen]
    exact hK' _ _ (hK g cap w' r1 r2 r3)
end
section
attribute [local go_sem] Oper.semAt_some
open Go.Shelf
theorem Owns.but {Z : Nat → Prop} {w w' : World} {B : Nat} {v : Value} {zs : List Int} (h : Owns w B v zs) (hb : But Z w w') (hZ : ∀ k, Z k → k < B) : Owns w' B v zs := by
  obtain ⟨h1, h2⟩ := h
  refine ⟨h1, ?_⟩
  rcases h2 with h2 | ⟨g, cap, cur, h3, h4, h5, h6⟩
  · exact .inl h2
  · exact .inr ⟨g, cap, cur, h3, h4, by rw [hb.block g (Array.getElem?_eq_some_iff.1 h5).1 (fun hz => by have := hZ g hz; omega)]; exact h5, h6⟩
theorem app_below {wr w2 : World} {B g cap : Nat} {v : Value} {h : List Int} {o : Obj} (HO : Owns wr B v h) (hB : B ≤ wr.heap.size)
    (hwh : (g = (wr.alloc o).heap.size ∧ RowKit.Below (wr.alloc o).heap.size (wr.alloc o) w2) ∨ (v = .slice (some ⟨g, 0, none⟩) h.length cap ∧ (wr.alloc o).grownBy w2 (some g))) : RowKit.Below B wr w2 := by
  have h1 : RowKit.Below B wr (wr.alloc o) := (RowKit.Below.refl _ _).alloc hB o
  rcases hwh with ⟨_, hb⟩ | ⟨rfl, hg⟩
  · exact h1.trans (RowKit.Below.mono hb (by simp; omega))
  · exact h1.grown hg (by simp; omega) (fun k hk => by
      cases hk
      exact (World.ownsRow.lt HO g rfl).1)
theorem but_back {W1 W2 W3 : World} {g cap n : Nat} {v : Value} {Z : Nat → Prop}
    (hw : (g = W1.heap.size ∧ RowKit.Below W1.heap.size W1 W2) ∨ (v = .slice (some ⟨g, 0, none⟩) n cap ∧ W1.grownBy W2 (some g)))
    (hB : But (fun k => Z k ∨ some g = some k) W2 W3) : But (fun k => Z k ∨ v.ownBlock = some k) W1 W3 := by
  rcases hw with ⟨rfl, hb⟩ | ⟨rfl, hg⟩
  · exact ⟨hB.os.trans hb.os, hB.tape.trans hb.tape, hB.output.trans hb.output, Nat.le_trans hb.size hB.size, fun k hk hz =>
      (hB.block k (Nat.lt_of_lt_of_le hk hb.size) (fun h => by
        rcases h with h | h
        · exact hz (.inl h)
        · simp at h; omega)).trans (hb.block k hk)⟩
  · refine ⟨hB.os.trans hg.os, hB.tape.trans hg.tape, hB.output.trans hg.output, Nat.le_trans hg.size hB.size, fun k hk hz => ?_⟩
    have hne : ¬ some g = some k := fun e => hz (.inr e)
    exact (hB.block k (Nat.lt_of_lt_of_le hk hg.size) (fun h => by
      rcases h with h | h
      · exact hz (.inl h)
      · exact hne h)).trans (hg.block k hk (fun e => hne e.symm))
set_option maxRecDepth 100000 in
set_option maxHeartbeats 4000000 in
/-- eachOrder: all orders that begin as head does, for rounds that keep all but Z. -/
theorem each_any (n : Nat) (hn : n ≤ 5) (l B : Nat) (Z : Nat → Prop) (hZ : ∀ k, Z k → k < B) (J Jx : List (List Int) → World → Prop) (hJ : OldJ B J) (xs : List (List Int))
    (hY : ∀ (m : Nat) pre x v W1, B ≤ W1.heap.size → J pre W1 → Rd x v W1 → pre ++ [x] <+: xs → YieldAt Fence.wide m Try.prog l #[v] W1 fun e W' =>
      But Z W1 W' ∧ ((e = .returned (.bool true) ∧ J (pre ++ [x]) W') ∨ (e = .returned (.bool false) ∧ Jx (pre ++ [x]) W'))) :
    ∀ (m : Nat) (h : List Int) (v : Value) (pre : List (List Int)) (W : World) (d : Nat), h.length + m = n → Owns W B v h → B ≤ W.heap.size → J pre W → pre ++ ordT n m h <+: xs →
      CallsIn Fence.wide d Try.prog 136 #[v, .int .i64 n, .func (.yield l) #[] #[]] W fun e W' =>
        But (fun k => Z k ∨ v.ownBlock = some k) W W' ∧
        ((e = .returned (.bool true) ∧ J (pre ++ ordT n m h) W' ∧ Owns W' B v h) ∨ (e = .returned (.bool false) ∧ ∃ q, q <+: ordT n m h ∧ Jx (pre ++ q) W')) := by
  intro m
  induction m with
  | zero =>
    intro h v pre W d hm hO hB hJ0 hpre
    obtain ⟨a, cap, rfl, h1, h2, hI⟩ := hO.form
    have HO := Lib.hid hO
    have HC := Lib.hid (clone_any a cap h W hI (by omega))
    obtain rfl : h.length = n := by omega
    clear hO hI h1 h2 hm
    refine callsIn_of_wp Try.func136 rfl trivial ?_ rfl
    simp only [Try.ntmps136, List.size_toArray, List.length_cons, List.length_nil, Nat.reduceAdd, Nat.reduceSub, Array.replicate_succ, Array.replicate_zero, List.push_toArray, List.append_toArray, List.nil_append, List.cons_append]
    gi_wp2_with (first
      | (refine ⟨trivial, fun hh => (by cases hh), ?_⟩; gi_at_call 50; refine (callsIn_wide.2 HC.out).mono ?_; clear HC; rintro e w1 ⟨v1, rfl, hO1, hF1⟩; obtain ⟨fn, tmps, assign, body, hy, hR⟩ := hY (d - 1) pre h v1 w1 (Nat.le_trans hB (RowKit.Below.size hF1)) (hJ _ _ _ hJ0 (RowKit.Below.mono hF1 hB)) hO1.rd hpre)
      | (refine ⟨trivial, fun hh => (by cases hh), ?_⟩; refine hR.mono ?_; clear hR; rintro e W2 ⟨hbu, (⟨rfl, hJ2⟩ | ⟨rfl, hJx2⟩)⟩)
      | (refine ⟨fun hh => (by cases hh), ?_⟩; refine hR.mono ?_; clear hR; rintro e W2 ⟨hbu, (⟨rfl, hJ2⟩ | ⟨rfl, hJx2⟩)⟩))
    · go_ret
      exact ⟨(But.of_below hF1).trans (hbu.mono fun _ _ hz => .inl hz), .inl ⟨rfl, hJ2, (HO.out.fut hF1).but hbu hZ⟩⟩
    · go_ret
      exact ⟨(But.of_below hF1).trans (hbu.mono fun _ _ hz => .inl hz), .inr ⟨rfl, [h], List.prefix_refl _, hJx2⟩⟩
  | succ m ih =>
    intro h v pre W d hm hO hB hJ0 hpre
    obtain ⟨i0, hi0, hz0, hz1, hz2⟩ := info_parts info3
    obtain ⟨a, cap, rfl, h1, h2, _⟩ := hO.form
    have HO := Lib.hid hO
    have HM := Lib.hid hm
    have hne : ((h.length : Int) == (n : Int)) = false := by simp; omega
    have HP := Lib.hid hpre
    have HIH := Lib.hid ih
    clear hO h1 h2 hm hpre ih
    refine callsIn_of_wp Try.func136 rfl trivial ?_ rfl
    simp only [Try.ntmps136, List.size_toArray, List.length_cons, List.length_nil, Nat.reduceAdd, Nat.reduceSub, Array.replicate_succ, Array.replicate_zero, List.push_toArray, List.append_toArray, List.nil_append, List.cons_append]
    gi_wp2_with fail
    gi_loopw [17] (fun iv wr => ∃ k : Nat, k ≤ n ∧ iv = .int .i64 k ∧ J (pre ++ segT n m h k) wr ∧ Hid (Owns wr B (.slice a h.length cap) h) ∧ Hid (But (fun k => Z k ∨ (Value.slice a h.length cap).ownBlock = some k) W wr)) (fun iv _ => n - (intOf iv).toNat)
    case atStart => exact ⟨0, Nat.zero_le _, rfl, by rw [segT_zero, List.append_nil]; exact hJ0, HO, Lib.hid (But.refl _ _)⟩
    case round =>
      obtain ⟨k, hk, rfl, hJr, HOr, HBr⟩ := hrel
      by_cases hlt : k < n
      · have hkx : (k : Int) < n := by omega
        obtain ⟨a', cap', e', q1, q2, hI⟩ := HOr.out.form
        simp only [Value.slice.injEq, true_and] at e'
        obtain ⟨rfl, rfl⟩ := e'
        have HC := Lib.hid (contains_any a cap h k wr hI (by have := HM.out; omega))
        have HSS := Lib.hid (segT_succ n m h k)
        have HPP := Lib.hid (segT_pre n m h (k + 1) hlt)
        clear hI q1 q2
        cases hc : h.contains (k : Int)
        · rw [hc] at HC HSS
          simp only [Bool.false_eq_true, if_false] at HSS
          clear hc
          have hbr : B ≤ wr.heap.size := Nat.le_trans hB HBr.out.size
          gi_wp2_with (first
            | (refine ⟨trivial, fun hh => (by cases hh), ?_⟩; gi_at_call 51; refine (callsIn_wide.2 HC.out).mono ?_; clear HC; rintro e w1 ⟨rfl, rfl⟩)
            | (gi_at_builtin; refine wpListIn_append_where _ rfl _ _ 28 rfl B 3 i0 (.int .i64 0) 1 8 Try.underlying28 hi0 hz0 hz1 hz2 rfl (by decide) _ h.length (h.map (Value.int .i64)) rfl (HOr.out.fut (Fut.alloc _ _)) ⟨wr.heap.size, 0, none⟩ 1 1 [.int .i64 k] rfl rfl (cell_one (by simp [go_sem])) (by simp [Value.oneCell']) (by decide) (by have := HM.out; unfold maxLen; omega) (by have := HM.out; omega) (by simp; omega) ?_))
          intro g capp w2 hown hwh0 hlt2
          have hwh : (g = (wr.alloc (.cells #[.int .i64 (k : Int)] 3)).heap.size ∧ RowKit.Below (wr.alloc (.cells #[.int .i64 (k : Int)] 3)).heap.size (wr.alloc (.cells #[.int .i64 (k : Int)] 3)) w2) ∨ (Value.slice a h.length cap = .slice (some ⟨g, 0, none⟩) h.length capp ∧ (wr.alloc (.cells #[.int .i64 (k : Int)] 3)).grownBy w2 (some g)) := by
            rcases hwh0 with ⟨e1, e2⟩ | ⟨⟨rfl, rfl⟩, e2⟩
            · exact .inl ⟨by simpa using e1, by simpa using e2⟩
            · exact .inr ⟨rfl, e2⟩
          clear hwh0
          have hbw := app_below HOr.out hbr hwh
          have HR := Lib.hid (fun dd => HIH.out (h ++ [(k : Int)]) (.slice (some ⟨g, 0, none⟩) (h.length + 1) capp) (pre ++ segT n m h k) w2 dd (by have := HM.out; simp; omega) (by unfold Owns; simpa using hown) (Nat.le_trans hbr hbw.size) (hJ _ _ _ hJr hbw)
            ((by rw [List.append_assoc, ← HSS.out]; exact (List.prefix_append_right_inj _).2 HPP.out : _ <+: pre ++ ordT n (m + 1) h).trans HP.out))
          have HW := Lib.hid hwh
          clear hown hwh hlt2 hbw
          gi_wp2_with (refine ⟨trivial, fun hh => (by cases hh), ?_⟩; gi_at_call 136; refine (HR.out _).mono ?_; clear HR; rintro e w3 ⟨hbu, (⟨rfl, hJ3, hO3⟩ | ⟨rfl, q, hq, hJx3⟩)⟩)
          · have hbk := own_back (HOr.out.fut (Fut.alloc _ _)) (by simp; omega) HW.out hbu hZ hO3
            have HO3 := Lib.hid hbk.1
            have HB3 := Lib.hid (HBr.out.trans ((But.of_below (Fut.alloc wr (.cells #[.int .i64 (k : Int)] 3))).trans hbk.2))
            have HJ3 : J (pre ++ segT n m h (k + 1)) w3 := by rw [HSS.out, ← List.append_assoc]; exact hJ3
            clear hbk hbu hO3 hJ3
            gi_wp2_with fail
            go_roundw
            case rel => exact ⟨k + 1, by omega, by go_num, HJ3, HO3, HB3⟩
            case measure => simp [intOf]; omega
          · have HB3 := HBr.out.trans ((But.of_below (Fut.alloc wr (.cells #[.int .i64 (k : Int)] 3))).trans (but_back HW.out hbu))
            clear hbu
            gi_wp2_with fail
            refine bodyPost_ret (results_tmp rfl _ _ _) rfl ?_
            refine ⟨HB3, .inr ⟨rfl, segT n m h k ++ q, ?_, by rw [← List.append_assoc]; exact hJx3⟩⟩
            have e1 : segT n m h k ++ q <+: segT n m h (k + 1) := by rw [HSS.out]; exact (List.prefix_append_right_inj _).2 hq
            exact e1.trans HPP.out
        · rw [hc] at HC HSS
          simp only [if_true, List.append_nil] at HSS
          clear hc
          gi_wp2_with (refine ⟨trivial, fun hh => (by cases hh), ?_⟩; gi_at_call 51; refine (callsIn_wide.2 HC.out).mono ?_; clear HC; rintro e w1 ⟨rfl, rfl⟩)
          refine ⟨trivial, ?_⟩
          gi_wp2_with fail
          go_roundw
          case rel => exact ⟨k + 1, by omega, by go_num, by rw [HSS.out]; exact hJr, HOr, HBr⟩
          case measure => simp [intOf]; omega
      · obtain rfl : k = n := by omega
        gi_wp2_with fail
        refine bodyPost_ret (results_tmp rfl _ _ _) rfl ?_
        exact ⟨HBr.out, .inl ⟨rfl, hJr, HOr.out⟩⟩
end
section
attribute [local go_sem] Oper.semAt_some
open Go.Shelf
theorem orders_any (n : Int) (w : World) : Calls Try.prog 113 #[.int .i64 n] w fun e w' => e = .returned (.func (.func 135) #[] #[.pointer (some ⟨w.heap.size, 0, none⟩)]) ∧ w' = w.alloc (.cells #[.int .i64 n] 3) := by
  go_enter Try.func113, Try.ntmps113
  go_wp2
  go_ret
  exact ⟨rfl, rfl⟩
set_option maxRecDepth 100000 in
set_option maxHeartbeats 1000000 in
theorem orders_seq (n : Nat) (hn : n ≤ 5) (Bm : Nat) :
    SeqV Try.prog 135 #[.pointer (some ⟨Bm, 0, none⟩)] Rd (ordT n n []) 0 (fun w => w.cell? ⟨Bm, 0, none⟩ = some (.int .i64 n)) := fun l Z J Jx W d hZ _ hc hJ _ hY h0 => by
  have HE := Lib.hid (fun dd => each_any n hn l W.heap.size Z (fun k hk => (hZ k hk).2) J Jx hJ (ordT n n []) hY n [] (.slice none 0 0) [] W dd (by simp) (World.ownsRow_nil _ _ _ _) (Nat.le_refl _) h0 (List.prefix_refl _))
  clear hY hZ hJ
  show CallsIn Fence.wide d Try.prog 135 #[.func (.yield l) #[] #[], .pointer (some ⟨Bm, 0, none⟩)] W _
  refine callsIn_of_wp Try.func135 rfl trivial ?_ rfl
  simp only [Try.ntmps135, List.size_toArray, List.length_cons, List.length_nil, Nat.reduceAdd, Nat.reduceSub, Array.replicate_succ, Array.replicate_zero, List.push_toArray, List.append_toArray, List.nil_append, List.cons_append]
  gi_wp2_with (refine ⟨trivial, fun hh => (by cases hh), ?_⟩; gi_at_call 136; refine (HE.out _).mono ?_; clear HE; rintro e w3 ⟨hbu, (⟨rfl, hJ3, hO3⟩ | ⟨rfl, q, hq, hJx3⟩)⟩)
  · go_end0
    exact ⟨⟨_, rfl⟩, .inl hJ3⟩
  · go_end0
    exact ⟨⟨_, rfl⟩, .inr ⟨q, hq, hJx3⟩⟩
end
section
attribute [local go_sem] Oper.semAt_some
open Go.Shelf
theorem fitting_any (n : Int) (a : Option Addr) (len cap : Nat) (w : World) : Calls Try.prog 73 #[.int .i64 n, .slice a len cap] w fun e w' => e = .returned (.func (.func 112) #[] #[.pointer (some ⟨w.heap.size, 0, none⟩), .pointer (some ⟨w.heap.size + 1, 0, none⟩)]) ∧ w' = (w.alloc (.cells #[.int .i64 n] 3)).alloc (.cells #[.slice a len cap] 22) := by
  go_enter Try.func73, Try.ntmps73
  go_wp2
  go_ret
  exact ⟨by simp, rfl⟩
theorem alloc_cell (w : World) (v : Value) (t : TypeId) : (w.alloc (.cells #[v] t)).cell? ⟨w.heap.size, 0, none⟩ = some v := by
  have h := World.alloc_heap_new w (.cells #[v] t)
  unfold World.cell?
  rw [h]
  rfl
theorem alloc_old (w : World) (o : Obj) {p : Addr} {v : Value} (h : w.cell? p = some v) : (w.alloc o).cell? p = some v := by
  obtain ⟨o', h1, _⟩ := cells_of_cell h
  exact (World.cell?_of_block (RowKit.Below.heap_alloc w o _ (Array.getElem?_eq_some_iff.1 h1).1)).trans h
theorem But.cell {Z : Nat → Prop} {a b : World} (h : But Z a b) {p : Addr} (hp : p.block < a.heap.size) (hz : ¬ Z p.block) : b.cell? p = a.cell? p := World.cell?_of_block (h.block _ hp hz)
set_option maxRecDepth 100000 in
set_option maxHeartbeats 4000000 in
theorem fitting_seq (n : Nat) (hn : n ≤ 5) (Bs Bp : Nat) (a : Option Addr) (cap : Nat) (zss : List (List Int)) (wp : World) (hBs : Bs < wp.heap.size) (hBp : Bp < wp.heap.size) (hcs : wp.cell? ⟨Bs, 0, none⟩ = some (.int .i64 n))
    (hcp : wp.cell? ⟨Bp, 0, none⟩ = some (.slice a zss.length cap)) (hL : LstAt wp a zss) (hl : zss.length ≤ 5) (hd : ∀ k, k < zss.length → n ≤ (lth zss k).length) (hlen : ∀ r ∈ ordT n n [], r.length = n) :
    SeqV Try.prog 112 #[.pointer (some ⟨Bs, 0, none⟩), .pointer (some ⟨Bp, 0, none⟩)] Rd ((ordT n n []).filter fun r => amE n zss r == 0) wp.heap.size (fun w => RowKit.Below wp.heap.size wp w) := fun l Z J Jx W d hZ hN0 hW hJ hJx hY h0 => by
  have hcsW := (hW.cell (p := ⟨Bs, 0, none⟩) hBs).trans hcs
  show CallsIn Fence.wide d Try.prog 112 #[.func (.yield l) #[] #[], .pointer (some ⟨Bs, 0, none⟩), .pointer (some ⟨Bp, 0, none⟩)] W _
  refine callsIn_of_wp_marks Try.func112 rfl trivial ?_ rfl
  simp only [Try.ntmps112, List.size_toArray, List.length_cons, List.length_nil, Nat.reduceAdd, Nat.reduceSub, Array.replicate_succ, Array.replicate_zero, List.push_toArray, List.append_toArray, List.nil_append, List.cons_append]
  have hcs1 := alloc_old W (.cells #[.func (.yield l) #[] #[]] 109) hcsW
  gi_wp2_with (refine ⟨trivial, fun hh => (by cases hh), ?_⟩; gi_at_call 113; refine (callsIn_wide.2 (orders_any _ _)).mono ?_; rintro e w3 ⟨rfl, rfl⟩)
  have hsz : ((W.alloc (.cells #[.func (.yield l) #[] #[]] 109)).alloc (.cells #[.int .i64 (n : Int)] 3)).heap.size = W.heap.size + 2 := by simp
  have hcb : ((W.alloc (.cells #[.func (.yield l) #[] #[]] 109)).alloc (.cells #[.int .i64 (n : Int)] 3)).cell? ⟨W.heap.size, 0, none⟩ = some (.func (.yield l) #[] #[]) := alloc_old _ _ (alloc_cell W _ _)
  have hcm : ((W.alloc (.cells #[.func (.yield l) #[] #[]] 109)).alloc (.cells #[.int .i64 (n : Int)] 3)).cell? ⟨W.heap.size + 1, 0, none⟩ = some (.int .i64 n) := by
    have h := alloc_cell (W.alloc (.cells #[.func (.yield l) #[] #[]] 109)) (.int .i64 (n : Int)) 3
    rwa [World.size_alloc] at h
  have hbW : RowKit.Below W.heap.size W ((W.alloc (.cells #[.func (.yield l) #[] #[]] 109)).alloc (.cells #[.int .i64 (n : Int)] 3)) := ((RowKit.Below.refl _ W).alloc (Nat.le_refl _) _).alloc (by simp) _
  generalize (W.alloc (.cells #[.func (.yield l) #[] #[]] 109)).alloc (.cells #[.int .i64 (n : Int)] 3) = W0 at *
  refine range_v (xs := ordT n n []) (V := Rd) (N0 := 0) (Ok := fun w => w.cell? ⟨W.heap.size + 1, 0, none⟩ = some (.int .i64 n)) (gf := 135) (lb := #[.pointer (some ⟨W.heap.size + 1, 0, none⟩)]) rfl (enters_of Try.func135 (by kernel_rfl) rfl)
    (fun x v w w' h k => h.calm k) (orders_seq n hn _) (Nat.zero_le _) (fun W2 hb2 => (hb2.cell (p := ⟨W.heap.size + 1, 0, none⟩) (by show W.heap.size + 1 < _; omega)).trans hcm) rfl Z (fun k hk => ⟨Nat.zero_le _, by have := (hZ k hk).2; omega⟩)
    (fun pre W1 => J (pre.filter fun r => amE n zss r == 0) W1 ∧ Hid (RowKit.Below wp.heap.size wp W1) ∧ W1.cell? ⟨W.heap.size, 0, none⟩ = some (.func (.yield l) #[] #[]))
    (fun c pre W1 => c = .ret ∧ Jx (pre.filter fun r => amE n zss r == 0) W1)
    (fun s A B hs hb => ⟨hJ _ _ _ hs.1 (hb.mono (by omega)), Lib.hid (hs.2.1.out.trans (hb.mono (by omega))), (hb.cell (p := ⟨W.heap.size, 0, none⟩) (by show W.heap.size < _; omega)).trans hs.2.2⟩)
    (fun c s A B hs hb => ⟨hs.1, hJx _ _ _ hs.2 (hb.mono (by omega))⟩)
    ⟨hJ _ _ _ h0 hbW, Lib.hid (hW.trans (hbW.mono hN0)), hcb⟩
    (fun v => { tmps := #[.func (.yield l) #[] #[], .pointer (some ⟨Bs, 0, none⟩), .pointer (some ⟨Bp, 0, none⟩), .pointer (some ⟨W.heap.size, 0, none⟩), v, .int .i64 n, .func (.func 135) #[] #[.pointer (some ⟨W.heap.size + 1, 0, none⟩)], v, undef, undef, undef, undef, undef, undef, undef, undef, undef, undef, undef], defers := [] })
    ?assign ?body ?done ?stop
  case assign =>
    intro m l' v W1 K hK
    gi_wp2
    exact hK
  case body =>
    rintro m l' pre x v W1 hs1 ⟨hJ1, hb1, hc1⟩ ⟨xa, xc, rfl, hx1, hx2, hxI⟩ hpre
    have hxl : x.length = n := hlen x (hpre.subset (by simp))
    have hr1 := (hb1.out.cell (p := ⟨Bs, 0, none⟩) hBs).trans hcs
    have hr2 := (hb1.out.cell (p := ⟨Bp, 0, none⟩) hBp).trans hcp
    have HA := Lib.hid (among_any n a cap zss xa xc x W1 (hL.fut hb1.out) hxI (fun k hk => by rw [hxl]; exact hd k hk) (by omega) (by omega) hx1 (by unfold maxLen at hx2; omega))
    have HPF := Lib.hid (hpre.filter fun r => amE n zss r == 0)
    have HX := Lib.hid hx2
    clear hxl hpre hx2
    by_cases hz : amE n zss x = 0
    · have hfx : (pre ++ [x]).filter (fun r => amE n zss r == 0) = pre.filter (fun r => amE n zss r == 0) ++ [x] := by
        rw [List.filter_append]; simp [hz]
      rw [hz] at HA
      clear hz
      rw [hfx] at HPF
      have HFX := Lib.hid hfx
      clear hfx
      gi_wp2_with (first
        | (refine ⟨trivial, fun hh => (by cases hh), ?_⟩; gi_at_call 77; refine (CallsIn.inRound l' (callsIn_wide.2 HA.out)).mono ?_; clear HA; rintro e W2 ⟨rfl, hF⟩; have hc2 := (RowKit.Below.cell hF (p := ⟨W.heap.size, 0, none⟩) (by show W.heap.size < _; omega)).trans hc1; obtain ⟨fn, tmps, assign, body, hy, hR⟩ := hY (m - 1) _ x (.slice xa x.length xc) W2 (by have := RowKit.Below.size hF; omega) (hJ _ _ _ hJ1 (RowKit.Below.mono hF (by omega))) ⟨xa, xc, rfl, hx1, HX.out, hxI.fut hF⟩ HPF.out)
        | (refine ⟨fun hh => (by cases hh), ?_⟩; refine RoundIn.mono hR ?_; clear hR; rintro e W3 ⟨hbu, (⟨rfl, hJ3⟩ | ⟨rfl, hJx3⟩)⟩))
      · have hz2 : W1.heap.size ≤ W2.heap.size := RowKit.Below.size hF
        exact ⟨(But.of_below hF).trans hbu, by rw [HFX.out]; exact hJ3,
          Lib.hid ((hb1.out.trans (RowKit.Below.mono hF (by omega))).trans (hbu.below _ (by omega) fun q hq => (hZ q hq).1)), (hbu.cell (p := ⟨W.heap.size, 0, none⟩) (by show W.heap.size < _; omega) (fun hq => by have h5 := (hZ _ hq).2; exact absurd h5 (Nat.lt_irrefl _))).trans hc2⟩
      · exact ⟨(But.of_below hF).trans hbu, rfl, by rw [HFX.out]; exact hJx3⟩
    · have hfx : (pre ++ [x]).filter (fun r => amE n zss r == 0) = pre.filter (fun r => amE n zss r == 0) := by
        rw [List.filter_append]; simp [hz]
      have HFX := Lib.hid hfx
      have hzb : (amE n zss x == 0) = false := by simp [hz]
      clear hfx hz HPF hY
      gi_wp2_with (refine ⟨trivial, fun hh => (by cases hh), ?_⟩; gi_at_call 77; refine (CallsIn.inRound l' (callsIn_wide.2 HA.out)).mono ?_; clear HA; rintro e W2 ⟨rfl, hF⟩)
      refine ⟨fun _ h => (by cases h), ?_⟩
      gi_wp2_with fail
      exact ⟨But.of_below hF, by rw [HFX.out]; exact hJ _ _ _ hJ1 (RowKit.Below.mono hF (by omega)), Lib.hid (hb1.out.trans (RowKit.Below.mono hF (by omega))), (RowKit.Below.cell hF (p := ⟨W.heap.size, 0, none⟩) (by show W.heap.size < _; omega)).trans hc1⟩
  case done =>
    rintro D W5 hD ⟨hJ5, hb5, hc5⟩ hK
    gi_wp2_with fail
    refine ⟨by simp, .inl ⟨_, _, rfl, run_takeDeferred hK, ?_⟩⟩
    refine ⟨_, results_none rfl _ _ _, ⟨_, rfl⟩, .inl ?_⟩
    exact hJ _ _ _ hJ5 (below_putObj _ _ (by omega))
  case stop =>
    rintro D c pre W5 hD hpre ⟨rfl, hJ5⟩ hK
    gi_wp2_with fail
    refine ⟨by simp, .inl ⟨_, _, rfl, run_takeDeferred hK, ?_⟩⟩
    refine ⟨_, results_none rfl _ _ _, ⟨_, rfl⟩, .inr ⟨_, hpre.filter _, ?_⟩⟩
    exact hJx _ _ _ hJ5 (Calm.putObj _ (by omega) hK rfl)
end
section
attribute [local go_sem] Oper.semAt_some
open Go.Shelf
theorem crossings_any (n : Int) (a : Option Addr) (len cap : Nat) (w : World) : Calls Try.prog 84 #[.int .i64 n, .slice a len cap] w fun e w' => e = .returned (.func (.func 117) #[] #[.pointer (some ⟨w.heap.size, 0, none⟩), .pointer (some ⟨w.heap.size + 1, 0, none⟩)]) ∧ w' = (w.alloc (.cells #[.int .i64 n] 3)).alloc (.cells #[.slice a len cap] 22) := by
  go_enter Try.func84, Try.ntmps84
  go_wp2
  go_ret
  exact ⟨by simp, rfl⟩
set_option maxRecDepth 100000 in
set_option maxHeartbeats 4000000 in
theorem crossings_seq (n : Nat) (hn : n ≤ 5) (Bs Bp : Nat) (a : Option Addr) (cap : Nat) (zss : List (List Int)) (wp : World) (hBs : Bs < wp.heap.size) (hBp : Bp < wp.heap.size) (hcs : wp.cell? ⟨Bs, 0, none⟩ = some (.int .i64 n))
    (hcp : wp.cell? ⟨Bp, 0, none⟩ = some (.slice a zss.length cap)) (hL : LstAt wp a zss) (hl : zss.length ≤ 5) (hnz : n ≤ zss.length) (hlen : ∀ r ∈ ordT n n [], r.length = n) (hd : ∀ r ∈ ordT n n [], ∀ k, k < r.length → 0 ≤ nth r k ∧ nth r k < (lth zss k).length ∧ (lth zss k).length ≤ 5 ∧ 0 ≤ stF zss r k ∧ stF zss r k < 5) :
    SeqV Try.prog 117 #[.pointer (some ⟨Bs, 0, none⟩), .pointer (some ⟨Bp, 0, none⟩)] Rd ((ordT n n []).filter fun r => crsB zss r) wp.heap.size (fun w => RowKit.Below wp.heap.size wp w) := fun l Z J Jx W d hZ hN0 hW hJ hJx hY h0 => by
  have hcsW := (hW.cell (p := ⟨Bs, 0, none⟩) hBs).trans hcs
  show CallsIn Fence.wide d Try.prog 117 #[.func (.yield l) #[] #[], .pointer (some ⟨Bs, 0, none⟩), .pointer (some ⟨Bp, 0, none⟩)] W _
  refine callsIn_of_wp_marks Try.func117 rfl trivial ?_ rfl
  simp only [Try.ntmps117, List.size_toArray, List.length_cons, List.length_nil, Nat.reduceAdd, Nat.reduceSub, Array.replicate_succ, Array.replicate_zero, List.push_toArray, List.append_toArray, List.nil_append, List.cons_append]
  have hcs1 := alloc_old W (.cells #[.func (.yield l) #[] #[]] 109) hcsW
  gi_wp2_with (refine ⟨trivial, fun hh => (by cases hh), ?_⟩; gi_at_call 113; refine (callsIn_wide.2 (orders_any _ _)).mono ?_; rintro e w3 ⟨rfl, rfl⟩)
  have hsz : ((W.alloc (.cells #[.func (.yield l) #[] #[]] 109)).alloc (.cells #[.int .i64 (n : Int)] 3)).heap.size = W.heap.size + 2 := by simp
  have hcb : ((W.alloc (.cells #[.func (.yield l) #[] #[]] 109)).alloc (.cells #[.int .i64 (n : Int)] 3)).cell? ⟨W.heap.size, 0, none⟩ = some (.func (.yield l) #[] #[]) := alloc_old _ _ (alloc_cell W _ _)
  have hcm : ((W.alloc (.cells #[.func (.yield l) #[] #[]] 109)).alloc (.cells #[.int .i64 (n : Int)] 3)).cell? ⟨W.heap.size + 1, 0, none⟩ = some (.int .i64 n) := by
    have h := alloc_cell (W.alloc (.cells #[.func (.yield l) #[] #[]] 109)) (.int .i64 (n : Int)) 3
    rwa [World.size_alloc] at h
  have hbW : RowKit.Below W.heap.size W ((W.alloc (.cells #[.func (.yield l) #[] #[]] 109)).alloc (.cells #[.int .i64 (n : Int)] 3)) := ((RowKit.Below.refl _ W).alloc (Nat.le_refl _) _).alloc (by simp) _
  generalize (W.alloc (.cells #[.func (.yield l) #[] #[]] 109)).alloc (.cells #[.int .i64 (n : Int)] 3) = W0 at *
  refine range_v (xs := ordT n n []) (V := Rd) (N0 := 0) (Ok := fun w => w.cell? ⟨W.heap.size + 1, 0, none⟩ = some (.int .i64 n)) (gf := 135) (lb := #[.pointer (some ⟨W.heap.size + 1, 0, none⟩)]) rfl (enters_of Try.func135 (by kernel_rfl) rfl)
    (fun x v w w' h k => h.calm k) (orders_seq n hn _) (Nat.zero_le _) (fun W2 hb2 => (hb2.cell (p := ⟨W.heap.size + 1, 0, none⟩) (by show W.heap.size + 1 < _; omega)).trans hcm) rfl Z (fun k hk => ⟨Nat.zero_le _, by have := (hZ k hk).2; omega⟩)
    (fun pre W1 => J (pre.filter fun r => crsB zss r) W1 ∧ Hid (RowKit.Below wp.heap.size wp W1) ∧ W1.cell? ⟨W.heap.size, 0, none⟩ = some (.func (.yield l) #[] #[]))
    (fun c pre W1 => c = .ret ∧ Jx (pre.filter fun r => crsB zss r) W1)
    (fun s A B hs hb => ⟨hJ _ _ _ hs.1 (hb.mono (by omega)), Lib.hid (hs.2.1.out.trans (hb.mono (by omega))), (hb.cell (p := ⟨W.heap.size, 0, none⟩) (by show W.heap.size < _; omega)).trans hs.2.2⟩)
    (fun c s A B hs hb => ⟨hs.1, hJx _ _ _ hs.2 (hb.mono (by omega))⟩)
    ⟨hJ _ _ _ h0 hbW, Lib.hid (hW.trans (hbW.mono hN0)), hcb⟩
    (fun v => { tmps := #[.func (.yield l) #[] #[], .pointer (some ⟨Bs, 0, none⟩), .pointer (some ⟨Bp, 0, none⟩), .pointer (some ⟨W.heap.size, 0, none⟩), v, .int .i64 n, .func (.func 135) #[] #[.pointer (some ⟨W.heap.size + 1, 0, none⟩)], v, undef, undef, undef, undef, undef, undef, undef, undef, undef], defers := [] })
    ?assign ?body ?done ?stop
  case assign =>
    intro m l' v W1 K hK
    gi_wp2
    exact hK
  case body =>
    rintro m l' pre x v W1 hs1 ⟨hJ1, hb1, hc1⟩ ⟨xa, xc, rfl, hx1, hx2, hxI⟩ hpre
    have hxl : x.length = n := hlen x (hpre.subset (by simp))
    have hr2 := (hb1.out.cell (p := ⟨Bp, 0, none⟩) hBp).trans hcp
    have HA := Lib.hid (crossing_any a cap zss xa xc x W1 (hL.fut hb1.out) hxI (by omega) hl (hd x (hpre.subset (by simp))))
    have HPF := Lib.hid (hpre.filter fun r => crsB zss r)
    have HX := Lib.hid hx2
    clear hxl hpre hx2
    cases hz : crsB zss x
    case true =>
      have hfx : (pre ++ [x]).filter (fun r => crsB zss r) = pre.filter (fun r => crsB zss r) ++ [x] := by
        rw [List.filter_append]; simp [hz]
      rw [hz] at HA
      clear hz
      rw [hfx] at HPF
      have HFX := Lib.hid hfx
      clear hfx
      gi_wp2_with (first
        | (refine ⟨trivial, fun hh => (by cases hh), ?_⟩; gi_at_call 118; refine (CallsIn.inRound l' (callsIn_wide.2 HA.out)).mono ?_; clear HA; rintro e W2 ⟨rfl, hF⟩; have hc2 := (RowKit.Below.cell hF (p := ⟨W.heap.size, 0, none⟩) (by show W.heap.size < _; omega)).trans hc1; obtain ⟨fn, tmps, assign, body, hy, hR⟩ := hY (m - 1) _ x (.slice xa x.length xc) W2 (by have := RowKit.Below.size hF; omega) (hJ _ _ _ hJ1 (RowKit.Below.mono hF (by omega))) ⟨xa, xc, rfl, hx1, HX.out, hxI.fut hF⟩ HPF.out)
        | (refine ⟨fun hh => (by cases hh), ?_⟩; refine RoundIn.mono hR ?_; clear hR; rintro e W3 ⟨hbu, (⟨rfl, hJ3⟩ | ⟨rfl, hJx3⟩)⟩))
      · have hz2 : W1.heap.size ≤ W2.heap.size := RowKit.Below.size hF
        exact ⟨(But.of_below hF).trans hbu, by rw [HFX.out]; exact hJ3,
          Lib.hid ((hb1.out.trans (RowKit.Below.mono hF (by omega))).trans (hbu.below _ (by omega) fun q hq => (hZ q hq).1)), (hbu.cell (p := ⟨W.heap.size, 0, none⟩) (by show W.heap.size < _; omega) (fun hq => by have h5 := (hZ _ hq).2; exact absurd h5 (Nat.lt_irrefl _))).trans hc2⟩
      · exact ⟨(But.of_below hF).trans hbu, rfl, by rw [HFX.out]; exact hJx3⟩
    case false =>
      have hfx : (pre ++ [x]).filter (fun r => crsB zss r) = pre.filter (fun r => crsB zss r) := by
        rw [List.filter_append]; simp [hz]
      have HFX := Lib.hid hfx
      rw [hz] at HA
      clear hfx hz HPF hY
      gi_wp2_with (refine ⟨trivial, fun hh => (by cases hh), ?_⟩; gi_at_call 118; refine (CallsIn.inRound l' (callsIn_wide.2 HA.out)).mono ?_; clear HA; rintro e W2 ⟨rfl, hF⟩)
      refine ⟨fun _ h => (by cases h), ?_⟩
      gi_wp2_with fail
      exact ⟨But.of_below hF, by rw [HFX.out]; exact hJ _ _ _ hJ1 (RowKit.Below.mono hF (by omega)), Lib.hid (hb1.out.trans (RowKit.Below.mono hF (by omega))), (RowKit.Below.cell hF (p := ⟨W.heap.size, 0, none⟩) (by show W.heap.size < _; omega)).trans hc1⟩
  case done =>
    rintro D W5 hD ⟨hJ5, hb5, hc5⟩ hK
    gi_wp2_with fail
    refine ⟨by simp, .inl ⟨_, _, rfl, run_takeDeferred hK, ?_⟩⟩
    refine ⟨_, results_none rfl _ _ _, ⟨_, rfl⟩, .inl ?_⟩
    exact hJ _ _ _ hJ5 (below_putObj _ _ (by omega))
  case stop =>
    rintro D c pre W5 hD hpre ⟨rfl, hJ5⟩ hK
    gi_wp2_with fail
    refine ⟨by simp, .inl ⟨_, _, rfl, run_takeDeferred hK, ?_⟩⟩
    refine ⟨_, results_none rfl _ _ _, ⟨_, rfl⟩, .inr ⟨_, hpre.filter _, ?_⟩⟩
    exact hJx _ _ _ hJ5 (Calm.putObj _ (by omega) hK rfl)
end
section
attribute [local go_sem] Oper.semAt_some
open Go.Shelf
set_option maxRecDepth 100000 in
set_option maxHeartbeats 4000000 in
theorem count_any {g : Nat} {lb : Array Value} {xs : List (List Int)} {N0 : Nat} {Ok : World → Prop} (hseq : SeqV Try.prog g lb Rd xs N0 Ok) (eg : ∀ args w, (callFunc g args).run Try.prog w = .ok (.enter g args) w) (w : World) (hN : N0 ≤ w.heap.size)
    (hOk : ∀ W, RowKit.Below w.heap.size w W → Ok W) (hx : xs.length ≤ 1000000) :
    Calls Try.prog 79 #[.func (.func g) #[] lb] w fun e w' => e = .returned (.int .i64 xs.length) ∧ Fut w w' := by
  refine (callsIn_wide (n := 3)).1 ?_
  refine callsIn_of_wp_marks Try.func79 rfl trivial ?_ rfl
  simp only [Try.ntmps79, List.size_toArray, List.length_cons, List.length_nil, Nat.reduceAdd, Nat.reduceSub, Array.replicate_succ, Array.replicate_zero, List.push_toArray, List.append_toArray, List.nil_append, List.cons_append]
  gi_wp2_with fail
  have hc0 : (w.alloc (.cells #[.int .i64 0] 3)).cell? ⟨w.heap.size, 0, none⟩ = some (.int .i64 (0 : Nat)) := alloc_cell w _ _
  have hf0 : (w.alloc (.cells #[.int .i64 0] 3)).frozen? ⟨w.heap.size, 0, none⟩ = false := by
    have h := World.alloc_heap_new w (.cells #[.int .i64 0] 3)
    unfold World.frozen?; rw [h]; rfl
  have hb0 : RowKit.Below w.heap.size w (w.alloc (.cells #[.int .i64 0] 3)) := (RowKit.Below.refl _ w).alloc (Nat.le_refl _) _
  have hs0 : (w.alloc (.cells #[.int .i64 0] 3)).heap.size = w.heap.size + 1 := by simp
  generalize w.alloc (.cells #[.int .i64 0] 3) = W0 at *
  refine range_v (xs := xs) (V := Rd) (N0 := N0) (Ok := Ok) (gf := g) (lb := lb) rfl eg
    (fun x v w w' h k => h.calm k) hseq (by omega) (fun W2 hb2 => hOk _ (hb0.trans (hb2.mono (by omega)))) rfl (fun k => k = w.heap.size) (fun k hk => by subst hk; exact ⟨hN, by omega⟩)
    (fun pre W1 => W1.cell? ⟨w.heap.size, 0, none⟩ = some (.int .i64 (pre.length : Nat)) ∧ W1.frozen? ⟨w.heap.size, 0, none⟩ = false ∧ Hid (RowKit.Below w.heap.size w W1))
    (fun _ _ _ => False)
    (fun s A B hs hb => ⟨(hb.cell (p := ⟨w.heap.size, 0, none⟩) (by show w.heap.size < _; omega)).trans hs.1, (hb.frozen (p := ⟨w.heap.size, 0, none⟩) (by show w.heap.size < _; omega)).trans hs.2.1, Lib.hid (hs.2.2.out.trans (hb.mono (by omega)))⟩)
    (fun _ _ _ _ hs _ => hs)
    ⟨hc0, hf0, Lib.hid hb0⟩
    (fun v => { tmps := #[.func (.func g) #[] lb, undef, .int .i64 0, .pointer (some ⟨w.heap.size, 0, none⟩), .func (.func g) #[] lb, v, undef, undef, undef], defers := [] })
    ?assign ?body ?done ?stop
  case assign =>
    intro m l' v W1 K hK
    gi_wp2
    simpa using hK
  case body =>
    rintro m l' pre x v W1 hs1 ⟨hc1, hf1, hb1⟩ _ hpre
    have hlen : pre.length + 1 ≤ xs.length := by have := hpre.length_le; simpa using this
    have hwr : IntKind.i64.wrap ((pre.length : Int) + 1) = (pre.length : Int) + 1 := IntWalk.i64_in _ ⟨by omega, by omega⟩
    gi_wp2_with fail
    refine ⟨But.setCell (Z := fun k => k = w.heap.size) (p := ⟨w.heap.size, 0, none⟩) (But.refl _ W1) (.inl rfl) _, ?_, ?_, Lib.hid (hb1.out.setCell (p := ⟨w.heap.size, 0, none⟩) (Nat.le_refl _) _)⟩
    · have h5 := World.cell?_setCell_same' W1 ⟨w.heap.size, 0, none⟩ (.int .i64 ((pre.length : Int) + 1)) (by rw [hc1]; rfl)
      rw [h5]; simp
    · rw [World.frozen?_setCell]; exact hf1
  case done =>
    rintro D W5 hD ⟨hc5, hf5, hb5⟩ hK
    gi_wp2_with fail
    refine ⟨by simp, .inl ⟨_, _, rfl, run_takeDeferred hK, ?_⟩⟩
    exact ⟨_, results_tmp rfl _ _ _, rfl, hb5.out.trans (below_putObj _ _ (by omega))⟩
  case stop =>
    rintro D c pre W5 hD hpre hF hK
    exact hF.elim
theorem slice_box {w : World} {B : Nat} {u : Value} (h : w.heap[B]? = some (.cells #[u] 28)) : w.cell? ⟨B, 0, none⟩ = some u ∧ w.frozen? ⟨B, 0, none⟩ = false := by
  unfold World.cell? World.frozen?
  rw [h]
  exact ⟨rfl, rfl⟩
theorem set_heap {w : World} {B : Nat} {u u' : Value} {t : TypeId} (h : w.heap[B]? = some (.cells #[u] t)) : (w.setCell ⟨B, 0, none⟩ u').heap[B]? = some (.cells #[u'] t) := by
  obtain ⟨hlt, hk⟩ := Array.getElem?_eq_some_iff.1 h
  show (w.heap.modify B _)[B]? = _
  rw [Array.getElem?_eq_getElem (by rw [Array.size_modify]; exact hlt), Array.getElem_modify_self, hk]
  rfl
/-- what is read lies elsewhere than in a slice's box. -/
theorem Rd.store {x : List Int} {v : Value} {w : World} (h : Rd x v w) {B n c : Nat} {a : Option Addr} (hb : w.heap[B]? = some (.cells #[.slice a n c] 28)) (u : Value) : Rd x v (w.setCell ⟨B, 0, none⟩ u) := by
  obtain ⟨xa, xc, e, h1, h2, h3⟩ := h
  refine ⟨xa, xc, e, h1, h2, fun j hj => ?_⟩
  obtain ⟨b, off, ea, hlt, hc⟩ := h3 j hj
  have hne : b ≠ B := by
    rintro rfl
    unfold World.cell? at hc
    rw [hb] at hc
    cases hoj : off + j with
    | zero => rw [hoj] at hc; cases hc
    | succ m => rw [hoj] at hc; simp at hc
  exact ⟨b, off, ea, by simp only [World.setCell, Array.size_modify]; exact hlt, (World.cell?_of_block (RowKit.Below.heap_setCell w ⟨B, 0, none⟩ u b hne)).trans hc⟩
set_option maxRecDepth 100000 in
set_option maxHeartbeats 4000000 in
theorem first_any {g : Nat} {lb : Array Value} {xs : List (List Int)} {N0 : Nat} {Ok : World → Prop} (hseq : SeqV Try.prog g lb Rd xs N0 Ok) (eg : ∀ args w, (callFunc g args).run Try.prog w = .ok (.enter g args) w) (w : World) (hN : N0 ≤ w.heap.size)
    (hOk : ∀ W, RowKit.Below w.heap.size w W → Ok W) :
    Calls Try.prog 72 #[.func (.func g) #[] lb] w fun e w' => ∃ v, e = .returned v ∧ Rd (lth xs 0) v w' ∧ Fut w w' := by
  refine (callsIn_wide (n := 3)).1 ?_
  refine callsIn_of_wp_marks Try.func72 rfl trivial ?_ rfl
  simp only [Try.ntmps72, List.size_toArray, List.length_cons, List.length_nil, Nat.reduceAdd, Nat.reduceSub, Array.replicate_succ, Array.replicate_zero, List.push_toArray, List.append_toArray, List.nil_append, List.cons_append]
  gi_wp2_with fail
  have hh0 : (w.alloc (.cells #[.slice none 0 0] 28)).heap[w.heap.size]? = some (.cells #[.slice none 0 0] 28) := World.alloc_heap_new w _
  have hb0 : RowKit.Below w.heap.size w (w.alloc (.cells #[.slice none 0 0] 28)) := (RowKit.Below.refl _ w).alloc (Nat.le_refl _) _
  have hs0 : (w.alloc (.cells #[.slice none 0 0] 28)).heap.size = w.heap.size + 1 := by simp
  generalize w.alloc (.cells #[.slice none 0 0] 28) = W0 at *
  refine range_v (xs := xs) (V := Rd) (N0 := N0) (Ok := Ok) (gf := g) (lb := lb) rfl eg
    (fun x v w w' h k => h.calm k) hseq (by omega) (fun W2 hb2 => hOk _ (hb0.trans (hb2.mono (by omega)))) rfl (fun k => k = w.heap.size) (fun k hk => by subst hk; exact ⟨hN, by omega⟩)
    (fun pre W1 => pre = [] ∧ W1.heap[w.heap.size]? = some (.cells #[.slice none 0 0] 28) ∧ Hid (RowKit.Below w.heap.size w W1))
    (fun c pre W1 => c = .ret ∧ ∃ x v, pre = [x] ∧ W1.cell? ⟨w.heap.size, 0, none⟩ = some v ∧ Rd x v W1 ∧ Hid (RowKit.Below w.heap.size w W1))
    (fun s A B hs hb => ⟨hs.1, (hb.block _ (by omega)).trans hs.2.1, Lib.hid (hs.2.2.out.trans (hb.mono (by omega)))⟩)
    (fun c s A B hs hb => by
      obtain ⟨h1, x, v, h2, h3, h4, h5⟩ := hs
      exact ⟨h1, x, v, h2, hb.cell h3, h4.calm (hb.mono (Nat.zero_le _)), Lib.hid (h5.out.trans ((hb.mono (by omega)).low_below h5.out.size))⟩)
    ⟨rfl, hh0, Lib.hid hb0⟩
    (fun v => { tmps := #[.func (.func g) #[] lb, undef, .pointer (some ⟨w.heap.size, 0, none⟩), v, .func (.func g) #[] lb, v, undef], defers := [] })
    ?assign ?body ?done ?stop
  case assign =>
    intro m l' v W1 K hK
    gi_wp2
    exact hK
  case body =>
    rintro m l' pre x v W1 hs1 ⟨rfl, hh1, hb1⟩ hR hpre
    obtain ⟨hc1, hf1⟩ := slice_box hh1
    have HR := Lib.hid hR
    obtain ⟨xa, xc, rfl, _⟩ := hR
    gi_wp2_with fail
    have h5 := (slice_box (set_heap (u' := .slice xa x.length xc) hh1)).1
    exact ⟨But.setCell (Z := fun k => k = w.heap.size) (p := ⟨w.heap.size, 0, none⟩) (But.refl _ W1) (.inl rfl) _, rfl, x, _, rfl, h5, HR.out.store hh1 _, Lib.hid (hb1.out.setCell (p := ⟨w.heap.size, 0, none⟩) (Nat.le_refl _) _)⟩
  case done =>
    rintro D W5 hD ⟨rfl, hh5, hb5⟩ hK
    obtain ⟨hc5, hf5⟩ := slice_box hh5
    gi_wp2_with fail
    have hK' := (KeepsOthers.setCell W5 ⟨w.heap.size, 0, none⟩ (.slice none 0 0)).same D _ hK rfl
    refine ⟨by simp, .inl ⟨_, _, rfl, run_takeDeferred hK', ?_⟩⟩
    have hc6 := (Calm.putObj (B := w.heap.size) (.deferred none) (by omega) hK' rfl).cell (slice_box (set_heap (u' := .slice none 0 0) hh5)).1
    refine ⟨.slice none 0 0, ?_, _, rfl, ⟨none, 0, rfl, Nat.le_refl _, by decide, fun j hj => absurd hj (by simp [lth])⟩, (hb5.out.setCell (p := ⟨w.heap.size, 0, none⟩) (Nat.le_refl _) _).trans (below_putObj _ _ (by omega))⟩
    simp [results, Try.f72, go_sem, hc6]
  case stop =>
    rintro D c pre W5 hD hpre ⟨rfl, x, v, rfl, hc5, hR5, hb5⟩ hK
    gi_wp2_with fail
    refine ⟨by simp, .inl ⟨_, _, rfl, run_takeDeferred hK, ?_⟩⟩
    have hca : Calm w.heap.size W5 (W5.putObj D (.deferred none)) := Calm.putObj (B := w.heap.size) (.deferred none) (by omega) hK rfl
    have hc6 := hca.cell hc5
    have hx : lth xs 0 = x := by
      obtain ⟨t, rfl⟩ := hpre
      rfl
    refine ⟨v, ?_, _, rfl, by rw [hx]; exact hR5.calm (hca.mono (Nat.zero_le _)), hb5.out.trans (below_putObj _ _ (by omega))⟩
    simp [results, Try.f72, go_sem, hc6]
end
section
/-- which lists are orders. -/
theorem mem_ordT (n : Nat) : ∀ (m : Nat) (h r : List Int), r ∈ ordT n m h ↔ ∃ t, r = h ++ t ∧ t.length = m ∧ (∀ x ∈ t, 0 ≤ x ∧ x < n) ∧ t.Nodup ∧ ∀ x ∈ t, x ∉ h
  | 0, h, r => by
    constructor
    · intro hr
      rw [ordT, List.mem_singleton] at hr
      exact ⟨[], by simp [hr], rfl, by simp, List.nodup_nil, by simp⟩
    · rintro ⟨t, rfl, ht, _⟩
      rw [List.eq_nil_of_length_eq_zero ht]
      simp [ordT]
  | m + 1, h, r => by
    rw [ordT, List.mem_flatMap]
    constructor
    · rintro ⟨i, hi, hr⟩
      have hin := List.mem_range.1 hi
      by_cases hc : h.contains (i : Int) = true
      · rw [if_pos hc] at hr; simp at hr
      · rw [if_neg hc] at hr
        obtain ⟨t, rfl, ht, hb, hn, hd⟩ := (mem_ordT n m _ _).1 hr
        have hih : (i : Int) ∉ h := by simpa using hc
        refine ⟨(i : Int) :: t, by simp, by simp [ht], ?_, ?_, ?_⟩
        · intro x hx
          rcases List.mem_cons.1 hx with rfl | hx
          · omega
          · exact hb x hx
        · exact List.nodup_cons.2 ⟨fun hx => hd _ hx (by simp), hn⟩
        · intro x hx
          rcases List.mem_cons.1 hx with rfl | hx
          · exact hih
          · exact fun hxh => hd x hx (by simp [hxh])
    · rintro ⟨t, rfl, ht, hb, hn, hd⟩
      cases t with
      | nil => simp at ht
      | cons x t =>
        obtain ⟨i, rfl⟩ := Int.eq_ofNat_of_zero_le (hb x (by simp)).1
        obtain ⟨hn1, hn2⟩ := List.nodup_cons.1 hn
        refine ⟨i, List.mem_range.2 (by have := (hb (i : Int) (by simp)).2; omega), ?_⟩
        have hih : ¬ h.contains (i : Int) = true := by simpa using hd _ (by simp)
        rw [if_neg hih]
        refine (mem_ordT n m _ _).2 ⟨t, by simp, by simpa using ht, fun y hy => hb y (by simp [hy]), hn2, fun y hy hyh => ?_⟩
        rcases List.mem_append.1 hyh with hyh | hyh
        · exact hd y (by simp [hy]) hyh
        · simp at hyh; subst hyh; exact hn1 hy
theorem mem_ord {n : Nat} {r : List Int} : r ∈ ordT n n [] ↔ r.length = n ∧ (∀ x ∈ r, 0 ≤ x ∧ x < n) ∧ r.Nodup := by
  rw [mem_ordT]
  constructor
  · rintro ⟨t, rfl, h1, h2, h3, _⟩
    exact ⟨by simpa using h1, by simpa using h2, by simpa using h3⟩
  · rintro ⟨h1, h2, h3⟩
    exact ⟨r, by simp, h1, h2, h3, by simp⟩
theorem nth_mem {l : List Int} {k : Nat} (h : k < l.length) : nth l k ∈ l := by
  rw [nth_eq, List.getElem?_eq_getElem h]; exact List.getElem_mem h
theorem ord_len {n : Nat} {r : List Int} (h : r ∈ ordT n n []) : r.length = n := (mem_ord.1 h).1
theorem ord_in {n : Nat} {r : List Int} (h : r ∈ ordT n n []) {k : Nat} (hk : k < n) : 0 ≤ nth r k ∧ nth r k < n := (mem_ord.1 h).2.1 _ (nth_mem (by rw [ord_len h]; exact hk))
/-- the rows that fit a plan. -/
def fitL (n : Nat) (zss : List (List Int)) : List (List Int) := (ordT n n []).filter fun r => amE n zss r == 0
/-- the crossings of a plan. -/
def crsL (n : Nat) (zss : List (List Int)) : List (List Int) := (ordT n n []).filter fun r => crsB zss r
theorem sub_len {α : Type} {p : α → Bool} (l : List α) : (l.filter p).length ≤ l.length := List.length_filter_le _ _
theorem segT_le (n m : Nat) (h : List Int) (b : Nat) (hb : ∀ h', (ordT n m h').length ≤ b) (k : Nat) : (segT n m h k).length ≤ k * b := by
  induction k with
  | zero => simp [segT_zero]
  | succ k ih =>
    rw [segT_succ, List.length_append, Nat.succ_mul]
    have h1 : (if h.contains (k : Int) then ([] : List (List Int)) else ordT n m (h ++ [(k : Int)])).length ≤ b := by
      split
      · simp
      · exact hb _
    omega
theorem ordT_le (n : Nat) : ∀ (m : Nat) (h : List Int), (ordT n m h).length ≤ n ^ m
  | 0, h => by simp [ordT]
  | m + 1, h => by
    rw [← segT_all, Nat.pow_succ, Nat.mul_comm]
    exact segT_le n m h _ (fun h' => ordT_le n m h') n
theorem ord_le {n : Nat} (h : n ≤ 5) : (ordT n n []).length ≤ 5000 := by
  refine Nat.le_trans (ordT_le n n []) ?_
  rcases (by omega : n = 0 ∨ n = 1 ∨ n = 2 ∨ n = 3 ∨ n = 4 ∨ n = 5) with rfl | rfl | rfl | rfl | rfl | rfl <;> decide
end
end Go.Proofs.Ytpgifeaejjjjnaa
