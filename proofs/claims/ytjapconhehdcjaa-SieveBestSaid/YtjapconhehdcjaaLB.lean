/- the base of stage 4: worlds but for some blocks, ranges over functions, rows of one's own (carried over from stage 3) -/
import Derived.Test.YtjapconhehdcjaaLA
import Derived.RangeFuncNested
import Derived.RangeFuncBound
import Derived.RangeFuncCalls
import Derived.RangeFuncLeaves
import Derived.Shelf.Abstract
import Derived.Shelf.RegionOpen
import Derived.OwnWalkIn
import Derived.TacticsInMore
import Derived.LoopNIn
import Derived.LoopIn
import Derived.Laws.AppendOwnNone
namespace Go.Proofs.Ytjapconhehdcjaa
open Go.RowKit Go.Sort
section
section
variable {P : Program} (w : World)
/-- append, and where what it returns lies: in a block that is made now, or in the row itself behind its length. -/
theorem run_append_where (t ty : TypeId) (base : Nat) (e : TypeId) (i : TypeInfo) (z : Value) (size bytes : Nat) (ht : P.underlying t = some (.slice e)) (hi : P.info? e = some i) (hz : i.zero = some z)
    (hsize : i.size = size) (hby : i.bytes = bytes) (hzs : z.cells.size = size) (hsz : 0 < size)
    (v : Value) (n : Nat) (xs : List Value) (hown : w.ownsRow base e size v n xs)
    (ad : Addr) (m c : Nat) (news : List Value) (hl : news.length = m * size) (hnews : ∀ j u, news[j]? = some u → w.cell? (ad.add j) = some u) (h1 : ∀ u ∈ news, u.oneCell' = true)
    (hm : 0 < m) (h63 : n + m ≤ maxLen) (hbytes : (n + m) * bytes ≤ 140737488355328) (hbase : base ≤ w.heap.size) :
    ∃ g cap w', (Builtin.append_ #[t, t] ty #[v, .slice (some ad) m c]).run P w = .ok (.slice (some ⟨g, 0, none⟩) (n + m) cap) w' ∧
      w'.ownsRow base e size (.slice (some ⟨g, 0, none⟩) (n + m) cap) (n + m) (xs ++ news) ∧
      ((g = w.heap.size ∧ RowKit.Below w.heap.size w w') ∨ (v = .slice (some ⟨g, 0, none⟩) n cap ∧ w.grownBy w' (some g))) ∧ g < w'.heap.size := by
  obtain ⟨v', w', hr, h2, h3, _, h5⟩ := run_append_own_at (P := P) w base t ty e i z size bytes ht hi hz hsize hby hzs hsz v n xs hown ad m c news hl hnews h1 h63 hbytes hbase
  obtain ⟨g, cap, rfl, _, hlt⟩ := h2.form (by omega)
  refine ⟨g, cap, w', hr, h2, ?_, hlt⟩
  rcases hown.2 with ⟨rfl, h0⟩ | ⟨g0, cap0, cur, rfl, hb, hg, hnc, hcm, hcs, htake⟩
  · left
    refine ⟨?_, h3.os, h3.tape, h3.output, h3.size, fun k hk => h3.block k hk (by simp [Value.ownBlock])⟩
    rcases h5 with h5 | h5
    · simp [Value.ownBlock] at h5
    · simpa [Value.ownBlock] using h5
  · by_cases hroom : n + m ≤ cap0
    · right
      obtain ⟨w2, hr2, _, h8⟩ := run_append_fits (P := P) w base t ty e i size ht hi hsize g0 n cap0 xs hown ad m c news hl hnews h1 hroom
      rw [hr] at hr2
      injection hr2 with e1 e2
      injection e1 with e3 _ e5
      injection e3 with e3
      injection e3 with e3
      subst e2; subst e3; subst e5
      exact ⟨rfl, h8⟩
    · left
      subst hsize
      subst hby
      have holds : ∀ j u, xs[j]? = some u → w.cell? ((⟨g0, 0, none⟩ : Addr).add j) = some u := hown.cells (g := g0) rfl
      have h63' : n + m ≤ 9223372036854775807 := by simp only [maxLen] at h63; omega
      have hr2 := run_append_grow (P := P) w t ty e i z ht hi hz ⟨g0, 0, none⟩ n cap0 xs hown.1 holds ad m c news hl hnews (by omega) (by omega) (growslice_fits (by omega) hbytes)
      rw [hr] at hr2
      injection hr2 with e1 e2
      injection e1 with e3 _ e5
      injection e3 with e3
      injection e3 with e3
      subst e2
      exact ⟨e3, ((RowKit.Below.refl _ w).drew).alloc (Nat.le_refl _) _⟩
end
/-- All blocks that were there, but for those of Z, lie as they lay. -/
structure But (Z : Nat → Prop) (w w' : World) : Prop where
  os : w'.os = w.os
  tape : w'.tape = w.tape
  output : w'.output = w.output
  size : w.heap.size ≤ w'.heap.size
  block : ∀ k : Nat, k < w.heap.size → ¬ Z k → w'.heap[k]? = w.heap[k]?
theorem But.refl (Z : Nat → Prop) (w : World) : But Z w w := ⟨rfl, rfl, rfl, Nat.le_refl _, fun _ _ _ => rfl⟩
theorem But.trans {Z : Nat → Prop} {a b c : World} (h : But Z a b) (k : But Z b c) : But Z a c :=
  ⟨k.os.trans h.os, k.tape.trans h.tape, k.output.trans h.output, Nat.le_trans h.size k.size,
    fun i hi hz => (k.block i (Nat.lt_of_lt_of_le hi h.size) hz).trans (h.block i hi hz)⟩
theorem But.mono {Z Z' : Nat → Prop} {a b : World} (h : But Z a b) (hz : ∀ k, k < a.heap.size → Z k → Z' k) : But Z' a b :=
  ⟨h.os, h.tape, h.output, h.size, fun i hi hn => h.block i hi (fun hh => hn (hz i hi hh))⟩
theorem But.of_below {Z : Nat → Prop} {a b : World} (h : RowKit.Below a.heap.size a b) : But Z a b :=
  ⟨h.os, h.tape, h.output, h.size, fun i hi _ => h.block i hi⟩
theorem But.below {Z : Nat → Prop} {a b : World} (h : But Z a b) (B : Nat) (hB : B ≤ a.heap.size) (hz : ∀ k, Z k → B ≤ k) : RowKit.Below B a b :=
  ⟨h.os, h.tape, h.output, h.size, fun i hi => h.block i (by omega) (fun hh => by have := hz i hh; omega)⟩
theorem But.setCell {Z : Nat → Prop} {a w : World} (h : But Z a w) {p : Addr} (hp : Z p.block ∨ a.heap.size ≤ p.block) (u : Value) : But Z a (w.setCell p u) :=
  ⟨h.os, h.tape, h.output, by simp only [World.setCell, Array.size_modify]; exact h.size, fun k hk hz => (RowKit.Below.heap_setCell _ _ _ _ (fun e => by
    rcases hp with hp | hp
    · exact hz (e ▸ hp)
    · omega)).trans (h.block k hk hz)⟩
theorem But.putObj {Z : Nat → Prop} {a w : World} (h : But Z a w) {r : Nat} (hp : Z r ∨ a.heap.size ≤ r) (o : Obj) : But Z a (w.putObj r o) :=
  ⟨h.os, h.tape, h.output, by simp only [World.putObj_size]; exact h.size, fun k hk hz => (World.putObj_heap_other (fun e => by
    rcases hp with hp | hp
    · exact hz (e ▸ hp)
    · omega)).trans (h.block k hk hz)⟩
/-- What lay below B, and all cells, lie as they lay. -/
structure Calm (B : Nat) (w w' : World) : Prop where
  os : w'.os = w.os
  tape : w'.tape = w.tape
  output : w'.output = w.output
  size : w.heap.size ≤ w'.heap.size
  low : ∀ k : Nat, k < B → k < w.heap.size → w'.heap[k]? = w.heap[k]?
  cells : ∀ (k : Nat) (o : Obj), w.heap[k]? = some o → o.isCells = true → w'.heap[k]? = some o
theorem Calm.refl (B : Nat) (w : World) : Calm B w w := ⟨rfl, rfl, rfl, Nat.le_refl _, fun _ _ _ => rfl, fun _ _ h _ => h⟩
theorem Calm.trans {B : Nat} {a b c : World} (h : Calm B a b) (k : Calm B b c) : Calm B a c :=
  ⟨k.os.trans h.os, k.tape.trans h.tape, k.output.trans h.output, Nat.le_trans h.size k.size,
    fun i hi hl => (k.low i hi (Nat.lt_of_lt_of_le hl h.size)).trans (h.low i hi hl), fun i o hi ho => k.cells i o (h.cells i o hi ho) ho⟩
theorem Calm.mono {B B' : Nat} {a b : World} (h : Calm B a b) (hB : B' ≤ B) : Calm B' a b :=
  ⟨h.os, h.tape, h.output, h.size, fun i hi hl => h.low i (Nat.lt_of_lt_of_le hi hB) hl, h.cells⟩
theorem Calm.of_below {B : Nat} {a b : World} (h : RowKit.Below a.heap.size a b) : Calm B a b :=
  ⟨h.os, h.tape, h.output, h.size, fun i _ hl => h.block i hl, fun i _ hi _ => (h.block i (Array.getElem?_eq_some_iff.1 hi).1).trans hi⟩
theorem Calm.putObj {B : Nat} {w : World} {r : Nat} {o : Obj} (o' : Obj) (hB : B ≤ r) (h : w.heap[r]? = some o) (ho : o.isCells = false) : Calm B w (w.putObj r o') :=
  ⟨rfl, rfl, rfl, by simp, fun k hk _ => World.putObj_heap_other (by omega), fun k o2 hk h2 => (World.putObj_heap_other (fun e => by
    subst e; rw [h] at hk; cases hk; rw [ho] at h2; cases h2)).trans hk⟩
theorem Calm.low_below {B : Nat} {a b : World} (h : Calm B a b) (hB : B ≤ a.heap.size) : RowKit.Below B a b :=
  ⟨h.os, h.tape, h.output, h.size, fun k hk => h.low k hk (by omega)⟩
theorem Calm.cell {B : Nat} {a b : World} (h : Calm B a b) {p : Addr} {v : Value} (hp : a.cell? p = some v) : b.cell? p = some v := by
  obtain ⟨o, ho, hc⟩ := cells_of_cell hp
  exact (World.cell?_of_block ((h.cells _ o ho hc).trans ho.symm)).trans hp
theorem Calm.frozen {B : Nat} {a b : World} (h : Calm B a b) {p : Addr} {v : Value} (hp : a.cell? p = some v) : b.frozen? p = a.frozen? p := by
  obtain ⟨o, ho, hc⟩ := cells_of_cell hp
  exact World.frozen?_of_block ((h.cells _ o ho hc).trans ho.symm)
theorem below_putObj {B : Nat} (w : World) {r : Nat} (o' : Obj) (hB : B ≤ r) : RowKit.Below B w (w.putObj r o') :=
  ⟨rfl, rfl, rfl, by simp, fun k hk => World.putObj_heap_other (by omega)⟩
/-- what the rounds have come to, which does not mind what happens from B on. -/
def OldJ {β : Type} (B : Nat) (J : β → World → Prop) : Prop := ∀ s W W', J s W → RowKit.Below B W W' → J s W'
def OldX {β : Type} (B : Nat) (J : β → World → Prop) : Prop := ∀ s W W', J s W → Calm B W W' → J s W'
/-- the function g yields, in order, values that read as xs do, where the memory is as Ok says, for whatever rounds keep all but Z, which lies from N0 on. -/
def SeqV {α : Type} (P : Program) (g : Nat) (lb : Array Value) (V : α → Value → World → Prop) (xs : List α) (N0 : Nat) (Ok : World → Prop) : Prop :=
  ∀ (l : Nat) (Z : Nat → Prop) (J Jx : List α → World → Prop) (W : World) (n : Nat), (∀ k, Z k → N0 ≤ k ∧ k < W.heap.size) → N0 ≤ W.heap.size → Ok W → OldJ W.heap.size J → OldX W.heap.size Jx →
    (∀ (m : Nat) pre x v W1, W.heap.size ≤ W1.heap.size → J pre W1 → V x v W1 → pre ++ [x] <+: xs → YieldAt Fence.wide m P l #[v] W1 fun e W' =>
      But Z W1 W' ∧ ((e = .returned (.bool true) ∧ J (pre ++ [x]) W') ∨ (e = .returned (.bool false) ∧ Jx (pre ++ [x]) W'))) →
    J [] W → CallsIn Fence.wide n P g (#[.func (.yield l) #[] #[]] ++ lb) W fun e W' => (∃ v, e = .returned v) ∧ (J xs W' ∨ ∃ pre, pre <+: xs ∧ Jx pre W')
/-- how the body of a round may be left. -/
def vPost {α : Type} (Z : Nat → Prop) (I : List α → World → Prop) (Ix : Code → List α → World → Prop) (xs : List α) (W : World) : Exit → Act → World → Prop
  | .normal, _, W' => But Z W W' ∧ I xs W'
  | .ret, _, W' => But Z W W' ∧ Ix .ret xs W'
  | .exit id, _, W' => But Z W W' ∧ Ix (.exit id) xs W'
  | .goto t, _, W' => But Z W W' ∧ Ix (.goto t) xs W'
  | .panic _, _, _ => False
  | .outgrown, _, _ => False
variable {P : Program}
/-- A range over a function whose yielded values are read in the body. -/
theorem range_v {α : Type} {g : Operand} {ps : Array Tmp} {assign body : Code} {n : Nat} {Q : Exit → Act → World → Prop} {a : Act} {w : World}
    {gf : Nat} {lb : Array Value} (hg : a.eval g = .func (.func gf) #[] lb) (eg : ∀ args w, (callFunc gf args).run P w = .ok (.enter gf args) w)
    {V : α → Value → World → Prop} (hV : ∀ x v W W', V x v W → Calm 0 W W' → V x v W') {xs : List α} {N0 : Nat} {Ok : World → Prop} (hseq : SeqV P gf lb V xs N0 Ok) (hN0 : N0 ≤ w.heap.size) (hOk : ∀ W, RowKit.Below w.heap.size w W → Ok W) (hps : ps.size = 1)
    (Z : Nat → Prop) (hZ : ∀ k, Z k → N0 ≤ k ∧ k < w.heap.size)
    (I : List α → World → Prop) (Ix : Code → List α → World → Prop) (hI : OldJ w.heap.size I) (hIx : ∀ c, OldX w.heap.size (Ix c)) (h0 : I [] w) (a₁ : Value → Act)
    (hassign : ∀ (m l : Nat) (v : Value) (W : World) (K : Act → World → Prop), K (a₁ v) W →
      assign.wpIn (Fence.wide.inRound l) m P (Exit.then K (fun _ _ _ => False)) { tmps := (ps.zip #[v]).foldl (fun t (p, v) => t.setIfInBounds p v) a.tmps, defers := [] } W)
    (hbody : ∀ (m l : Nat) (pre : List α) (x : α) (v : Value) (W : World), w.heap.size ≤ W.heap.size → I pre W → V x v W → pre ++ [x] <+: xs → body.wpIn (Fence.wide.inRound l) m P (vPost Z I Ix (pre ++ [x]) W) (a₁ v) W)
    (hdone : ∀ (D : Nat) (W : World), w.heap.size ≤ D → I xs W → W.heap[D]? = some (.deferred (some [])) → Q .normal { a with defers := { target := .collected D, args := #[] } :: a.defers } W)
    (hstop : ∀ (D : Nat) (c : Code) (pre : List α) (W : World), w.heap.size ≤ D → pre <+: xs → Ix c pre W → W.heap[D]? = some (.deferred (some [])) → c.wpIn Fence.wide n P Q { a with defers := { target := .collected D, args := #[] } :: a.defers } W) :
    (Code.rangeFunc g ps assign body).wpIn Fence.wide n P Q a w := by
  refine wpIn_rangeFunc ?_
  intro fn hfn
  obtain ⟨rec, hrec⟩ : ∃ rec : LoopState → Option Code → Loop, rec = fun st pe => { state := st, pending := pe, fn, tmps := a.tmps, params := ps, assign, body, defers := w.heap.size } := ⟨_, rfl⟩
  obtain ⟨W1, hW1⟩ : ∃ W1, (w.alloc (.deferred (some []))).alloc (.loop (rec .ready none)) = W1 := ⟨_, rfl⟩
  have hs1 : W1.heap.size = w.heap.size + 2 := by rw [← hW1]; simp
  have hL1 : W1.heap[w.heap.size + 1]? = some (.loop (rec .ready none)) := by
    rw [← hW1]; have := World.alloc_heap_new (w.alloc (.deferred (some []))) (.loop (rec .ready none)); rwa [World.size_alloc] at this
  have hK1 : W1.heap[w.heap.size]? = some (.deferred (some [])) := by
    rw [← hW1]; exact (RowKit.Below.heap_alloc _ _ _ (by simp)).trans (World.alloc_heap_new w _)
  have hw1 : RowKit.Below w.heap.size w W1 := by
    rw [← hW1]; exact ((RowKit.Below.refl _ w).alloc (Nat.le_refl _) _).alloc (by simp) _
  have hI1 : I [] W1 := hI _ _ _ h0 hw1
  refine ⟨w.heap.size + 1, [{ target := .collected w.heap.size, args := #[] }], W1, { target := .fn (.func gf) lb, args := #[.func (.yield (w.heap.size + 1)) #[] #[]] }, W1, gf,
    #[.func (.yield (w.heap.size + 1)) #[] #[]] ++ lb, W1, ?_, ?_, ?_, ?_, fun h => (by cases h), ?_⟩
  · rw [← hW1, hrec]; exact run_enterLoop_outer _ _ _ _ _
  · simp only [resolve, hg]
    simp [go_sem]
  · intro f' _; trivial
  · simp [invoke, go_sem, eg]
  · refine (hseq (w.heap.size + 1) (fun k => Z k ∨ k = w.heap.size + 1)
      (fun pre W => I pre W ∧ W.heap[w.heap.size + 1]? = some (.loop (rec .ready none)) ∧ W.heap[w.heap.size]? = some (.deferred (some [])))
      (fun pre W => ∃ c, Ix c pre W ∧ W.heap[w.heap.size + 1]? = some (.loop (rec .done (some c))) ∧ W.heap[w.heap.size]? = some (.deferred (some [])))
      W1 _
      (fun k hk => by
        rcases hk with hk | rfl
        · have := hZ k hk; omega
        · omega)
      (by omega) (hOk _ hw1)
      (fun s A B hs hb => ⟨hI s A B hs.1 (hb.mono (by omega)), (hb.block _ (by omega)).trans hs.2.1, (hb.block _ (by omega)).trans hs.2.2⟩)
      (fun s A B hs hb => by
        obtain ⟨c, hc, hl, hk⟩ := hs
        have h1 := (Array.getElem?_eq_some_iff.1 hl).1
        exact ⟨c, hIx c s A B hc (hb.mono (by omega)), (hb.low _ (by omega) h1).trans hl, (hb.low _ (by omega) (by omega)).trans hk⟩)
      ?_ ⟨hI1, hL1, hK1⟩).mono ?_
    · rintro m pre x v W hsW ⟨hi, hl, hk⟩ hv hpre
      have hlt : w.heap.size + 1 < W.heap.size := (Array.getElem?_eq_some_iff.1 hl).1
      have hy := run_yield (P := P) (args := #[v]) hl (by rw [hrec]; exact hps.symm)
      rw [hrec] at hy
      refine ⟨fn, _, assign, body, hy, roundIn_of_wpIn hfn (hassign _ _ v W _ ⟨_, run_beginRound hl (by rw [hrec]), ?_⟩)⟩
      have hl2 : (W.putObj (w.heap.size + 1) (.loop { rec .ready none with state := .busy })).heap[w.heap.size + 1]? = some (.loop { rec .ready none with state := .busy }) := World.putObj_heap_same hlt
      have hk2 : (W.putObj (w.heap.size + 1) (.loop { rec .ready none with state := .busy })).heap[w.heap.size]? = some (.deferred (some [])) := (World.putObj_heap_other (by omega)).trans hk
      have hbu : But (fun k => Z k ∨ k = w.heap.size + 1) W (W.putObj (w.heap.size + 1) (.loop { rec .ready none with state := .busy })) := (But.refl _ W).putObj (.inl (.inr rfl)) _
      refine wpIn_mono (hbody _ _ pre x v _ (by simp; omega) (hI _ _ _ hi (below_putObj _ _ (by omega))) (hV _ _ _ _ hv (Calm.putObj _ (Nat.zero_le _) hl rfl)) hpre) ?_
      have fin : ∀ (jump : Option Code) (W3 : World), But Z (W.putObj (w.heap.size + 1) (.loop { rec .ready none with state := .busy })) W3 →
          (Instr.endRound (w.heap.size + 1) jump).run P W3 = .ok (.bool jump.isNone) (W3.putObj (w.heap.size + 1) (.loop (rec (if jump.isNone then .ready else .done) jump))) ∧
          W3.heap[w.heap.size + 1]? = some (.loop { rec .ready none with state := .busy }) ∧
          (W3.putObj (w.heap.size + 1) (.loop (rec (if jump.isNone then .ready else .done) jump))).heap[w.heap.size + 1]? = some (.loop (rec (if jump.isNone then .ready else .done) jump)) ∧
          (W3.putObj (w.heap.size + 1) (.loop (rec (if jump.isNone then .ready else .done) jump))).heap[w.heap.size]? = some (.deferred (some [])) ∧
          But (fun k => Z k ∨ k = w.heap.size + 1) W (W3.putObj (w.heap.size + 1) (.loop (rec (if jump.isNone then .ready else .done) jump))) := fun jump W3 hk3 => by
        have hl3 := (hk3.block (w.heap.size + 1) (by simpa using hlt) (fun hz => by have := (hZ _ hz).2; omega)).trans hl2
        have hd3 := (hk3.block w.heap.size (by simp; omega) (fun hz => by have := (hZ _ hz).2; omega)).trans hk2
        have := run_endRound (P := P) jump hl3
        rw [hrec] at this ⊢
        exact ⟨this, by rw [hrec] at hl3; exact hl3, World.putObj_heap_same (Array.getElem?_eq_some_iff.1 hl3).1, (World.putObj_heap_other (by omega)).trans hd3,
          (hbu.trans (hk3.mono (fun _ _ h => .inl h))).putObj (.inl (.inr rfl)) _⟩
      rintro e a3 W3 hp
      cases e with
      | normal =>
        obtain ⟨hk3, hi3⟩ := hp
        obtain ⟨hr, hl3, hl4, hk4, hbb⟩ := fin none W3 hk3
        exact ⟨_, _, hr, hbb, .inl ⟨rfl, hI _ _ _ hi3 (below_putObj _ _ (by omega)), hl4, hk4⟩⟩
      | ret =>
        obtain ⟨hk3, hi3⟩ := hp
        obtain ⟨hr, hl3, hl4, hk4, hbb⟩ := fin (some .ret) W3 hk3
        exact ⟨_, _, hr, hbb, .inr ⟨rfl, .ret, hIx _ _ _ _ hi3 (Calm.putObj _ (by omega) hl3 rfl), hl4, hk4⟩⟩
      | exit id =>
        obtain ⟨hk3, hi3⟩ := hp
        obtain ⟨hr, hl3, hl4, hk4, hbb⟩ := fin (some (.exit id)) W3 hk3
        exact ⟨_, _, hr, hbb, .inr ⟨rfl, .exit id, hIx _ _ _ _ hi3 (Calm.putObj _ (by omega) hl3 rfl), hl4, hk4⟩⟩
      | goto t =>
        obtain ⟨hk3, hi3⟩ := hp
        obtain ⟨hr, hl3, hl4, hk4, hbb⟩ := fin (some (.goto t)) W3 hk3
        exact ⟨_, _, hr, hbb, .inr ⟨rfl, .goto t, hIx _ _ _ _ hi3 (Calm.putObj _ (by omega) hl3 rfl), hl4, hk4⟩⟩
      | panic ch => exact hp.elim
      | outgrown => exact hp.elim
    · rintro e W2 ⟨⟨v, rfl⟩, (⟨hi, hl, hk⟩ | ⟨pre, hpre, c, hi, hl, hk⟩)⟩
      · exact ⟨none, _, by have := run_endLoop (P := P) hl (by rw [hrec]; simp); rw [hrec] at this; exact this, hdone _ _ (Nat.le_refl _) (hI _ _ _ hi (below_putObj _ _ (by omega))) ((World.putObj_heap_other (by omega)).trans hk)⟩
      · exact ⟨some c, _, by have := run_endLoop (P := P) hl (by rw [hrec]; simp); rw [hrec] at this; exact this, hstop _ c pre _ (Nat.le_refl _) hpre (hIx _ _ _ _ hi (Calm.putObj _ (by omega) hl rfl)) ((World.putObj_heap_other (by omega)).trans hk)⟩
end
section
open Go.Shelf
theorem ints_news {w : World} {b off : Nat} {zs : List Int} (h : IntsAt w (some ⟨b, off, none⟩) zs) : ∀ j u, (zs.map (Value.int .i64))[j]? = some u → w.cell? ⟨b, off + j, none⟩ = some u := fun j u hj => by
  have hlt : j < zs.length := by simpa using (List.getElem?_eq_some_iff.1 hj).1
  obtain ⟨b', off', e, _, c1⟩ := h j hlt
  simp at e
  obtain ⟨rfl, rfl⟩ := e
  rw [c1, ← hj, nth_eq]
  simp [List.getElem?_eq_getElem hlt]
set_option maxRecDepth 100000 in
set_option maxHeartbeats 1000000 in
/-- slices.Clone at numbers. -/
theorem clone_any (l : Option Addr) (lc : Nat) (zs : List Int) (w : World) (hS : IntsAt w l zs) (hl : zs.length ≤ 1000) :
    Calls Try.prog 55 #[.slice l zs.length lc] w fun e w' => ∃ v, e = .returned v ∧ Owns w' w.heap.size v zs ∧ Fut w w' := by
  have q28 : ∀ (w : World) (a : Option Addr) (n c n' c' : Nat), (binOp .eql 22 (.slice a n c) (.slice none n' c')).run Try.prog w = .ok (.bool a.isNone) w := fun w a n c n' c' => Lib.run_eql_slice_nil w _ _ a n c n' c' Try.underlying22
  cases hn : l with
  | none =>
    subst hn
    have h0 : zs = [] := by
      cases zs with
      | nil => rfl
      | cons p t => obtain ⟨b, off, e, _⟩ := hS 0 (by simp); cases e
    subst h0
    clear hS
    go_enter Try.func55, Try.ntmps55
    go_wp2
    go_ret
    exact ⟨_, rfl, World.ownsRow_nil _ _ _ _, Fut.rfl⟩
  | some ad =>
    subst hn
    obtain ⟨i0, hi0, hz0, hz1, hz2⟩ := info_parts info3
    have HN : Hid (∀ j u, (zs.map (Value.int .i64))[j]? = some u → w.cell? (ad.add j) = some u) := Lib.hid (fun j u hj => by
      have hlt : j < zs.length := by simpa using (List.getElem?_eq_some_iff.1 hj).1
      obtain ⟨b, off, e, _⟩ := hS 0 (by omega)
      simp at e
      subst e
      rw [Addr.add_lit]
      exact ints_news hS j u hj)
    have hlx : (zs.length : Int) ≤ 1000 := by omega
    clear hS
    go_enter Try.func55, Try.ntmps55
    go_wp2_with (at_builtin; refine wpList_append_own _ rfl _ _ 22 rfl w.heap.size 3 i0 (.int .i64 0) 1 8 Try.underlying22 hi0 hz0 hz1 hz2 rfl (by decide) _ _ _ rfl (World.ownsRow_made w #[] 0 (Nat.le_refl _) (Nat.zero_le _) rfl) ad zs.length lc (zs.map (Value.int .i64)) rfl ?qc1 ?qc2 ?qc3 ?qc4 ?qc5 ?qc6 ?_)
    case qc1 => simp
    case qc2 => intro j u hj; exact Lib.cell?_alloc_some _ (HN.out j u hj)
    case qc3 => intro u hu; obtain ⟨z, _, rfl⟩ := List.mem_map.1 hu; rfl
    case qc4 => unfold maxLen; omega
    case qc5 => omega
    case qc6 => simp
    intro v' w1 hown hgrow _
    go_wp2
    go_ret
    refine ⟨v', rfl, ?_, ?_⟩
    · unfold Owns; simpa using hown
    · exact ((RowKit.Below.refl _ w).alloc (Nat.le_refl _) _).grown hgrow (by simp) (by intro k hk; simp [Value.ownBlock] at hk; omega)
/-- what a yielded list reads as. -/
def Rd (x : List Int) (v : Value) (w : World) : Prop := ∃ a cap, v = .slice a x.length cap ∧ x.length ≤ cap ∧ cap ≤ maxLen ∧ IntsAt w a x
theorem Rd.calm {x : List Int} {v : Value} {w w' : World} (h : Rd x v w) (k : Calm 0 w w') : Rd x v w' := by
  obtain ⟨a, cap, e, h1, h2, h3⟩ := h
  refine ⟨a, cap, e, h1, h2, fun j hj => ?_⟩
  obtain ⟨b, off, ea, hb, hc⟩ := h3 j hj
  exact ⟨b, off, ea, Nat.lt_of_lt_of_le hb k.size, k.cell hc⟩
theorem Owns.rd {w : World} {B : Nat} {v : Value} {x : List Int} (h : Owns w B v x) : Rd x v w := h.form
theorem own_pre {w : World} {B g n cap : Nat} {h : List Int} {i : Int} (ho : Owns w B (.slice (some ⟨g, 0, none⟩) (n + 1) cap) (h ++ [i])) (hn : h.length = n) : Owns w B (.slice (some ⟨g, 0, none⟩) n cap) h := by
  obtain ⟨h1, h2⟩ := ho
  refine ⟨by simp, .inr ?_⟩
  rcases h2 with ⟨h2, _⟩ | ⟨g', cap', cur, e, hb, hg, hnc, hcm, hcs, htake⟩
  · cases h2
  · simp only [Value.slice.injEq, Option.some.injEq, Addr.mk.injEq, and_true] at e
    obtain ⟨rfl, e2, rfl⟩ := e
    refine ⟨g, cap, cur, by rw [hn], hb, hg, ?_, hcm, hcs, ?_⟩
    · simp at hnc; omega
    · have e3 := congrArg (List.take h.length) htake
      rw [List.take_take] at e3
      simp at e3
      simpa using e3
theorem own_back {W1 W2 W3 : World} {B g cap : Nat} {v : Value} {h : List Int} {i : Int} {Z : Nat → Prop} (hv : Owns W1 B v h) (_hsz : B ≤ W1.heap.size)
    (hw : (g = W1.heap.size ∧ RowKit.Below W1.heap.size W1 W2) ∨ (v = .slice (some ⟨g, 0, none⟩) h.length cap ∧ W1.grownBy W2 (some g)))
    (hB : But (fun k => Z k ∨ some g = some k) W2 W3) (hZ : ∀ k, Z k → k < B) (ho : Owns W3 B (.slice (some ⟨g, 0, none⟩) (h.length + 1) cap) (h ++ [i])) :
    Owns W3 B v h ∧ But (fun k => Z k ∨ v.ownBlock = some k) W1 W3 := by
  rcases hw with ⟨rfl, hb⟩ | ⟨rfl, hg⟩
  · have hall : ∀ k, k < W1.heap.size → ¬ Z k → W3.heap[k]? = W1.heap[k]? := fun k hk hz =>
      (hB.block k (Nat.lt_of_lt_of_le hk hb.size) (fun h => by rcases h with h | h; exact hz h; simp at h; omega)).trans (hb.block k hk)
    refine ⟨?_, hB.os.trans hb.os, hB.tape.trans hb.tape, hB.output.trans hb.output, Nat.le_trans hb.size hB.size, fun k hk hz => hall k hk (fun h => hz (.inl h))⟩
    obtain ⟨h1, h2⟩ := hv
    refine ⟨h1, ?_⟩
    rcases h2 with h2 | ⟨g', cap', cur, e, hb', hg', hr⟩
    · exact .inl h2
    · refine .inr ⟨g', cap', cur, e, hb', ?_, hr⟩
      rw [hall g' (Array.getElem?_eq_some_iff.1 hg').1 (fun h => by have := hZ _ h; omega)]
      exact hg'
  · refine ⟨own_pre ho rfl, hB.os.trans hg.os, hB.tape.trans hg.tape, hB.output.trans hg.output, Nat.le_trans hg.size hB.size, fun k hk hz => ?_⟩
    have hne : ¬ some g = some k := fun e => hz (.inr e)
    exact (hB.block k (Nat.lt_of_lt_of_le hk hg.size) (fun h => by rcases h with h | h; exact hz (.inl h); exact hne h)).trans (hg.block k hk (fun e => hne e.symm))
theorem wpListIn_append_where {F : Fence} {n : Nat} {P : Program} (w : World) {ops : Array Oper} {rest : List Oper} {o : Oper} {a : Act} {Q : Exit → Act → World → Prop}
    (hg : Region.wanted o (yielded ops a.tmps) = true) (s x : Operand) (t : TypeId) (hop : o.op = Op.call { callee := Callee.builtin Builtin.append, args := #[s, x], argTypes := #[t, t] })
    (base : Nat) (e : TypeId) (i : TypeInfo) (z : Value) (size bytes : Nat) (h1 : P.underlying t = some (.slice e)) (h2 : P.info? e = some i) (h3 : i.zero = some z) (h4 : i.size = size) (h5 : i.bytes = bytes) (h6 : z.cells.size = size) (h7 : 0 < size)
    (v : Value) (k : Nat) (xs : List Value) (hs : a.eval s = v) (hown : w.ownsRow base e size v k xs) (ad : Addr) (m c : Nat) (news : List Value) (hx : a.eval x = .slice (some ad) m c) (hn : news.length = m * size)
    (hc : ∀ j u, news[j]? = some u → w.cell? (ad.add j) = some u) (h1c : ∀ u ∈ news, u.oneCell' = true) (hm : 0 < m) (b1 : k + m ≤ maxLen) (b2 : (k + m) * bytes ≤ 140737488355328) (b3 : base ≤ w.heap.size)
    (hK : ∀ g cap w', w'.ownsRow base e size (.slice (some ⟨g, 0, none⟩) (k + m) cap) (k + m) (xs ++ news) → ((g = w.heap.size ∧ RowKit.Below w.heap.size w w') ∨ (v = .slice (some ⟨g, 0, none⟩) k cap ∧ w.grownBy w' (some g))) → g < w'.heap.size →
      wpListIn F n P ops Q rest (a.put o.dst (.slice (some ⟨g, 0, none⟩) (k + m) cap)) w') :
    wpListIn F n P ops Q (o :: rest) a w := by
  refine wpListIn_step fun K hK' => ?_
  rw [if_pos hg]
  obtain ⟨g, cap, w', hrun, r1, r2, r3⟩ := run_append_where (P := P) w t o.type base e i z size bytes h1 h2 h3 h4 h5 h6 h7 v k xs hown ad m c news hn hc h1c hm b1 b2 b3
  unfold Oper.wpIn
  refine ⟨?_, ?_⟩
  · simp [Oper.about, hop, resolve, Target.leads, Sem.run_pure]
  · rw [Oper.semAt_plain F _ _ (by rw [hop]; intro c hc'; cases hc')]
    simp [execOp, hop, resolve, invoke, builtin, hs, hx, hrun, Result.andThen]
    exact hK' _ _ (hK g cap w' r1 r2 r3)
end
section
attribute [local go_sem] Oper.semAt_some
open Go.Shelf
theorem Owns.but {Z : Nat → Prop} {w w' : World} {B : Nat} {v : Value} {zs : List Int} (h : Owns w B v zs) (hb : But Z w w') (hZ : ∀ k, Z k → k < B) : Owns w' B v zs := by
  obtain ⟨h1, h2⟩ := h
  refine ⟨h1, ?_⟩
  rcases h2 with h2 | ⟨g, cap, cur, h3, h4, h5, h6⟩
  · exact .inl h2
  · exact .inr ⟨g, cap, cur, h3, h4, by rw [hb.block g (Array.getElem?_eq_some_iff.1 h5).1 (fun hz => by have := hZ g hz; omega)]; exact h5, h6⟩
theorem app_below {wr w2 : World} {B g cap : Nat} {v : Value} {h : List Int} {o : Obj} (HO : Owns wr B v h) (hB : B ≤ wr.heap.size)
    (hwh : (g = (wr.alloc o).heap.size ∧ RowKit.Below (wr.alloc o).heap.size (wr.alloc o) w2) ∨ (v = .slice (some ⟨g, 0, none⟩) h.length cap ∧ (wr.alloc o).grownBy w2 (some g))) : RowKit.Below B wr w2 := by
  have h1 : RowKit.Below B wr (wr.alloc o) := (RowKit.Below.refl _ _).alloc hB o
  rcases hwh with ⟨_, hb⟩ | ⟨rfl, hg⟩
  · exact h1.trans (RowKit.Below.mono hb (by simp; omega))
  · exact h1.grown hg (by simp; omega) (fun k hk => by
      cases hk
      exact (World.ownsRow.lt HO g rfl).1)
theorem but_back {W1 W2 W3 : World} {g cap n : Nat} {v : Value} {Z : Nat → Prop}
    (hw : (g = W1.heap.size ∧ RowKit.Below W1.heap.size W1 W2) ∨ (v = .slice (some ⟨g, 0, none⟩) n cap ∧ W1.grownBy W2 (some g)))
    (hB : But (fun k => Z k ∨ some g = some k) W2 W3) : But (fun k => Z k ∨ v.ownBlock = some k) W1 W3 := by
  rcases hw with ⟨rfl, hb⟩ | ⟨rfl, hg⟩
  · exact ⟨hB.os.trans hb.os, hB.tape.trans hb.tape, hB.output.trans hb.output, Nat.le_trans hb.size hB.size, fun k hk hz =>
      (hB.block k (Nat.lt_of_lt_of_le hk hb.size) (fun h => by
        rcases h with h | h
        · exact hz (.inl h)
        · simp at h; omega)).trans (hb.block k hk)⟩
  · refine ⟨hB.os.trans hg.os, hB.tape.trans hg.tape, hB.output.trans hg.output, Nat.le_trans hg.size hB.size, fun k hk hz => ?_⟩
    have hne : ¬ some g = some k := fun e => hz (.inr e)
    exact (hB.block k (Nat.lt_of_lt_of_le hk hg.size) (fun h => by
      rcases h with h | h
      · exact hz (.inl h)
      · exact hne h)).trans (hg.block k hk (fun e => hne e.symm))
end
theorem alloc_cell (w : World) (v : Value) (t : TypeId) : (w.alloc (.cells #[v] t)).cell? ⟨w.heap.size, 0, none⟩ = some v := by
  have h := World.alloc_heap_new w (.cells #[v] t)
  unfold World.cell?
  rw [h]
  rfl
theorem alloc_old (w : World) (o : Obj) {p : Addr} {v : Value} (h : w.cell? p = some v) : (w.alloc o).cell? p = some v := by
  obtain ⟨o', h1, _⟩ := cells_of_cell h
  exact (World.cell?_of_block (RowKit.Below.heap_alloc w o _ (Array.getElem?_eq_some_iff.1 h1).1)).trans h
theorem But.cell {Z : Nat → Prop} {a b : World} (h : But Z a b) {p : Addr} (hp : p.block < a.heap.size) (hz : ¬ Z p.block) : b.cell? p = a.cell? p := World.cell?_of_block (h.block _ hp hz)
theorem slice_box {w : World} {B : Nat} {u : Value} (h : w.heap[B]? = some (.cells #[u] 22)) : w.cell? ⟨B, 0, none⟩ = some u ∧ w.frozen? ⟨B, 0, none⟩ = false := by
  unfold World.cell? World.frozen?
  rw [h]
  exact ⟨rfl, rfl⟩
theorem set_heap {w : World} {B : Nat} {u u' : Value} {t : TypeId} (h : w.heap[B]? = some (.cells #[u] t)) : (w.setCell ⟨B, 0, none⟩ u').heap[B]? = some (.cells #[u'] t) := by
  obtain ⟨hlt, hk⟩ := Array.getElem?_eq_some_iff.1 h
  show (w.heap.modify B _)[B]? = _
  rw [Array.getElem?_eq_getElem (by rw [Array.size_modify]; exact hlt), Array.getElem_modify_self, hk]
  rfl
/-- what is read lies elsewhere than in a slice's box. -/
theorem Rd.store {x : List Int} {v : Value} {w : World} (h : Rd x v w) {B n c : Nat} {a : Option Addr} (hb : w.heap[B]? = some (.cells #[.slice a n c] 22)) (u : Value) : Rd x v (w.setCell ⟨B, 0, none⟩ u) := by
  obtain ⟨xa, xc, e, h1, h2, h3⟩ := h
  refine ⟨xa, xc, e, h1, h2, fun j hj => ?_⟩
  obtain ⟨b, off, ea, hlt, hc⟩ := h3 j hj
  have hne : b ≠ B := by
    rintro rfl
    unfold World.cell? at hc
    rw [hb] at hc
    cases hoj : off + j with
    | zero => rw [hoj] at hc; cases hc
    | succ m => rw [hoj] at hc; simp at hc
  exact ⟨b, off, ea, by simp only [World.setCell, Array.size_modify]; exact hlt, (World.cell?_of_block (RowKit.Below.heap_setCell w ⟨B, 0, none⟩ u b hne)).trans hc⟩
theorem nth_mem {l : List Int} {k : Nat} (h : k < l.length) : nth l k ∈ l := by
  rw [nth_eq, List.getElem?_eq_getElem h]; exact List.getElem_mem h
theorem sub_len {α : Type} {p : α → Bool} (l : List α) : (l.filter p).length ≤ l.length := List.length_filter_le _ _
/-- lists of numbers in a row of one's own, from B on. -/
def OwnX (w : World) (B : Nat) (v : Value) (zss : List (List Int)) : Prop := ∃ vals, w.ownsRow B 22 1 v zss.length vals ∧ Elems w 0 vals zss
theorem OwnX.fut {w w' : World} {B : Nat} {v : Value} {zss : List (List Int)} (h : OwnX w B v zss) (F : Fut w w') : OwnX w' B v zss := by
  obtain ⟨vals, h1, h2⟩ := h
  exact ⟨vals, row_fut h1 F, h2.fut F⟩
theorem OwnX.nil (w : World) (B : Nat) : OwnX w B (.slice none 0 0) [] := ⟨[], World.ownsRow_nil _ _ _ _, rfl, fun j hj => absurd hj (by simp)⟩
theorem OwnX.one {w : World} {v : Value} {zs : List Int} (h : Owns w 0 v zs) : OwnX (w.alloc (.cells #[v] 22)) w.heap.size (.slice (some ⟨w.heap.size, 0, none⟩) 1 1) [zs] :=
  ⟨[v], World.ownsRow_lit (base := w.heap.size) (e := 22) (size := 1) w #[v] 1 (Nat.le_refl _) (by unfold maxLen; omega) rfl, rfl, fun j hj => by
    obtain rfl : j = 0 := by simp at hj; exact hj
    exact ⟨v, rfl, h.fut (Fut.alloc _ _)⟩⟩
theorem Elems.cat {w w' : World} {vals vals' : List Value} {zss zss' : List (List Int)} {B : Nat} {u : Value} {n : Nat} {xs : List Value} (h : Elems w 0 vals zss) (h' : Elems w 0 vals' zss') (hu : w.ownsRow B 22 1 u n xs) (g : w.grownBy w' u.ownBlock) : Elems w' 0 (vals ++ vals') (zss ++ zss') := by
  refine ⟨by rw [List.length_append, List.length_append, h.1, h'.1], fun j hj => ?_⟩
  rw [List.length_append] at hj
  by_cases hlt : j < zss.length
  · obtain ⟨v, e, hv⟩ := h.2 j hlt
    refine ⟨v, by rw [List.getElem?_append_left (by have := h.1; omega)]; exact e, ?_⟩
    have : lth (zss ++ zss') j = lth zss j := by rw [lth_eq, lth_eq, List.getElem?_append_left hlt]
    rw [this]
    exact World.ownsRow.kept hv g (own_apart hv hu)
  · obtain ⟨v, e, hv⟩ := h'.2 (j - zss.length) (by omega)
    refine ⟨v, by rw [List.getElem?_append_right (by have := h.1; omega), h.1]; exact e, ?_⟩
    have : lth (zss ++ zss') j = lth zss' (j - zss.length) := by rw [lth_eq, lth_eq, List.getElem?_append_right (by omega)]
    rw [this]
    exact World.ownsRow.kept hv g (own_apart hv hu)
theorem Elems.cells {w : World} {B : Nat} {vals : List Value} {zss : List (List Int)} (h : Elems w B vals zss) : ∀ u ∈ vals, u.oneCell' = true := fun u hu => by
  obtain ⟨j, hj, rfl⟩ := List.getElem_of_mem hu
  obtain ⟨v, e, hv⟩ := h.2 j (by have := h.1; omega)
  rw [List.getElem?_eq_getElem hj] at e
  simp at e
  obtain ⟨a, cap, e2, _⟩ := hv.ints
  rw [e, e2]; rfl
theorem OwnX.take {w : World} {B : Nat} {v : Value} {zss : List (List Int)} (h : OwnX w B v zss) (hp : 0 < zss.length) :
    ∃ g c vals, v = .slice (some ⟨g, 0, none⟩) zss.length c ∧ vals.length = zss.length ∧ (∀ j u, vals[j]? = some u → w.cell? ((⟨g, 0, none⟩ : Addr).add j) = some u) ∧ Elems w 0 vals zss := by
  obtain ⟨vals, h1, h2⟩ := h
  have h1' := h1
  rcases h1.2 with ⟨rfl, h0⟩ | ⟨g, cap, cur, rfl, _⟩
  · omega
  · exact ⟨g, cap, vals, rfl, h2.1, World.ownsRow.cells h1' (g := g) rfl, h2⟩
/-- what reads as lists. -/
theorem OwnX.listsC {w : World} {B : Nat} {v : Value} {zss : List (List Int)} (h : OwnX w B v zss) : ∃ l lc, v = .slice l zss.length lc ∧ zss.length ≤ lc ∧ lc ≤ 9223372036854775807 ∧ LstC w l zss := by
  obtain ⟨vals, h1, h2⟩ := h
  have h1' := h1
  rcases h1.2 with ⟨rfl, h0⟩ | ⟨g, cap, cur, rfl, hb, hg, hnc, hcm, _⟩
  · exact ⟨none, 0, by rw [h0], by omega, by omega, fun j hj => by omega⟩
  · refine ⟨_, cap, rfl, hnc, by unfold maxLen at hcm; omega, fun j hj => ?_⟩
    obtain ⟨v, e, hv⟩ := h2.2 j hj
    obtain ⟨a, c, rfl, q1, q2, hI⟩ := hv.form
    have hc := World.ownsRow.cells h1' (g := g) rfl j _ e
    rw [Addr.add_lit] at hc
    exact ⟨g, 0, a, c, rfl, (Array.getElem?_eq_some_iff.1 hg).1, hc, q1, by unfold maxLen at q2; omega, hI⟩
theorem nodup_le {l m : List Int} (h : l.Nodup) (hs : l ⊆ m) : l.length ≤ m.length := by
  induction l generalizing m with
  | nil => simp
  | cons a l ih =>
    obtain ⟨h1, h2⟩ := List.nodup_cons.1 h
    have ha : a ∈ m := hs (by simp)
    have := ih h2 (m := m.erase a) (fun x hx => (List.mem_erase_of_ne (by rintro rfl; exact h1 hx)).2 (hs (by simp [hx])))
    rw [List.length_erase_of_mem ha] at this
    have hp : 0 < m.length := List.length_pos_of_mem ha
    simp; omega
theorem filter_two {α : Type} (l : List α) (p : α → Bool) : l.length = (l.filter p).length + (l.filter fun x => !p x).length := by
  induction l with
  | nil => rfl
  | cons a l ih =>
    cases hp : p a
    · rw [List.filter_cons_of_neg (by simp [hp]), List.filter_cons_of_pos (by simp [hp]), List.length_cons, List.length_cons]; omega
    · rw [List.filter_cons_of_pos (by simp [hp]), List.filter_cons_of_neg (by simp [hp]), List.length_cons, List.length_cons]; omega
theorem OwnL.block {w : World} {B : Nat} {v : Value} {zss : List (List Int)} (h : OwnL w B v zss) : ∀ k, v.ownBlock = some k → B ≤ k ∧ k < w.heap.size := by
  obtain ⟨vals, h1, _⟩ := h
  exact fun k hk => World.ownsRow.lt h1 k hk
theorem OwnL.app {w w' : World} {B : Nat} {v : Value} {zss : List (List Int)} {vals : List Value} {nv : Value} {zs : List Int} {g c : Nat} (h1 : w.ownsRow B 22 1 v zss.length vals) (h2 : Elems w B vals zss) (hn : Owns w B nv zs)
    (hown : w'.ownsRow B 22 1 (.slice (some ⟨g, 0, none⟩) (zss.length + 1) c) (zss.length + 1) (vals ++ [nv])) (hg : w.grownBy w' v.ownBlock) : OwnL w' B (.slice (some ⟨g, 0, none⟩) (zss.length + 1) c) (zss ++ [zs]) :=
  ⟨vals ++ [nv], by simpa using hown, Elems.app h2 hn h1 hg⟩
/-- numbers of one's own lie elsewhere than what was found. -/
theorem Owns.apart {w w' : World} {S B : Nat} {v ov : Value} {zs : List Int} {acc : List (List Int)} (h : Owns w (S + 4) v zs) (ho : OwnL w B ov acc) (hb : But (fun k => k = S + 2 ∨ ov.ownBlock = some k) w w') : Owns w' (S + 4) v zs := by
  obtain ⟨vals, h1, _⟩ := ho
  have hap := own_apart h h1
  have hh := h
  obtain ⟨g1, g2⟩ := h
  refine ⟨g1, ?_⟩
  rcases g2 with g2 | ⟨g, cap, cur, h3, h4, h5, h6⟩
  · exact .inl g2
  · refine .inr ⟨g, cap, cur, h3, h4, ?_, h6⟩
    rw [hb.block g (Array.getElem?_eq_some_iff.1 h5).1 (fun hz => by
      rcases hz with hz | hz
      · omega
      · rw [h3] at hap
        rcases hap with hap | hap
        · cases hap
        · exact hap hz.symm)]
    exact h5
theorem But.thenBut {Z Z' : Nat → Prop} {a b c : World} (h : But Z a b) (k : But Z' b c) (hz : ∀ q, Z' q → q < a.heap.size → Z q) : But Z a c :=
  ⟨k.os.trans h.os, k.tape.trans h.tape, k.output.trans h.output, Nat.le_trans h.size k.size, fun i hi hn => (k.block i (Nat.lt_of_lt_of_le hi h.size) (fun hh => hn (hz i hh hi))).trans (h.block i hi hn)⟩
theorem OwnL.base {w : World} {B B' : Nat} {v : Value} {zss : List (List Int)} (h : OwnL w B v zss) (hB : B' ≤ B) : OwnL w B' v zss := by
  obtain ⟨vals, h1, h2⟩ := h
  refine ⟨vals, ⟨h1.1, ?_⟩, h2.1, fun j hj => ?_⟩
  · rcases h1.2 with h3 | ⟨g, cap, cur, h3, h4, h5⟩
    · exact .inl h3
    · exact .inr ⟨g, cap, cur, h3, by omega, h5⟩
  · obtain ⟨u, e, hu⟩ := h2.2 j hj
    exact ⟨u, e, hu.base hB⟩
theorem lth_app1 (zss : List (List Int)) (r : List Int) (i : Nat) (h : i < zss.length) : lth (zss ++ [r]) i = lth zss i := by rw [lth_eq, lth_eq, List.getElem?_append_left h]
theorem lth_app2 (zss : List (List Int)) (r : List Int) : lth (zss ++ [r]) zss.length = r := by rw [lth_eq, List.getElem?_append_right (Nat.le_refl _)]; simp
theorem OwnL.at {w : World} {B : Nat} {v : Value} {zss : List (List Int)} (h : OwnL w B v zss) (j : Nat) (hj : j < zss.length) :
    ∃ g c l lc, v = .slice (some ⟨g, 0, none⟩) zss.length c ∧ g < w.heap.size ∧ w.cell? ⟨g, j, none⟩ = some (.slice l (lth zss j).length lc) ∧ Owns w B (.slice l (lth zss j).length lc) (lth zss j) := by
  obtain ⟨vals, h1, h2⟩ := h
  obtain ⟨v', e, hv⟩ := h2.2 j hj
  obtain ⟨a, cap, rfl, _⟩ := hv.ints
  rcases h1.2 with ⟨_, h0⟩ | ⟨g, c, cur, rfl, _⟩
  · omega
  · have hc := World.ownsRow.cells h1 (g := g) rfl j _ e
    rw [Addr.add_lit, Nat.zero_add] at hc
    exact ⟨g, c, a, cap, rfl, World.block_lt_of_cell? _ _ hc, hc, hv⟩
theorem w64_in {x : Int} (h1 : -9223372036854775808 ≤ x) (h2 : x ≤ 9223372036854775807) : wrap64 x = x := by
  unfold wrap64
  omega
theorem OwnL.but {Z : Nat → Prop} {w w' : World} {B : Nat} {v : Value} {zss : List (List Int)} (h : OwnL w B v zss) (hb : But Z w w') (hZ : ∀ k, Z k → k < B) : OwnL w' B v zss := by
  obtain ⟨vals, h1, h2⟩ := h
  refine ⟨vals, ⟨h1.1, ?_⟩, h2.1, fun j hj => ?_⟩
  · rcases h1.2 with h3 | ⟨g, cap, cur, h3, h4, h5, h6⟩
    · exact .inl h3
    · exact .inr ⟨g, cap, cur, h3, h4, by rw [hb.block g (Array.getElem?_eq_some_iff.1 h5).1 (fun hz => by have := hZ g hz; omega)]; exact h5, h6⟩
  · obtain ⟨u, e, hu⟩ := h2.2 j hj
    exact ⟨u, e, hu.but hb hZ⟩
theorem u8_in {x : Int} (h : (Lit.int .u8 x).wf = true) : 0 ≤ x ∧ x < 256 := by
  have : 0 ≤ x ∧ x ≤ 255 := by simpa [Lit.wf, IntKind.min, IntKind.max, IntKind.signed, IntKind.bits] using h
  exact ⟨this.1, by omega⟩
theorem step_append_src {w : World} {ops : Array Oper} {o : Oper} {a : Act} {K : Act → World → Prop} {Q : Exit → Act → World → Prop} {E : Prop} (hgd : o.guard = none) (s x : Operand) (t : TypeId)
    (ho : o.op = .call { callee := .builtin .append, args := #[s, x], argTypes := #[t, t] })
    (base : Nat) (e : TypeId) (i : TypeInfo) (z : Value) (bytes : Nat) (ht : Try.prog.underlying t = some (.slice e)) (hi : Try.prog.info? e = some i) (hz : i.zero = some z)
    (hsize : i.size = 1) (hby : i.bytes = bytes) (hzs : z.cells.size = 1)
    (v : Value) (n : Nat) (xs : List Value) (hs : a.eval s = v) (hown : w.ownsRow base e 1 v n xs)
    (u : Value) (m : Nat) (news : List Value) (hx : a.eval x = u) (hu : (u = .slice none 0 0 ∧ m = 0 ∧ news = []) ∨ ∃ ad c, u = .slice (some ad) m c ∧ news.length = m * 1 ∧ (∀ j x, news[j]? = some x → w.cell? (ad.add j) = some x) ∧ ∀ x ∈ news, x.oneCell' = true)
    (h63 : n + m ≤ maxLen) (hbytes : (n + m) * bytes ≤ 140737488355328) (hbase : base ≤ w.heap.size)
    (h : ∀ av ac w', w'.ownsRow base e 1 (.slice av (n + m) ac) (n + m) (xs ++ news) → w.grownBy w' v.ownBlock → K (a.put o.dst (.slice av (n + m) ac)) w') :
    if Region.wanted o (yielded ops a.tmps) = true then Oper.wp Try.prog o a w K Q else E := by
  have hw : Region.wanted o (yielded ops a.tmps) = true := by simp [Region.wanted, hgd]
  rw [if_pos hw]
  have form : ∀ (w' : World) (v' : Value) (k : Nat) (ys : List Value), w'.ownsRow base e 1 v' k ys → ∃ av ac, v' = .slice av k ac := fun w' v' k ys hh => by
    rcases hh.2 with ⟨rfl, h0⟩ | ⟨g, cap, cur, rfl, _⟩
    · exact ⟨none, 0, by rw [h0]⟩
    · exact ⟨_, _, rfl⟩
  rcases hu with ⟨rfl, rfl, rfl⟩ | ⟨ad, c, rfl, hl, hnews, h1⟩
  · have hrun := run_append_owned_none (P := Try.prog) (w := w) base t o.type e i 1 ht hi v n xs hown
    unfold Oper.wp execOp
    simp only [ho, resolve, invoke, builtin, Sem.run_bind, Sem.run_pure, Result.andThen_ok, List.map_toArray, List.map_cons, List.map_nil, hs, hx, hrun]
    obtain ⟨av, ac, rfl⟩ := form w v n xs hown
    refine h av ac w (by simpa using hown) ?_
    exact World.grownBy.refl _ _
  · obtain ⟨v', w', hr, h2, h3, _, _⟩ := run_append_own_at (P := Try.prog) w base t o.type e i z 1 bytes ht hi hz hsize hby hzs (by decide) v n xs hown ad m c news hl hnews h1 h63 hbytes hbase
    obtain ⟨av, ac, rfl⟩ := form w' v' _ _ h2
    unfold Oper.wp execOp
    simp only [ho, resolve, invoke, builtin, Sem.run_bind, Sem.run_pure, Result.andThen_ok, List.map_toArray, List.map_cons, List.map_nil, hs, hx, hr]
    exact h av ac w' h2 h3
/-- what can be read as lists. -/
abbrev RetC (zss : List (List Int)) (w : World) (e : Ending) (w' : World) : Prop := ∃ l lc, e = .returned (.slice l zss.length lc) ∧ zss.length ≤ lc ∧ lc ≤ 9223372036854775807 ∧ LstC w' l zss ∧ Fut w w'
theorem LstC.app {w w' : World} {B : Nat} {v : Value} {zss : List (List Int)} {vals : List Value} {l : Option Addr} {lc : Nat} {zs : List Int} {g c : Nat} (h1 : w.ownsRow B 22 1 v zss.length vals) (h2 : Elems w 0 vals zss) (hI : IntsAt w' l zs) (hl : zs.length ≤ lc) (hm : lc ≤ 9223372036854775807)
    (hown : w'.ownsRow B 22 1 (.slice (some ⟨g, 0, none⟩) (zss.length + 1) c) (zss.length + 1) (vals ++ [.slice l zs.length lc])) (hg : w.grownBy w' v.ownBlock) : LstC w' (some ⟨g, 0, none⟩) (zss ++ [zs]) := by
  have h3 : Elems w' 0 vals zss := by
    have := h2.cat (vals' := []) (zss' := []) ⟨rfl, fun j hj => absurd hj (by simp)⟩ h1 hg
    simpa using this
  have hgs : g < w'.heap.size := by
    have := World.ownsRow.cells hown (g := g) rfl vals.length (.slice l zs.length lc) (by simp)
    rw [Addr.add_lit] at this
    exact World.block_lt_of_cell? _ _ this
  intro j hj
  rw [List.length_append, List.length_singleton] at hj
  rcases Nat.lt_or_ge j zss.length with hlt | hge
  · obtain ⟨u, e, hv⟩ := h3.2 j hlt
    obtain ⟨a, k, rfl, q1, q2, hJ⟩ := hv.form
    have hc := World.ownsRow.cells hown (g := g) rfl j _ (by rw [List.getElem?_append_left (by have := h3.1; omega)]; exact e)
    rw [Addr.add_lit] at hc
    rw [lth_app1 _ _ _ hlt]
    exact ⟨g, 0, a, k, rfl, hgs, hc, q1, by unfold maxLen at q2; omega, hJ⟩
  · obtain rfl : j = zss.length := by omega
    have hc := World.ownsRow.cells hown (g := g) rfl zss.length (.slice l zs.length lc) (by rw [← h3.1]; simp)
    rw [Addr.add_lit] at hc
    rw [lth_app2]
    exact ⟨g, 0, l, lc, rfl, hgs, hc, hl, hm, hI⟩
def offK (o k cap : Nat) : Nat := if cap = k then o else o + k
theorem slice_fromL (b o n cap k : Nat) (h : k ≤ n) (_h2 : n ≤ cap) (W : World) : (Instr.sliceAt 71 (.slice (some ⟨b, o, none⟩) n cap) (some (.int .i64 k)) none none).run Try.prog W = .ok (.slice (some ⟨b, offK o k cap, none⟩) (n - k) (cap - k)) W := by
  have hu : Try.prog.underlying 71 = some (.slice (Try.prog.elem 71)) := by kernel_rfl
  have hs : (sizeOf (Try.prog.elem 71)).run Try.prog W = .ok 1 W := by kernel_rfl
  rw [run_sliceAt_slice _ _ _ _ _ _ hu, run_slice_l _ _ _ _ _ hu _ _ (by omega) (by omega), hs]
  unfold offK
  simp [sliced, Result.andThen, Addr.add]
  split
  · rfl
  · split
    · subst k; rfl
    · rfl
theorem LstC.drop {w : World} {b o k cap : Nat} {zss : List (List Int)} (h : LstC w (some ⟨b, o, none⟩) zss) (hc : zss.length ≤ cap) : LstC w (some ⟨b, offK o k cap, none⟩) (zss.drop k) := fun j hj => by
  rw [List.length_drop] at hj
  obtain ⟨b', o', l, lc, e, h1, h2, h3, h4, h5⟩ := h (k + j) (by omega)
  simp only [Option.some.injEq, Addr.mk.injEq, and_true] at e
  obtain ⟨rfl, rfl⟩ := e
  have e2 : lth (zss.drop k) j = lth zss (k + j) := by rw [lth_eq, List.getElem?_drop, lth_eq]
  rw [e2]
  refine ⟨b, offK o k cap, l, lc, rfl, h1, ?_, h3, h4, h5⟩
  unfold offK
  rw [if_neg (by omega), Nat.add_assoc]
  exact h2
theorem fu1 (wr : World) (o : Obj) : Fut wr (wr.alloc o).drew := below_drewN (Fut.alloc wr o) 1
theorem fu2 (wr : World) (o o' : Obj) : Fut wr ((wr.alloc o).alloc o').drew := below_drewN ((Fut.alloc wr o).trans (Fut.alloc _ o')) 1
theorem row_base {w : World} {B B' e : Nat} {v : Value} {n : Nat} {xs : List Value} (h : w.ownsRow B e 1 v n xs) (hB : B' ≤ B) : w.ownsRow B' e 1 v n xs := by
  refine ⟨h.1, ?_⟩
  rcases h.2 with h3 | ⟨g, cap, cur, h3, h4, h5⟩
  · exact .inl h3
  · exact .inr ⟨g, cap, cur, h3, by omega, h5⟩
theorem fut_grown {w w' : World} (h : w.grownBy w' none) : Fut w w' := RowKit.Below.grown (RowKit.Below.refl _ _) h (Nat.le_refl _) (fun i hi => by cases hi)
/-- an operation of a drawn region whose guard has come up. -/
theorem step_if {P : Program} {ops : Array Oper} {o : Oper} {a : Act} {w : World} {K : Act → World → Prop} {Q : Exit → Act → World → Prop} {E : Prop} (hw : Region.wanted o (yielded ops a.tmps) = true)
    (h : if Region.wanted { o with guard := none } (yielded ops a.tmps) = true then Oper.wp P { o with guard := none } a w K Q else E) : if Region.wanted o (yielded ops a.tmps) = true then Oper.wp P o a w K Q else E := by
  have h1 : Region.wanted { o with guard := none } (yielded ops a.tmps) = true := by simp [Region.wanted]
  rw [if_pos h1] at h
  rw [if_pos hw]
  exact h
theorem lth_set_same (zss : List (List Int)) (k : Nat) (l : List Int) (h : k < zss.length) : lth (zss.set k l) k = l := by
  rw [lth_eq, List.getElem?_set_self h]; rfl
theorem lth_set_ne (zss : List (List Int)) (k i : Nat) (l : List Int) (h : k ≠ i) : lth (zss.set k l) i = lth zss i := by
  rw [lth_eq, List.getElem?_set_ne h, lth_eq]
/-- lists of one's own, no two in one block. -/
structure OwnP (w : World) (B : Nat) (v : Value) (vals : List Value) (zss : List (List Int)) : Prop where
  own : w.ownsRow B 22 1 v zss.length vals
  len : vals.length = zss.length
  el : ∀ j, j < zss.length → ∃ u, vals[j]? = some u ∧ Owns w B u (lth zss j)
  ap : ∀ (i j : Nat) (ui uj : Value), i ≠ j → vals[i]? = some ui → vals[j]? = some uj → ∀ k, ui.ownBlock = some k → uj.ownBlock ≠ some k
theorem OwnP.nil (w : World) (B : Nat) : OwnP w B (.slice none 0 0) [] [] :=
  ⟨World.ownsRow_nil _ _ _ _, rfl, fun j hj => absurd hj (by simp), fun _ _ _ _ _ h => by simp at h⟩
theorem OwnP.fut {w w' : World} {B : Nat} {v : Value} {vals : List Value} {zss : List (List Int)} (h : OwnP w B v vals zss) (F : Fut w w') : OwnP w' B v vals zss :=
  ⟨row_fut h.own F, h.len, fun j hj => by obtain ⟨u, e, hu⟩ := h.el j hj; exact ⟨u, e, hu.fut F⟩, h.ap⟩
theorem OwnP.l {w : World} {B : Nat} {v : Value} {vals : List Value} {zss : List (List Int)} (h : OwnP w B v vals zss) : OwnL w B v zss := ⟨vals, h.own, h.len, h.el⟩
theorem OwnP.app {w w' : World} {B N : Nat} {v : Value} {vals : List Value} {zss : List (List Int)} {nv : Value} {zs : List Int} {g c : Nat} (h : OwnP w B v vals zss) (hn : Owns w B nv zs) (hf : ∀ k, nv.ownBlock = some k → N ≤ k) (ho : ∀ u ∈ vals, ∀ k, u.ownBlock = some k → k < N)
    (hown : w'.ownsRow B 22 1 (.slice (some ⟨g, 0, none⟩) (zss.length + 1) c) (zss.length + 1) (vals ++ [nv])) (hg : w.grownBy w' v.ownBlock) : OwnP w' B (.slice (some ⟨g, 0, none⟩) (zss.length + 1) c) (vals ++ [nv]) (zss ++ [zs]) := by
  have hL := OwnL.app h.own ⟨h.len, h.el⟩ hn hown hg
  refine ⟨by simpa using hown, by simp [h.len], ?_, fun i j ui uj hij hi hj k hk e => ?_⟩
  · have h3 := Elems.app ⟨h.len, h.el⟩ hn h.own hg
    exact h3.2
  · have key : ∀ a u, (vals ++ [nv])[a]? = some u → (a < vals.length ∧ vals[a]? = some u) ∨ (a = vals.length ∧ u = nv) := fun a u ha => by
      rcases Nat.lt_or_ge a vals.length with hlt | hge
      · rw [List.getElem?_append_left hlt] at ha; exact .inl ⟨hlt, ha⟩
      · rw [List.getElem?_append_right hge] at ha
        have : a - vals.length = 0 := by
          refine Classical.byContradiction fun hne => ?_
          rw [List.getElem?_eq_none (by simp; omega)] at ha
          cases ha
        rw [this] at ha
        exact .inr ⟨by omega, by simpa using ha.symm⟩
    rcases key i ui hi with ⟨h1, h2⟩ | ⟨h1, rfl⟩
    · rcases key j uj hj with ⟨h3, h4⟩ | ⟨h3, rfl⟩
      · exact h.ap i j ui uj hij h2 h4 k hk e
      · have a1 := ho ui (List.mem_of_getElem? h2) k hk
        have a2 := hf k e
        omega
    · rcases key j uj hj with ⟨h3, h4⟩ | ⟨h3, rfl⟩
      · have a1 := ho uj (List.mem_of_getElem? h4) k e
        have a2 := hf k hk
        omega
      · omega
/-- a number of a list of one's own is written over. -/
theorem OwnP.put {w : World} {B j p g n cap : Nat} {v : Value} {vals : List Value} {zss : List (List Int)} (h : OwnP w B v vals zss) (hj : j < zss.length) (hv : vals[j]? = some (.slice (some ⟨g, 0, none⟩) n cap)) (hn : (lth zss j).length = n) (x : Int) :
    OwnP (w.setCell ⟨g, p, none⟩ (.int .i64 x)) B v vals (zss.set j ((lth zss j).set p x)) := by
  obtain ⟨u, e, hu⟩ := h.el j hj
  rw [hv] at e
  cases e
  have hu' : w.ownsRow B 3 1 (.slice (some ⟨g, 0, none⟩) n cap) n ((lth zss j).map (Value.int .i64)) := by
    unfold Owns at hu
    rwa [hn] at hu
  obtain ⟨s1, s2⟩ := hu'.stored p (.int .i64 x)
  refine ⟨?_, by rw [List.length_set]; exact h.len, fun i hi => ?_, h.ap⟩
  · rw [List.length_set]
    refine World.ownsRow.kept h.own s2 ?_
    rcases own_apart hu h.own with q | q
    · simp [Value.ownBlock] at q
    · simp only [Value.ownBlock] at q
      exact .inr fun e => q e.symm
  · rw [List.length_set] at hi
    by_cases e : j = i
    · subst e
      refine ⟨_, hv, ?_⟩
      rw [lth_set_same _ _ _ hj]
      unfold Owns
      rw [List.length_set, hn, List.map_set]
      exact s1
    · obtain ⟨u, e2, hu2⟩ := h.el i hi
      refine ⟨u, e2, ?_⟩
      rw [lth_set_ne _ _ _ _ e]
      refine World.ownsRow.kept hu2 s2 ?_
      cases hb : u.ownBlock with
      | none => exact .inl rfl
      | some k => exact .inr fun q => h.ap j i _ u e hv e2 g rfl (by rw [hb, q])
theorem row_but {Z : Nat → Prop} {w w' : World} {B size n : Nat} {e : TypeId} {v : Value} {xs : List Value} (h : w.ownsRow B e size v n xs) (hb : But Z w w') (hZ : ∀ k, Z k → k < B) : w'.ownsRow B e size v n xs := by
  refine ⟨h.1, ?_⟩
  rcases h.2 with h3 | ⟨g, cap, cur, h3, h4, h5, h6⟩
  · exact .inl h3
  · exact .inr ⟨g, cap, cur, h3, h4, by rw [hb.block g (Array.getElem?_eq_some_iff.1 h5).1 (fun hz => by have := hZ g hz; omega)]; exact h5, h6⟩
theorem OwnP.but {Z : Nat → Prop} {w w' : World} {B : Nat} {v : Value} {vals : List Value} {zss : List (List Int)} (h : OwnP w B v vals zss) (hb : But Z w w') (hZ : ∀ k, Z k → k < B) : OwnP w' B v vals zss :=
  ⟨row_but h.own hb hZ, h.len, fun j hj => by obtain ⟨u, e, hu⟩ := h.el j hj; exact ⟨u, e, row_but hu hb hZ⟩, h.ap⟩
theorem OwnP.lt {w : World} {B : Nat} {v : Value} {vals : List Value} {zss : List (List Int)} (h : OwnP w B v vals zss) : ∀ u ∈ vals, ∀ k, u.ownBlock = some k → k < w.heap.size := fun u hu k hk => by
  obtain ⟨j, hj, rfl⟩ := List.getElem_of_mem hu
  obtain ⟨u, e, h2⟩ := h.el j (by have := h.len; omega)
  rw [List.getElem?_eq_getElem hj] at e
  obtain rfl : vals[j] = u := by simpa using e
  exact (World.ownsRow.lt h2 k hk).2
theorem own_some {w : World} {B n ac : Nat} {e : TypeId} {av : Option Addr} {xs : List Value} (h : w.ownsRow B e 1 (.slice av (n + 1) ac) (n + 1) xs) : ∃ g, av = some ⟨g, 0, none⟩ := by
  obtain ⟨g, cg, e, _⟩ := h.form (by omega)
  injection e with e1
  exact ⟨g, e1⟩
end Go.Proofs.Ytjapconhehdcjaa
