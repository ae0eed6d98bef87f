/- A range over a function whose rounds read what is yielded. -/
import Derived.Test.YtpgifeaejjjjnaaCA
import Derived.RangeFuncNested
import Derived.RangeFuncBound
import Derived.RangeFuncCalls
import Derived.RangeFuncLeaves
import Derived.Shelf.Abstract
import Derived.Shelf.RegionOpen
import Derived.OwnWalkIn
import Derived.TacticsInMore
import Derived.LoopNIn
import Derived.LoopIn
namespace Go.Proofs.Ytpgifeaejjjjnaa
open Go.RowKit Go.Sort
section
variable {P : Program} (w : World)
/-- append, and where what it returns lies: in a block that is made now, or in the row itself behind its length. -/
theorem run_append_where (t ty : TypeId) (base : Nat) (e : TypeId) (i : TypeInfo) (z : Value) (size bytes : Nat) (ht : P.underlying t = some (.slice e)) (hi : P.info? e = some i) (hz : i.zero = some z)
    (hsize : i.size = size) (hby : i.bytes = bytes) (hzs : z.cells.size = size) (hsz : 0 < size)
    (v : Value) (n : Nat) (xs : List Value) (hown : w.ownsRow base e size v n xs)
    (ad : Addr) (m c : Nat) (news : List Value) (hl : news.length = m * size) (hnews : ∀ j u, news[j]? = some u → w.cell? (ad.add j) = some u) (h1 : ∀ u ∈ news, u.oneCell' = true)
    (hm : 0 < m) (h63 : n + m ≤ maxLen) (hbytes : (n + m) * bytes ≤ 140737488355328) (hbase : base ≤ w.heap.size) :
    ∃ g cap w', (Builtin.append_ #[t, t] ty #[v, .slice (some ad) m c]).run P w = .ok (.slice (some ⟨g, 0, none⟩) (n + m) cap) w' ∧
      w'.ownsRow base e size (.slice (some ⟨g, 0, none⟩) (n + m) cap) (n + m) (xs ++ news) ∧
      ((g = w.heap.size ∧ RowKit.Below w.heap.size w w') ∨ (v = .slice (some ⟨g, 0, none⟩) n cap ∧ w.grownBy w' (some g))) ∧ g < w'.heap.size := by
  obtain ⟨v', w', hr, h2, h3, _, h5⟩ := run_append_own_at (P := P) w base t ty e i z size bytes ht hi hz hsize hby hzs hsz v n xs hown ad m c news hl hnews h1 h63 hbytes hbase
  obtain ⟨g, cap, rfl, _, hlt⟩ := h2.form (by omega)
  refine ⟨g, cap, w', hr, h2, ?_, hlt⟩
  rcases hown.2 with ⟨rfl, h0⟩ | ⟨g0, cap0, cur, rfl, hb, hg, hnc, hcm, hcs, htake⟩
  · left
    refine ⟨?_, h3.os, h3.tape, h3.output, h3.size, fun k hk => h3.block k hk (by simp [Value.ownBlock])⟩
    rcases h5 with h5 | h5
    · simp [Value.ownBlock] at h5
    · simpa [Value.ownBlock] using h5
  · by_cases hroom : n + m ≤ cap0
    · right
      obtain ⟨w2, hr2, _, h8⟩ := run_append_fits (P := P) w base t ty e i size ht hi hsize g0 n cap0 xs hown ad m c news hl hnews h1 hroom
      rw [hr] at hr2
      injection hr2 with e1 e2
      injection e1 with e3 _ e5
      injection e3 with e3
      injection e3 with e3
      subst e2; subst e3; subst e5
      exact ⟨rfl, h8⟩
    · left
      subst hsize
      subst hby
      have holds : ∀ j u, xs[j]? = some u → w.cell? ((⟨g0, 0, none⟩ : Addr).add j) = some u := hown.cells (g := g0) rfl
      have h63' : n + m ≤ 9223372036854775807 := by simp only [maxLen] at h63; omega
      have hr2 := run_append_grow (P := P) w t ty e i z ht hi hz ⟨g0, 0, none⟩ n cap0 xs hown.1 holds ad m c news hl hnews (by omega) (by omega) (growslice_fits (by omega) hbytes)
      rw [hr] at hr2
      injection hr2 with e1 e2
      injection e1 with e3 _ e5
      injection e3 with e3
      injection e3 with e3
      subst e2
      exact ⟨e3, ((RowKit.Below.refl _ w).drew).alloc (Nat.le_refl _) _⟩
end
/-- All blocks that were there, but for those of Z, lie as they lay. -/
structure But (Z : Nat → Prop) (w w' : World) : Prop where
  os : w'.os = w.os
  tape : w'.tape = w.tape
  output : w'.output = w.output
  size : w.heap.size ≤ w'.heap.size
  block : ∀ k : Nat, k < w.heap.size → ¬ Z k → w'.heap[k]? = w.heap[k]?
theorem But.refl (Z : Nat → Prop) (w : World) : But Z w w := ⟨rfl, rfl, rfl, Nat.le_refl _, fun _ _ _ => rfl⟩
theorem But.trans {Z : Nat → Prop} {a b c : World} (h : But Z a b) (k : But Z b c) : But Z a c :=
  ⟨k.os.trans h.os, k.tape.trans h.tape, k.output.trans h.output, Nat.le_trans h.size k.size,
    fun i hi hz => (k.block i (Nat.lt_of_lt_of_le hi h.size) hz).trans (h.block i hi hz)⟩
theorem But.mono {Z Z' : Nat → Prop} {a b : World} (h : But Z a b) (hz : ∀ k, k < a.heap.size → Z k → Z' k) : But Z' a b :=
  ⟨h.os, h.tape, h.output, h.size, fun i hi hn => h.block i hi (fun hh => hn (hz i hi hh))⟩
theorem But.of_below {Z : Nat → Prop} {a b : World} (h : RowKit.Below a.heap.size a b) : But Z a b :=
  ⟨h.os, h.tape, h.output, h.size, fun i hi _ => h.block i hi⟩
theorem But.below {Z : Nat → Prop} {a b : World} (h : But Z a b) (B : Nat) (hB : B ≤ a.heap.size) (hz : ∀ k, Z k → B ≤ k) : RowKit.Below B a b :=
  ⟨h.os, h.tape, h.output, h.size, fun i hi => h.block i (by omega) (fun hh => by have := hz i hh; omega)⟩
theorem But.setCell {Z : Nat → Prop} {a w : World} (h : But Z a w) {p : Addr} (hp : Z p.block ∨ a.heap.size ≤ p.block) (u : Value) : But Z a (w.setCell p u) :=
  ⟨h.os, h.tape, h.output, by simp only [World.setCell, Array.size_modify]; exact h.size, fun k hk hz => (RowKit.Below.heap_setCell _ _ _ _ (fun e => by
    rcases hp with hp | hp
    · exact hz (e ▸ hp)
    · omega)).trans (h.block k hk hz)⟩
theorem But.putObj {Z : Nat → Prop} {a w : World} (h : But Z a w) {r : Nat} (hp : Z r ∨ a.heap.size ≤ r) (o : Obj) : But Z a (w.putObj r o) :=
  ⟨h.os, h.tape, h.output, by simp only [World.putObj_size]; exact h.size, fun k hk hz => (World.putObj_heap_other (fun e => by
    rcases hp with hp | hp
    · exact hz (e ▸ hp)
    · omega)).trans (h.block k hk hz)⟩
/-- What lay below B, and all cells, lie as they lay. -/
structure Calm (B : Nat) (w w' : World) : Prop where
  os : w'.os = w.os
  tape : w'.tape = w.tape
  output : w'.output = w.output
  size : w.heap.size ≤ w'.heap.size
  low : ∀ k : Nat, k < B → k < w.heap.size → w'.heap[k]? = w.heap[k]?
  cells : ∀ (k : Nat) (o : Obj), w.heap[k]? = some o → o.isCells = true → w'.heap[k]? = some o
theorem Calm.refl (B : Nat) (w : World) : Calm B w w := ⟨rfl, rfl, rfl, Nat.le_refl _, fun _ _ _ => rfl, fun _ _ h _ => h⟩
theorem Calm.trans {B : Nat} {a b c : World} (h : Calm B a b) (k : Calm B b c) : Calm B a c :=
  ⟨k.os.trans h.os, k.tape.trans h.tape, k.output.trans h.output, Nat.le_trans h.size k.size,
    fun i hi hl => (k.low i hi (Nat.lt_of_lt_of_le hl h.size)).trans (h.low i hi hl), fun i o hi ho => k.cells i o (h.cells i o hi ho) ho⟩
theorem Calm.mono {B B' : Nat} {a b : World} (h : Calm B a b) (hB : B' ≤ B) : Calm B' a b :=
  ⟨h.os, h.tape, h.output, h.size, fun i hi hl => h.low i (Nat.lt_of_lt_of_le hi hB) hl, h.cells⟩
theorem Calm.of_below {B : Nat} {a b : World} (h : RowKit.Below a.heap.size a b) : Calm B a b :=
  ⟨h.os, h.tape, h.output, h.size, fun i _ hl => h.block i hl, fun i _ hi _ => (h.block i (Array.getElem?_eq_some_iff.1 hi).1).trans hi⟩
theorem Calm.putObj {B : Nat} {w : World} {r : Nat} {o : Obj} (o' : Obj) (hB : B ≤ r) (h : w.heap[r]? = some o) (ho : o.isCells = false) : Calm B w (w.putObj r o') :=
  ⟨rfl, rfl, rfl, by simp, fun k hk _ => World.putObj_heap_other (by omega), fun k o2 hk h2 => (World.putObj_heap_other (fun e => by
    subst e; rw [h] at hk; cases hk; rw [ho] at h2; cases h2)).trans hk⟩
theorem Calm.low_below {B : Nat} {a b : World} (h : Calm B a b) (hB : B ≤ a.heap.size) : RowKit.Below B a b :=
  ⟨h.os, h.tape, h.output, h.size, fun k hk => h.low k hk (by omega)⟩
theorem Calm.cell {B : Nat} {a b : World} (h : Calm B a b) {p : Addr} {v : Value} (hp : a.cell? p = some v) : b.cell? p = some v := by
  obtain ⟨o, ho, hc⟩ := cells_of_cell hp
  exact (World.cell?_of_block ((h.cells _ o ho hc).trans ho.symm)).trans hp
theorem Calm.frozen {B : Nat} {a b : World} (h : Calm B a b) {p : Addr} {v : Value} (hp : a.cell? p = some v) : b.frozen? p = a.frozen? p := by
  obtain ⟨o, ho, hc⟩ := cells_of_cell hp
  exact World.frozen?_of_block ((h.cells _ o ho hc).trans ho.symm)
theorem below_putObj {B : Nat} (w : World) {r : Nat} (o' : Obj) (hB : B ≤ r) : RowKit.Below B w (w.putObj r o') :=
  ⟨rfl, rfl, rfl, by simp, fun k hk => World.putObj_heap_other (by omega)⟩
/-- what the rounds have come to, which does not mind what happens from B on. -/
def OldJ {β : Type} (B : Nat) (J : β → World → Prop) : Prop := ∀ s W W', J s W → RowKit.Below B W W' → J s W'
def OldX {β : Type} (B : Nat) (J : β → World → Prop) : Prop := ∀ s W W', J s W → Calm B W W' → J s W'
/-- the function g yields, in order, values that read as xs do, where the memory is as Ok says, for whatever rounds keep all but Z, which lies from N0 on. -/
def SeqV {α : Type} (P : Program) (g : Nat) (lb : Array Value) (V : α → Value → World → Prop) (xs : List α) (N0 : Nat) (Ok : World → Prop) : Prop :=
  ∀ (l : Nat) (Z : Nat → Prop) (J Jx : List α → World → Prop) (W : World) (n : Nat), (∀ k, Z k → N0 ≤ k ∧ k < W.heap.size) → N0 ≤ W.heap.size → Ok W → OldJ W.heap.size J → OldX W.heap.size Jx →
    (∀ (m : Nat) pre x v W1, W.heap.size ≤ W1.heap.size → J pre W1 → V x v W1 → pre ++ [x] <+: xs → YieldAt Fence.wide m P l #[v] W1 fun e W' =>
      But Z W1 W' ∧ ((e = .returned (.bool true) ∧ J (pre ++ [x]) W') ∨ (e = .returned (.bool false) ∧ Jx (pre ++ [x]) W'))) →
    J [] W → CallsIn Fence.wide n P g (#[.func (.yield l) #[] #[]] ++ lb) W fun e W' => (∃ v, e = .returned v) ∧ (J xs W' ∨ ∃ pre, pre <+: xs ∧ Jx pre W')
/-- how the body of a round may be left. -/
def vPost {α : Type} (Z : Nat → Prop) (I : List α → World → Prop) (Ix : Code → List α → World → Prop) (xs : List α) (W : World) : Exit → Act → World → Prop
  | .normal, _, W' => But Z W W' ∧ I xs W'
  | .ret, _, W' => But Z W W' ∧ Ix .ret xs W'
  | .exit id, _, W' => But Z W W' ∧ Ix (.exit id) xs W'
  | .goto t, _, W' => But Z W W' ∧ Ix (.goto t) xs W'
  | .panic _, _, _ => False
  | .outgrown, _, _ => False
variable {P : Program}
/-- A range over a function whose yielded values are read in the body. -/
theorem range_v {α : Type} {g : Operand} {ps : Array Tmp} {assign body : Code} {n : Nat} {Q : Exit → Act → World → Prop} {a : Act} {w : World}
    {gf : Nat} {lb : Array Value} (hg : a.eval g = .func (.func gf) #[] lb) (eg : ∀ args w, (callFunc gf args).run P w = .ok (.enter gf args) w)
    {V : α → Value → World → Prop} (hV : ∀ x v W W', V x v W → Calm 0 W W' → V x v W') {xs : List α} {N0 : Nat} {Ok : World → Prop} (hseq : SeqV P gf lb V xs N0 Ok) (hN0 : N0 ≤ w.heap.size) (hOk : ∀ W, RowKit.Below w.heap.size w W → Ok W) (hps : ps.size = 1)
    (Z : Nat → Prop) (hZ : ∀ k, Z k → N0 ≤ k ∧ k < w.heap.size)
    (I : List α → World → Prop) (Ix : Code → List α → World → Prop) (hI : OldJ w.heap.size I) (hIx : ∀ c, OldX w.heap.size (Ix c)) (h0 : I [] w) (a₁ : Value → Act)
    (hassign : ∀ (m l : Nat) (v : Value) (W : World) (K : Act → World → Prop), K (a₁ v) W →
      assign.wpIn (Fence.wide.inRound l) m P (Exit.then K (fun _ _ _ => False)) { tmps := (ps.zip #[v]).foldl (fun t (p, v) => t.setIfInBounds p v) a.tmps, defers := [] } W)
    (hbody : ∀ (m l : Nat) (pre : List α) (x : α) (v : Value) (W : World), w.heap.size ≤ W.heap.size → I pre W → V x v W → pre ++ [x] <+: xs → body.wpIn (Fence.wide.inRound l) m P (vPost Z I Ix (pre ++ [x]) W) (a₁ v) W)
    (hdone : ∀ (D : Nat) (W : World), w.heap.size ≤ D → I xs W → W.heap[D]? = some (.deferred (some [])) → Q .normal { a with defers := { target := .collected D, args := #[] } :: a.defers } W)
    (hstop : ∀ (D : Nat) (c : Code) (pre : List α) (W : World), w.heap.size ≤ D → pre <+: xs → Ix c pre W → W.heap[D]? = some (.deferred (some [])) → c.wpIn Fence.wide n P Q { a with defers := { target := .collected D, args := #[] } :: a.defers } W) :
    (Code.rangeFunc g ps assign body).wpIn Fence.wide n P Q a w := by
  refine wpIn_rangeFunc ?_
  intro fn hfn
  obtain ⟨rec, hrec⟩ : ∃ rec : LoopState → Option Code → Loop, rec = fun st pe => { state := st, pending := pe, fn, tmps := a.tmps, params := ps, assign, body, defers := w.heap.size } := ⟨_, rfl⟩
  obtain ⟨W1, hW1⟩ : ∃ W1, (w.alloc (.deferred (some []))).alloc (.loop (rec .ready none)) = W1 := ⟨_, rfl⟩
  have hs1 : W1.heap.size = w.heap.size + 2 := by rw [← hW1]; simp
  have hL1 : W1.heap[w.heap.size + 1]? = some (.loop (rec .ready none)) := by
    rw [← hW1]; have := World.alloc_heap_new (w.alloc (.deferred (some []))) (.loop (rec .ready none)); rwa [World.size_alloc] at this
  have hK1 : W1.heap[w.heap.size]? = some (.deferred (some [])) := by
    rw [← hW1]; exact (RowKit.Below.heap_alloc _ _ _ (by simp)).trans (World.alloc_heap_new w _)
  have hw1 : RowKit.Below w.heap.size w W1 := by
    rw [← hW1]; exact ((RowKit.Below.refl _ w).alloc (Nat.le_refl _) _).alloc (by simp) _
  have hI1 : I [] W1 := hI _ _ _ h0 hw1
  refine ⟨w.heap.size + 1, [{ target := .collected w.heap.size, args := #[] }], W1, { target := .fn (.func gf) lb, args := #[.func (.yield (w.heap.size + 1)) #[] #[]] }, W1, gf,
    #[.func (.yield (w.heap.size + 1)) #[] #[]] ++ lb, W1, ?_, ?_, ?_, ?_, fun h => (by cases h), ?_⟩
  · rw [← hW1, hrec]; exact run_enterLoop_outer _ _ _ _ _
  · simp only [resolve, hg]
    simp [go_sem]
  · intro f' _; trivial
  · simp [invoke, go_sem, eg]
  · refine (hseq (w.heap.size + 1) (fun k => Z k ∨ k = w.heap.size + 1)
      (fun pre W => I pre W ∧ W.heap[w.heap.size + 1]? = some (.loop (rec .ready none)) ∧ W.heap[w.heap.size]? = some (.deferred (some [])))
      (fun pre W => ∃ c, Ix c pre W ∧ W.heap[w.heap.size + 1]? = some (.loop (rec .done (some c))) ∧ W.heap[w.heap.size]? = some (.deferred (some [])))
      W1 _
      (fun k hk => by
        rcases hk with hk | rfl
        · have := hZ k hk; omega
        · omega)
      (by omega) (hOk _ hw1)
      (fun s A B hs hb => ⟨hI s A B hs.1 (hb.mono (by omega)), (hb.block _ (by omega)).trans hs.2.1, (hb.block _ (by omega)).trans hs.2.2⟩)
      (fun s A B hs hb => by
        obtain ⟨c, hc, hl, hk⟩ := hs
        have h1 := (Array.getElem?_eq_some_iff.1 hl).1
        exact ⟨c, hIx c s A B hc (hb.mono (by omega)), (hb.low _ (by omega) h1).trans hl, (hb.low _ (by omega) (by omega)).trans hk⟩)
      ?_ ⟨hI1, hL1, hK1⟩).mono ?_
    · rintro m pre x v W hsW ⟨hi, hl, hk⟩ hv hpre
      have hlt : w.heap.size + 1 < W.heap.size := (Array.getElem?_eq_some_iff.1 hl).1
      have hy := run_yield (P := P) (args := #[v]) hl (by rw [hrec]; exact hps.symm)
      rw [hrec] at hy
      refine ⟨fn, _, assign, body, hy, roundIn_of_wpIn hfn (hassign _ _ v W _ ⟨_, run_beginRound hl (by rw [hrec]), ?_⟩)⟩
      have hl2 : (W.putObj (w.heap.size + 1) (.loop { rec .ready none with state := .busy })).heap[w.heap.size + 1]? = some (.loop { rec .ready none with state := .busy }) := World.putObj_heap_same hlt
      have hk2 : (W.putObj (w.heap.size + 1) (.loop { rec .ready none with state := .busy })).heap[w.heap.size]? = some (.deferred (some [])) := (World.putObj_heap_other (by omega)).trans hk
      have hbu : But (fun k => Z k ∨ k = w.heap.size + 1) W (W.putObj (w.heap.size + 1) (.loop { rec .ready none with state := .busy })) := (But.refl _ W).putObj (.inl (.inr rfl)) _
      refine wpIn_mono (hbody _ _ pre x v _ (by simp; omega) (hI _ _ _ hi (below_putObj _ _ (by omega))) (hV _ _ _ _ hv (Calm.putObj _ (Nat.zero_le _) hl rfl)) hpre) ?_
      have fin : ∀ (jump : Option Code) (W3 : World), But Z (W.putObj (w.heap.size + 1) (.loop { rec .ready none with state := .busy })) W3 →
          (Instr.endRound (w.heap.size + 1) jump).run P W3 = .ok (.bool jump.isNone) (W3.putObj (w.heap.size + 1) (.loop (rec (if jump.isNone then .ready else .done) jump))) ∧
          W3.heap[w.heap.size + 1]? = some (.loop { rec .ready none with state := .busy }) ∧
          (W3.putObj (w.heap.size + 1) (.loop (rec (if jump.isNone then .ready else .done) jump))).heap[w.heap.size + 1]? = some (.loop (rec (if jump.isNone then .ready else .done) jump)) ∧
          (W3.putObj (w.heap.size + 1) (.loop (rec (if jump.isNone then .ready else .done) jump))).heap[w.heap.size]? = some (.deferred (some [])) ∧
          But (fun k => Z k ∨ k = w.heap.size + 1) W (W3.putObj (w.heap.size + 1) (.loop (rec (if jump.isNone then .ready else .done) jump))) := fun jump W3 hk3 => by
        have hl3 := (hk3.block (w.heap.size + 1) (by simpa using hlt) (fun hz => by have := (hZ _ hz).2; omega)).trans hl2
        have hd3 := (hk3.block w.heap.size (by simp; omega) (fun hz => by have := (hZ _ hz).2; omega)).trans hk2
        have := run_endRound (P := P) jump hl3
        rw [hrec] at this ⊢
        exact ⟨this, by rw [hrec] at hl3; exact hl3, World.putObj_heap_same (Array.getElem?_eq_some_iff.1 hl3).1, (World.putObj_heap_other (by omega)).trans hd3,
          (hbu.trans (hk3.mono (fun _ _ h => .inl h))).putObj (.inl (.inr rfl)) _⟩
      rintro e a3 W3 hp
      cases e with
      | normal =>
        obtain ⟨hk3, hi3⟩ := hp
        obtain ⟨hr, hl3, hl4, hk4, hbb⟩ := fin none W3 hk3
        exact ⟨_, _, hr, hbb, .inl ⟨rfl, hI _ _ _ hi3 (below_putObj _ _ (by omega)), hl4, hk4⟩⟩
      | ret =>
        obtain ⟨hk3, hi3⟩ := hp
        obtain ⟨hr, hl3, hl4, hk4, hbb⟩ := fin (some .ret) W3 hk3
        exact ⟨_, _, hr, hbb, .inr ⟨rfl, .ret, hIx _ _ _ _ hi3 (Calm.putObj _ (by omega) hl3 rfl), hl4, hk4⟩⟩
      | exit id =>
        obtain ⟨hk3, hi3⟩ := hp
        obtain ⟨hr, hl3, hl4, hk4, hbb⟩ := fin (some (.exit id)) W3 hk3
        exact ⟨_, _, hr, hbb, .inr ⟨rfl, .exit id, hIx _ _ _ _ hi3 (Calm.putObj _ (by omega) hl3 rfl), hl4, hk4⟩⟩
      | goto t =>
        obtain ⟨hk3, hi3⟩ := hp
        obtain ⟨hr, hl3, hl4, hk4, hbb⟩ := fin (some (.goto t)) W3 hk3
        exact ⟨_, _, hr, hbb, .inr ⟨rfl, .goto t, hIx _ _ _ _ hi3 (Calm.putObj _ (by omega) hl3 rfl), hl4, hk4⟩⟩
      | panic ch => exact hp.elim
      | outgrown => exact hp.elim
    · rintro e W2 ⟨⟨v, rfl⟩, (⟨hi, hl, hk⟩ | ⟨pre, hpre, c, hi, hl, hk⟩)⟩
      · exact ⟨none, _, by have := run_endLoop (P := P) hl (by rw [hrec]; simp); rw [hrec] at this; exact this, hdone _ _ (Nat.le_refl _) (hI _ _ _ hi (below_putObj _ _ (by omega))) ((World.putObj_heap_other (by omega)).trans hk)⟩
      · exact ⟨some c, _, by have := run_endLoop (P := P) hl (by rw [hrec]; simp); rw [hrec] at this; exact this, hstop _ c pre _ (Nat.le_refl _) hpre (hIx _ _ _ _ hi (Calm.putObj _ (by omega) hl rfl)) ((World.putObj_heap_other (by omega)).trans hk)⟩
end Go.Proofs.Ytpgifeaejjjjnaa
