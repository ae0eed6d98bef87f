/- the base of stage 4: readings, lists, grids (carried over from stage 3) -/
import Derived.Test.YtjapconhehdcjaaRows
import Derived.WalkKit
import Derived.WalkSpells
import Derived.WalkLawsBesides
import Derived.RegionTactic
import Derived.BigRegion
import Derived.Deep.RegionHeld3
import Derived.Deep.RegionWith
import Derived.Deep.QuietTactic
import Derived.BigQuiet
import Derived.Lib.Hide
import Derived.IntWalk
import Derived.Deep.DeepCutAuto
import Derived.Deep.AppendLies
import Derived.Deep.CutBlock
import Derived.Deep.RegionLawGrows
import Derived.StillTailTactics
import Derived.Deep.OwnRows
import Derived.Laws.OwnMore
import Derived.OwnWalk
import Derived.StillTactics
import Derived.Laws.EntriesVeiled
import Derived.Lib.SmallJoins
import Derived.ProofKit
import Derived.OpenShut
namespace Go.Sort
end Go.Sort
namespace Go.Proofs.Ytjapconhehdcjaa
open Go.RowKit Go.Sort
theorem bcell {W w1 : World} (hb : Below W.heap.size W w1) : (∀ b o, b < W.heap.size → w1.cell? ⟨b, o, none⟩ = W.cell? ⟨b, o, none⟩) ∧ (∀ b o, b < W.heap.size → w1.frozen? ⟨b, o, none⟩ = W.frozen? ⟨b, o, none⟩) :=
        ⟨fun b o h => hb.cell (p := ⟨b, o, none⟩) h, fun b o h => hb.frozen (p := ⟨b, o, none⟩) h⟩
/-- a list's element. -/
def nth (zs : List Int) (k : Nat) : Int := zs[k]?.getD 0
theorem nth_eq (zs : List Int) (k : Nat) : nth zs k = zs[k]?.getD 0 := rfl
/-- the slice at a reads as these numbers. -/
def IntsAt (w : World) (a : Option Addr) (zs : List Int) : Prop :=
  ∀ j, j < zs.length → ∃ b off, a = some ⟨b, off, none⟩ ∧ b < w.heap.size ∧ w.cell? ⟨b, off + j, none⟩ = some (.int .i64 (nth zs j))
theorem IntsAt.below {w w' : World} {a : Option Addr} {zs : List Int} (h : IntsAt w a zs) (hb : Below w.heap.size w w') : IntsAt w' a zs := fun j hj => by
  obtain ⟨b, off, rfl, h1, h2⟩ := h j hj
  exact ⟨b, off, rfl, Nat.lt_of_lt_of_le h1 hb.size, by rw [← h2]; exact hb.cell (p := ⟨b, off + j, none⟩) h1⟩
theorem ret_int {k : IntKind} {a b : Int} (h : a = b) : Ending.returned (.int k a) = .returned (.int k b) := by rw [h]
theorem retb {a b : Bool} (h : a = b) : Ending.returned (.bool a) = .returned (.bool b) := by rw [h]
theorem ret_bool {a b : Bool} (h : a = b) : Ending.returned (.bool a) = .returned (.bool b) := by rw [h]
theorem below_drewN {w w0 : World} {B : Nat} (h : RowKit.Below B w0 w) (n : Nat) : RowKit.Below B w0 (w.drewN n) := h.trans ⟨rfl, rfl, rfl, Nat.le_refl _, fun _ _ => rfl⟩
def Owns (w : World) (B : Nat) (v : Value) (zs : List Int) : Prop := w.ownsRow B 3 1 v zs.length (zs.map (Value.int .i64))
theorem Owns.base {w : World} {B B' : Nat} {v : Value} {zs : List Int} (h : Owns w B v zs) (hB : B' ≤ B) : Owns w B' v zs := by
  obtain ⟨h1, h2⟩ := h
  refine ⟨h1, ?_⟩
  rcases h2 with h2 | ⟨g, cap, cur, h3, h4, h5⟩
  · exact .inl h2
  · exact .inr ⟨g, cap, cur, h3, by omega, h5⟩
/-- w' is w, or w with more in its heap. -/
def Fut (w w' : World) : Prop := RowKit.Below w.heap.size w w'
theorem Fut.rfl {w : World} : Fut w w := RowKit.Below.refl _ _
theorem Fut.trans {a b c : World} (h : Fut a b) (h' : Fut b c) : Fut a c :=
  RowKit.Below.trans h (RowKit.Below.mono h' (RowKit.Below.size h))
theorem Fut.alloc (w : World) (o : Obj) : Fut w (w.alloc o) := RowKit.Below.alloc (RowKit.Below.refl _ _) (Nat.le_refl _) o
theorem Fut.drewN (w : World) (n : Nat) : Fut w (w.drewN n) := below_drewN (RowKit.Below.refl _ _) n
theorem IntsAt.fut {w w' : World} {a : Option Addr} {zs : List Int} (h : IntsAt w a zs) (hb : Fut w w') : IntsAt w' a zs := h.below hb
theorem info3 : (Try.prog.info? 3).map (fun i => (i.zero, i.size, i.bytes)) = some (some (.int .i64 0), 1, 8) := by kernel_rfl
theorem info_parts {t : TypeId} {z : Option Value} {s b : Nat} (h : (Try.prog.info? t).map (fun i => (i.zero, i.size, i.bytes)) = some (z, s, b)) :
    ∃ i, Try.prog.info? t = some i ∧ i.zero = z ∧ i.size = s ∧ i.bytes = b := by
  cases hi : Try.prog.info? t with
  | none => rw [hi] at h; simp at h
  | some i =>
    rw [hi] at h; simp at h
    exact ⟨i, rfl, h.1, h.2.1, h.2.2⟩
theorem nil_ints (w : World) (a : Option Addr) : IntsAt w a [] := fun j hj => absurd hj (by simp)
theorem Owns.ints {w : World} {B : Nat} {v : Value} {zs : List Int} (h : Owns w B v zs) : ∃ a cap, v = .slice a zs.length cap ∧ IntsAt w a zs := by
  obtain ⟨_, h | ⟨g, cap, cur, rfl, _, hg, _, _, _, htake⟩⟩ := h
  · obtain ⟨rfl, h0⟩ := h
    exact ⟨none, 0, by rw [h0], fun j hj => by omega⟩
  · refine ⟨_, cap, rfl, fun j hj => ⟨g, 0, rfl, (Array.getElem?_eq_some_iff.1 hg).1, ?_⟩⟩
    rw [cell_of_row w g _ cur 3 (0, 0) hg, Nat.zero_add]
    have e : (zs.map (Value.int .i64))[j]? = some (.int .i64 (nth zs j)) := by rw [nth_eq]; simp [hj]
    rw [← e, ← htake, List.getElem?_take]
    simp; omega
theorem Owns.fut {w w' : World} {B : Nat} {v : Value} {zs : List Int} (h : Owns w B v zs) (F : Fut w w') : Owns w' B v zs := by
  obtain ⟨h1, h2⟩ := h
  refine ⟨h1, ?_⟩
  rcases h2 with h2 | ⟨g, cap, cur, h3, h4, h5, h6⟩
  · exact .inl h2
  · exact .inr ⟨g, cap, cur, h3, h4, by rw [F.block g (Array.getElem?_eq_some_iff.1 h5).1]; exact h5, h6⟩
theorem Fut.trans' {a b c : World} (h : Fut a b) {B : Nat} (h' : RowKit.Below B b c) (hB : a.heap.size ≤ B) : Fut a c :=
  RowKit.Below.trans h (RowKit.Below.mono h' hB)
theorem maxL {n : Nat} (h : n ≤ 200000) : n + 1 ≤ maxLen := by unfold maxLen; omega
def oftL (n : Nat) (zs : List Int) : List Int := (List.range n).map fun (i : Nat) => ((zs.count (i : Int) : Nat) : Int)
theorem oft_len (n : Nat) (zs : List Int) : (oftL n zs).length = n := by unfold oftL; simp
theorem oft_nth (n : Nat) (zs : List Int) (i : Nat) (h : i < n) : nth (oftL n zs) i = ((zs.count (i : Int) : Nat) : Int) := by
  rw [nth_eq]; unfold oftL; simp [h]
theorem oft_nil (n : Nat) : (oftL n []).map (Value.int .i64) = List.replicate n (.int .i64 0) := by
  unfold oftL
  rw [List.map_map]
  apply List.ext_getElem
  · simp
  · intro j h1 h2; simp
theorem made_own (w : World) (n : Nat) (h : n ≤ 1000) : Owns (w.alloc (.cells (madeCells #[Value.int .i64 0] n) 3)) w.heap.size (.slice (some ⟨w.heap.size, 0, none⟩) n n) (oftL n []) := by
  have e : (madeCells #[Value.int .i64 0] n).toList = List.replicate n (.int .i64 0) := by
    apply List.ext_getElem
    · simp [madeCells]
    · intro j h1 h2; simp [madeCells, Nat.mod_one]
  have hs : (madeCells #[Value.int .i64 0] n).size = n * 1 := by rw [← Array.length_toList, e]; simp
  have := World.ownsRow_lit (base := w.heap.size) (e := 3) (size := 1) w (madeCells #[Value.int .i64 0] n) n (Nat.le_refl _) (by unfold maxLen; omega) hs
  unfold Owns
  rw [oft_nil, oft_len, ← e]
  exact this
theorem own_at {w : World} {B g n : Nat} {L : List Int} (h : Owns w B (.slice (some ⟨g, 0, none⟩) n n) L) (hn : L.length = n) (z : Nat) (hz : z < n) :
    w.cell? ⟨g, z, none⟩ = some (.int .i64 (nth L z)) ∧ w.frozen? ⟨g, z, none⟩ = false ∧ g < w.heap.size := by
  unfold Owns at h
  rw [hn] at h
  have h1 := h.cellAt z (by omega)
  refine ⟨?_, h.frozenAt z, (h.lt g rfl).2⟩
  rw [h1, nth_eq]
  simp [List.getElem?_eq_getElem (show z < L.length by omega)]
theorem own_set {w : World} {B g n : Nat} {L : List Int} (h : Owns w B (.slice (some ⟨g, 0, none⟩) n n) L) (hn : L.length = n) (z : Nat) (u : Int) :
    Owns (w.setCell ⟨g, z, none⟩ (.int .i64 u)) B (.slice (some ⟨g, 0, none⟩) n n) (L.set z u) := by
  unfold Owns at h ⊢
  rw [hn] at h
  have h1 := (h.stored z (.int .i64 u)).1
  rw [List.length_set, hn, List.map_set]
  exact h1
theorem own_ints {w : World} {B g n : Nat} {L : List Int} (h : Owns w B (.slice (some ⟨g, 0, none⟩) n n) L) (hn : L.length = n) : IntsAt w (some ⟨g, 0, none⟩) L := fun j hj => by
  obtain ⟨h1, _, h3⟩ := own_at h hn j (by omega)
  exact ⟨g, 0, rfl, h3, by rw [Nat.zero_add]; exact h1⟩
/-- a world behind this one: more in its heap, maybe. -/
structure After (w : World) where
  w' : World
  F : Fut w w'
theorem region_fut {id : Nat} {Q : Exit → Act → World → Prop} {a : Act} {w : World} {l : List Oper} (hm : Try.prog.follows .mixedOrders = true) (hB : Region.lexB .any l.toArray = true)
    (h : wpQuiet Try.prog l.toArray (fun w' => ∃ p : After w, w' = p.w') (fun a' => ∀ w', (∃ p : After w, w' = p.w') → Q .normal a' w') l a) : (Code.region id l.toArray true).wp Try.prog Q a w :=
  wp_region_quiet (C := fun w' => ∃ p : After w, w' = p.w') hm hB ⟨⟨_, Fut.drewN w 1⟩, rfl⟩ (by simpa using h)
theorem after_of {f : FuncId} {args : Array Value} {w : World} {p : After w} {v : Value}
    (h : Calls Try.prog f args p.w' fun e w' => e = .returned v ∧ Fut p.w' w') : Calls Try.prog f args p.w' fun e w'' => e = .returned v ∧ ∃ q : After w, w'' = q.w' :=
  h.mono fun _ _ ⟨he, F⟩ => ⟨he, ⟨_, p.F.trans F⟩, rfl⟩
theorem after_same {f : FuncId} {args : Array Value} {w : World} {p : After w} {v : Value}
    (h : Calls Try.prog f args p.w' fun e w' => e = .returned v ∧ p.w' = w') : Calls Try.prog f args p.w' fun e w'' => e = .returned v ∧ ∃ q : After w, w'' = q.w' :=
  h.mono fun _ _ ⟨he, F⟩ => ⟨he, p, F.symm⟩
theorem after_fut {w w2 : World} (h : ∃ p : After w, w2 = p.w') : Fut w w2 := by
  obtain ⟨p, rfl⟩ := h; exact p.F
def lth (zss : List (List Int)) (k : Nat) : List Int := zss[k]?.getD []
theorem lth_eq (zss : List (List Int)) (k : Nat) : lth zss k = zss[k]?.getD [] := rfl
theorem lth_drop (zss : List (List Int)) (k : Nat) (hk : k < zss.length) : zss.drop k = lth zss k :: zss.drop (k + 1) := by
  rw [lth_eq, List.getElem?_eq_getElem hk]
  exact List.drop_eq_getElem_cons hk
/-- the slice at a reads as these lists. -/
def LstAt (w : World) (a : Option Addr) (zss : List (List Int)) : Prop :=
  ∀ j, j < zss.length → ∃ b off l lc, a = some ⟨b, off, none⟩ ∧ b < w.heap.size ∧ w.cell? ⟨b, off + j, none⟩ = some (.slice l (lth zss j).length lc) ∧ IntsAt w l (lth zss j)
theorem LstAt.fut {w w' : World} {a : Option Addr} {zss : List (List Int)} (h : LstAt w a zss) (F : Fut w w') : LstAt w' a zss := fun j hj => by
  obtain ⟨b, off, l, lc, rfl, h1, h2, h3⟩ := h j hj
  exact ⟨b, off, l, lc, rfl, Nat.lt_of_lt_of_le h1 (RowKit.Below.size F), (RowKit.Below.cell F (p := ⟨b, off + j, none⟩) h1).trans h2, h3.fut F⟩
theorem info22 : (Try.prog.info? 22).map (fun i => (i.zero, i.size, i.bytes)) = some (some (.slice none 0 0), 1, 24) := by kernel_rfl
/-- the lists of a proof. -/
def Elems (w : World) (B : Nat) (vals : List Value) (zss : List (List Int)) : Prop := vals.length = zss.length ∧ ∀ j, j < zss.length → ∃ v, vals[j]? = some v ∧ Owns w B v (lth zss j)
def OwnL (w : World) (B : Nat) (v : Value) (zss : List (List Int)) : Prop := ∃ vals, w.ownsRow B 22 1 v zss.length vals ∧ Elems w B vals zss
theorem OwnL.nil (w : World) (B : Nat) : OwnL w B (.slice none 0 0) [] := ⟨[], World.ownsRow_nil _ _ _ _, rfl, fun j hj => absurd hj (by simp)⟩
theorem Owns.grown {w w' : World} {B bm : Nat} {v : Value} {zs : List Int} (h : Owns w B v zs) (g : w.grownBy w' (some bm)) (hb : bm < B) : Owns w' B v zs := by
  refine World.ownsRow.kept h g ?_
  rcases hv : v.ownBlock with _ | k
  · exact .inl rfl
  · refine .inr fun e => ?_
    have := (h.lt k hv).1
    simp at e
    omega
theorem OwnL.grown {w w' : World} {B bm : Nat} {v : Value} {zss : List (List Int)} (h : OwnL w B v zss) (g : w.grownBy w' (some bm)) (hb : bm < B) : OwnL w' B v zss := by
  obtain ⟨vals, h1, h2, h3⟩ := h
  refine ⟨vals, World.ownsRow.kept h1 g ?_, h2, fun j hj => ?_⟩
  · rcases hv : v.ownBlock with _ | k
    · exact .inl rfl
    · refine .inr fun e => ?_
      have := (h1.lt k hv).1
      simp at e
      omega
  · obtain ⟨u, e, hu⟩ := h3 j hj
    exact ⟨u, e, hu.grown g hb⟩
theorem OwnL.fut {w w' : World} {B : Nat} {v : Value} {zss : List (List Int)} (h : OwnL w B v zss) (F : Fut w w') : OwnL w' B v zss := by
  obtain ⟨vals, h1, h2, h3⟩ := h
  refine ⟨vals, World.ownsRow.kept h1 (row := none) ⟨F.os, F.tape, F.output, F.size, fun k hk _ => F.block k hk⟩ ?_, h2, fun j hj => ?_⟩
  · rcases hv : v.ownBlock with _ | k
    · exact .inl rfl
    · exact .inr (by simp)
  · obtain ⟨u, e, hu⟩ := h3 j hj
    exact ⟨u, e, hu.fut F⟩
theorem own_apart {w : World} {B B' : Nat} {v u : Value} {zs : List Int} {n : Nat} {xs : List Value} (h : Owns w B v zs) (h' : w.ownsRow B' 22 1 u n xs) : v.ownBlock = none ∨ v.ownBlock ≠ u.ownBlock := by
  rcases h.2 with ⟨rfl, _⟩ | ⟨g, cap, cur, rfl, _, hg, _⟩
  · exact .inl rfl
  · rcases h'.2 with ⟨rfl, _⟩ | ⟨g', cap', cur', rfl, _, hg', _⟩
    · exact .inr (by simp [Value.ownBlock])
    · refine .inr fun e => ?_
      simp [Value.ownBlock] at e
      rw [e, hg'] at hg
      simp at hg
theorem Elems.app {w w' : World} {B : Nat} {vals : List Value} {zss : List (List Int)} {u nv : Value} {zs : List Int} {n : Nat} {xs : List Value} (h : Elems w B vals zss) (hn : Owns w B nv zs) (hu : w.ownsRow B 22 1 u n xs) (g : w.grownBy w' u.ownBlock) : Elems w' B (vals ++ [nv]) (zss ++ [zs]) := by
  obtain ⟨h1, h2⟩ := h
  refine ⟨by simp [h1], fun j hj => ?_⟩
  by_cases hlt : j < zss.length
  · obtain ⟨v, e, hv⟩ := h2 j hlt
    refine ⟨v, ?_, ?_⟩
    · rw [List.getElem?_append_left (by omega)]; exact e
    · have : lth (zss ++ [zs]) j = lth zss j := by rw [lth_eq, lth_eq, List.getElem?_append_left hlt]
      rw [this]
      exact World.ownsRow.kept hv g (own_apart hv hu)
  · have hj' : j = zss.length := by simp at hj; omega
    subst hj'
    refine ⟨nv, ?_, ?_⟩
    · rw [← h1, List.getElem?_append_right (Nat.le_refl _)]; simp
    · have : lth (zss ++ [zs]) zss.length = zs := by rw [lth_eq, List.getElem?_append_right (Nat.le_refl _)]; simp
      rw [this]
      exact World.ownsRow.kept hn g (own_apart hn hu)
theorem OwnL.lists {w : World} {B : Nat} {v : Value} {zss : List (List Int)} (h : OwnL w B v zss) : ∃ l lc, v = .slice l zss.length lc ∧ LstAt w l zss := by
  obtain ⟨vals, h1, h2, h3⟩ := h
  rcases h1.2 with ⟨rfl, h0⟩ | ⟨g, cap, cur, rfl, hb, hg, hr⟩
  · exact ⟨none, 0, by rw [h0], fun j hj => by omega⟩
  · refine ⟨_, cap, rfl, fun j hj => ?_⟩
    obtain ⟨u, e, hu⟩ := h3 j hj
    obtain ⟨l, lc, rfl, hI⟩ := hu.ints
    refine ⟨g, 0, l, lc, rfl, (Array.getElem?_eq_some_iff.1 hg).1, ?_, hI⟩
    rw [Nat.zero_add, World.ownsRow.cellAt h1 j (by omega)]
    exact e
theorem nil_lists (w : World) (a : Option Addr) : LstAt w a [] := fun j hj => absurd hj (by simp)
/-- a list of numbers and an error. -/
abbrev TupL (r : Int) (L : List Int) (w : World) (e : Ending) (w' : World) : Prop := ∃ l cap, e = .returned (.tuple #[.slice l L.length cap, .int .i64 r]) ∧ IntsAt w' l L ∧ Fut w w'
/-- lists of numbers, and an error. -/
abbrev TupLL (r : Int) (zss : List (List Int)) (w : World) (e : Ending) (w' : World) : Prop := ∃ l lc, e = .returned (.tuple #[.slice l zss.length lc, .int .i64 r]) ∧ LstAt w' l zss ∧ Fut w w'
theorem nth_drop (zs : List Int) (k : Nat) (hk : k < zs.length) : zs.drop k = nth zs k :: zs.drop (k + 1) := by
  rw [nth_eq, List.getElem?_eq_getElem hk]
  exact List.drop_eq_getElem_cons hk
def inB (c x : Int) : Bool := decide (0 ≤ x) && decide (x < c)
theorem isIndex_any (i n : Int) (w : World) : Calls Try.prog 74 #[.int .i64 i, .int .i64 n] w fun e w' => e = .returned (.bool (inB n i)) ∧ w = w' := by
  go_enter Try.func74, Try.ntmps74
  go_wp2
  all_goals
    go_ret
    exact ⟨retb (by simp [inB]; omega), rfl⟩
theorem ints_new (w : World) (zs : List Int) : IntsAt (w.alloc (.cells (zs.map (Value.int .i64)).toArray 3)) (some ⟨w.heap.size, 0, none⟩) zs := fun j hj => by
  refine ⟨w.heap.size, 0, rfl, by simp, ?_⟩
  rw [World.cell?_alloc_at _ _ _ _ rfl, Nat.zero_add, nth_eq]
  simp [hj]
theorem list_id (v : Value) (w : World) : Calls Try.prog 53 #[v] w fun e w' => e = .returned v ∧ w = w' := by
  go_enter Try.func53, Try.ntmps53
  go_wp2
  go_ret
  exact ⟨rfl, rfl⟩
def sameB (xs ys : List Int) : Bool := decide (xs = ys)
theorem same_any (a c : Option Addr) (cap dap : Nat) (xs ys : List Int) (w : World) (hx : xs.length ≤ 9223372036854775807) (_hy : ys.length ≤ 9223372036854775807) (hA : IntsAt w a xs) (hC : IntsAt w c ys) :
    Calls Try.prog 24 #[.slice a xs.length cap, .slice c ys.length dap] w fun e w' => e = .returned (.bool (sameB xs ys)) ∧ ∃ q, w' = w.drewN q := by
  by_cases hl : xs.length = ys.length
  · have hne : ((xs.length : Int) != ys.length) = false := by simp; omega
    have HS : Hid (∀ b, (xs = ys ↔ b = true) → sameB xs ys = b) := fun b h => by unfold sameB; cases b <;> simp_all
    generalize sameB xs ys = r at HS ⊢
    have HL := Lib.hid hl
    have HA := Lib.hid hA
    have HC := Lib.hid hC
    clear hl hA hC
    go_enter Try.func24, Try.ntmps24
    go_wp2
    go_loopw [5] (fun iv wr => ∃ (k q : Nat), k ≤ xs.length ∧ iv = .int .i64 k ∧ wr = w.drewN q ∧ Hid (∀ j, j < k → nth xs j = nth ys j)) (fun iv _ => xs.length - (intOf iv).toNat)
    case atStart => exact ⟨0, 0, Nat.zero_le _, rfl, rfl, fun j hj => absurd hj (Nat.not_lt_zero _)⟩
    case round =>
      obtain ⟨k, q, hk, rfl, rfl, hal⟩ := hrel
      by_cases hlt : k < xs.length
      · obtain ⟨b, off, rfl, hb, hcell⟩ := HA.out k hlt
        obtain ⟨b', off', rfl, hb', hcell'⟩ := HC.out k (by have := HL.out; omega)
        have hky : (k : Int) < ys.length := by have := HL.out; omega
        have hkx : (k : Int) < xs.length := by omega
        have p1 : (w.drewN q).cell? ⟨b, off + k, none⟩ = some (.int .i64 (nth xs k)) := hcell
        have p2 : (w.drewN q).cell? ⟨b', off' + k, none⟩ = some (.int .i64 (nth ys k)) := hcell'
        clear hcell hcell'
        generalize hw : w.drewN q = wq at p1 p2
        have HW := Lib.hid hw
        clear hw
        by_cases he : nth xs k = nth ys k
        · have hne2 : (nth xs k != nth ys k) = false := by simpa using he
          have HN : Hid (∀ j, j < k + 1 → nth xs j = nth ys j) := fun j hj => by
            by_cases e : j = k
            · subst e; exact he
            · exact hal.out j (by omega)
          clear he
          go_wp2_with fail
          go_quiet (fail)
          go_wp2
          go_roundw
          case rel => exact ⟨k + 1, q + nq, by omega, by go_num, by rw [← HW.out, World.drewN_drewN], HN⟩
          case measure => simp [intOf]; omega
        · have hne2 : (nth xs k != nth ys k) = true := by simpa using he
          have E : Hid (r = false) := HS.out false ⟨fun h => absurd (by rw [h]) he, fun h => by cases h⟩
          clear he
          go_wp2_with fail
          go_quiet (fail)
          go_wp2
          go_ret
          exact ⟨ret_bool E.out.symm, q + nq, by rw [← HW.out, World.drewN_drewN]⟩
      · have E : Hid (r = true) := HS.out true ⟨fun _ => rfl, fun _ => by
          apply List.ext_getElem HL.out
          intro j h1 h2
          have := hal.out j (by omega)
          unfold nth at this
          rw [List.getElem?_eq_getElem h1, List.getElem?_eq_getElem h2] at this
          exact this⟩
        clear hal
        go_wp2
        go_ret
        exact ⟨ret_bool E.out.symm, q, rfl⟩
  · have hne : ((xs.length : Int) != ys.length) = true := by simp; omega
    have e : sameB xs ys = false := by unfold sameB; rw [decide_eq_false_iff_not]; intro h; exact hl (by rw [h])
    rw [e]
    clear hl e hA hC
    go_enter Try.func24, Try.ntmps24
    go_wp2
    go_ret
    exact ⟨rfl, 0, rfl⟩
theorem row_form {w : World} {B size : Nat} {e : TypeId} {v : Value} {n : Nat} {xs : List Value} (h : w.ownsRow B e size v n xs) : ∃ a c, v = .slice a n c := by
  rcases h.2 with ⟨rfl, h0⟩ | ⟨g, cap, cur, rfl, _⟩
  · exact ⟨none, 0, by rw [h0]⟩
  · exact ⟨_, _, rfl⟩
theorem cell_after {w : World} {b o : Nat} {v : Value} (h : w.cell? ⟨b, o, none⟩ = some v) : ∀ p : After w, p.w'.cell? ⟨b, o, none⟩ = some v := fun p =>
  (RowKit.Below.cell p.F (p := ⟨b, o, none⟩) (World.block_lt_of_cell? _ _ h)).trans h
/-- does one of the lists hold s at the place d? -/
def tkn (zss : List (List Int)) (d : Nat) (s : Int) : Bool := zss.any fun l => decide (nth l d = s)
theorem tkn_cons (l : List Int) (zss : List (List Int)) (d : Nat) (s : Int) : tkn (l :: zss) d s = (decide (nth l d = s) || tkn zss d s) := rfl
/-- the slice at a reads as these lists, each with room for itself. -/
def LstC (w : World) (a : Option Addr) (zss : List (List Int)) : Prop :=
  ∀ j, j < zss.length → ∃ b off l lc, a = some ⟨b, off, none⟩ ∧ b < w.heap.size ∧ w.cell? ⟨b, off + j, none⟩ = some (.slice l (lth zss j).length lc) ∧ (lth zss j).length ≤ lc ∧ lc ≤ 9223372036854775807 ∧ IntsAt w l (lth zss j)
theorem LstC.fut {w w' : World} {a : Option Addr} {zss : List (List Int)} (h : LstC w a zss) (F : Fut w w') : LstC w' a zss := fun j hj => by
  obtain ⟨b, off, l, lc, rfl, h1, h2, h3, h4, h5⟩ := h j hj
  exact ⟨b, off, l, lc, rfl, Nat.lt_of_lt_of_le h1 (RowKit.Below.size F), (RowKit.Below.cell F (p := ⟨b, off + j, none⟩) h1).trans h2, h3, h4, h5.fut F⟩
theorem LstC.lst {w : World} {a : Option Addr} {zss : List (List Int)} (h : LstC w a zss) : LstAt w a zss := fun j hj => by
  obtain ⟨b, off, l, lc, rfl, h1, h2, _, _, h5⟩ := h j hj
  exact ⟨b, off, l, lc, rfl, h1, h2, h5⟩
theorem lth_take (zss : List (List Int)) (k j : Nat) (h : j < k) : lth (zss.take k) j = lth zss j := by
  rw [lth_eq, List.getElem?_take_of_lt h, lth_eq]
theorem LstC.take {w : World} {a : Option Addr} {zss : List (List Int)} (h : LstC w a zss) (k : Nat) : LstC w a (zss.take k) := fun j hj => by
  rw [List.length_take] at hj
  rw [lth_take _ _ _ (by omega)]
  exact h j (by omega)
theorem nth_take (zs : List Int) (k j : Nat) (h : j < k) : nth (zs.take k) j = nth zs j := by
  rw [nth_eq, List.getElem?_take_of_lt h, nth_eq]
theorem IntsAt.take {w : World} {a : Option Addr} {zs : List Int} (h : IntsAt w a zs) (k : Nat) : IntsAt w a (zs.take k) := fun j hj => by
  rw [List.length_take] at hj
  rw [nth_take _ _ _ (by omega)]
  exact h j (by omega)
theorem slice_toI (g o n cap k : Nat) (h : k ≤ cap) (W : World) : (Instr.sliceAt 22 (.slice (some ⟨g, o, none⟩) n cap) none (some (.int .i64 k)) none).run Try.prog W = .ok (.slice (some ⟨g, o, none⟩) k cap) W := by
  have hu : Try.prog.underlying 22 = some (.slice (Try.prog.elem 22)) := by kernel_rfl
  have hs : (sizeOf (Try.prog.elem 22)).run Try.prog W = .ok 1 W := by kernel_rfl
  rw [run_sliceAt_slice _ _ _ _ _ _ hu, run_slice_h _ _ _ _ _ hu _ _ (by omega) (by omega), hs]
  simp [sliced, Result.andThen, Addr.add]
theorem slice_toL (g o n cap k : Nat) (h : k ≤ cap) (W : World) : (Instr.sliceAt 71 (.slice (some ⟨g, o, none⟩) n cap) none (some (.int .i64 k)) none).run Try.prog W = .ok (.slice (some ⟨g, o, none⟩) k cap) W := by
  have hu : Try.prog.underlying 71 = some (.slice (Try.prog.elem 71)) := by kernel_rfl
  have hs : (sizeOf (Try.prog.elem 71)).run Try.prog W = .ok 1 W := by kernel_rfl
  rw [run_sliceAt_slice _ _ _ _ _ _ hu, run_slice_h _ _ _ _ _ hu _ _ (by omega) (by omega), hs]
  simp [sliced, Result.andThen, Addr.add]
/-- m rows of n numbers of one's own, the first k of them laid. -/
structure Grid (w : World) (B g m n : Nat) (bl : Nat → Nat) (k : Nat) (f : Nat → Nat → Int) : Prop where
  base : B ≤ g
  outer : w.rowIs g 22 m (fun i => if i < k then .slice (some ⟨bl i, 0, none⟩) n n else .slice none 0 0)
  above : ∀ i, i < k → g < bl i
  inner : ∀ i, i < k → w.rowIs (bl i) 3 n (fun j => .int .i64 (f i j))
  apart : ∀ i j, i < j → j < k → bl i < bl j
theorem Grid.made (w : World) (m n : Nat) : Grid (w.alloc (.cells (madeCells #[Value.slice none 0 0] m) 22)) w.heap.size w.heap.size m n (fun _ => 0) 0 (fun _ _ => 0) where
  base := Nat.le_refl _
  outer := (World.rowIs_made w (.slice none 0 0) m 22).congr fun i _ => by rw [if_neg (Nat.not_lt_zero i)]
  above := fun i hi => absurd hi (Nat.not_lt_zero i)
  inner := fun i hi => absurd hi (Nat.not_lt_zero i)
  apart := fun i j _ hj => absurd hj (Nat.not_lt_zero j)
theorem Grid.congr {w : World} {B g m n : Nat} {bl : Nat → Nat} {k : Nat} {f f' : Nat → Nat → Int} (h : Grid w B g m n bl k f) (e : ∀ i j, i < k → j < n → f i j = f' i j) : Grid w B g m n bl k f' where
  base := h.base
  outer := h.outer
  above := h.above
  inner := fun i hi => (h.inner i hi).congr fun j hj => by rw [e i j hi hj]
  apart := h.apart
theorem Grid.row {w : World} {B g m n : Nat} {bl : Nat → Nat} {k : Nat} {f : Nat → Nat → Int} (h : Grid w B g m n bl k f) :
    Grid ((w.alloc (.cells (madeCells #[Value.int .i64 0] n) 3)).setCell ⟨g, k, none⟩ (.slice (some ⟨w.heap.size, 0, none⟩) n n)) B g m n (fun i => if i = k then w.heap.size else bl i) (k + 1) (fun i j => if i = k then 0 else f i j) where
  base := h.base
  outer := ((h.outer.alloc _).set k _).congr fun i _ => by
    by_cases e : i = k
    · subst e; simp
    · rw [if_neg e]
      by_cases h1 : i < k
      · rw [if_pos h1, if_pos (by omega : i < k + 1), if_neg e]
      · rw [if_neg h1, if_neg (by omega : ¬ i < k + 1)]
  above := fun i hi => by
    by_cases e : i = k
    · rw [if_pos e]; exact h.outer.lt
    · rw [if_neg e]; exact h.above i (by omega)
  inner := fun i hi => by
    by_cases e : i = k
    · rw [if_pos e]
      refine (World.rowIs.setOther ((World.rowIs_made w (.int .i64 0) n 3)) (a := ⟨g, k, none⟩) ?_ _).congr fun j _ => by rw [if_pos e]
      have := h.outer.lt
      show w.heap.size ≠ g
      omega
    · rw [if_neg e]
      refine (World.rowIs.setOther ((h.inner i (by omega)).alloc _) (a := ⟨g, k, none⟩) ?_ _).congr fun j _ => by rw [if_neg e]
      have := h.above i (by omega)
      show bl i ≠ g
      omega
  apart := fun i j hij hj => by
    by_cases e : j = k
    · rw [if_pos e, if_neg (by omega)]; exact (h.inner i (by omega)).lt
    · rw [if_neg e, if_neg (by omega)]; exact h.apart i j hij (by omega)
theorem Grid.ne {w : World} {B g m n : Nat} {bl : Nat → Nat} {k : Nat} {f : Nat → Nat → Int} (h : Grid w B g m n bl k f) {i j : Nat} (hi : i < k) (hj : j < k) (hne : i ≠ j) : bl i ≠ bl j := by
  rcases Nat.lt_or_ge i j with h1 | h1
  · have := h.apart i j h1 hj; omega
  · have := h.apart j i (by omega) hi; omega
theorem Grid.put {w : World} {B g m n : Nat} {bl : Nat → Nat} {k : Nat} {f : Nat → Nat → Int} (h : Grid w B g m n bl k f) {i : Nat} (hi : i < k) (j : Nat) (x : Int) :
    Grid (w.setCell ⟨bl i, j, none⟩ (.int .i64 x)) B g m n bl k (fun a b => if a = i ∧ b = j then x else f a b) where
  base := h.base
  outer := h.outer.setOther (by have := h.above i hi; show g ≠ bl i; omega) _
  above := h.above
  inner := fun a ha => by
    by_cases e : a = i
    · subst e
      refine ((h.inner a ha).set j _).congr fun b _ => ?_
      by_cases e2 : b = j
      · rw [if_pos e2, if_pos ⟨rfl, e2⟩]
      · rw [if_neg e2, if_neg (fun q => e2 q.2)]
    · refine ((h.inner a ha).setOther (a := ⟨bl i, j, none⟩) (h.ne ha hi e) _).congr fun b _ => ?_
      rw [if_neg (fun q => e q.1)]
  apart := h.apart
theorem Grid.fut {w w' : World} {B g m n : Nat} {bl : Nat → Nat} {k : Nat} {f : Nat → Nat → Int} (h : Grid w B g m n bl k f) (F : Fut w w') : Grid w' B g m n bl k f where
  base := h.base
  outer := h.outer.of_block (RowKit.Below.block F _ h.outer.lt)
  above := h.above
  inner := fun i hi => (h.inner i hi).of_block (RowKit.Below.block F _ (h.inner i hi).lt)
  apart := h.apart
theorem Grid.cell {w : World} {B g m n : Nat} {bl : Nat → Nat} {k : Nat} {f : Nat → Nat → Int} (h : Grid w B g m n bl k f) {i : Nat} (hi : i < k) (hm : i < m) : w.cell? ⟨g, i, none⟩ = some (.slice (some ⟨bl i, 0, none⟩) n n) := by
  rw [h.outer.cell hm, if_pos hi]
theorem Grid.at {w : World} {B g m n : Nat} {bl : Nat → Nat} {k : Nat} {f : Nat → Nat → Int} (h : Grid w B g m n bl k f) {i j : Nat} (hi : i < k) (hj : j < n) : w.cell? ⟨bl i, j, none⟩ = some (.int .i64 (f i j)) := (h.inner i hi).cell hj
def gridL (m n : Nat) (f : Nat → Nat → Int) : List (List Int) := (List.range m).map fun i => (List.range n).map fun j => f i j
theorem gridL_len (m n : Nat) (f : Nat → Nat → Int) : (gridL m n f).length = m := by unfold gridL; simp
theorem gridL_lth (m n : Nat) (f : Nat → Nat → Int) (i : Nat) (h : i < m) : lth (gridL m n f) i = (List.range n).map fun j => f i j := by
  rw [lth_eq]; unfold gridL
  rw [List.getElem?_map, List.getElem?_range h]; rfl
theorem Grid.lists {w : World} {B g m n : Nat} {bl : Nat → Nat} {f : Nat → Nat → Int} (h : Grid w B g m n bl m f) (hn : n ≤ 9223372036854775807) : LstC w (some ⟨g, 0, none⟩) (gridL m n f) := fun i hi => by
  rw [gridL_len] at hi
  have e := gridL_lth m n f i hi
  have el : (lth (gridL m n f) i).length = n := by rw [e]; simp
  refine ⟨g, 0, some ⟨bl i, 0, none⟩, n, rfl, h.outer.lt, ?_, by omega, hn, fun j hj => ⟨bl i, 0, rfl, (h.inner i hi).lt, ?_⟩⟩
  · rw [Nat.zero_add, h.cell hi hi, el]
  · rw [el] at hj
    rw [Nat.zero_add, h.at hi hj, e, nth_eq, List.getElem?_map, List.getElem?_range hj]; rfl
/-- what came of a call: lists that can be read, each with room for itself, and a number. -/
abbrev TupLC (r : Int) (zss : List (List Int)) (w : World) (e : Ending) (w' : World) : Prop := ∃ l lc, e = .returned (.tuple #[.slice l zss.length lc, .int .i64 r]) ∧ zss.length ≤ lc ∧ lc ≤ 9223372036854775807 ∧ LstC w' l zss ∧ Fut w w'
theorem TupLC.nil (r : Int) {w w' : World} (F : Fut w w') : TupLC r [] w (.returned (.tuple #[.slice none 0 0, .int .i64 r])) w' := ⟨none, 0, rfl, Nat.le_refl _, by omega, fun j hj => absurd hj (by simp), F⟩
theorem mk_row (n : Nat) (h : n ≤ 1000) (W : World) : (Instr.makeSlice 22 (.int .i64 n) (.int .i64 n)).run Try.prog W = .ok (.slice (some ⟨W.heap.size, 0, none⟩) n n) (W.alloc (.cells (madeCells #[.int .i64 0] n) 3)) :=
  run_make_row' 22 3 (.int .i64 0) 8 Try.underlying22 info3 rfl .i64 .i64 n (by omega) (by omega) W
theorem mk_rows (n : Nat) (h : n ≤ 1000) (W : World) : (Instr.makeSlice 71 (.int .i64 n) (.int .i64 n)).run Try.prog W = .ok (.slice (some ⟨W.heap.size, 0, none⟩) n n) (W.alloc (.cells (madeCells #[.slice none 0 0] n) 22)) :=
  run_make_row' 71 22 (.slice none 0 0) 24 Try.underlying71 info22 rfl .i64 .i64 n (by omega) (by omega) W
/-- a grid, whole: lists of one's own. -/
def OwnG (w : World) (B : Nat) (v : Value) (m n : Nat) (f : Nat → Nat → Int) : Prop := ∃ g bl, v = .slice (some ⟨g, 0, none⟩) m m ∧ Grid w B g m n bl m f
theorem cell_one {w : World} {b : Nat} {x : Value} (h : w.cell? ⟨b, 0, none⟩ = some x) : ∀ j u, [x][j]? = some u → w.cell? ((⟨b, 0, none⟩ : Addr).add j) = some u := fun j u hj => by
  match j, hj with
  | 0, hj =>
    simp at hj
    subst hj
    rw [Addr.add_lit]; exact h
theorem Owns.form {w : World} {B : Nat} {v : Value} {zs : List Int} (h : Owns w B v zs) : ∃ a cap, v = .slice a zs.length cap ∧ zs.length ≤ cap ∧ cap ≤ maxLen ∧ IntsAt w a zs := by
  obtain ⟨a, cap, rfl, hI⟩ := h.ints
  refine ⟨a, cap, rfl, ?_, ?_, hI⟩
  · rcases h.2 with ⟨e, h0⟩ | ⟨g, cap', cur, e, hb, hg, hn, hm, _⟩
    · injection e with _ e2 e3; omega
    · injection e with _ _ e3; omega
  · rcases h.2 with ⟨e, h0⟩ | ⟨g, cap', cur, e, hb, hg, hn, hm, _⟩
    · injection e with _ e2 e3; subst e3; unfold maxLen; omega
    · injection e with _ _ e3; omega
theorem grown_set {w w' : World} {g k : Nat} {v : Value} (h : w.grownBy w' (some g)) : w.grownBy (w'.setCell ⟨g, k, none⟩ v) (some g) :=
  ⟨h.os, h.tape, h.output, by rw [show (w'.setCell ⟨g, k, none⟩ v).heap.size = w'.heap.size by simp [World.setCell]]; exact h.size, fun j hj hne => by
    rw [RowKit.Below.heap_setCell _ _ _ _ (fun e => hne (by rw [e]))]
    exact h.block j hj hne⟩
theorem grown_far {w w' w'' : World} {g : Nat} {v : Value} {n : Nat} {xs : List Value} (h : w.grownBy w' (some g)) (h' : w'.grownBy w'' v.ownBlock) (hv : w'.ownsRow w.heap.size 3 1 v n xs) : w.grownBy w'' (some g) := by
  refine ⟨h'.os.trans h.os, h'.tape.trans h.tape, h'.output.trans h.output, Nat.le_trans h.size h'.size, fun k hk hne => ?_⟩
  rw [h'.block k (Nat.lt_of_lt_of_le hk h.size) ?_]
  · exact h.block k hk hne
  · intro e
    have := (hv.lt k e.symm).1
    omega
section
open Go.Joins Go.ChangeShapes Go.WideShapes Go.ChangeAt
theorem cT3 : Try.prog.cellsOf 3 = 1 := by kernel_rfl
theorem cT22 : Try.prog.cellsOf 22 = 1 := by kernel_rfl
theorem cT71 : Try.prog.cellsOf 71 = 1 := by kernel_rfl
set_option maxRecDepth 100000 in
/-- a list of numbers that was read. -/
theorem open_slc {H : Type} {enc : TypeId × Value → H} {w : World} {fuel : Nat} {cs : List Value} {x : DataW H × List MemPlace}
    (hf : DataW.trod enc Try.prog w 0 (fun _ => true) true fuel 22 cs = some x) :
    ∃ a cap zs, cs = [.slice a (List.length zs) cap] ∧ zs.length ≤ cap ∧ cap ≤ 9223372036854775807 ∧ IntsAt w a zs := by
  rcases open_ints Try.underlying22 Try.underlying3 cT3 hf with ⟨hcs, _⟩ | ⟨a, len, cap, zs, hcs, _, hl, hm, hz, _, hcell, _⟩
  · exact ⟨none, 0, [], hcs, by simp, by omega, fun j hj => absurd hj (by simp)⟩
  · simp only [if_true] at hz
    unfold maxLen at hm
    have hlt : (zs.take len).length = len := by rw [List.length_take]; omega
    refine ⟨some a, cap, zs.take len, by rw [hlt]; exact hcs, by omega, by omega, fun j hj => ?_⟩
    rw [hlt] at hj
    have hc0 := hcell 0 (by omega)
    have hc := hcell j (by omega)
    obtain ⟨b, off, spot⟩ := a
    have hspot : spot = none := by simpa [Addr.add] using World.cell?_spot hc0
    subst hspot
    have hadd : (⟨b, off, none⟩ : Addr).add j = ⟨b, off + j, none⟩ := by unfold Addr.add; split <;> simp_all
    rw [hadd] at hc
    refine ⟨b, off, rfl, World.block_lt_of_cell? _ _ hc, ?_⟩
    have e : nth (zs.take len) j = zs.getD j 0 := by rw [nth_eq, List.getElem?_take, if_pos hj, List.getD_eq_getElem?_getD]
    rw [e]
    exact hc
set_option maxRecDepth 100000 in
/-- lists that came in. -/
theorem open_lls {H : Type} {enc : TypeId × Value → H} {w : World} {b0 : Nat} {r : Reach} {v : Value} {d : DataW H} {p : List MemPlace}
    (hv : Value.okWide Try.prog w r b0 71 v) (h : DataW.Trod enc Try.prog w 0 (fun _ => true) true 71 v d p) :
    ∃ a cap zss, v = .slice a (List.length zss) cap ∧ zss.length ≤ cap ∧ cap ≤ 9223372036854775807 ∧ LstC w a zss := by
  obtain ⟨a0, len0, cap0, rfl⟩ := okWide_slice Try.underlying71 hv
  obtain ⟨fuel, hf⟩ := h
  rcases DataW.trod_slice Try.underlying71 hf with ⟨hcs, _⟩ | ⟨a, len, cap, elems, rest, n, _, hcs, _, _, hl, hm, hlen, hel, _, _⟩
  · simp [Value.cells] at hcs
    obtain ⟨rfl, rfl, rfl⟩ := hcs
    exact ⟨none, 0, [], rfl, by simp, by omega, fun j hj => absurd hj (by simp)⟩
  · simp [Value.cells] at hcs
    obtain ⟨rfl, rfl, rfl⟩ := hcs
    unfold maxLen at hm
    have each : ∀ i, i < len0 → ∃ zs : List Int, ∃ l lc, w.cell? ((a.add (i * 1)).add 0) = some (.slice l zs.length lc) ∧ (zs.length ≤ lc ∧ lc ≤ 9223372036854775807) ∧ IntsAt w l zs := fun i hi => by
      have := hel i hi
      rw [cT22, List.getElem?_eq_getElem (by omega), Option.bind_eq_some_iff] at this
      obtain ⟨cs, hcs, hy⟩ := this
      obtain ⟨_, hl1, hc⟩ := World.cells?_some hcs
      obtain ⟨l, lc, zs, rfl, hz1, hz2, hI⟩ := open_slc hy
      have c0 := hc 0 (by decide)
      exact ⟨zs, l, lc, by simpa using c0, ⟨hz1, hz2⟩, hI⟩
    have hex : ∃ zss : List (List Int), zss.length = len0 ∧ ∀ i, i < len0 → ∃ l lc, w.cell? ((a.add (i * 1)).add 0) = some (.slice l (lth zss i).length lc) ∧ ((lth zss i).length ≤ lc ∧ lc ≤ 9223372036854775807) ∧ IntsAt w l (lth zss i) := by
      refine ⟨(List.range len0).map fun i => if hi : i < len0 then (each i hi).choose else [], by simp, fun i hi => ?_⟩
      · have e : lth ((List.range len0).map fun i => if hi : i < len0 then (each i hi).choose else []) i = (each i hi).choose := by
          rw [lth_eq, List.getElem?_map, List.getElem?_range hi]
          simp [hi]
        rw [e]
        exact (each i hi).choose_spec
    obtain ⟨zss, rfl, hc⟩ := hex
    refine ⟨some a, cap0, zss, rfl, by omega, by omega, fun j hj => ?_⟩
    obtain ⟨l, lc, c0, hz, hI⟩ := hc j hj
    obtain ⟨b, off, spot⟩ := a
    have hspot : spot = none := by
      obtain ⟨_, _, c, _⟩ := hc 0 (by omega)
      simpa [Addr.add] using World.cell?_spot c
    subst hspot
    have hadd : ∀ o k, (⟨b, o, none⟩ : Addr).add k = ⟨b, o + k, none⟩ := fun o k => by unfold Addr.add; split <;> simp_all
    rw [hadd, hadd, Nat.mul_one, Nat.add_zero] at c0
    exact ⟨b, off, l, lc, rfl, World.block_lt_of_cell? _ _ c0, c0, hz.1, hz.2, hI⟩
end
theorem lth_ext {xss yss : List (List Int)} (hl : xss.length = yss.length) (h : ∀ j, j < xss.length → lth xss j = lth yss j) : xss = yss := by
  apply List.ext_getElem hl
  intro i h1 h2
  have := h i h1
  rw [lth_eq, lth_eq, List.getElem?_eq_getElem h1, List.getElem?_eq_getElem h2] at this
  exact this
theorem Elems.fut {w w' : World} {B : Nat} {vals : List Value} {zss : List (List Int)} (h : Elems w B vals zss) (F : Fut w w') : Elems w' B vals zss :=
  ⟨h.1, fun j hj => by obtain ⟨u, e, hu⟩ := h.2 j hj; exact ⟨u, e, hu.fut F⟩⟩
theorem row_fut {w w' : World} {B size : Nat} {e : TypeId} {v : Value} {n : Nat} {xs : List Value} (h : w.ownsRow B e size v n xs) (F : Fut w w') : w'.ownsRow B e size v n xs := by
  refine World.ownsRow.kept h (row := none) ⟨F.os, F.tape, F.output, F.size, fun k hk _ => F.block k hk⟩ ?_
  rcases hv : v.ownBlock with _ | k
  · exact .inl rfl
  · exact .inr (by simp)
theorem OwnL.listsC {w : World} {B : Nat} {v : Value} {zss : List (List Int)} (h : OwnL w B v zss) : ∃ l lc, v = .slice l zss.length lc ∧ zss.length ≤ lc ∧ lc ≤ 9223372036854775807 ∧ LstC w l zss := by
  obtain ⟨vals, h1, h2, h3⟩ := h
  have h1' := h1
  rcases h1.2 with ⟨rfl, h0⟩ | ⟨g, cap, cur, rfl, hb, hg, hn, hm, _⟩
  · exact ⟨none, 0, by rw [h0], by omega, by omega, fun j hj => by omega⟩
  · refine ⟨_, cap, rfl, hn, by unfold maxLen at hm; omega, fun j hj => ?_⟩
    obtain ⟨u, e, hu⟩ := h3 j hj
    obtain ⟨a, ac, eu, q1, q2, hI⟩ := hu.form
    refine ⟨g, 0, a, ac, rfl, (Array.getElem?_eq_some_iff.1 hg).1, ?_, q1, by unfold maxLen at q2; omega, hI⟩
    rw [Nat.zero_add, World.ownsRow.cellAt h1' j (by omega), e, eu]
theorem lst_one {w : World} {b : Nat} {l : Option Addr} {zs : List Int} {lc : Nat} (hb : b < w.heap.size) (hc : w.cell? ⟨b, 0, none⟩ = some (.slice l zs.length lc)) (h1 : zs.length ≤ lc) (h2 : lc ≤ 9223372036854775807) (hI : IntsAt w l zs) : LstC w (some ⟨b, 0, none⟩) [zs] := fun j hj => by
  obtain rfl : j = 0 := by simp at hj; exact hj
  exact ⟨b, 0, l, lc, rfl, hb, hc, h1, h2, hI⟩
theorem lst_two {w : World} {b : Nat} {l k : Option Addr} {zs ys : List Int} {lc kc : Nat} (hb : b < w.heap.size) (hc : w.cell? ⟨b, 0, none⟩ = some (.slice l zs.length lc)) (h1 : zs.length ≤ lc) (h2 : lc ≤ 9223372036854775807) (hI : IntsAt w l zs)
    (hd : w.cell? ⟨b, 1, none⟩ = some (.slice k ys.length kc)) (g1 : ys.length ≤ kc) (g2 : kc ≤ 9223372036854775807) (hK : IntsAt w k ys) : LstC w (some ⟨b, 0, none⟩) [zs, ys] := fun j hj => by
  match j, hj with
  | 0, _ => exact ⟨b, 0, l, lc, rfl, hb, hc, h1, h2, hI⟩
  | 1, _ => exact ⟨b, 0, k, kc, rfl, hb, hd, g1, g2, hK⟩
  | j + 2, hj => exact absurd hj (by simp)
end Go.Proofs.Ytjapconhehdcjaa
