/- the base of stage 3: readings, lists, grids; Check, Corner, Turned, Round, Free, the search and its parts, Full, Fill, Why, Proves (BA to BO, merged) -/
import Derived.Test.YtpgifeaejjjjnaaRows
import Derived.WalkKit
import Derived.WalkSpells
import Derived.WalkLawsBesides
import Derived.RegionTactic
import Derived.BigRegion
import Derived.Deep.RegionHeld3
import Derived.Deep.RegionWith
import Derived.Deep.QuietTactic
import Derived.BigQuiet
import Derived.Lib.Hide
import Derived.IntWalk
import Derived.Deep.DeepCutAuto
import Derived.Deep.AppendLies
import Derived.Deep.CutBlock
import Derived.Deep.RegionLawGrows
import Derived.StillTailTactics
import Derived.Deep.OwnRows
import Derived.Laws.OwnMore
import Derived.OwnWalk
import Derived.StillTactics
import Derived.Laws.EntriesVeiled
namespace Go.Sort
end Go.Sort
namespace Go.Proofs.Ytpgifeaejjjjnaa
open Go.RowKit Go.Sort
section
theorem bcell {W w1 : World} (hb : Below W.heap.size W w1) : (∀ b o, b < W.heap.size → w1.cell? ⟨b, o, none⟩ = W.cell? ⟨b, o, none⟩) ∧ (∀ b o, b < W.heap.size → w1.frozen? ⟨b, o, none⟩ = W.frozen? ⟨b, o, none⟩) :=
        ⟨fun b o h => hb.cell (p := ⟨b, o, none⟩) h, fun b o h => hb.frozen (p := ⟨b, o, none⟩) h⟩
/-- a list's element. -/
def nth (zs : List Int) (k : Nat) : Int := zs[k]?.getD 0
theorem nth_eq (zs : List Int) (k : Nat) : nth zs k = zs[k]?.getD 0 := rfl
/-- the slice at a reads as these numbers. -/
def IntsAt (w : World) (a : Option Addr) (zs : List Int) : Prop :=
  ∀ j, j < zs.length → ∃ b off, a = some ⟨b, off, none⟩ ∧ b < w.heap.size ∧ w.cell? ⟨b, off + j, none⟩ = some (.int .i64 (nth zs j))
theorem IntsAt.below {w w' : World} {a : Option Addr} {zs : List Int} (h : IntsAt w a zs) (hb : Below w.heap.size w w') : IntsAt w' a zs := fun j hj => by
  obtain ⟨b, off, rfl, h1, h2⟩ := h j hj
  exact ⟨b, off, rfl, Nat.lt_of_lt_of_le h1 hb.size, by rw [← h2]; exact hb.cell (p := ⟨b, off + j, none⟩) h1⟩
theorem ret_int {k : IntKind} {a b : Int} (h : a = b) : Ending.returned (.int k a) = .returned (.int k b) := by rw [h]
theorem retb {a b : Bool} (h : a = b) : Ending.returned (.bool a) = .returned (.bool b) := by rw [h]
theorem ret_bool {a b : Bool} (h : a = b) : Ending.returned (.bool a) = .returned (.bool b) := by rw [h]
theorem below_drewN {w w0 : World} {B : Nat} (h : RowKit.Below B w0 w) (n : Nat) : RowKit.Below B w0 (w.drewN n) := h.trans ⟨rfl, rfl, rfl, Nat.le_refl _, fun _ _ => rfl⟩
def Owns (w : World) (B : Nat) (v : Value) (zs : List Int) : Prop := w.ownsRow B 3 1 v zs.length (zs.map (Value.int .i64))
theorem Owns.base {w : World} {B B' : Nat} {v : Value} {zs : List Int} (h : Owns w B v zs) (hB : B' ≤ B) : Owns w B' v zs := by
  obtain ⟨h1, h2⟩ := h
  refine ⟨h1, ?_⟩
  rcases h2 with h2 | ⟨g, cap, cur, h3, h4, h5⟩
  · exact .inl h2
  · exact .inr ⟨g, cap, cur, h3, by omega, h5⟩
/-- w' is w, or w with more in its heap. -/
def Fut (w w' : World) : Prop := RowKit.Below w.heap.size w w'
theorem Fut.rfl {w : World} : Fut w w := RowKit.Below.refl _ _
theorem Fut.trans {a b c : World} (h : Fut a b) (h' : Fut b c) : Fut a c :=
  RowKit.Below.trans h (RowKit.Below.mono h' (RowKit.Below.size h))
theorem Fut.alloc (w : World) (o : Obj) : Fut w (w.alloc o) := RowKit.Below.alloc (RowKit.Below.refl _ _) (Nat.le_refl _) o
theorem Fut.drewN (w : World) (n : Nat) : Fut w (w.drewN n) := below_drewN (RowKit.Below.refl _ _) n
theorem IntsAt.fut {w w' : World} {a : Option Addr} {zs : List Int} (h : IntsAt w a zs) (hb : Fut w w') : IntsAt w' a zs := h.below hb
theorem info3 : (Try.prog.info? 3).map (fun i => (i.zero, i.size, i.bytes)) = some (some (.int .i64 0), 1, 8) := by kernel_rfl
theorem info_parts {t : TypeId} {z : Option Value} {s b : Nat} (h : (Try.prog.info? t).map (fun i => (i.zero, i.size, i.bytes)) = some (z, s, b)) :
    ∃ i, Try.prog.info? t = some i ∧ i.zero = z ∧ i.size = s ∧ i.bytes = b := by
  cases hi : Try.prog.info? t with
  | none => rw [hi] at h; simp at h
  | some i =>
    rw [hi] at h; simp at h
    exact ⟨i, rfl, h.1, h.2.1, h.2.2⟩
theorem nil_ints (w : World) (a : Option Addr) : IntsAt w a [] := fun j hj => absurd hj (by simp)
theorem Owns.ints {w : World} {B : Nat} {v : Value} {zs : List Int} (h : Owns w B v zs) : ∃ a cap, v = .slice a zs.length cap ∧ IntsAt w a zs := by
  obtain ⟨_, h | ⟨g, cap, cur, rfl, _, hg, _, _, _, htake⟩⟩ := h
  · obtain ⟨rfl, h0⟩ := h
    exact ⟨none, 0, by rw [h0], fun j hj => by omega⟩
  · refine ⟨_, cap, rfl, fun j hj => ⟨g, 0, rfl, (Array.getElem?_eq_some_iff.1 hg).1, ?_⟩⟩
    rw [cell_of_row w g _ cur 3 (0, 0) hg, Nat.zero_add]
    have e : (zs.map (Value.int .i64))[j]? = some (.int .i64 (nth zs j)) := by rw [nth_eq]; simp [hj]
    rw [← e, ← htake, List.getElem?_take]
    simp; omega
theorem Owns.fut {w w' : World} {B : Nat} {v : Value} {zs : List Int} (h : Owns w B v zs) (F : Fut w w') : Owns w' B v zs := by
  obtain ⟨h1, h2⟩ := h
  refine ⟨h1, ?_⟩
  rcases h2 with h2 | ⟨g, cap, cur, h3, h4, h5, h6⟩
  · exact .inl h2
  · exact .inr ⟨g, cap, cur, h3, h4, by rw [F.block g (Array.getElem?_eq_some_iff.1 h5).1]; exact h5, h6⟩
theorem Fut.trans' {a b c : World} (h : Fut a b) {B : Nat} (h' : RowKit.Below B b c) (hB : a.heap.size ≤ B) : Fut a c :=
  RowKit.Below.trans h (RowKit.Below.mono h' hB)
theorem maxL {n : Nat} (h : n ≤ 200000) : n + 1 ≤ maxLen := by unfold maxLen; omega
def oftL (n : Nat) (zs : List Int) : List Int := (List.range n).map fun (i : Nat) => ((zs.count (i : Int) : Nat) : Int)
theorem oft_len (n : Nat) (zs : List Int) : (oftL n zs).length = n := by unfold oftL; simp
theorem oft_nth (n : Nat) (zs : List Int) (i : Nat) (h : i < n) : nth (oftL n zs) i = ((zs.count (i : Int) : Nat) : Int) := by
  rw [nth_eq]; unfold oftL; simp [h]
theorem oft_nil (n : Nat) : (oftL n []).map (Value.int .i64) = List.replicate n (.int .i64 0) := by
  unfold oftL
  rw [List.map_map]
  apply List.ext_getElem
  · simp
  · intro j h1 h2; simp
theorem made_own (w : World) (n : Nat) (h : n ≤ 1000) : Owns (w.alloc (.cells (madeCells #[Value.int .i64 0] n) 3)) w.heap.size (.slice (some ⟨w.heap.size, 0, none⟩) n n) (oftL n []) := by
  have e : (madeCells #[Value.int .i64 0] n).toList = List.replicate n (.int .i64 0) := by
    apply List.ext_getElem
    · simp [madeCells]
    · intro j h1 h2; simp [madeCells, Nat.mod_one]
  have hs : (madeCells #[Value.int .i64 0] n).size = n * 1 := by rw [← Array.length_toList, e]; simp
  have := World.ownsRow_lit (base := w.heap.size) (e := 3) (size := 1) w (madeCells #[Value.int .i64 0] n) n (Nat.le_refl _) (by unfold maxLen; omega) hs
  unfold Owns
  rw [oft_nil, oft_len, ← e]
  exact this
theorem own_at {w : World} {B g n : Nat} {L : List Int} (h : Owns w B (.slice (some ⟨g, 0, none⟩) n n) L) (hn : L.length = n) (z : Nat) (hz : z < n) :
    w.cell? ⟨g, z, none⟩ = some (.int .i64 (nth L z)) ∧ w.frozen? ⟨g, z, none⟩ = false ∧ g < w.heap.size := by
  unfold Owns at h
  rw [hn] at h
  have h1 := h.cellAt z (by omega)
  refine ⟨?_, h.frozenAt z, (h.lt g rfl).2⟩
  rw [h1, nth_eq]
  simp [List.getElem?_eq_getElem (show z < L.length by omega)]
theorem own_set {w : World} {B g n : Nat} {L : List Int} (h : Owns w B (.slice (some ⟨g, 0, none⟩) n n) L) (hn : L.length = n) (z : Nat) (u : Int) :
    Owns (w.setCell ⟨g, z, none⟩ (.int .i64 u)) B (.slice (some ⟨g, 0, none⟩) n n) (L.set z u) := by
  unfold Owns at h ⊢
  rw [hn] at h
  have h1 := (h.stored z (.int .i64 u)).1
  rw [List.length_set, hn, List.map_set]
  exact h1
theorem own_ints {w : World} {B g n : Nat} {L : List Int} (h : Owns w B (.slice (some ⟨g, 0, none⟩) n n) L) (hn : L.length = n) : IntsAt w (some ⟨g, 0, none⟩) L := fun j hj => by
  obtain ⟨h1, _, h3⟩ := own_at h hn j (by omega)
  exact ⟨g, 0, rfl, h3, by rw [Nat.zero_add]; exact h1⟩
/-- a world behind this one: more in its heap, maybe. -/
structure After (w : World) where
  w' : World
  F : Fut w w'
theorem region_fut {id : Nat} {Q : Exit → Act → World → Prop} {a : Act} {w : World} {l : List Oper} (hm : Try.prog.follows .mixedOrders = true) (hB : Region.lexB .any l.toArray = true)
    (h : wpQuiet Try.prog l.toArray (fun w' => ∃ p : After w, w' = p.w') (fun a' => ∀ w', (∃ p : After w, w' = p.w') → Q .normal a' w') l a) : (Code.region id l.toArray true).wp Try.prog Q a w :=
  wp_region_quiet (C := fun w' => ∃ p : After w, w' = p.w') hm hB ⟨⟨_, Fut.drewN w 1⟩, rfl⟩ (by simpa using h)
theorem after_of {f : FuncId} {args : Array Value} {w : World} {p : After w} {v : Value}
    (h : Calls Try.prog f args p.w' fun e w' => e = .returned v ∧ Fut p.w' w') : Calls Try.prog f args p.w' fun e w'' => e = .returned v ∧ ∃ q : After w, w'' = q.w' :=
  h.mono fun _ _ ⟨he, F⟩ => ⟨he, ⟨_, p.F.trans F⟩, rfl⟩
theorem after_same {f : FuncId} {args : Array Value} {w : World} {p : After w} {v : Value}
    (h : Calls Try.prog f args p.w' fun e w' => e = .returned v ∧ p.w' = w') : Calls Try.prog f args p.w' fun e w'' => e = .returned v ∧ ∃ q : After w, w'' = q.w' :=
  h.mono fun _ _ ⟨he, F⟩ => ⟨he, p, F.symm⟩
theorem after_fut {w w2 : World} (h : ∃ p : After w, w2 = p.w') : Fut w w2 := by
  obtain ⟨p, rfl⟩ := h; exact p.F
def lth (zss : List (List Int)) (k : Nat) : List Int := zss[k]?.getD []
theorem lth_eq (zss : List (List Int)) (k : Nat) : lth zss k = zss[k]?.getD [] := rfl
theorem lth_drop (zss : List (List Int)) (k : Nat) (hk : k < zss.length) : zss.drop k = lth zss k :: zss.drop (k + 1) := by
  rw [lth_eq, List.getElem?_eq_getElem hk]
  exact List.drop_eq_getElem_cons hk
/-- the slice at a reads as these lists. -/
def LstAt (w : World) (a : Option Addr) (zss : List (List Int)) : Prop :=
  ∀ j, j < zss.length → ∃ b off l lc, a = some ⟨b, off, none⟩ ∧ b < w.heap.size ∧ w.cell? ⟨b, off + j, none⟩ = some (.slice l (lth zss j).length lc) ∧ IntsAt w l (lth zss j)
theorem LstAt.fut {w w' : World} {a : Option Addr} {zss : List (List Int)} (h : LstAt w a zss) (F : Fut w w') : LstAt w' a zss := fun j hj => by
  obtain ⟨b, off, l, lc, rfl, h1, h2, h3⟩ := h j hj
  exact ⟨b, off, l, lc, rfl, Nat.lt_of_lt_of_le h1 (RowKit.Below.size F), (RowKit.Below.cell F (p := ⟨b, off + j, none⟩) h1).trans h2, h3.fut F⟩
theorem info28 : (Try.prog.info? 28).map (fun i => (i.zero, i.size, i.bytes)) = some (some (.slice none 0 0), 1, 24) := by kernel_rfl
/-- the lists of a proof. -/
def Elems (w : World) (B : Nat) (vals : List Value) (zss : List (List Int)) : Prop := vals.length = zss.length ∧ ∀ j, j < zss.length → ∃ v, vals[j]? = some v ∧ Owns w B v (lth zss j)
def OwnL (w : World) (B : Nat) (v : Value) (zss : List (List Int)) : Prop := ∃ vals, w.ownsRow B 28 1 v zss.length vals ∧ Elems w B vals zss
theorem OwnL.nil (w : World) (B : Nat) : OwnL w B (.slice none 0 0) [] := ⟨[], World.ownsRow_nil _ _ _ _, rfl, fun j hj => absurd hj (by simp)⟩
theorem Owns.grown {w w' : World} {B bm : Nat} {v : Value} {zs : List Int} (h : Owns w B v zs) (g : w.grownBy w' (some bm)) (hb : bm < B) : Owns w' B v zs := by
  refine World.ownsRow.kept h g ?_
  rcases hv : v.ownBlock with _ | k
  · exact .inl rfl
  · refine .inr fun e => ?_
    have := (h.lt k hv).1
    simp at e
    omega
theorem OwnL.grown {w w' : World} {B bm : Nat} {v : Value} {zss : List (List Int)} (h : OwnL w B v zss) (g : w.grownBy w' (some bm)) (hb : bm < B) : OwnL w' B v zss := by
  obtain ⟨vals, h1, h2, h3⟩ := h
  refine ⟨vals, World.ownsRow.kept h1 g ?_, h2, fun j hj => ?_⟩
  · rcases hv : v.ownBlock with _ | k
    · exact .inl rfl
    · refine .inr fun e => ?_
      have := (h1.lt k hv).1
      simp at e
      omega
  · obtain ⟨u, e, hu⟩ := h3 j hj
    exact ⟨u, e, hu.grown g hb⟩
theorem OwnL.fut {w w' : World} {B : Nat} {v : Value} {zss : List (List Int)} (h : OwnL w B v zss) (F : Fut w w') : OwnL w' B v zss := by
  obtain ⟨vals, h1, h2, h3⟩ := h
  refine ⟨vals, World.ownsRow.kept h1 (row := none) ⟨F.os, F.tape, F.output, F.size, fun k hk _ => F.block k hk⟩ ?_, h2, fun j hj => ?_⟩
  · rcases hv : v.ownBlock with _ | k
    · exact .inl rfl
    · exact .inr (by simp)
  · obtain ⟨u, e, hu⟩ := h3 j hj
    exact ⟨u, e, hu.fut F⟩
theorem own_apart {w : World} {B B' : Nat} {v u : Value} {zs : List Int} {n : Nat} {xs : List Value} (h : Owns w B v zs) (h' : w.ownsRow B' 28 1 u n xs) : v.ownBlock = none ∨ v.ownBlock ≠ u.ownBlock := by
  rcases h.2 with ⟨rfl, _⟩ | ⟨g, cap, cur, rfl, _, hg, _⟩
  · exact .inl rfl
  · rcases h'.2 with ⟨rfl, _⟩ | ⟨g', cap', cur', rfl, _, hg', _⟩
    · exact .inr (by simp [Value.ownBlock])
    · refine .inr fun e => ?_
      simp [Value.ownBlock] at e
      rw [e, hg'] at hg
      simp at hg
theorem Elems.app {w w' : World} {B : Nat} {vals : List Value} {zss : List (List Int)} {u nv : Value} {zs : List Int} {n : Nat} {xs : List Value} (h : Elems w B vals zss) (hn : Owns w B nv zs) (hu : w.ownsRow B 28 1 u n xs) (g : w.grownBy w' u.ownBlock) : Elems w' B (vals ++ [nv]) (zss ++ [zs]) := by
  obtain ⟨h1, h2⟩ := h
  refine ⟨by simp [h1], fun j hj => ?_⟩
  by_cases hlt : j < zss.length
  · obtain ⟨v, e, hv⟩ := h2 j hlt
    refine ⟨v, ?_, ?_⟩
    · rw [List.getElem?_append_left (by omega)]; exact e
    · have : lth (zss ++ [zs]) j = lth zss j := by rw [lth_eq, lth_eq, List.getElem?_append_left hlt]
      rw [this]
      exact World.ownsRow.kept hv g (own_apart hv hu)
  · have hj' : j = zss.length := by simp at hj; omega
    subst hj'
    refine ⟨nv, ?_, ?_⟩
    · rw [← h1, List.getElem?_append_right (Nat.le_refl _)]; simp
    · have : lth (zss ++ [zs]) zss.length = zs := by rw [lth_eq, List.getElem?_append_right (Nat.le_refl _)]; simp
      rw [this]
      exact World.ownsRow.kept hn g (own_apart hn hu)
theorem OwnL.lists {w : World} {B : Nat} {v : Value} {zss : List (List Int)} (h : OwnL w B v zss) : ∃ l lc, v = .slice l zss.length lc ∧ LstAt w l zss := by
  obtain ⟨vals, h1, h2, h3⟩ := h
  rcases h1.2 with ⟨rfl, h0⟩ | ⟨g, cap, cur, rfl, hb, hg, hr⟩
  · exact ⟨none, 0, by rw [h0], fun j hj => by omega⟩
  · refine ⟨_, cap, rfl, fun j hj => ?_⟩
    obtain ⟨u, e, hu⟩ := h3 j hj
    obtain ⟨l, lc, rfl, hI⟩ := hu.ints
    refine ⟨g, 0, l, lc, rfl, (Array.getElem?_eq_some_iff.1 hg).1, ?_, hI⟩
    rw [Nat.zero_add, World.ownsRow.cellAt h1 j (by omega)]
    exact e
theorem nil_lists (w : World) (a : Option Addr) : LstAt w a [] := fun j hj => absurd hj (by simp)
/-- a list of numbers and an error. -/
abbrev TupL (r : Int) (L : List Int) (w : World) (e : Ending) (w' : World) : Prop := ∃ l cap, e = .returned (.tuple #[.slice l L.length cap, .int .i64 r]) ∧ IntsAt w' l L ∧ Fut w w'
/-- lists of numbers, and an error. -/
abbrev TupLL (r : Int) (zss : List (List Int)) (w : World) (e : Ending) (w' : World) : Prop := ∃ l lc, e = .returned (.tuple #[.slice l zss.length lc, .int .i64 r]) ∧ LstAt w' l zss ∧ Fut w w'
theorem nth_drop (zs : List Int) (k : Nat) (hk : k < zs.length) : zs.drop k = nth zs k :: zs.drop (k + 1) := by
  rw [nth_eq, List.getElem?_eq_getElem hk]
  exact List.drop_eq_getElem_cons hk
def inB (c x : Int) : Bool := decide (0 ≤ x) && decide (x < c)
theorem isIndex_any (i n : Int) (w : World) : Calls Try.prog 91 #[.int .i64 i, .int .i64 n] w fun e w' => e = .returned (.bool (inB n i)) ∧ w = w' := by
  go_enter Try.func91, Try.ntmps91
  go_wp2
  all_goals
    go_ret
    exact ⟨retb (by simp [inB]; omega), rfl⟩
theorem cont_any (a : Option Addr) (cap : Nat) (zs : List Int) (x : Int) (w : World) (hA : IntsAt w a zs) (hl : zs.length ≤ 1000) :
    Calls Try.prog 94 #[.slice a zs.length cap, .int .i64 x] w fun e w' => ∃ r : Int, e = .returned (.int .i64 r) ∧ decide (0 ≤ r) = zs.contains x ∧ w = w' := by
  have HA := Lib.hid hA
  have hlx : (zs.length : Int) ≤ 1000 := by omega
  clear hA
  generalize hE : zs.contains x = E at *
  have HE := Lib.hid hE
  clear hE
  go_enter Try.func94, Try.ntmps94
  go_wp2_with fail
  go_loop [8] (fun iv => ∃ k : Nat, k ≤ zs.length ∧ iv = .int .i64 k ∧ Hid ((zs.drop k).contains x = E)) (fun iv => zs.length - (intOf iv).toNat)
  case atStart => exact ⟨0, Nat.zero_le _, rfl, HE⟩
  case round =>
    obtain ⟨k, hk, rfl, HO⟩ := hrel
    by_cases hlt : k < zs.length
    · have hkx : (k : Int) < zs.length := by omega
      obtain ⟨b, off, ea, hb, c1⟩ := HA.out k hlt
      subst ea
      have hd := nth_drop zs k hlt
      rw [hd, List.contains_cons] at HO
      generalize nth zs k = z at *
      clear hd HA
      by_cases hq : x = z
      · have hb2 : (x == z) = true := by rw [hq]; simp
        rw [hb2, Bool.true_or] at HO
        have hE : E = true := HO.out.symm
        subst hE
        subst hq
        clear hb2
        go_wp2
        go_ret
        exact ⟨_, rfl, by simp, rfl⟩
      · have hb2 : (x == z) = false := by rw [beq_eq_false_iff_ne]; exact hq
        rw [hb2, Bool.false_or] at HO
        go_wp2
        go_round
        case rel => exact ⟨k + 1, by omega, by go_num, HO⟩
        case measure => simp [intOf]; omega
    · obtain rfl : k = zs.length := by omega
      rw [List.drop_of_length_le (Nat.le_refl _)] at HO
      have hE : E = false := HO.out.symm
      subst hE
      go_wp2
      go_ret
      exact ⟨_, rfl, by simp, rfl⟩
theorem contains_any (a : Option Addr) (cap : Nat) (zs : List Int) (x : Int) (w : World) (hA : IntsAt w a zs) (hl : zs.length ≤ 1000) :
    Calls Try.prog 51 #[.slice a zs.length cap, .int .i64 x] w fun e w' => e = .returned (.bool (zs.contains x)) ∧ w = w' := by
  have H := Lib.hid (cont_any a cap zs x w hA hl)
  clear hA
  generalize zs.contains x = E at *
  go_enter Try.func51, Try.ntmps51
  go_wp2_with fail
  refine H.out.mono ?_
  rintro _ _ ⟨r, rfl, hr, rfl⟩
  have HR := Lib.hid hr
  clear hr
  go_wp2
  go_ret
  exact ⟨retb HR.out, rfl⟩
theorem ints_new (w : World) (zs : List Int) : IntsAt (w.alloc (.cells (zs.map (Value.int .i64)).toArray 3)) (some ⟨w.heap.size, 0, none⟩) zs := fun j hj => by
  refine ⟨w.heap.size, 0, rfl, by simp, ?_⟩
  rw [World.cell?_alloc_at _ _ _ _ rfl, Nat.zero_add, nth_eq]
  simp [hj]
theorem list_id (v : Value) (w : World) : Calls Try.prog 56 #[v] w fun e w' => e = .returned v ∧ w = w' := by
  go_enter Try.func56, Try.ntmps56
  go_wp2
  go_ret
  exact ⟨rfl, rfl⟩
def sameB (xs ys : List Int) : Bool := decide (xs = ys)
theorem same_any (a c : Option Addr) (cap dap : Nat) (xs ys : List Int) (w : World) (hx : xs.length ≤ 9223372036854775807) (_hy : ys.length ≤ 9223372036854775807) (hA : IntsAt w a xs) (hC : IntsAt w c ys) :
    Calls Try.prog 23 #[.slice a xs.length cap, .slice c ys.length dap] w fun e w' => e = .returned (.bool (sameB xs ys)) ∧ ∃ q, w' = w.drewN q := by
  by_cases hl : xs.length = ys.length
  · have hne : ((xs.length : Int) != ys.length) = false := by simp; omega
    have HS : Hid (∀ b, (xs = ys ↔ b = true) → sameB xs ys = b) := fun b h => by unfold sameB; cases b <;> simp_all
    generalize sameB xs ys = r at HS ⊢
    have HL := Lib.hid hl
    have HA := Lib.hid hA
    have HC := Lib.hid hC
    clear hl hA hC
    go_enter Try.func23, Try.ntmps23
    go_wp2
    go_loopw [5] (fun iv wr => ∃ (k q : Nat), k ≤ xs.length ∧ iv = .int .i64 k ∧ wr = w.drewN q ∧ Hid (∀ j, j < k → nth xs j = nth ys j)) (fun iv _ => xs.length - (intOf iv).toNat)
    case atStart => exact ⟨0, 0, Nat.zero_le _, rfl, rfl, fun j hj => absurd hj (Nat.not_lt_zero _)⟩
    case round =>
      obtain ⟨k, q, hk, rfl, rfl, hal⟩ := hrel
      by_cases hlt : k < xs.length
      · obtain ⟨b, off, rfl, hb, hcell⟩ := HA.out k hlt
        obtain ⟨b', off', rfl, hb', hcell'⟩ := HC.out k (by have := HL.out; omega)
        have hky : (k : Int) < ys.length := by have := HL.out; omega
        have hkx : (k : Int) < xs.length := by omega
        have p1 : (w.drewN q).cell? ⟨b, off + k, none⟩ = some (.int .i64 (nth xs k)) := hcell
        have p2 : (w.drewN q).cell? ⟨b', off' + k, none⟩ = some (.int .i64 (nth ys k)) := hcell'
        clear hcell hcell'
        generalize hw : w.drewN q = wq at p1 p2
        have HW := Lib.hid hw
        clear hw
        by_cases he : nth xs k = nth ys k
        · have hne2 : (nth xs k != nth ys k) = false := by simpa using he
          have HN : Hid (∀ j, j < k + 1 → nth xs j = nth ys j) := fun j hj => by
            by_cases e : j = k
            · subst e; exact he
            · exact hal.out j (by omega)
          clear he
          go_wp2_with fail
          go_quiet (fail)
          go_wp2
          go_roundw
          case rel => exact ⟨k + 1, q + nq, by omega, by go_num, by rw [← HW.out, World.drewN_drewN], HN⟩
          case measure => simp [intOf]; omega
        · have hne2 : (nth xs k != nth ys k) = true := by simpa using he
          have E : Hid (r = false) := HS.out false ⟨fun h => absurd (by rw [h]) he, fun h => by cases h⟩
          clear he
          go_wp2_with fail
          go_quiet (fail)
          go_wp2
          go_ret
          exact ⟨ret_bool E.out.symm, q + nq, by rw [← HW.out, World.drewN_drewN]⟩
      · have E : Hid (r = true) := HS.out true ⟨fun _ => rfl, fun _ => by
          apply List.ext_getElem HL.out
          intro j h1 h2
          have := hal.out j (by omega)
          unfold nth at this
          rw [List.getElem?_eq_getElem h1, List.getElem?_eq_getElem h2] at this
          exact this⟩
        clear hal
        go_wp2
        go_ret
        exact ⟨ret_bool E.out.symm, q, rfl⟩
  · have hne : ((xs.length : Int) != ys.length) = true := by simp; omega
    have e : sameB xs ys = false := by unfold sameB; rw [decide_eq_false_iff_not]; intro h; exact hl (by rw [h])
    rw [e]
    clear hl e hA hC
    go_enter Try.func23, Try.ntmps23
    go_wp2
    go_ret
    exact ⟨rfl, 0, rfl⟩
theorem row_form {w : World} {B size : Nat} {e : TypeId} {v : Value} {n : Nat} {xs : List Value} (h : w.ownsRow B e size v n xs) : ∃ a c, v = .slice a n c := by
  rcases h.2 with ⟨rfl, h0⟩ | ⟨g, cap, cur, rfl, _⟩
  · exact ⟨none, 0, by rw [h0]⟩
  · exact ⟨_, _, rfl⟩

end
section
/-- the errors that plans and corners share. -/
def sizeE (c : Int) (n : Nat) : Int := if c < 1 ∨ 5 < c then 1 else if c < n then 3 else 0
theorem size_any (c : Int) (a : Option Addr) (n cap : Nat) (w : World) : Calls Try.prog 76 #[.int .i64 c, .slice a n cap] w fun e w' => e = .returned (.int .i64 (sizeE c n)) ∧ w = w' := by
  unfold sizeE
  go_enter Try.func76, Try.ntmps76
  go_wp2
  all_goals
    go_ret
    refine ⟨ret_int ?_, rfl⟩
    (repeat' split) <;> first | rfl | omega
theorem cell_after {w : World} {b o : Nat} {v : Value} (h : w.cell? ⟨b, o, none⟩ = some v) : ∀ p : After w, p.w'.cell? ⟨b, o, none⟩ = some v := fun p =>
  (RowKit.Below.cell p.F (p := ⟨b, o, none⟩) (World.block_lt_of_cell? _ _ h)).trans h
/-- isTaken's question to one list. -/
theorem lit_any (a : Option Addr) (cap : Nat) (zs : List Int) (d : Nat) (s : Int) (B S : Nat) (w : World) (hA : IntsAt w a zs) (hd : d < zs.length)
    (hB : w.cell? ⟨B, 0, none⟩ = some (.int .i64 d)) (hS : w.cell? ⟨S, 0, none⟩ = some (.int .i64 s)) :
    Calls Try.prog 111 #[.slice a zs.length cap, .pointer (some ⟨B, 0, none⟩), .pointer (some ⟨S, 0, none⟩)] w fun e w' => e = .returned (.bool (decide (nth zs d = s))) ∧ Fut w w' := by
  obtain ⟨b, off, ea, hb, c1⟩ := hA d hd
  subst ea
  have hdx : (d : Int) < zs.length := by omega
  generalize nth zs d = z at *
  clear hA
  go_enter Try.func111, Try.ntmps111
  go_wp2_with fail
  go_quiet (fail)
  go_wp2
  go_ret
  exact ⟨retb rfl, Fut.drewN w nq⟩
/-- does one of the lists hold s at the place d? -/
def tkn (zss : List (List Int)) (d : Nat) (s : Int) : Bool := zss.any fun l => decide (nth l d = s)
theorem tkn_cons (l : List Int) (zss : List (List Int)) (d : Nat) (s : Int) : tkn (l :: zss) d s = (decide (nth l d = s) || tkn zss d s) := rfl
theorem index_func (a : Option Addr) (cap : Nat) (zss : List (List Int)) (d : Nat) (s : Int) (B S : Nat) (w : World) (hL : LstAt w a zss) (hd : ∀ k, k < zss.length → d < (lth zss k).length) (hl : zss.length ≤ 1000)
    (hB : w.cell? ⟨B, 0, none⟩ = some (.int .i64 d)) (hS : w.cell? ⟨S, 0, none⟩ = some (.int .i64 s)) (hBz : B < w.heap.size) (hSz : S < w.heap.size) :
    Calls Try.prog 134 #[.slice a zss.length cap, .func (.func 111) #[] #[.pointer (some ⟨B, 0, none⟩), .pointer (some ⟨S, 0, none⟩)]] w fun e w' => ∃ r : Int, e = .returned (.int .i64 r) ∧ decide (0 ≤ r) = tkn zss d s ∧ Fut w w' := by
  have HL := Lib.hid hL
  have HLIT := Lib.hid (fun (l : Option Addr) (lc : Nat) zs (W : World) (hI : IntsAt W l zs) (hz : d < zs.length) (F : Fut w W) => lit_any l lc zs d s B S W hI hz ((RowKit.Below.cell F (p := ⟨B, 0, none⟩) hBz).trans hB) ((RowKit.Below.cell F (p := ⟨S, 0, none⟩) hSz).trans hS))
  have HD := Lib.hid hd
  have hlx : (zss.length : Int) ≤ 1000 := by omega
  clear hL hB hS hBz hSz hd
  generalize hE : tkn zss d s = E at *
  have HE := Lib.hid hE
  clear hE
  go_enter Try.func134, Try.ntmps134
  go_wp2_with fail
  go_loopw [8] (fun iv wr => ∃ k : Nat, k ≤ zss.length ∧ iv = .int .i64 k ∧ Hid (tkn (zss.drop k) d s = E) ∧ Hid (Fut w wr)) (fun iv _ => zss.length - (intOf iv).toNat)
  case atStart => exact ⟨0, Nat.zero_le _, rfl, HE, Lib.hid Fut.rfl⟩
  case round =>
    obtain ⟨k, hk, rfl, HO, HF⟩ := hrel
    by_cases hlt : k < zss.length
    · have hkx : (k : Int) < zss.length := by omega
      obtain ⟨bb, off, l, lc, ea, hbb, d1, hI⟩ := (HL.out.fut HF.out) k hlt
      subst ea
      have hd := lth_drop zss k hlt
      rw [hd, tkn_cons] at HO
      have HC := Lib.hid (HLIT.out l lc (lth zss k) wr hI (HD.out k hlt) HF.out)
      generalize lth zss k = zs at *
      clear hd hI
      cases hq : decide (nth zs d = s)
      · rw [hq] at HC HO
        rw [Bool.false_or] at HO
        clear hq
        go_wp2_with fail
        refine HC.out.mono ?_
        rintro _ w3 ⟨rfl, F⟩
        have HF3 := Lib.hid (HF.out.trans F)
        clear F
        go_wp2
        go_round
        case rel => exact ⟨k + 1, by omega, by go_num, HO, HF3⟩
        case measure => simp [intOf]; omega
      · rw [hq] at HC HO
        rw [Bool.true_or] at HO
        have hE : E = true := HO.out.symm
        subst hE
        clear hq
        go_wp2_with fail
        refine HC.out.mono ?_
        rintro _ w3 ⟨rfl, F⟩
        have HF3 := Lib.hid (HF.out.trans F)
        clear F
        go_wp2
        go_ret
        exact ⟨_, rfl, by simp, HF3.out⟩
    · obtain rfl : k = zss.length := by omega
      rw [List.drop_of_length_le (Nat.le_refl _)] at HO
      have hE : E = false := HO.out.symm
      subst hE
      go_wp2
      go_ret
      exact ⟨_, rfl, by simp, HF.out⟩
theorem contains_func (a : Option Addr) (cap : Nat) (zss : List (List Int)) (d : Nat) (s : Int) (B S : Nat) (w : World) (hL : LstAt w a zss) (hd : ∀ k, k < zss.length → d < (lth zss k).length) (hl : zss.length ≤ 1000)
    (hB : w.cell? ⟨B, 0, none⟩ = some (.int .i64 d)) (hS : w.cell? ⟨S, 0, none⟩ = some (.int .i64 s)) (hBz : B < w.heap.size) (hSz : S < w.heap.size) :
    Calls Try.prog 110 #[.slice a zss.length cap, .func (.func 111) #[] #[.pointer (some ⟨B, 0, none⟩), .pointer (some ⟨S, 0, none⟩)]] w fun e w' => e = .returned (.bool (tkn zss d s)) ∧ Fut w w' := by
  have H := Lib.hid (index_func a cap zss d s B S w hL hd hl hB hS hBz hSz)
  clear hL hB hS hBz hSz hd
  generalize tkn zss d s = E at *
  go_enter Try.func110, Try.ntmps110
  go_wp2_with fail
  refine H.out.mono ?_
  rintro _ w3 ⟨r, rfl, hr, F⟩
  have HR := Lib.hid hr
  have HF := Lib.hid F
  clear hr F
  go_wp2
  go_ret
  exact ⟨retb HR.out, HF.out⟩
theorem isTaken_any (a : Option Addr) (cap : Nat) (zss : List (List Int)) (d : Nat) (s : Int) (w : World) (hL : LstAt w a zss) (hd : ∀ k, k < zss.length → d < (lth zss k).length) (hl : zss.length ≤ 1000) :
    Calls Try.prog 69 #[.slice a zss.length cap, .int .i64 d, .int .i64 s] w fun e w' => e = .returned (.bool (tkn zss d s)) ∧ Fut w w' := by
  have F2 : Fut w ((w.alloc (.cells #[.int .i64 d] 3)).alloc (.cells #[.int .i64 s] 3)) := (Fut.alloc _ _).trans (Fut.alloc _ _)
  have H := Lib.hid (contains_func a cap zss d s w.heap.size (w.heap.size + 1) ((w.alloc (.cells #[.int .i64 d] 3)).alloc (.cells #[.int .i64 s] 3)) (hL.fut F2) hd hl (by simp) (by simp) (by simp; omega) (by simp))
  have HF := Lib.hid F2
  clear hL hd F2
  generalize tkn zss d s = E at *
  go_enter Try.func69, Try.ntmps69
  go_wp2_with fail
  refine H.out.mono ?_
  rintro _ w3 ⟨rfl, F⟩
  have HF3 := Lib.hid (HF.out.trans F)
  clear F
  go_wp2
  go_ret
  exact ⟨rfl, HF3.out⟩
/-- the slice at a reads as these lists, each with room for itself. -/
def LstC (w : World) (a : Option Addr) (zss : List (List Int)) : Prop :=
  ∀ j, j < zss.length → ∃ b off l lc, a = some ⟨b, off, none⟩ ∧ b < w.heap.size ∧ w.cell? ⟨b, off + j, none⟩ = some (.slice l (lth zss j).length lc) ∧ (lth zss j).length ≤ lc ∧ lc ≤ 9223372036854775807 ∧ IntsAt w l (lth zss j)
theorem LstC.fut {w w' : World} {a : Option Addr} {zss : List (List Int)} (h : LstC w a zss) (F : Fut w w') : LstC w' a zss := fun j hj => by
  obtain ⟨b, off, l, lc, rfl, h1, h2, h3, h4, h5⟩ := h j hj
  exact ⟨b, off, l, lc, rfl, Nat.lt_of_lt_of_le h1 (RowKit.Below.size F), (RowKit.Below.cell F (p := ⟨b, off + j, none⟩) h1).trans h2, h3, h4, h5.fut F⟩
theorem LstC.lst {w : World} {a : Option Addr} {zss : List (List Int)} (h : LstC w a zss) : LstAt w a zss := fun j hj => by
  obtain ⟨b, off, l, lc, rfl, h1, h2, _, _, h5⟩ := h j hj
  exact ⟨b, off, l, lc, rfl, h1, h2, h5⟩
theorem lth_take (zss : List (List Int)) (k j : Nat) (h : j < k) : lth (zss.take k) j = lth zss j := by
  rw [lth_eq, List.getElem?_take_of_lt h, lth_eq]
theorem LstC.take {w : World} {a : Option Addr} {zss : List (List Int)} (h : LstC w a zss) (k : Nat) : LstC w a (zss.take k) := fun j hj => by
  rw [List.length_take] at hj
  rw [lth_take _ _ _ (by omega)]
  exact h j (by omega)
theorem nth_take (zs : List Int) (k j : Nat) (h : j < k) : nth (zs.take k) j = nth zs j := by
  rw [nth_eq, List.getElem?_take_of_lt h, nth_eq]
theorem IntsAt.take {w : World} {a : Option Addr} {zs : List Int} (h : IntsAt w a zs) (k : Nat) : IntsAt w a (zs.take k) := fun j hj => by
  rw [List.length_take] at hj
  rw [nth_take _ _ _ (by omega)]
  exact h j (by omega)
theorem slice_to28 (g o n cap k : Nat) (h : k ≤ cap) (W : World) : (Instr.sliceAt 28 (.slice (some ⟨g, o, none⟩) n cap) none (some (.int .i64 k)) none).run Try.prog W = .ok (.slice (some ⟨g, o, none⟩) k cap) W := by
  have hu : Try.prog.underlying 28 = some (.slice (Try.prog.elem 28)) := by kernel_rfl
  have hs : (sizeOf (Try.prog.elem 28)).run Try.prog W = .ok 1 W := by kernel_rfl
  rw [run_sliceAt_slice _ _ _ _ _ _ hu, run_slice_h _ _ _ _ _ hu _ _ (by omega) (by omega), hs]
  simp [sliced, Result.andThen, Addr.add]
theorem slice_to22 (g o n cap k : Nat) (h : k ≤ cap) (W : World) : (Instr.sliceAt 22 (.slice (some ⟨g, o, none⟩) n cap) none (some (.int .i64 k)) none).run Try.prog W = .ok (.slice (some ⟨g, o, none⟩) k cap) W := by
  have hu : Try.prog.underlying 22 = some (.slice (Try.prog.elem 22)) := by kernel_rfl
  have hs : (sizeOf (Try.prog.elem 22)).run Try.prog W = .ok 1 W := by kernel_rfl
  rw [run_sliceAt_slice _ _ _ _ _ _ hu, run_slice_h _ _ _ _ _ hu _ _ (by omega) (by omega), hs]
  simp [sliced, Result.andThen, Addr.add]
/-- the error of the first number of a list behind others. -/
def amG (c : Int) (zss : List (List Int)) (l : List Int) : List Int → Nat → Int
  | [], _ => 0
  | s :: t, k => if inB c s = false then 2 else if (l.take k).contains s = true then 6 else if tkn zss k s = true then 13 else amG c zss l t (k + 1)
def amE (c : Int) (zss : List (List Int)) (l : List Int) : Int := amG c zss l l 0
theorem among_any (c : Int) (a : Option Addr) (cap : Nat) (zss : List (List Int)) (b : Option Addr) (bap : Nat) (zs : List Int) (w : World) (hL : LstAt w a zss) (hI : IntsAt w b zs) (hd : ∀ k, k < zss.length → zs.length ≤ (lth zss k).length)
    (hl : zss.length ≤ 1000) (hz : zs.length ≤ 1000) (hcap : zs.length ≤ bap) (_hcm : bap ≤ 9223372036854775807) :
    Calls Try.prog 77 #[.int .i64 c, .slice a zss.length cap, .slice b zs.length bap] w fun e w' => e = .returned (.int .i64 (amE c zss zs)) ∧ Fut w w' := by
  have HI := Lib.hid hI
  have HT := Lib.hid (fun (d : Nat) (s : Int) (W : World) (F : Fut w W) (h : d < zs.length) => isTaken_any a cap zss d s W (hL.fut F) (fun k hk => Nat.lt_of_lt_of_le h (hd k hk)) hl)
  have hlx : (zs.length : Int) ≤ 1000 := by omega
  have HX := Lib.hid (fun (g o k : Nat) (x : Int) (W : World) (h : k < zs.length) (hJ : IntsAt W (some ⟨g, o, none⟩) zs) => (by
    have := contains_any (some ⟨g, o, none⟩) bap (zs.take k) x W (hJ.take k) (by rw [List.length_take]; omega)
    rw [List.length_take, Nat.min_eq_left (by omega)] at this
    exact this : Calls Try.prog 51 #[.slice (some ⟨g, o, none⟩) k bap, .int .i64 x] W fun e w' => e = .returned (.bool ((zs.take k).contains x)) ∧ W = w'))
  unfold amE
  clear hI hL hd
  generalize hE : amG c zss zs zs 0 = E at *
  have HE := Lib.hid hE
  clear hE
  go_enter Try.func77, Try.ntmps77
  go_wp2_with fail
  go_loopw [11] (fun iv wr => ∃ k : Nat, k ≤ zs.length ∧ iv = .int .i64 k ∧ Hid (amG c zss zs (zs.drop k) k = E) ∧ Hid (Fut w wr)) (fun iv _ => zs.length - (intOf iv).toNat)
  case atStart => exact ⟨0, Nat.zero_le _, rfl, HE, Lib.hid Fut.rfl⟩
  case round =>
    obtain ⟨k, hk, rfl, HO, HF⟩ := hrel
    by_cases hlt : k < zs.length
    · have hkx : (k : Int) < zs.length := by omega
      have hJ := HI.out.fut HF.out
      obtain ⟨bb, off, ea, hbb, d1⟩ := hJ k hlt
      subst ea
      have hd := nth_drop zs k hlt
      rw [hd] at HO
      have HTT := Lib.hid (fun s W F => HT.out k s W F hlt)
      have HXX := Lib.hid (fun x => HX.out bb off k x wr hlt hJ)
      have hsl := fun W => slice_to28 bb off zs.length bap k (by omega) W
      generalize nth zs k = z at *
      have HQ := Lib.hid (isIndex_any z c wr)
      clear hd hJ
      unfold amG at HO
      by_cases h1 : inB c z = false
      · rw [if_pos h1] at HO
        rw [h1] at HQ
        have hE : E = 2 := HO.out.symm
        subst hE
        clear h1 hsl
        go_wp2_with fail
        refine HQ.out.mono ?_
        rintro _ _ ⟨rfl, rfl⟩
        go_wp2
        go_ret
        exact ⟨rfl, HF.out⟩
      · rw [if_neg h1] at HO
        have h1' : inB c z = true := by simpa using h1
        rw [h1'] at HQ
        clear h1 h1'
        by_cases h2 : (zs.take k).contains z = true
        · rw [if_pos h2] at HO
          have HXZ := Lib.hid (HXX.out z)
          rw [h2] at HXZ
          have hE : E = 6 := HO.out.symm
          subst hE
          clear h2
          go_wp2_with fail
          refine HQ.out.mono ?_
          rintro _ _ ⟨rfl, rfl⟩
          go_wp2_with fail
          refine HXZ.out.mono ?_
          rintro _ _ ⟨rfl, rfl⟩
          go_wp2
          go_ret
          exact ⟨rfl, HF.out⟩
        · rw [if_neg h2] at HO
          have h2' : (zs.take k).contains z = false := by simpa using h2
          have HXZ := Lib.hid (HXX.out z)
          rw [h2'] at HXZ
          have HTZ := Lib.hid (HTT.out z wr HF.out)
          clear h2 h2'
          cases h3 : tkn zss k z
          · rw [h3] at HTZ HO
            simp only [Bool.false_eq_true, if_false] at HO
            clear h3
            go_wp2_with fail
            refine HQ.out.mono ?_
            rintro _ _ ⟨rfl, rfl⟩
            go_wp2_with fail
            refine HXZ.out.mono ?_
            rintro _ _ ⟨rfl, rfl⟩
            go_wp2_with fail
            refine HTZ.out.mono ?_
            rintro _ w3 ⟨rfl, F⟩
            have HF3 := Lib.hid (HF.out.trans F)
            clear F hsl
            go_wp2
            go_round
            case rel => exact ⟨k + 1, by omega, by go_num, HO, HF3⟩
            case measure => simp [intOf]; omega
          · rw [h3] at HTZ HO
            simp only [if_true] at HO
            have hE : E = 13 := HO.out.symm
            subst hE
            clear h3
            go_wp2_with fail
            refine HQ.out.mono ?_
            rintro _ _ ⟨rfl, rfl⟩
            go_wp2_with fail
            refine HXZ.out.mono ?_
            rintro _ _ ⟨rfl, rfl⟩
            go_wp2_with fail
            refine HTZ.out.mono ?_
            rintro _ w3 ⟨rfl, F⟩
            have HF3 := Lib.hid (HF.out.trans F)
            clear F hsl
            go_wp2
            go_ret
            exact ⟨rfl, HF3.out⟩
    · obtain rfl : k = zs.length := by omega
      rw [List.drop_of_length_le (Nat.le_refl _)] at HO
      have hE : E = 0 := HO.out.symm
      subst hE
      go_wp2
      go_ret
      exact ⟨rfl, HF.out⟩
end
section
/-- the rows of a plan, one behind another. -/
def chG (c : Int) (all : List (List Int)) : List (List Int) → Nat → Int
  | [], _ => 0
  | l :: t, k => if (l.length : Int) = c then (if amE c (all.take k) l = 0 then chG c all t (k + 1) else amE c (all.take k) l) else 5
def chkE (c : Int) (zss : List (List Int)) : Int := if sizeE c zss.length = 0 then chG c zss zss 0 else sizeE c zss.length
/-- the lists of a corner, one behind another. -/
def coG (c : Int) (all : List (List Int)) : List (List Int) → Nat → Int
  | [], _ => 0
  | l :: t, k => if l.length = (lth all 0).length ∧ (l.length : Int) ≤ c then (if amE c (all.take k) l = 0 then coG c all t (k + 1) else amE c (all.take k) l) else 5
def corE (c : Int) (zss : List (List Int)) : Int := if sizeE c zss.length = 0 then coG c zss zss 0 else sizeE c zss.length
theorem size_good {c : Int} {n : Nat} (h : sizeE c n = 0) : 1 ≤ c ∧ c ≤ 5 ∧ (n : Int) ≤ c := by
  unfold sizeE at h
  split at h
  · cases h
  · split at h
    · cases h
    · omega
theorem among_take (c : Int) (bb off cap : Nat) (zss : List (List Int)) (k : Nat) (hk : k < zss.length) (hl : zss.length ≤ 1000) (b : Option Addr) (bap : Nat) (zs : List Int) (w : World) (hL : LstC w (some ⟨bb, off, none⟩) zss) (hI : IntsAt w b zs)
    (hd : ∀ j, j < k → zs.length ≤ (lth zss j).length) (hz : zs.length ≤ 1000) (hcap : zs.length ≤ bap) (hcm : bap ≤ 9223372036854775807) :
    Calls Try.prog 77 #[.int .i64 c, .slice (some ⟨bb, off, none⟩) k cap, .slice b zs.length bap] w fun e w' => e = .returned (.int .i64 (amE c (zss.take k) zs)) ∧ Fut w w' := by
  have hn : (zss.take k).length = k := by rw [List.length_take]; omega
  have := among_any c (some ⟨bb, off, none⟩) cap (zss.take k) b bap zs w (hL.take k).lst hI (fun j hj => by rw [hn] at hj; rw [lth_take _ _ _ hj]; exact hd j hj) (by omega) hz hcap hcm
  rw [hn] at this
  exact this
theorem check_any (c : Int) (a : Option Addr) (cap : Nat) (zss : List (List Int)) (w : World) (hL : LstC w a zss) (hcap : zss.length ≤ cap) (hcm : cap ≤ 9223372036854775807) :
    Calls Try.prog 24 #[.int .i64 c, .slice a zss.length cap] w fun e w' => e = .returned (.int .i64 (chkE c zss)) ∧ Fut w w' := by
  have HS := Lib.hid (size_any c a zss.length cap w)
  unfold chkE
  by_cases hs : sizeE c zss.length = 0
  · rw [if_pos hs]
    rw [hs] at HS
    obtain ⟨c1, c5, hn⟩ := size_good hs
    have hlx : (zss.length : Int) ≤ 5 := by omega
    have HA := Lib.hid (fun (bb off k : Nat) (hk : k < zss.length) b bap zs W hC hI hd hz hcap hcm => among_take c bb off cap zss k hk (by omega) b bap zs W hC hI hd hz hcap hcm)
    have HL := Lib.hid hL
    clear hL hs
    generalize hE : chG c zss zss 0 = E at *
    have HE := Lib.hid hE
    clear hE
    go_enter Try.func24, Try.ntmps24
    go_wp2_with fail
    refine HS.out.mono ?_
    rintro _ _ ⟨rfl, rfl⟩
    go_wp2_with fail
    go_loopw [17] (fun iv wr => ∃ k : Nat, k ≤ zss.length ∧ iv = .int .i64 k ∧ Hid (chG c zss (zss.drop k) k = E) ∧ Hid (∀ j, j < k → ((lth zss j).length : Int) = c) ∧ Hid (Fut w wr)) (fun iv _ => zss.length - (intOf iv).toNat)
    case atStart => exact ⟨0, Nat.zero_le _, rfl, HE, Lib.hid (fun j hj => absurd hj (by omega)), Lib.hid Fut.rfl⟩
    case round =>
      obtain ⟨k, hk, rfl, HO, HB, HF⟩ := hrel
      by_cases hlt : k < zss.length
      · have hkx : (k : Int) < zss.length := by omega
        have hC := HL.out.fut HF.out
        obtain ⟨bb, off, l, lc, ea, hbb, d1, hlc, hcc, hI⟩ := hC k hlt
        subst ea
        have hd := lth_drop zss k hlt
        rw [hd] at HO
        have hsl := fun W => slice_to22 bb off zss.length cap k (by omega) W
        unfold chG at HO
        by_cases hlen : ((lth zss k).length : Int) = c
        · have HAA := Lib.hid (HA.out bb off k hlt l lc (lth zss k) wr hC hI (fun j hj => by have := HB.out j hj; omega) (by omega) hlc hcc)
          have HB2 : Hid (∀ j, j < k + 1 → ((lth zss j).length : Int) = c) := Lib.hid (fun j hj => by
            rcases Nat.lt_or_ge j k with h | h
            · exact HB.out j h
            · obtain rfl : j = k := by omega
              exact hlen)
          rw [if_pos hlen] at HO
          generalize lth zss k = zs at *
          clear hd hI hC
          by_cases he : amE c (zss.take k) zs = 0
          · rw [if_pos he] at HO
            rw [he] at HAA
            clear he
            go_wp2_with fail
            refine HAA.out.mono ?_
            rintro _ w3 ⟨rfl, F⟩
            have HF3 := Lib.hid (HF.out.trans F)
            clear F hsl
            go_wp2
            go_round
            case rel => exact ⟨k + 1, by omega, by go_num, HO, HB2, HF3⟩
            case measure => simp [intOf]; omega
          · rw [if_neg he] at HO
            have hE : amE c (zss.take k) zs = E := HO.out
            rw [hE] at HAA he
            go_wp2_with fail
            refine HAA.out.mono ?_
            rintro _ w3 ⟨rfl, F⟩
            have HF3 := Lib.hid (HF.out.trans F)
            clear F hsl
            go_wp2
            go_ret
            exact ⟨rfl, HF3.out⟩
        · rw [if_neg hlen] at HO
          have hE : E = 5 := HO.out.symm
          subst hE
          generalize lth zss k = zs at *
          clear hd hI hC hsl
          go_wp2
          go_ret
          exact ⟨rfl, HF.out⟩
      · obtain rfl : k = zss.length := by omega
        rw [List.drop_of_length_le (Nat.le_refl _)] at HO
        have hE : E = 0 := HO.out.symm
        subst hE
        go_wp2
        go_ret
        exact ⟨rfl, HF.out⟩
  · rw [if_neg hs]
    clear hL
    generalize sizeE c zss.length = E at *
    go_enter Try.func24, Try.ntmps24
    go_wp2_with fail
    refine HS.out.mono ?_
    rintro _ _ ⟨rfl, rfl⟩
    go_wp2
    go_ret
    exact ⟨rfl, Fut.rfl⟩
theorem corner_any (c : Int) (a : Option Addr) (cap : Nat) (zss : List (List Int)) (w : World) (hL : LstC w a zss) (hcap : zss.length ≤ cap) (hcm : cap ≤ 9223372036854775807) :
    Calls Try.prog 42 #[.int .i64 c, .slice a zss.length cap] w fun e w' => e = .returned (.int .i64 (corE c zss)) ∧ Fut w w' := by
  have HS := Lib.hid (size_any c a zss.length cap w)
  unfold corE
  by_cases hs : sizeE c zss.length = 0
  · rw [if_pos hs]
    rw [hs] at HS
    obtain ⟨c1, c5, hn⟩ := size_good hs
    have hlx : (zss.length : Int) ≤ 5 := by omega
    have HA := Lib.hid (fun (bb off k : Nat) (hk : k < zss.length) b bap zs W hC hI hd hz hcap hcm => among_take c bb off cap zss k hk (by omega) b bap zs W hC hI hd hz hcap hcm)
    have HL := Lib.hid hL
    clear hL hs
    generalize hE : coG c zss zss 0 = E at *
    have HE := Lib.hid hE
    clear hE
    go_enter Try.func42, Try.ntmps42
    go_wp2_with fail
    refine HS.out.mono ?_
    rintro _ _ ⟨rfl, rfl⟩
    go_wp2_with fail
    go_loopw [17] (fun iv wr => ∃ k : Nat, k ≤ zss.length ∧ iv = .int .i64 k ∧ Hid (coG c zss (zss.drop k) k = E) ∧ Hid (∀ j, j < k → (lth zss j).length = (lth zss 0).length) ∧ Hid (Fut w wr)) (fun iv _ => zss.length - (intOf iv).toNat)
    case atStart => exact ⟨0, Nat.zero_le _, rfl, HE, Lib.hid (fun j hj => absurd hj (by omega)), Lib.hid Fut.rfl⟩
    case round =>
      obtain ⟨k, hk, rfl, HO, HB, HF⟩ := hrel
      by_cases hlt : k < zss.length
      · have hkx : (k : Int) < zss.length := by omega
        have hC := HL.out.fut HF.out
        obtain ⟨bb, off, l, lc, ea, hbb, d1, hlc, hcc, hI⟩ := hC k hlt
        subst ea
        have hd := lth_drop zss k hlt
        rw [hd] at HO
        obtain ⟨b0, o0, l0, lc0, e0, _, d0, _, _, _⟩ := hC 0 (by omega)
        cases e0
        rw [Nat.add_zero] at d0
        have hsl := fun W => slice_to22 bb off zss.length cap k (by omega) W
        unfold coG at HO
        by_cases hlen : (lth zss k).length = (lth zss 0).length ∧ ((lth zss k).length : Int) ≤ c
        · have HAA := Lib.hid (HA.out bb off k hlt l lc (lth zss k) wr hC hI (fun j hj => by have := HB.out j hj; omega) (by omega) hlc hcc)
          have HB2 : Hid (∀ j, j < k + 1 → (lth zss j).length = (lth zss 0).length) := Lib.hid (fun j hj => by
            rcases Nat.lt_or_ge j k with h | h
            · exact HB.out j h
            · obtain rfl : j = k := by omega
              exact hlen.1)
          rw [if_pos hlen] at HO
          obtain ⟨hq1, hq2⟩ := hlen
          generalize (lth zss 0).length = n0 at *
          generalize lth zss k = zs at *
          subst hq1
          clear hd hI hC
          by_cases he : amE c (zss.take k) zs = 0
          · rw [if_pos he] at HO
            rw [he] at HAA
            clear he
            go_wp2_with fail
            refine HAA.out.mono ?_
            rintro _ w3 ⟨rfl, F⟩
            have HF3 := Lib.hid (HF.out.trans F)
            clear F hsl
            go_wp2
            go_round
            case rel => exact ⟨k + 1, by omega, by go_num, HO, HB2, HF3⟩
            case measure => simp [intOf]; omega
          · rw [if_neg he] at HO
            have hE : amE c (zss.take k) zs = E := HO.out
            rw [hE] at HAA he
            go_wp2_with fail
            refine HAA.out.mono ?_
            rintro _ w3 ⟨rfl, F⟩
            have HF3 := Lib.hid (HF.out.trans F)
            clear F hsl
            go_wp2
            go_ret
            exact ⟨rfl, HF3.out⟩
        · rw [if_neg hlen] at HO
          have hE : E = 5 := HO.out.symm
          subst hE
          generalize (lth zss 0).length = n0 at *
          generalize lth zss k = zs at *
          clear hd hI hC hsl HB
          by_cases hq : zs.length = n0
          · have hq' : ¬ ((zs.length : Int) ≤ c) := fun h => hlen ⟨hq, h⟩
            subst hq
            clear hlen
            go_wp2
            go_ret
            exact ⟨rfl, HF.out⟩
          · clear hlen
            go_wp2
            go_ret
            exact ⟨rfl, HF.out⟩
      · obtain rfl : k = zss.length := by omega
        rw [List.drop_of_length_le (Nat.le_refl _)] at HO
        have hE : E = 0 := HO.out.symm
        subst hE
        go_wp2
        go_ret
        exact ⟨rfl, HF.out⟩
  · rw [if_neg hs]
    clear hL
    generalize sizeE c zss.length = E at *
    go_enter Try.func42, Try.ntmps42
    go_wp2_with fail
    refine HS.out.mono ?_
    rintro _ _ ⟨rfl, rfl⟩
    go_wp2
    go_ret
    exact ⟨rfl, Fut.rfl⟩
end
section
/-- m rows of n numbers of one's own, the first k of them laid. -/
structure Grid (w : World) (B g m n : Nat) (bl : Nat → Nat) (k : Nat) (f : Nat → Nat → Int) : Prop where
  base : B ≤ g
  outer : w.rowIs g 28 m (fun i => if i < k then .slice (some ⟨bl i, 0, none⟩) n n else .slice none 0 0)
  above : ∀ i, i < k → g < bl i
  inner : ∀ i, i < k → w.rowIs (bl i) 3 n (fun j => .int .i64 (f i j))
  apart : ∀ i j, i < j → j < k → bl i < bl j
theorem Grid.made (w : World) (m n : Nat) : Grid (w.alloc (.cells (madeCells #[Value.slice none 0 0] m) 28)) w.heap.size w.heap.size m n (fun _ => 0) 0 (fun _ _ => 0) where
  base := Nat.le_refl _
  outer := (World.rowIs_made w (.slice none 0 0) m 28).congr fun i _ => by rw [if_neg (Nat.not_lt_zero i)]
  above := fun i hi => absurd hi (Nat.not_lt_zero i)
  inner := fun i hi => absurd hi (Nat.not_lt_zero i)
  apart := fun i j _ hj => absurd hj (Nat.not_lt_zero j)
theorem Grid.congr {w : World} {B g m n : Nat} {bl : Nat → Nat} {k : Nat} {f f' : Nat → Nat → Int} (h : Grid w B g m n bl k f) (e : ∀ i j, i < k → j < n → f i j = f' i j) : Grid w B g m n bl k f' where
  base := h.base
  outer := h.outer
  above := h.above
  inner := fun i hi => (h.inner i hi).congr fun j hj => by rw [e i j hi hj]
  apart := h.apart
theorem Grid.row {w : World} {B g m n : Nat} {bl : Nat → Nat} {k : Nat} {f : Nat → Nat → Int} (h : Grid w B g m n bl k f) :
    Grid ((w.alloc (.cells (madeCells #[Value.int .i64 0] n) 3)).setCell ⟨g, k, none⟩ (.slice (some ⟨w.heap.size, 0, none⟩) n n)) B g m n (fun i => if i = k then w.heap.size else bl i) (k + 1) (fun i j => if i = k then 0 else f i j) where
  base := h.base
  outer := ((h.outer.alloc _).set k _).congr fun i _ => by
    by_cases e : i = k
    · subst e; simp
    · rw [if_neg e]
      by_cases h1 : i < k
      · rw [if_pos h1, if_pos (by omega : i < k + 1), if_neg e]
      · rw [if_neg h1, if_neg (by omega : ¬ i < k + 1)]
  above := fun i hi => by
    by_cases e : i = k
    · rw [if_pos e]; exact h.outer.lt
    · rw [if_neg e]; exact h.above i (by omega)
  inner := fun i hi => by
    by_cases e : i = k
    · rw [if_pos e]
      refine (World.rowIs.setOther ((World.rowIs_made w (.int .i64 0) n 3)) (a := ⟨g, k, none⟩) ?_ _).congr fun j _ => by rw [if_pos e]
      have := h.outer.lt
      show w.heap.size ≠ g
      omega
    · rw [if_neg e]
      refine (World.rowIs.setOther ((h.inner i (by omega)).alloc _) (a := ⟨g, k, none⟩) ?_ _).congr fun j _ => by rw [if_neg e]
      have := h.above i (by omega)
      show bl i ≠ g
      omega
  apart := fun i j hij hj => by
    by_cases e : j = k
    · rw [if_pos e, if_neg (by omega)]; exact (h.inner i (by omega)).lt
    · rw [if_neg e, if_neg (by omega)]; exact h.apart i j hij (by omega)
theorem Grid.ne {w : World} {B g m n : Nat} {bl : Nat → Nat} {k : Nat} {f : Nat → Nat → Int} (h : Grid w B g m n bl k f) {i j : Nat} (hi : i < k) (hj : j < k) (hne : i ≠ j) : bl i ≠ bl j := by
  rcases Nat.lt_or_ge i j with h1 | h1
  · have := h.apart i j h1 hj; omega
  · have := h.apart j i (by omega) hi; omega
theorem Grid.put {w : World} {B g m n : Nat} {bl : Nat → Nat} {k : Nat} {f : Nat → Nat → Int} (h : Grid w B g m n bl k f) {i : Nat} (hi : i < k) (j : Nat) (x : Int) :
    Grid (w.setCell ⟨bl i, j, none⟩ (.int .i64 x)) B g m n bl k (fun a b => if a = i ∧ b = j then x else f a b) where
  base := h.base
  outer := h.outer.setOther (by have := h.above i hi; show g ≠ bl i; omega) _
  above := h.above
  inner := fun a ha => by
    by_cases e : a = i
    · subst e
      refine ((h.inner a ha).set j _).congr fun b _ => ?_
      by_cases e2 : b = j
      · rw [if_pos e2, if_pos ⟨rfl, e2⟩]
      · rw [if_neg e2, if_neg (fun q => e2 q.2)]
    · refine ((h.inner a ha).setOther (a := ⟨bl i, j, none⟩) (h.ne ha hi e) _).congr fun b _ => ?_
      rw [if_neg (fun q => e q.1)]
  apart := h.apart
theorem Grid.fut {w w' : World} {B g m n : Nat} {bl : Nat → Nat} {k : Nat} {f : Nat → Nat → Int} (h : Grid w B g m n bl k f) (F : Fut w w') : Grid w' B g m n bl k f where
  base := h.base
  outer := h.outer.of_block (RowKit.Below.block F _ h.outer.lt)
  above := h.above
  inner := fun i hi => (h.inner i hi).of_block (RowKit.Below.block F _ (h.inner i hi).lt)
  apart := h.apart
theorem Grid.cell {w : World} {B g m n : Nat} {bl : Nat → Nat} {k : Nat} {f : Nat → Nat → Int} (h : Grid w B g m n bl k f) {i : Nat} (hi : i < k) (hm : i < m) : w.cell? ⟨g, i, none⟩ = some (.slice (some ⟨bl i, 0, none⟩) n n) := by
  rw [h.outer.cell hm, if_pos hi]
theorem Grid.at {w : World} {B g m n : Nat} {bl : Nat → Nat} {k : Nat} {f : Nat → Nat → Int} (h : Grid w B g m n bl k f) {i j : Nat} (hi : i < k) (hj : j < n) : w.cell? ⟨bl i, j, none⟩ = some (.int .i64 (f i j)) := (h.inner i hi).cell hj
def gridL (m n : Nat) (f : Nat → Nat → Int) : List (List Int) := (List.range m).map fun i => (List.range n).map fun j => f i j
theorem gridL_len (m n : Nat) (f : Nat → Nat → Int) : (gridL m n f).length = m := by unfold gridL; simp
theorem gridL_lth (m n : Nat) (f : Nat → Nat → Int) (i : Nat) (h : i < m) : lth (gridL m n f) i = (List.range n).map fun j => f i j := by
  rw [lth_eq]; unfold gridL
  rw [List.getElem?_map, List.getElem?_range h]; rfl
theorem Grid.lists {w : World} {B g m n : Nat} {bl : Nat → Nat} {f : Nat → Nat → Int} (h : Grid w B g m n bl m f) (hn : n ≤ 9223372036854775807) : LstC w (some ⟨g, 0, none⟩) (gridL m n f) := fun i hi => by
  rw [gridL_len] at hi
  have e := gridL_lth m n f i hi
  have el : (lth (gridL m n f) i).length = n := by rw [e]; simp
  refine ⟨g, 0, some ⟨bl i, 0, none⟩, n, rfl, h.outer.lt, ?_, by omega, hn, fun j hj => ⟨bl i, 0, rfl, (h.inner i hi).lt, ?_⟩⟩
  · rw [Nat.zero_add, h.cell hi hi, el]
  · rw [el] at hj
    rw [Nat.zero_add, h.at hi hj, e, nth_eq, List.getElem?_map, List.getElem?_range hj]; rfl
/-- what came of a call: lists that can be read, each with room for itself, and a number. -/
abbrev TupLC (r : Int) (zss : List (List Int)) (w : World) (e : Ending) (w' : World) : Prop := ∃ l lc, e = .returned (.tuple #[.slice l zss.length lc, .int .i64 r]) ∧ zss.length ≤ lc ∧ lc ≤ 9223372036854775807 ∧ LstC w' l zss ∧ Fut w w'
theorem TupLC.nil (r : Int) {w w' : World} (F : Fut w w') : TupLC r [] w (.returned (.tuple #[.slice none 0 0, .int .i64 r])) w' := ⟨none, 0, rfl, Nat.le_refl _, by omega, fun j hj => absurd hj (by simp), F⟩
/-- the days by streets, after so many days. -/
def tset (l : List Int) : Nat → Nat → Int
  | 0, _ => 0
  | d + 1, s => if (s : Int) = nth l d then (d : Int) else tset l d s
def turnE (c : Int) (zss : List (List Int)) : List (List Int) := if chkE c zss = 0 then gridL zss.length c.toNat (fun i s => tset (lth zss i) c.toNat s) else []
theorem chk_rows {c : Int} {zss : List (List Int)} (h : chkE c zss = 0) : 1 ≤ c ∧ c ≤ 5 ∧ (zss.length : Int) ≤ c ∧ ∀ i, i < zss.length → ((lth zss i).length : Int) = c ∧ amE c (zss.take i) (lth zss i) = 0 := by
  unfold chkE at h
  by_cases hs : sizeE c zss.length = 0
  · rw [if_pos hs] at h
    obtain ⟨c1, c5, hn⟩ := size_good hs
    refine ⟨c1, c5, hn, ?_⟩
    have key : ∀ (t : List (List Int)) (k : Nat), chG c zss t k = 0 → ∀ i, i < t.length → ((lth t i).length : Int) = c ∧ amE c (zss.take (k + i)) (lth t i) = 0 := by
      intro t
      induction t with
      | nil => intro k _ i hi; exact absurd hi (by simp)
      | cons l t ih =>
        intro k h i hi
        unfold chG at h
        by_cases h1 : (l.length : Int) = c
        · rw [if_pos h1] at h
          by_cases h2 : amE c (zss.take k) l = 0
          · rw [if_pos h2] at h
            cases i with
            | zero => exact ⟨h1, h2⟩
            | succ i =>
              have := ih (k + 1) h i (by simp at hi; omega)
              rw [show k + 1 + i = k + (i + 1) by omega] at this
              exact this
          · rw [if_neg h2] at h; exact absurd h h2
        · rw [if_neg h1] at h; exact absurd h (by decide)
    intro i hi
    have := key zss 0 h i hi
    rwa [Nat.zero_add] at this
  · rw [if_neg hs] at h; exact absurd h hs
theorem am_in {c : Int} {zss : List (List Int)} {l : List Int} (h : amE c zss l = 0) : ∀ k, k < l.length → 0 ≤ nth l k ∧ nth l k < c ∧ (l.take k).contains (nth l k) = false ∧ tkn zss k (nth l k) = false := by
  have key : ∀ (t : List Int) (k : Nat), amG c zss l t k = 0 → ∀ i, i < t.length → inB c (nth t i) = true ∧ (l.take (k + i)).contains (nth t i) = false ∧ tkn zss (k + i) (nth t i) = false := by
    intro t
    induction t with
    | nil => intro k _ i hi; exact absurd hi (by simp)
    | cons s t ih =>
      intro k h i hi
      unfold amG at h
      by_cases h1 : inB c s = false
      · rw [if_pos h1] at h; exact absurd h (by decide)
      · rw [if_neg h1] at h
        by_cases h2 : (l.take k).contains s = true
        · rw [if_pos h2] at h; exact absurd h (by decide)
        · rw [if_neg h2] at h
          by_cases h3 : tkn zss k s = true
          · rw [if_pos h3] at h; exact absurd h (by decide)
          · rw [if_neg h3] at h
            cases i with
            | zero => exact ⟨by cases e : inB c s; exact absurd e h1; exact e, by cases e : (l.take k).contains s; exact e; exact absurd e h2, by cases e : tkn zss k s; exact e; exact absurd e h3⟩
            | succ i =>
              have := ih (k + 1) h i (by simp at hi; omega)
              rw [show k + 1 + i = k + (i + 1) by omega] at this
              exact this
  intro k hk
  obtain ⟨h1, h2, h3⟩ := key l 0 h k hk
  rw [Nat.zero_add] at h2 h3
  unfold inB at h1
  rw [Bool.and_eq_true, decide_eq_true_eq, decide_eq_true_eq] at h1
  exact ⟨h1.1, h1.2, h2, h3⟩
end
section
theorem info28b : (Try.prog.info? 28).map (fun i => (i.zero, i.size, i.bytes)) = some (some (.slice none 0 0), 1, 24) := info28
theorem mk_row (n : Nat) (h : n ≤ 1000) (W : World) : (Instr.makeSlice 28 (.int .i64 n) (.int .i64 n)).run Try.prog W = .ok (.slice (some ⟨W.heap.size, 0, none⟩) n n) (W.alloc (.cells (madeCells #[.int .i64 0] n) 3)) :=
  run_make_row' 28 3 (.int .i64 0) 8 Try.underlying28 info3 rfl .i64 .i64 n (by omega) (by omega) W
theorem mk_rows (n : Nat) (h : n ≤ 1000) (W : World) : (Instr.makeSlice 22 (.int .i64 n) (.int .i64 n)).run Try.prog W = .ok (.slice (some ⟨W.heap.size, 0, none⟩) n n) (W.alloc (.cells (madeCells #[.slice none 0 0] n) 28)) :=
  run_make_row' 22 28 (.slice none 0 0) 24 Try.underlying22 info28 rfl .i64 .i64 n (by omega) (by omega) W
theorem turned_any (c : Int) (a : Option Addr) (cap : Nat) (zss : List (List Int)) (w : World) (hL : LstC w a zss) (hcap : zss.length ≤ cap) (hcm : cap ≤ 9223372036854775807) :
    Calls Try.prog 28 #[.int .i64 c, .slice a zss.length cap] w (TupLC (chkE c zss) (turnE c zss) w) := by
  have HC := Lib.hid (check_any c a cap zss w hL hcap hcm)
  unfold turnE
  by_cases hs : chkE c zss = 0
  · rw [if_pos hs]
    rw [hs] at HC ⊢
    obtain ⟨c1, c5, hn, hrow⟩ := chk_rows hs
    obtain ⟨n, rfl⟩ := Int.eq_ofNat_of_zero_le (show 0 ≤ c by omega)
    have hz5 : zss.length ≤ 5 := by omega
    have hn5 : n ≤ 5 := by omega
    have HL := Lib.hid hL
    have HROW := Lib.hid hrow
    have hmk1 := fun W => mk_row n (by omega) W
    have hmk2 := fun W => mk_rows zss.length (by omega) W
    rw [show ((n : Int)).toNat = n by simp]
    clear hL hrow hs hcap hcm
    generalize hE : gridL zss.length n (fun i s => tset (lth zss i) n s) = R at *
    have HE := Lib.hid hE
    have hRL : R.length = zss.length := by rw [← hE, gridL_len]
    have HRL := Lib.hid hRL
    clear hE hRL
    go_enter Try.func28, Try.ntmps28
    go_wp2_with fail
    refine HC.out.mono ?_
    rintro _ w1 ⟨rfl, F⟩
    have HF1 := Lib.hid F
    have hsz := RowKit.Below.size F
    clear F
    go_wp2_with fail
    have hG0 := Grid.made w1 zss.length n
    have F1 : RowKit.Below w1.heap.size w1 (w1.alloc (.cells (madeCells #[Value.slice none 0 0] zss.length) 28)) := Fut.alloc _ _
    generalize w1.alloc (.cells (madeCells #[Value.slice none 0 0] zss.length) 28) = W1 at *
    generalize hB : w1.heap.size = g at *
    have HF0 := Lib.hid F1
    have HG0 := Lib.hid hG0
    clear hG0 F1 hmk2
    go_loopw [23] (fun iv wr => ∃ (k : Nat) (bl : Nat → Nat), k ≤ zss.length ∧ iv = .int .i64 k ∧ Hid (Grid wr g g zss.length n bl k (fun i s => tset (lth zss i) n s)) ∧ Hid (RowKit.Below g w1 wr)) (fun iv _ => zss.length - (intOf iv).toNat)
    case atStart => exact ⟨0, fun _ => 0, Nat.zero_le _, rfl, Lib.hid (HG0.out.congr fun i j hi => absurd hi (Nat.not_lt_zero i)), HF0⟩
    case round =>
      obtain ⟨k, bl, hk, rfl, HG, HF⟩ := hrel
      by_cases hlt : k < zss.length
      · have hkx : (k : Int) < zss.length := by omega
        have HFw := Lib.hid (Fut.trans' HF1.out HF.out (by omega))
        obtain ⟨bb, off, l, lc, ea, hbb, d1, hlc, hcc, hI⟩ := HL.out k hlt
        subst ea
        have d2 : wr.cell? ⟨bb, off + k, none⟩ = some (.slice l (lth zss k).length lc) := (RowKit.Below.cell HFw.out (p := ⟨bb, off + k, none⟩) hbb).trans d1
        have hlen := (HROW.out k hlt).1
        have HAM := Lib.hid (am_in (HROW.out k hlt).2)
        have HII := Lib.hid hI
        have hGo := HG.out.outer
        have o1 : wr.cell? ⟨g, k, none⟩ = some (.slice none 0 0) := by rw [hGo.cell hlt, if_neg (Nat.lt_irrefl _)]
        have o2 : wr.frozen? ⟨g, k, none⟩ = false := hGo.frozen k
        have o3 : g < wr.heap.size := hGo.lt
        have hGR := HG.out.row.congr (f' := fun i s => if i = k then 0 else tset (lth zss i) n s) (fun i j _ _ => rfl)
        have hBR : RowKit.Below g w1 ((wr.alloc (.cells (madeCells #[Value.int .i64 0] n) 3)).setCell ⟨g, k, none⟩ (.slice (some ⟨wr.heap.size, 0, none⟩) n n)) := (HF.out.alloc (Nat.le_of_lt o3) _).setCell (Nat.le_refl _) _
        clear hGo hI d1 HG HF
        generalize hzs : lth zss k = zs at *
        have HZS := Lib.hid hzs
        clear hzs
        have hlen' : zs.length = n := by omega
        have hd2 : wr.cell? ⟨bb, off + k, none⟩ = some (.slice l n lc) := by rw [← hlen']; exact d2
        clear d2 hlen
        rw [World.setCell_alloc_past _ _ _ _ o3] at hGR hBR
        go_wp2_with fail
        generalize (wr.setCell ⟨g, k, none⟩ (.slice (some ⟨wr.heap.size, 0, none⟩) n n)).alloc (.cells (madeCells #[Value.int .i64 0] n) 3) = W2 at *
        have hb2 : (fun i => if i = k then wr.heap.size else bl i) k = wr.heap.size := by simp
        generalize (fun i => if i = k then wr.heap.size else bl i) = bl2 at *
        generalize wr.heap.size = b at *
        have HG2 := Lib.hid hGR
        have HB2 := Lib.hid hBR
        clear hGR hBR o1 o2 o3 hd2 bl
        go_loopw [35] (fun iv ws => ∃ d : Nat, d ≤ n ∧ iv = .int .i64 d ∧ Hid (Grid ws g g zss.length n bl2 (k + 1) (fun i s => if i = k then tset zs d s else tset (lth zss i) n s)) ∧ Hid (RowKit.Below g w1 ws)) (fun iv _ => n - (intOf iv).toNat)
        case atStart => exact ⟨0, Nat.zero_le _, rfl, Lib.hid (HG2.out.congr fun i j _ _ => rfl), HB2⟩
        case round =>
          obtain ⟨d, hdn, rfl, HG3, HB3⟩ := hrel
          by_cases hdl : d < n
          · have hdx : (d : Int) < n := by omega
            have HFs := Lib.hid (Fut.trans' HF1.out HB3.out (by omega))
            obtain ⟨b1, off1, el, hb1, e1⟩ := (HII.out.fut HFs.out) d (by omega)
            subst el
            obtain ⟨z0, z1, _, _⟩ := HAM.out d (by omega)
            obtain ⟨z, hz⟩ := Int.eq_ofNat_of_zero_le z0
            rw [hz] at e1 z0 z1
            have hzn : z < n := by omega
            have g1 := HG3.out.cell (Nat.lt_succ_self k) hlt
            have g2 := HG3.out.at (Nat.lt_succ_self k) hzn
            have g3 : wr.frozen? ⟨bl2 k, z, none⟩ = false := (HG3.out.inner k (Nat.lt_succ_self k)).frozen z
            rw [hb2] at g1 g2 g3
            have HP := Lib.hid (HG3.out.put (Nat.lt_succ_self k) z (d : Int))
            rw [hb2] at HP
            have hgb : g ≤ b := by have := HG3.out.above k (Nat.lt_succ_self k); omega
            have HB4 : Hid (RowKit.Below g w1 (wr.setCell ⟨b, z, none⟩ (.int .i64 d))) := Lib.hid (HB3.out.setCell hgb _)
            have HP2 : Hid (Grid (wr.setCell ⟨b, z, none⟩ (.int .i64 d)) g g zss.length n bl2 (k + 1) (fun i s => if i = k then tset zs (d + 1) s else tset (lth zss i) n s)) := Lib.hid (HP.out.congr fun i j _ _ => by
              by_cases ei : i = k
              · subst ei
                rw [if_pos rfl, if_pos rfl]
                unfold tset
                rw [hz]
                by_cases ej : j = z
                · rw [if_pos ⟨rfl, ej⟩, if_pos (by omega)]
                · rw [if_neg (fun q => ej q.2), if_neg (by omega)]
                  cases d <;> rfl
              · rw [if_neg (fun q => ei q.1), if_neg ei, if_neg ei])
            clear HP HG3 HB3 hz
            go_wp2
            go_round
            case rel => exact ⟨d + 1, by omega, by go_num, HP2, HB4⟩
            case measure => simp [intOf]; omega
          · obtain rfl : d = n := by omega
            have HG4 := Lib.hid (HG3.out.congr (f' := fun i s => tset (lth zss i) d s) (fun i j _ _ => by
              by_cases ei : i = k
              · subst ei; rw [if_pos rfl, HZS.out]
              · rw [if_neg ei]))
            clear HG3
            go_wp2
            go_round
            case rel => exact ⟨k + 1, bl2, by omega, by go_num, HG4, HB3⟩
            case measure => simp [intOf]; omega
      · obtain rfl : k = zss.length := by omega
        go_wp2
        go_ret2
        refine ⟨some ⟨g, 0, none⟩, zss.length, ?_, by have := HRL.out; omega, by omega, ?_, Fut.trans' HF1.out HF.out (by omega)⟩
        · rw [HRL.out]; rfl
        · rw [← HE.out]; exact HG.out.lists (by omega)
  · rw [if_neg hs]
    clear hL
    generalize chkE c zss = E at *
    go_enter Try.func28, Try.ntmps28
    go_wp2_with fail
    refine HC.out.mono ?_
    rintro _ w1 ⟨rfl, F⟩
    have HF := Lib.hid F
    clear F
    go_wp2
    go_ret2
    exact TupLC.nil E HF.out
end
section
/-- a grid, whole: lists of one's own. -/
def OwnG (w : World) (B : Nat) (v : Value) (m n : Nat) (f : Nat → Nat → Int) : Prop := ∃ g bl, v = .slice (some ⟨g, 0, none⟩) m m ∧ Grid w B g m n bl m f
def rndF (n : Nat) (i j : Nat) : Int := (((i + j) % n : Nat) : Int)
theorem round_no (c : Int) (h : sizeE c 0 ≠ 0) (w : World) : Calls Try.prog 32 #[.int .i64 c] w fun e w' => e = .returned (.tuple #[.slice none 0 0, .int .i64 (sizeE c 0)]) ∧ w = w' := by
  have HS := Lib.hid (size_any c none 0 0 w)
  generalize sizeE c 0 = E at *
  go_enter Try.func32, Try.ntmps32
  go_wp2_with fail
  refine HS.out.mono ?_
  rintro _ _ ⟨rfl, rfl⟩
  go_wp2
  go_ret2
  exact ⟨rfl, rfl⟩
set_option maxRecDepth 100000 in
set_option maxHeartbeats 4000000 in
theorem round_any (n : Nat) (h1 : 1 ≤ n) (h5 : n ≤ 5) (w : World) : Calls Try.prog 32 #[.int .i64 n] w fun e w' => ∃ v, e = .returned (.tuple #[v, .int .i64 0]) ∧ OwnG w' w.heap.size v n n (rndF n) ∧ Fut w w' := by
  have hs : sizeE (n : Int) 0 = 0 := by unfold sizeE; rw [if_neg (by omega), if_neg (by omega)]
  have HS := Lib.hid (size_any n none 0 0 w)
  rw [hs] at HS
  have hmk1 := fun W => mk_row n (by omega) W
  have hmk2 := fun W => mk_rows n (by omega) W
  clear hs
  go_enter Try.func32, Try.ntmps32
  go_wp2_with fail
  refine HS.out.mono ?_
  rintro _ w1 ⟨rfl, rfl⟩
  go_wp2_with fail
  have hG0 := Grid.made w n n
  have F1 : RowKit.Below w.heap.size w (w.alloc (.cells (madeCells #[Value.slice none 0 0] n) 28)) := Fut.alloc _ _
  generalize w.alloc (.cells (madeCells #[Value.slice none 0 0] n) 28) = W1 at *
  generalize hB : w.heap.size = g at *
  have HF0 := Lib.hid F1
  have HG0 := Lib.hid hG0
  have HBB := Lib.hid hB
  clear hG0 F1 hmk2 hB
  go_loopw [17] (fun iv wr => ∃ (k : Nat) (bl : Nat → Nat), k ≤ n ∧ iv = .int .i64 k ∧ Hid (Grid wr g g n n bl k (rndF n)) ∧ Hid (RowKit.Below g w wr)) (fun iv _ => n - (intOf iv).toNat)
  case atStart => exact ⟨0, fun _ => 0, Nat.zero_le _, rfl, Lib.hid (HG0.out.congr fun i j hi => absurd hi (Nat.not_lt_zero i)), HF0⟩
  case round =>
    obtain ⟨k, bl, hk, rfl, HG, HF⟩ := hrel
    by_cases hlt : k < n
    · have hkx : (k : Int) < n := by omega
      have hGo := HG.out.outer
      have o1 : wr.cell? ⟨g, k, none⟩ = some (.slice none 0 0) := by rw [hGo.cell hlt, if_neg (Nat.lt_irrefl _)]
      have o2 : wr.frozen? ⟨g, k, none⟩ = false := hGo.frozen k
      have o3 : g < wr.heap.size := hGo.lt
      have hGR := HG.out.row.congr (f' := fun i j => if i = k then 0 else rndF n i j) (fun i j _ _ => rfl)
      have hBR : RowKit.Below g w ((wr.alloc (.cells (madeCells #[Value.int .i64 0] n) 3)).setCell ⟨g, k, none⟩ (.slice (some ⟨wr.heap.size, 0, none⟩) n n)) := (HF.out.alloc (Nat.le_of_lt o3) _).setCell (Nat.le_refl _) _
      clear hGo HG HF
      rw [World.setCell_alloc_past _ _ _ _ o3] at hGR hBR
      go_upto_region 9 with fail
      generalize (wr.setCell ⟨g, k, none⟩ (.slice (some ⟨wr.heap.size, 0, none⟩) n n)).alloc (.cells (madeCells #[Value.int .i64 0] n) 3) = W2 at *
      have hb2 : (fun i => if i = k then wr.heap.size else bl i) k = wr.heap.size := by simp
      generalize (fun i => if i = k then wr.heap.size else bl i) = bl2 at *
      generalize wr.heap.size = b at *
      have HG2 := Lib.hid hGR
      have HB2 := Lib.hid hBR
      have HBL := Lib.hid hb2
      have g0 := hGR.cell (Nat.lt_succ_self k) hlt
      rw [hb2] at g0
      clear hGR hBR o1 o2 o3 bl hb2
      go_wp2_with fail
      clear g0
      go_loopw [30] (fun iv wr => ∃ d : Nat, d ≤ n ∧ iv = .int .i64 d ∧ Hid (Grid wr g g n n bl2 (k + 1) (fun i j => if i = k then (if j < d then rndF n i j else 0) else rndF n i j)) ∧ Hid (RowKit.Below g w wr)) (fun iv _ => n - (intOf iv).toNat)
      case atStart => exact ⟨0, Nat.zero_le _, rfl, Lib.hid (HG2.out.congr fun i j _ _ => by
        by_cases e : i = k
        · rw [if_pos e, if_pos e, if_neg (Nat.not_lt_zero j)]
        · rw [if_neg e, if_neg e]), HB2⟩
      case round =>
        obtain ⟨d, hdn, rfl, HG3, HB3⟩ := hrel
        by_cases hdl : d < n
        · have hdx : (d : Int) < n := by omega
          have hn0 : ((n : Int) == 0) = false := by rw [beq_eq_false_iff_ne]; omega
          have hrem : ((k : Int) + (d : Int)).tmod (n : Int) = rndF n k d := by
            unfold rndF
            rw [Int.tmod_eq_emod_of_nonneg (by omega), Int.natCast_emod, Int.natCast_add]
          have hn1 : ¬ n = 0 := by omega
          have hn2 : ¬ (n : Int) = 0 := by omega
          have hwr1 : IntKind.i64.wrap ((k : Int) + (d : Int)) = (k : Int) + (d : Int) := IntWalk.i64_in _ ⟨by omega, by omega⟩
          have hr0 : 0 ≤ rndF n k d ∧ rndF n k d < n := by
            unfold rndF
            have := Nat.mod_lt (k + d) (show 0 < n by omega)
            omega
          obtain ⟨hr1, hr2⟩ := hr0
          have hwr2 : IntKind.i64.wrap (rndF n k d) = rndF n k d := IntWalk.i64_in _ ⟨by omega, by omega⟩
          generalize hRD : rndF n k d = rd at *
          have HRD := Lib.hid hRD
          clear hRD
          have g1 := HG3.out.cell (Nat.lt_succ_self k) hlt
          have g2 := HG3.out.at (Nat.lt_succ_self k) hdl
          have g3 : wr.frozen? ⟨bl2 k, d, none⟩ = false := (HG3.out.inner k (Nat.lt_succ_self k)).frozen d
          rw [HBL.out] at g1 g2 g3
          go_upto_region 12 with fail
          go_still_tail 11, (by kernel_rfl)
          have HGd := Lib.hid (HG3.out.fut (Fut.drewN wr 1))
          have HBd := Lib.hid (RowKit.Below.drew HB3.out)
          change wpList _ _ _ _ _ wr.drew
          change Hid (Grid wr.drew _ _ _ _ _ _ _) at HGd
          generalize wr.drew = w2 at *
          clear g1 g2 g3 HG3 HB3
          have g2 := HGd.out.at (Nat.lt_succ_self k) hdl
          have g3 : w2.frozen? ⟨bl2 k, d, none⟩ = false := (HGd.out.inner k (Nat.lt_succ_self k)).frozen d
          have HP := Lib.hid (HGd.out.put (Nat.lt_succ_self k) d rd)
          have hgb : g ≤ bl2 k := by have := HGd.out.above k (Nat.lt_succ_self k); omega
          have HB4 : Hid (RowKit.Below g w (w2.setCell ⟨bl2 k, d, none⟩ (.int .i64 rd))) := Lib.hid (HBd.out.setCell hgb _)
          have HP2 : Hid (Grid (w2.setCell ⟨bl2 k, d, none⟩ (.int .i64 rd)) g g n n bl2 (k + 1) (fun i j => if i = k then (if j < d + 1 then rndF n i j else 0) else rndF n i j)) := Lib.hid (HP.out.congr fun i j _ _ => by
            by_cases ei : i = k
            · rw [if_pos ei, if_pos ei]
              by_cases ej : j = d
              · rw [if_pos ⟨ei, ej⟩, if_pos (by omega), ei, ej]; exact HRD.out.symm
              · rw [if_neg (fun q => ej q.2)]
                by_cases e3 : j < d
                · rw [if_pos e3, if_pos (by omega)]
                · rw [if_neg e3, if_neg (by omega)]
            · rw [if_neg (fun q => ei q.1), if_neg ei, if_neg ei])
          rw [HBL.out] at g2 g3 HB4 HP2
          clear HP HGd HBd hwr1 hwr2 hrem
          go_wp2
          go_round
          case rel => exact ⟨d + 1, by omega, by go_num, HP2, HB4⟩
          case measure => simp [intOf]; omega
        · obtain rfl : d = n := by omega
          have HG4 := Lib.hid (HG3.out.congr (f' := rndF d) (fun i j _ hj => by
            by_cases ei : i = k
            · rw [if_pos ei, if_pos hj]
            · rw [if_neg ei]))
          clear HG3
          go_wp2
          go_round
          case rel => exact ⟨k + 1, bl2, by omega, by go_num, HG4, HB3⟩
          case measure => simp [intOf]; omega
    · obtain rfl : k = n := by omega
      go_wp2
      go_ret2
      exact ⟨_, rfl, ⟨g, bl, rfl, by rw [HBB.out]; exact HG.out⟩, by unfold Fut; rw [HBB.out]; exact HF.out⟩
end
section
theorem cell_one {w : World} {b : Nat} {x : Value} (h : w.cell? ⟨b, 0, none⟩ = some x) : ∀ j u, [x][j]? = some u → w.cell? ((⟨b, 0, none⟩ : Addr).add j) = some u := fun j u hj => by
  match j, hj with
  | 0, hj =>
    simp at hj
    subst hj
    rw [Addr.add_lit]; exact h
theorem Owns.form {w : World} {B : Nat} {v : Value} {zs : List Int} (h : Owns w B v zs) : ∃ a cap, v = .slice a zs.length cap ∧ zs.length ≤ cap ∧ cap ≤ maxLen ∧ IntsAt w a zs := by
  obtain ⟨a, cap, rfl, hI⟩ := h.ints
  refine ⟨a, cap, rfl, ?_, ?_, hI⟩
  · rcases h.2 with ⟨e, h0⟩ | ⟨g, cap', cur, e, hb, hg, hn, hm, _⟩
    · injection e with _ e2 e3; omega
    · injection e with _ _ e3; omega
  · rcases h.2 with ⟨e, h0⟩ | ⟨g, cap', cur, e, hb, hg, hn, hm, _⟩
    · injection e with _ e2 e3; subst e3; unfold maxLen; omega
    · injection e with _ _ e3; omega
/-- the streets that are free on a day, of the first so many. -/
def frT (zss : List (List Int)) (d : Nat) : Nat → List Int
  | 0 => []
  | s + 1 => if tkn zss d s = true then frT zss d s else frT zss d s ++ [(s : Int)]
theorem frT_len (zss : List (List Int)) (d : Nat) : ∀ s, (frT zss d s).length ≤ s := by
  intro s
  induction s with
  | zero => simp [frT]
  | succ s ih =>
    unfold frT
    split
    · omega
    · rw [List.length_append]; simp; omega
def freeE (c : Int) (zss : List (List Int)) : List (List Int) := if chkE c zss = 0 then (List.range c.toNat).map (fun d => frT zss d c.toNat) else []
/-- rows of lists of one's own, the first k of them done. -/
structure FreeSt (w : World) (g n : Nat) (vs : Nat → Value) (k : Nat) (L : Nat → List Int) : Prop where
  outer : w.rowIs g 28 n vs
  done : ∀ i, i < k → Owns w (g + 1) (vs i) (L i)
  rest : ∀ i, k ≤ i → i < n → vs i = .slice none 0 0
theorem grown_set {w w' : World} {g k : Nat} {v : Value} (h : w.grownBy w' (some g)) : w.grownBy (w'.setCell ⟨g, k, none⟩ v) (some g) :=
  ⟨h.os, h.tape, h.output, by rw [show (w'.setCell ⟨g, k, none⟩ v).heap.size = w'.heap.size by simp [World.setCell]]; exact h.size, fun j hj hne => by
    rw [RowKit.Below.heap_setCell _ _ _ _ (fun e => hne (by rw [e]))]
    exact h.block j hj hne⟩
theorem grown_far {w w' w'' : World} {g : Nat} {v : Value} {n : Nat} {xs : List Value} (h : w.grownBy w' (some g)) (h' : w'.grownBy w'' v.ownBlock) (hv : w'.ownsRow w.heap.size 3 1 v n xs) : w.grownBy w'' (some g) := by
  refine ⟨h'.os.trans h.os, h'.tape.trans h.tape, h'.output.trans h.output, Nat.le_trans h.size h'.size, fun k hk hne => ?_⟩
  rw [h'.block k (Nat.lt_of_lt_of_le hk h.size) ?_]
  · exact h.block k hk hne
  · intro e
    have := (hv.lt k e.symm).1
    omega
theorem FreeSt.lists {w : World} {g n : Nat} {vs : Nat → Value} {L : Nat → List Int} (h : FreeSt w g n vs n L) : LstC w (some ⟨g, 0, none⟩) ((List.range n).map L) := fun i hi => by
  have hin : i < n := by simpa using hi
  have e : lth ((List.range n).map L) i = L i := by rw [lth_eq, List.getElem?_map, List.getElem?_range hin]; rfl
  rw [e]
  obtain ⟨a, cap, ev, h1, h2, hI⟩ := (h.done i hin).form
  exact ⟨g, 0, a, cap, rfl, h.outer.lt, by rw [Nat.zero_add, h.outer.cell hin, ev], h1, by unfold maxLen at h2; omega, hI⟩
set_option maxRecDepth 100000 in
set_option maxHeartbeats 4000000 in
theorem free_any (c : Int) (a : Option Addr) (cap : Nat) (zss : List (List Int)) (w : World) (hL : LstC w a zss) (hcap : zss.length ≤ cap) (hcm : cap ≤ 9223372036854775807) :
    Calls Try.prog 18 #[.int .i64 c, .slice a zss.length cap] w (TupLC (chkE c zss) (freeE c zss) w) := by
  have HC := Lib.hid (check_any c a cap zss w hL hcap hcm)
  unfold freeE
  by_cases hs : chkE c zss = 0
  · rw [if_pos hs]
    rw [hs] at HC ⊢
    obtain ⟨c1, c5, hn, hrow⟩ := chk_rows hs
    obtain ⟨n, rfl⟩ := Int.eq_ofNat_of_zero_le (show 0 ≤ c by omega)
    have hz5 : zss.length ≤ 5 := by omega
    have hn5 : n ≤ 5 := by omega
    have hmk2 := fun W => mk_rows n (by omega) W
    rw [show ((n : Int)).toNat = n by simp]
    have HT := Lib.hid (fun (d : Nat) (s : Int) (W : World) (F : Fut w W) (h : d < n) => isTaken_any a cap zss d s W (hL.lst.fut F) (fun k hk => by have := (hrow k hk).1; omega) (by omega))
    have HLE := Lib.hid (frT_len zss)
    have HFR : Hid (∀ d s, frT zss d (s + 1) = if tkn zss d s = true then frT zss d s else frT zss d s ++ [(s : Int)]) := Lib.hid (fun d s => rfl)
    have HF0 : Hid (∀ d, frT zss d 0 = []) := Lib.hid (fun d => rfl)
    clear hL hrow hs hcap hcm
    generalize hE : (List.range n).map (fun d => frT zss d n) = R at *
    have HE := Lib.hid hE
    have hRL : R.length = n := by rw [← hE]; simp
    have HRL := Lib.hid hRL
    clear hE hRL
    generalize frT zss = fr at *
    go_enter Try.func18, Try.ntmps18
    go_wp2_with fail
    refine HC.out.mono ?_
    rintro _ w1 ⟨rfl, F⟩
    have HF1 := Lib.hid F
    have hsz := RowKit.Below.size F
    clear F
    go_wp2_with fail
    have hG0 : FreeSt (w1.alloc (.cells (madeCells #[Value.slice none 0 0] n) 28)) w1.heap.size n (fun _ => .slice none 0 0) 0 (fun d => fr d n) :=
      ⟨World.rowIs_made w1 (.slice none 0 0) n 28, fun i hi => absurd hi (Nat.not_lt_zero i), fun _ _ _ => rfl⟩
    have F1 : RowKit.Below w1.heap.size w1 (w1.alloc (.cells (madeCells #[Value.slice none 0 0] n) 28)) := Fut.alloc _ _
    generalize w1.alloc (.cells (madeCells #[Value.slice none 0 0] n) 28) = W1 at *
    generalize hB : w1.heap.size = g at *
    have HB0 := Lib.hid F1
    have HG0 := Lib.hid hG0
    clear hG0 F1 hmk2
    obtain ⟨i0, hi0, hz0, hz1, hz2⟩ := info_parts info3
    go_loopw [20] (fun iv wr => ∃ (k : Nat) (vs : Nat → Value), k ≤ n ∧ iv = .int .i64 k ∧ Hid (FreeSt wr g n vs k (fun d => fr d n)) ∧ Hid (RowKit.Below g w1 wr)) (fun iv _ => n - (intOf iv).toNat)
    case atStart => exact ⟨0, _, Nat.zero_le _, rfl, HG0, HB0⟩
    case round =>
      obtain ⟨k, vs, hk, rfl, HG, HF⟩ := hrel
      by_cases hlt : k < n
      · have hkx : (k : Int) < n := by omega
        have hgw : g < wr.heap.size := HG.out.outer.lt
        have h0 : Owns wr wr.heap.size (vs k) (fr k 0) := by
          rw [HF0.out, HG.out.rest k (Nat.le_refl _) hlt]
          exact World.ownsRow_nil _ _ _ _
        have HI0 : Hid (wr.grownBy wr (some g)) := Lib.hid ⟨rfl, rfl, rfl, Nat.le_refl _, fun _ _ _ => rfl⟩
        have HO0 := Lib.hid h0
        have HR0 := Lib.hid HG.out.outer
        have HTK := Lib.hid (fun s W F => HT.out k s W F hlt)
        clear h0
        go_wp2_with fail
        have HGD := Lib.hid HG.out.done
        have HRS := Lib.hid HG.out.rest
        clear HG
        generalize wr = w0 at *
        go_loopw [24] (fun iv wr => ∃ (s : Nat) (us : Nat → Value), s ≤ n ∧ iv = .int .i64 s ∧ Hid (wr.rowIs g 28 n us) ∧ Hid (∀ i, i ≠ k → us i = vs i) ∧ Hid (Owns wr w0.heap.size (us k) (fr k s)) ∧ Hid (w0.grownBy wr (some g)) ∧ Hid (RowKit.Below g w1 wr)) (fun iv _ => n - (intOf iv).toNat)
        case atStart => exact ⟨0, vs, Nat.zero_le _, rfl, HR0, Lib.hid (fun i _ => rfl), HO0, HI0, HF⟩
        case round =>
          obtain ⟨s, us, hsn, rfl, HR, HU, HO, HI, HB⟩ := hrel
          by_cases hsl : s < n
          · have hsx : (s : Int) < n := by omega
            have HFs := Lib.hid (Fut.trans' HF1.out HB.out (by omega))
            have HTS := Lib.hid (HTK.out (s : Int) wr HFs.out)
            have HFRS := Lib.hid (HFR.out k s)
            cases htk : tkn zss k (s : Int)
            · rw [htk] at HTS HFRS
              simp only [Bool.false_eq_true, if_false] at HFRS
              have hlen := HLE.out k s
              clear htk
              go_wp2_with fail
              refine HTS.out.mono ?_
              rintro _ w3 ⟨rfl, F⟩
              have HR3 := Lib.hid (HR.out.of_block (RowKit.Below.block F _ HR.out.lt))
              have HO3 := Lib.hid (HO.out.fut F)
              have HI3 : Hid (w0.grownBy w3 (some g)) := Lib.hid (HI.out.trans ⟨F.os, F.tape, F.output, F.size, fun k hk _ => F.block k hk⟩)
              have HB3 : Hid (RowKit.Below g w1 w3) := Lib.hid (HB.out.trans (RowKit.Below.mono F (by have := RowKit.Below.size HB.out; omega)))
              clear HR HO HI HB F
              obtain ⟨av, ac, hav, hl1, hl2, _⟩ := HO3.out.form
              have e1 := HR3.out.cell hlt
              rw [hav] at e1
              rw [hav] at HO3
              have hgw3 := HR3.out.lt
              go_wp2_with (at_builtin; refine wpList_append_own _ rfl _ _ 28 rfl w0.heap.size 3 i0 (.int .i64 0) 1 8 Try.underlying28 hi0 hz0 hz1 hz2 rfl (by decide) _ _ _ rfl (HO3.out.fut (Fut.alloc _ _)) ⟨w3.heap.size, 0, none⟩ 1 1 [.int .i64 (s : Int)] rfl rfl (cell_one (by simp [go_sem])) (by simp [Value.oneCell']) (by unfold maxLen; omega) (by omega) (by have := HI3.out.size; simp; omega) ?_)
              intro v' w7 hown' hgrow _
              have hOA : Owns (w3.alloc (.cells #[Value.int .i64 (s : Int)] 3)) w0.heap.size (.slice av (fr k s).length ac) (fr k s) := HO3.out.fut (Fut.alloc _ _)
              have HO7 : Hid (Owns w7 w0.heap.size v' (fr k (s + 1))) := Lib.hid (by rw [HFRS.out]; unfold Owns; simpa using hown')
              have hIA : w0.grownBy (w3.alloc (.cells #[Value.int .i64 (s : Int)] 3)) (some g) := HI3.out.trans (World.grownBy_alloc _ _ _)
              have HI7 : Hid (w0.grownBy w7 (some g)) := Lib.hid (grown_far hIA hgrow hOA)
              have hfar : some g ≠ (Value.slice av (fr k s).length ac).ownBlock := fun e => by
                have := (World.ownsRow.lt hOA g e.symm).1
                omega
              have HB7 : Hid (RowKit.Below g w1 w7) := Lib.hid (RowKit.Below.grown (HB3.out.alloc (by omega) _) hgrow (by simp; omega) (fun q hq => by
                have := (World.ownsRow.lt hOA q hq).1
                omega))
              have HR7 : Hid (w7.rowIs g 28 n us) := Lib.hid ((HR3.out.alloc _).of_block (hgrow.block g (by simp; omega) hfar))
              obtain ⟨bv, bc, hbv, _, _, _⟩ := HO7.out.form
              subst hbv
              have HR8 := Lib.hid (HR7.out.set k (.slice bv (fr k (s + 1)).length bc))
              have HO8 : Hid (Owns (w7.setCell ⟨g, k, none⟩ (.slice bv (fr k (s + 1)).length bc)) w0.heap.size (.slice bv (fr k (s + 1)).length bc) (fr k (s + 1))) := Lib.hid (HO7.out.grown (bm := g) (grown_set ⟨rfl, rfl, rfl, Nat.le_refl _, fun _ _ _ => rfl⟩) hgw)
              have HI8 : Hid (w0.grownBy (w7.setCell ⟨g, k, none⟩ (.slice bv (fr k (s + 1)).length bc)) (some g)) := Lib.hid (grown_set HI7.out)
              have HB8 : Hid (RowKit.Below g w1 (w7.setCell ⟨g, k, none⟩ (.slice bv (fr k (s + 1)).length bc))) := Lib.hid (HB7.out.setCell (p := ⟨g, k, none⟩) (Nat.le_refl _) _)
              have e2 := HR7.out.cell hlt
              have e3 := HR7.out.frozen k
              clear hown' hgrow hOA hIA hfar e1
              go_wp2
              go_round
              case rel => exact ⟨s + 1, _, by omega, by go_num, HR8, Lib.hid (fun i hi => by show (if i = k then _ else us i) = vs i; rw [if_neg hi]; exact HU.out i hi), Lib.hid (by show Owns _ _ (if k = k then _ else us k) _; rw [if_pos rfl]; exact HO8.out), HI8, HB8⟩
              case measure => simp [intOf]; omega
            · rw [htk] at HTS HFRS
              simp only [if_true] at HFRS
              clear htk
              go_wp2_with fail
              refine HTS.out.mono ?_
              rintro _ w3 ⟨rfl, F⟩
              have HR3 := Lib.hid (HR.out.of_block (RowKit.Below.block F _ HR.out.lt))
              have HO3 := Lib.hid (HO.out.fut F)
              have HI3 : Hid (w0.grownBy w3 (some g)) := Lib.hid (HI.out.trans ⟨F.os, F.tape, F.output, F.size, fun k hk _ => F.block k hk⟩)
              have HB3 : Hid (RowKit.Below g w1 w3) := Lib.hid (HB.out.trans (RowKit.Below.mono F (by have := RowKit.Below.size HB.out; omega)))
              clear HR HO HI HB F
              rw [← HFRS.out] at HO3
              go_wp2
              go_round
              case rel => exact ⟨s + 1, us, by omega, by go_num, HR3, HU, HO3, HI3, HB3⟩
              case measure => simp [intOf]; omega
          · obtain rfl : s = n := by omega
            have HG2 : Hid (FreeSt wr g s us (k + 1) (fun d => fr d s)) := Lib.hid ⟨HR.out, fun i hi => by
              by_cases e : i = k
              · subst e; exact HO.out.base (by omega)
              · rw [HU.out i e]; exact (HGD.out i (by omega)).grown HI.out (Nat.lt_succ_self g), fun i hi hin => by
              rw [HU.out i (by omega)]; exact HRS.out i (by omega) hin⟩
            go_wp2
            go_round
            case rel => exact ⟨k + 1, us, by omega, by go_num, HG2, HB⟩
            case measure => simp [intOf]; omega
      · obtain rfl : k = n := by omega
        have HLL := Lib.hid HG.out.lists
        go_wp2
        go_ret2
        refine ⟨some ⟨g, 0, none⟩, k, ?_, by have := HRL.out; omega, by omega, ?_, Fut.trans' HF1.out HF.out (by omega)⟩
        · rw [HRL.out]; rfl
        · rw [← HE.out]; exact HLL.out
  · rw [if_neg hs]
    clear hL
    generalize chkE c zss = E at *
    go_enter Try.func18, Try.ntmps18
    go_wp2_with fail
    refine HC.out.mono ?_
    rintro _ w1 ⟨rfl, F⟩
    have HF := Lib.hid F
    clear F
    go_wp2
    go_ret2
    exact TupLC.nil E HF.out
end
section
/-- how often a number is in a list, on top of u. -/
def cntR (s : Int) : List Int → Nat → Nat
  | [], u => u
  | x :: t, u => if x = s then cntR s t (u + 1) else cntR s t u
def tmsR (s : Int) : List (List Int) → Nat → Nat
  | [], u => u
  | l :: t, u => tmsR s t (cntR s l u)
def dayR : List (List Int) → Nat → Nat
  | [], d => d
  | l :: t, _ => dayR t l.length
def barsE (c : Int) (zss : List (List Int)) (s : Int) : Bool := decide ((tmsR s zss 0 : Int) < zss.length + dayR zss 0 - c)
/-- a corner as an argument: the number of streets, and lists. -/
abbrev begV (c : Int) (a : Option Addr) (n cap : Nat) : Value := .agg #[.int .i64 c, .slice a n cap]
set_option maxRecDepth 100000 in
set_option maxHeartbeats 4000000 in
theorem bars_any (c : Int) (a : Option Addr) (cap : Nat) (zss : List (List Int)) (s : Int) (w : World) (hL : LstAt w a zss) (hl : zss.length ≤ 5) (hd : ∀ k, k < zss.length → (lth zss k).length ≤ 5) (hc1 : 1 ≤ c) (hc5 : c ≤ 5) :
    Calls Try.prog 92 #[begV c a zss.length cap, .int .i64 s] w fun e w' => e = .returned (.bool (barsE c zss s)) ∧ Fut w w' := by
  have HL := Lib.hid hL
  have HD := Lib.hid hd
  have hlx : (zss.length : Int) ≤ 5 := by omega
  unfold barsE
  clear hL hd
  generalize hT : tmsR s zss 0 = T at *
  generalize hD : dayR zss 0 = D at *
  have HT := Lib.hid hT
  have HDD := Lib.hid hD
  clear hT hD
  go_enter Try.func92, Try.ntmps92
  go_wp2_with fail
  have F0 : Fut w (w.alloc (.cells #[.int .i64 c, .slice a zss.length cap] 83)) := Fut.alloc _ _
  have b0 : (w.alloc (.cells #[.int .i64 c, .slice a zss.length cap] 83)).cell? ⟨w.heap.size, 0, none⟩ = some (.int .i64 c) := by simp [go_sem]
  have b1 : (w.alloc (.cells #[.int .i64 c, .slice a zss.length cap] 83)).cell? ⟨w.heap.size, 1, none⟩ = some (.slice a zss.length cap) := by simp [go_sem]
  generalize w.alloc (.cells #[.int .i64 c, .slice a zss.length cap] 83) = W1 at *
  generalize w.heap.size = B at *
  have HF := Lib.hid F0
  clear F0
  go_loopw [5, 6, 14] (fun tv dv iv wr => ∃ k u d : Nat, k ≤ zss.length ∧ tv = .int .i64 u ∧ dv = .int .i64 d ∧ iv = .int .i64 k ∧ u ≤ 5 * k ∧ d ≤ 5 ∧ Hid (tmsR s (zss.drop k) u = T) ∧ Hid (dayR (zss.drop k) d = D) ∧ wr = W1) (fun _ _ iv _ => zss.length - (intOf iv).toNat)
  case atStart => exact ⟨0, 0, 0, Nat.zero_le _, rfl, rfl, rfl, by omega, by omega, HT, HDD, rfl⟩
  case round =>
    obtain ⟨k, u, d, hk, rfl, rfl, rfl, hu, hd, HO, HP, rfl⟩ := hrel
    by_cases hlt : k < zss.length
    · have hkx : (k : Int) < zss.length := by omega
      obtain ⟨bb, off, l, lc, ea, hbb, d1, hI⟩ := (HL.out.fut HF.out) k hlt
      subst ea
      have hdr := lth_drop zss k hlt
      rw [hdr] at HO HP
      have hz5 := HD.out k hlt
      generalize lth zss k = zs at *
      have HI := Lib.hid hI
      unfold tmsR at HO
      unfold dayR at HP
      clear hdr hI
      generalize hV : cntR s zs u = V at *
      have HV := Lib.hid hV
      clear hV
      go_wp2_with fail
      go_loopw [5, 22] (fun tv iv wq => ∃ j v : Nat, j ≤ zs.length ∧ tv = .int .i64 v ∧ iv = .int .i64 j ∧ v ≤ 5 * k + j ∧ Hid (cntR s (zs.drop j) v = V) ∧ wq = wr) (fun _ iv _ => zs.length - (intOf iv).toNat)
      case atStart => exact ⟨0, u, Nat.zero_le _, rfl, rfl, by omega, HV, rfl⟩
      case round =>
        obtain ⟨j, v, hj, rfl, rfl, hv, HQ, rfl⟩ := hrel
        by_cases hjl : j < zs.length
        · have hjx : (j : Int) < zs.length := by omega
          obtain ⟨b1', off1, ea1, hb1', e1⟩ := HI.out j hjl
          subst ea1
          have hdr := nth_drop zs j hjl
          rw [hdr] at HQ
          generalize nth zs j = z at *
          unfold cntR at HQ
          clear hdr
          by_cases hq : z = s
          · rw [if_pos hq] at HQ
            go_wp2
            go_round
            case rel => exact ⟨j + 1, v + 1, by omega, by go_num, by go_num, by omega, HQ, trivial⟩
            case measure => simp [intOf]; omega
          · rw [if_neg hq] at HQ
            go_wp2
            go_round
            case rel => exact ⟨j + 1, v, by omega, rfl, by go_num, by omega, HQ, trivial⟩
            case measure => simp [intOf]; omega
        · obtain rfl : j = zs.length := by omega
          rw [List.drop_of_length_le (Nat.le_refl _)] at HQ
          have hV : v = V := HQ.out
          subst hV
          go_wp2
          go_round
          case rel => exact ⟨k + 1, v, zs.length, by omega, rfl, rfl, by go_num, by omega, by omega, HO, HP, trivial⟩
          case measure => simp [intOf]; omega
    · obtain rfl : k = zss.length := by omega
      rw [List.drop_of_length_le (Nat.le_refl _)] at HO HP
      have hT : u = T := HO.out
      have hD : d = D := HP.out
      subst hT
      subst hD
      go_wp2
      go_ret
      exact ⟨rfl, HF.out⟩
/-- what is known of a place of a board. -/
def knF (zss : List (List Int)) (k d : Nat) : Int := if k < zss.length ∧ d < (lth zss k).length then nth (lth zss k) d else -1
theorem rows_bars (v : Value) (x : Value) (w : World) : Calls Try.prog 195 #[v, x] w fun e w' => e = .returned (.bool false) ∧ w = w' := by
  go_enter Try.func195, Try.ntmps195
  go_wp2
  go_ret
  exact ⟨rfl, rfl⟩
theorem rows_street (a : Option Addr) (cap : Nat) (zss : List (List Int)) (k d : Nat) (w : World) (hL : LstAt w a zss) (hl : zss.length ≤ 1000) (hd : k < zss.length → d < (lth zss k).length) (hz : k < zss.length → (lth zss k).length ≤ 1000) :
    Calls Try.prog 196 #[.slice a zss.length cap, .int .i64 k, .int .i64 d] w fun e w' => e = .returned (.int .i64 (knF zss k d)) ∧ w = w' := by
  unfold knF
  by_cases hk : k < zss.length
  · have hdk := hd hk
    have hzk := hz hk
    rw [if_pos ⟨hk, hdk⟩]
    obtain ⟨bb, off, l, lc, ea, hbb, d1, hI⟩ := hL k hk
    subst ea
    obtain ⟨b1, off1, ea1, hb1, e1⟩ := hI d hdk
    subst ea1
    have hkx : (k : Int) < zss.length := by omega
    have hdx : (d : Int) < (lth zss k).length := by omega
    have hlx : (zss.length : Int) ≤ 1000 := by omega
    have hzx : ((lth zss k).length : Int) ≤ 1000 := by omega
    generalize nth (lth zss k) d = z at *
    generalize (lth zss k).length = n at *
    clear hI hL hd hz
    go_enter Try.func196, Try.ntmps196
    go_wp2
    go_ret
    exact ⟨rfl, rfl⟩
  · rw [if_neg (fun q => hk q.1)]
    clear hL hd hz
    go_enter Try.func196, Try.ntmps196
    go_wp2
    go_ret
    exact ⟨rfl, rfl⟩
set_option maxRecDepth 100000 in
theorem beg_street (c : Int) (a : Option Addr) (cap : Nat) (zss : List (List Int)) (k d : Nat) (w : World) (hL : LstAt w a zss) (hl : zss.length ≤ 1000) (hz : k < zss.length → (lth zss k).length ≤ 1000) :
    Calls Try.prog 197 #[begV c a zss.length cap, .int .i64 k, .int .i64 d] w fun e w' => e = .returned (.int .i64 (knF zss k d)) ∧ Fut w w' := by
  have F0 : Fut w (w.alloc (.cells #[.int .i64 c, .slice a zss.length cap] 83)) := Fut.alloc _ _
  have b0 : (w.alloc (.cells #[.int .i64 c, .slice a zss.length cap] 83)).cell? ⟨w.heap.size, 0, none⟩ = some (.int .i64 c) := by simp [go_sem]
  have b1 : (w.alloc (.cells #[.int .i64 c, .slice a zss.length cap] 83)).cell? ⟨w.heap.size, 1, none⟩ = some (.slice a zss.length cap) := by simp [go_sem]
  unfold knF
  by_cases hk : k < zss.length
  · have hzk := hz hk
    obtain ⟨bb, off, l, lc, ea, hbb, d1, hI⟩ := (hL.fut F0) k hk
    subst ea
    have hkx : (k : Int) < zss.length := by omega
    have hlx : (zss.length : Int) ≤ 1000 := by omega
    have hzx : ((lth zss k).length : Int) ≤ 1000 := by omega
    by_cases hdk : d < (lth zss k).length
    · rw [if_pos ⟨hk, hdk⟩]
      obtain ⟨b2, off1, ea1, hb1, e1⟩ := hI d hdk
      subst ea1
      have hdx : (d : Int) < (lth zss k).length := by omega
      generalize nth (lth zss k) d = z at *
      generalize (lth zss k).length = n at *
      clear hI hL hz
      go_enter Try.func197, Try.ntmps197
      go_wp2
      go_ret
      exact ⟨rfl, F0⟩
    · rw [if_neg (fun q => hdk q.2)]
      have hdx : ¬ (d : Int) < (lth zss k).length := by omega
      generalize (lth zss k).length = n at *
      clear hI hL hz
      go_enter Try.func197, Try.ntmps197
      go_wp2
      go_ret
      exact ⟨rfl, F0⟩
  · rw [if_neg (fun q => hk q.1)]
    clear hL hz
    go_enter Try.func197, Try.ntmps197
    go_wp2
    go_ret
    exact ⟨rfl, F0⟩
end
section
/-- is a street neither in a row nor on a day? -/
def fitB (n : Nat) (f : Nat → Nat → Int) (k d : Nat) (s : Int) : Bool := decide (∀ i, i < n → f k i ≠ s ∧ f i d ≠ s)
theorem fits_any {w : World} {B g n : Nat} {bl : Nat → Nat} {f : Nat → Nat → Int} (h : Grid w B g n n bl n f) (hn : n ≤ 1000) (k d : Nat) (hk : k < n) (hd : d < n) (s : Int) :
    Calls Try.prog 137 #[.slice (some ⟨g, 0, none⟩) n n, .int .i64 k, .int .i64 d, .int .i64 s] w fun e w' => e = .returned (.bool (fitB n f k d s)) ∧ w = w' := by
  have H := Lib.hid h
  have hkx : (k : Int) < n := by omega
  have hdx : (d : Int) < n := by omega
  have hnx : (n : Int) ≤ 1000 := by omega
  clear h
  generalize hE : fitB n f k d s = E at *
  have HE := Lib.hid hE
  clear hE
  go_enter Try.func137, Try.ntmps137
  go_wp2_with fail
  go_loopw [12] (fun iv wr => ∃ i : Nat, i ≤ n ∧ iv = .int .i64 i ∧ Hid (∀ j, j < i → f k j ≠ s ∧ f j d ≠ s) ∧ wr = w) (fun iv _ => n - (intOf iv).toNat)
  case atStart => exact ⟨0, Nat.zero_le _, rfl, Lib.hid (fun j hj => absurd hj (Nat.not_lt_zero j)), rfl⟩
  case round =>
    obtain ⟨i, hi, rfl, HQ, rfl⟩ := hrel
    by_cases hlt : i < n
    · have hix : (i : Int) < n := by omega
      have c1 := H.out.cell hk hk
      have c2 := H.out.at hk hlt
      have c3 := H.out.cell hlt hlt
      have c4 := H.out.at hlt hd
      by_cases h1 : f k i = s
      · have hE : E = false := by rw [← HE.out]; unfold fitB; rw [decide_eq_false_iff_not]; exact fun q => (q i hlt).1 h1
        subst hE
        generalize f i d = y at *
        generalize f k i = x at *
        subst h1
        go_wp2
        go_ret
        exact ⟨rfl, rfl⟩
      · by_cases h2 : f i d = s
        · have hE : E = false := by rw [← HE.out]; unfold fitB; rw [decide_eq_false_iff_not]; exact fun q => (q i hlt).2 h2
          subst hE
          generalize f i d = y at *
          generalize f k i = x at *
          subst h2
          go_wp2
          go_ret
          exact ⟨rfl, rfl⟩
        · have HQ2 : Hid (∀ j, j < i + 1 → f k j ≠ s ∧ f j d ≠ s) := Lib.hid (fun j hj => by
            rcases Nat.lt_or_ge j i with q | q
            · exact HQ.out j q
            · obtain rfl : j = i := by omega
              exact ⟨h1, h2⟩)
          generalize f i d = y at *
          generalize f k i = x at *
          have q1 : (x == s) = false := by rw [beq_eq_false_iff_ne]; exact h1
          have q2 : (y == s) = false := by rw [beq_eq_false_iff_ne]; exact h2
          go_wp2
          go_round
          case rel => exact ⟨i + 1, by omega, by go_num, HQ2, trivial⟩
          case measure => simp [intOf]; omega
    · obtain rfl : i = n := by omega
      have hE : E = true := by rw [← HE.out]; unfold fitB; rw [decide_eq_true_eq]; exact HQ.out
      subst hE
      go_wp2
      go_ret
      exact ⟨rfl, rfl⟩
end
section
/-- a board, one place of it turned. -/
def upd (f : Nat → Nat → Int) (a b : Nat) (x : Int) : Nat → Nat → Int := fun i j => if i = a ∧ j = b then x else f i j
/-- the places from p on filled, the smallest streets first, m of them. -/
def fillF (n : Nat) : Nat → Nat → (Nat → Nat → Int) → Option (Nat → Nat → Int)
  | 0, _, f => some f
  | m + 1, p, f => if f (p / n) (p % n) = -1 then (List.range n).findSome? (fun (s : Nat) => if fitB n f (p / n) (p % n) (s : Int) = true then fillF n m (p + 1) (upd f (p / n) (p % n) (s : Int)) else none) else fillF n m (p + 1) f
theorem fit_upd {n : Nat} {f : Nat → Nat → Int} {k d : Nat} {x s : Int} (h0 : f k d ≠ s) (hx : x ≠ s) : fitB n (upd f k d x) k d s = fitB n f k d s := by
  unfold fitB
  rw [decide_eq_decide]
  constructor
  · intro h i hi
    obtain ⟨h1, h2⟩ := h i hi
    unfold upd at h1 h2
    refine ⟨?_, ?_⟩
    · by_cases e : i = d
      · subst e; exact h0
      · rw [if_neg (fun q => e q.2)] at h1; exact h1
    · by_cases e : i = k
      · subst e; exact h0
      · rw [if_neg (fun q => e q.1)] at h2; exact h2
  · intro h i hi
    obtain ⟨h1, h2⟩ := h i hi
    unfold upd
    refine ⟨?_, ?_⟩
    · by_cases e : i = d
      · rw [if_pos ⟨rfl, e⟩]; exact hx
      · rw [if_neg (fun q => e q.2)]; exact h1
    · by_cases e : i = k
      · rw [if_pos ⟨e, rfl⟩]; exact hx
      · rw [if_neg (fun q => e q.1)]; exact h2
theorem fs_none {α : Type} {f : Nat → Option α} : ∀ {m : Nat}, (∀ j, j < m → f j = none) → (List.range m).findSome? f = none := fun {m} h => by
  rw [List.findSome?_eq_none_iff]
  intro j hj
  exact h j (List.mem_range.1 hj)
theorem fs_at {α : Type} {f : Nat → Option α} {i m : Nat} {v : α} (h : ∀ j, j < i → f j = none) (hi : f i = some v) (hm : i < m) : (List.range m).findSome? f = some v := by
  obtain ⟨d, rfl⟩ : ∃ d, m = i + 1 + d := ⟨m - (i + 1), by omega⟩
  induction d with
  | zero => rw [Nat.add_zero, List.range_succ, List.findSome?_append, fs_none h]; simp [hi]
  | succ d ih => rw [show i + 1 + (d + 1) = i + 1 + d + 1 by omega, List.range_succ, List.findSome?_append, ih (by omega)]; rfl
abbrev FillP (n B g : Nat) (bl : Nat → Nat) (r : Option (Nat → Nat → Int)) (f : Nat → Nat → Int) (w : World) (e : Ending) (w' : World) : Prop :=
  e = .returned (.bool r.isSome) ∧ Grid w' B g n n bl n (r.getD f) ∧ RowKit.Below g w w'
set_option maxRecDepth 100000 in
set_option maxHeartbeats 4000000 in
theorem fill_any (n : Nat) (h1 : 1 ≤ n) (h5 : n ≤ 5) (B g : Nat) (bl : Nat → Nat) : ∀ (m p : Nat) (f : Nat → Nat → Int) (w : World), p + m = n * n → Grid w B g n n bl n f →
    Calls Try.prog 120 #[.slice (some ⟨g, 0, none⟩) n n, .int .i64 p] w (FillP n B g bl (fillF n m p f) f w) := by
  intro m
  induction m with
  | zero =>
    intro p f w hp h
    have hpx : (p : Int) = (n : Int) * n := by rw [← Int.natCast_mul]; omega
    have hH := Lib.hid h
    have hnn : (n : Int) * n ≤ 25 := by have : n * n ≤ 5 * 5 := Nat.mul_le_mul h5 h5; rw [← Int.natCast_mul]; omega
    have hn0 : 0 ≤ (n : Int) * n := by rw [← Int.natCast_mul]; omega
    clear h hp
    unfold fillF
    generalize hP : (p : Int) = P at *
    subst hpx
    have hw1 : IntKind.i64.wrap ((n : Int) * n) = (n : Int) * n := IntWalk.i64_in _ ⟨by omega, by omega⟩
    go_enter Try.func120, Try.ntmps120
    go_wp2
    go_ret
    exact ⟨rfl, hH.out, RowKit.Below.refl _ _⟩
  | succ m ih =>
    intro p f w hp h
    have IH := Lib.hid ih
    have H := Lib.hid h
    have hpn : p < n * n := by omega
    have hk : p / n < n := Nat.div_lt_of_lt_mul hpn
    have hd : p % n < n := Nat.mod_lt _ (by omega)
    have hq : (p : Int).tdiv (n : Int) = ((p / n : Nat) : Int) := by rw [Int.tdiv_eq_ediv_of_nonneg (by omega), Int.natCast_ediv]
    have hr : (p : Int).tmod (n : Int) = ((p % n : Nat) : Int) := by rw [Int.tmod_eq_emod_of_nonneg (by omega), Int.natCast_emod]
    have hnn : n * n ≤ 5 * 5 := Nat.mul_le_mul h5 h5
    have hpx : ¬ (p : Int) = (n : Int) * n := by rw [← Int.natCast_mul]; omega
    have hpb : ((p : Int) == (n : Int) * n) = false := by rw [beq_eq_false_iff_ne]; exact hpx
    have hnc : (n : Int) * n ≤ 25 := by rw [← Int.natCast_mul]; omega
    have hnc0 : 0 ≤ (n : Int) * n := by rw [← Int.natCast_mul]; omega
    have hw1 : IntKind.i64.wrap ((n : Int) * n) = (n : Int) * n := IntWalk.i64_in _ ⟨by omega, by omega⟩
    have hp25 : p < 25 := by omega
    have hn1 : ¬ n = 0 := by omega
    have hn2 : ¬ (n : Int) = 0 := by omega
    have hn3 : ((n : Int) == 0) = false := by rw [beq_eq_false_iff_ne]; exact hn2
    clear ih h
    have hF : fillF n (m + 1) p f = if f (p / n) (p % n) = -1 then (List.range n).findSome? (fun (s : Nat) => if fitB n f (p / n) (p % n) (s : Int) = true then fillF n m (p + 1) (upd f (p / n) (p % n) (s : Int)) else none) else fillF n m (p + 1) f := rfl
    generalize fillF n (m + 1) p f = R at *
    generalize hkk : p / n = k at *
    generalize hdd : p % n = d at *
    have hk25 : k < 5 := by omega
    have hd25 : d < 5 := by omega
    have hwk : IntKind.i64.wrap (k : Int) = k := IntWalk.i64_in _ ⟨by omega, by omega⟩
    have hwd : IntKind.i64.wrap (d : Int) = d := IntWalk.i64_in _ ⟨by omega, by omega⟩
    have hkx : (k : Int) < n := by omega
    have hdx : (d : Int) < n := by omega
    have hnx : (n : Int) ≤ 5 := by omega
    clear hkk hdd hpn hpx
    have c1 := H.out.cell hk hk
    have c2 := H.out.at hk hd
    by_cases hz : f k d = -1
    · rw [if_pos hz] at hF
      rw [hz] at c2
      have HR := Lib.hid hF
      have HZ := Lib.hid hz
      clear hF hz
      have hm1 : ((-1 : Int) != -1) = false := by decide
      go_enter Try.func120, Try.ntmps120
      go_upto_region 3 with fail
      go_quiet (fail)
      have HG := Lib.hid (H.out.fut (Fut.drewN w nq))
      have HB : Hid (RowKit.Below g w (w.drewN nq)) := Lib.hid (below_drewN (RowKit.Below.refl _ _) nq)
      clear c1 c2
      generalize w.drewN nq = w2 at *
      have c3 := HG.out.cell hk hk
      have c4 := HG.out.at hk hd
      rw [HZ.out] at c4
      go_wp2_with fail
      clear c3 c4
      obtain ⟨Q, hQ⟩ : ∃ Q : Nat → Option (Nat → Nat → Int), Q = fun (s : Nat) => if fitB n f k d (s : Int) = true then fillF n m (p + 1) (upd f k d (s : Int)) else none := ⟨_, rfl⟩
      rw [← hQ] at HR
      have HQ := Lib.hid (fun s => congrFun hQ s)
      clear hQ
      go_loopw [37] (fun iv wr => ∃ (s : Nat) (fc : Nat → Nat → Int), s ≤ n ∧ iv = .int .i64 s ∧ Hid (Grid wr B g n n bl n fc) ∧ Hid (RowKit.Below g w wr) ∧ Hid (∀ j, j < s → Q j = none) ∧ Hid (fc = f ∨ ∃ x, x < s ∧ fc = upd f k d (x : Int))) (fun iv _ => n - (intOf iv).toNat)
      case atStart => exact ⟨0, f, Nat.zero_le _, rfl, HG, HB, Lib.hid (fun j hj => absurd hj (Nat.not_lt_zero j)), Lib.hid (Or.inl rfl)⟩
      case round =>
        obtain ⟨s, fc, hs, rfl, HGs, HBs, HNs, HFs⟩ := hrel
        by_cases hlt : s < n
        · have hsx : (s : Int) < n := by omega
          have HFT := Lib.hid (fits_any HGs.out (by omega) k d hk hd (s : Int))
          have hfe : fitB n fc k d (s : Int) = fitB n f k d (s : Int) := by
            rcases HFs.out with e | ⟨x, hx, e⟩
            · rw [e]
            · rw [e]; exact fit_upd (by rw [HZ.out]; omega) (by omega)
          rw [hfe] at HFT
          have HQs := Lib.hid (HQ.out s)
          clear hfe
          cases hft : fitB n f k d (s : Int)
          · rw [hft] at HFT HQs
            simp only [Bool.false_eq_true, if_false] at HQs
            clear hft
            go_wp2_with fail
            refine HFT.out.mono ?_
            rintro _ _ ⟨rfl, rfl⟩
            have HN2 : Hid (∀ j, j < s + 1 → Q j = none) := Lib.hid (fun j hj => by
              rcases Nat.lt_or_ge j s with q | q
              · exact HNs.out j q
              · obtain rfl : j = s := by omega
                exact HQs.out)
            have HF2 : Hid (fc = f ∨ ∃ x, x < s + 1 ∧ fc = upd f k d (x : Int)) := Lib.hid (by
              rcases HFs.out with e | ⟨x, hx, e⟩
              · exact Or.inl e
              · exact Or.inr ⟨x, by omega, e⟩)
            go_wp2
            go_round
            case rel => exact ⟨s + 1, fc, by omega, by go_num, HGs, HBs, HN2, HF2⟩
            case measure => simp [intOf]; omega
          · rw [hft] at HFT HQs
            simp only [if_true] at HQs
            clear hft
            go_wp2_with fail
            refine HFT.out.mono ?_
            rintro _ _ ⟨rfl, rfl⟩
            have c3 := HGs.out.cell hk hk
            have c4 := HGs.out.at hk hd
            have c5 : wr.frozen? ⟨bl k, d, none⟩ = false := (HGs.out.inner k hk).frozen d
            have hgb : g ≤ bl k := by have := HGs.out.above k hk; omega
            have HG4 : Hid (Grid (wr.setCell ⟨bl k, d, none⟩ (.int .i64 s)) B g n n bl n (upd f k d (s : Int))) := Lib.hid ((HGs.out.put hk d (s : Int)).congr fun i j _ _ => by
              unfold upd
              by_cases e : i = k ∧ j = d
              · rw [if_pos e, if_pos e]
              · rw [if_neg e, if_neg e]
                rcases HFs.out with q | ⟨x, hx, q⟩
                · rw [q]
                · rw [q]; unfold upd; rw [if_neg e])
            have HB4 : Hid (RowKit.Below g w (wr.setCell ⟨bl k, d, none⟩ (.int .i64 s))) := Lib.hid (HBs.out.setCell hgb _)
            go_wp2_with fail
            generalize wr.setCell ⟨bl k, d, none⟩ (.int .i64 s) = w4 at *
            refine (IH.out (p + 1) (upd f k d (s : Int)) w4 (by omega) HG4.out).mono ?_
            rintro _ w5 ⟨rfl, hG, hB⟩
            have HG5 := Lib.hid hG
            have HB5 := Lib.hid (HB4.out.trans hB)
            clear hG hB c3 c4 c5
            generalize fillF n m (p + 1) (upd f k d (s : Int)) = r at *
            cases r with
            | some v =>
              have hR : R = some v := by rw [HR.out]; exact fs_at HNs.out HQs.out hlt
              subst hR
              go_wp2
              go_ret
              exact ⟨rfl, HG5.out, HB5.out⟩
            | none =>
              have HN2 : Hid (∀ j, j < s + 1 → Q j = none) := Lib.hid (fun j hj => by
                rcases Nat.lt_or_ge j s with q | q
                · exact HNs.out j q
                · obtain rfl : j = s := by omega
                  exact HQs.out)
              go_wp2
              go_round
              case rel => exact ⟨s + 1, upd f k d (s : Int), by omega, by go_num, HG5, HB5, HN2, Lib.hid (Or.inr ⟨s, by omega, rfl⟩)⟩
              case measure => simp [intOf]; omega
        · obtain rfl : s = n := by omega
          have hR : R = none := by rw [HR.out]; exact fs_none HNs.out
          subst hR
          have c3 := HGs.out.cell hk hk
          have c4 := HGs.out.at hk hd
          have c5 : wr.frozen? ⟨bl k, d, none⟩ = false := (HGs.out.inner k hk).frozen d
          have hgb : g ≤ bl k := by have := HGs.out.above k hk; omega
          have HG4 : Hid (Grid (wr.setCell ⟨bl k, d, none⟩ (.int .i64 (-1))) B g s s bl s f) := Lib.hid ((HGs.out.put hk d (-1)).congr fun i j _ _ => by
            by_cases e : i = k ∧ j = d
            · rw [if_pos e, e.1, e.2]; exact HZ.out.symm
            · rw [if_neg e]
              rcases HFs.out with q | ⟨x, hx, q⟩
              · rw [q]
              · rw [q]; unfold upd; rw [if_neg e])
          have HB4 : Hid (RowKit.Below g w (wr.setCell ⟨bl k, d, none⟩ (.int .i64 (-1)))) := Lib.hid (HBs.out.setCell hgb _)
          go_wp2
          go_ret
          exact ⟨rfl, HG4.out, HB4.out⟩
    · rw [if_neg hz] at hF
      subst hF
      have hzb : (f k d != -1) = true := by rw [bne_iff_ne]; exact hz
      have HI := Lib.hid (fun W h => IH.out (p + 1) f W (by omega) h)
      generalize hfz : f k d = z at *
      have HFZ := Lib.hid hfz
      clear hfz
      go_enter Try.func120, Try.ntmps120
      go_upto_region 3 with fail
      go_quiet (fail)
      have HG := Lib.hid (H.out.fut (Fut.drewN w nq))
      have HB : Hid (RowKit.Below g w (w.drewN nq)) := Lib.hid (below_drewN (RowKit.Below.refl _ _) nq)
      clear c1 c2
      generalize w.drewN nq = w2 at *
      have c3 := HG.out.cell hk hk
      have c4 := HG.out.at hk hd
      rw [HFZ.out] at c4
      go_wp2_with fail
      refine (HI.out w2 HG.out).mono ?_
      rintro _ w3 ⟨rfl, hG, hB⟩
      have HG3 := Lib.hid hG
      have HB3 := Lib.hid (HB.out.trans hB)
      clear hG hB c3 c4
      go_wp2
      go_ret
      exact ⟨rfl, HG3.out, HB3.out⟩
end
section
theorem mk_board (n : Nat) (h : n ≤ 1000) (W : World) : (Instr.makeSlice 116 (.int .i64 n) (.int .i64 n)).run Try.prog W = .ok (.slice (some ⟨W.heap.size, 0, none⟩) n n) (W.alloc (.cells (madeCells #[.slice none 0 0] n) 28)) :=
  run_make_row' 116 28 (.slice none 0 0) 24 Try.underlying116 info28 rfl .i64 .i64 n (by omega) (by omega) W
theorem same_fut {f : FuncId} {args : Array Value} {w : World} {P : Ending → Prop} (h : Calls Try.prog f args w fun e w' => P e ∧ w = w') : Calls Try.prog f args w fun e w' => P e ∧ Fut w w' :=
  h.mono fun _ _ ⟨he, hw⟩ => ⟨he, hw ▸ Fut.rfl⟩
set_option maxRecDepth 100000 in
set_option maxHeartbeats 4000000 in
theorem laid_beg (n : Nat) (h1 : 1 ≤ n) (h5 : n ≤ 5) (a : Option Addr) (cap : Nat) (zss : List (List Int)) (w : World) (hL : LstAt w a zss) (hl : zss.length ≤ 5) (hz : ∀ k, k < zss.length → (lth zss k).length ≤ 1000) :
    Calls Try.prog 119 #[.int .i64 n, .iface 83 (begV n a zss.length cap)] w fun e w' => ∃ v, e = .returned v ∧ OwnG w' w.heap.size v n n (knF zss) ∧ Fut w w' := by
  have HST := Lib.hid (fun (k d : Nat) (W : World) (F : Fut w W) (h1 : k < n) (h2 : d < n) => beg_street (n : Int) a cap zss k d W (hL.fut F) (by omega) (hz k))
  have hms : ∀ W, (method 284 83 (begV n a zss.length cap) "breeze/week.street").run Try.prog W = .ok (197, (begV n a zss.length cap)) W := fun _ => by kernel_rfl
  have hmk1 := fun W => mk_row n (by omega) W
  have hmk2 := fun W => mk_board n (by omega) W
  have hnx : (n : Int) ≤ 5 := by omega
  clear hL hz
  generalize knF zss = kn at *
  go_enter Try.func119, Try.ntmps119
  go_wp2_with fail
  have hG0 := Grid.made w n n
  have F1 : RowKit.Below w.heap.size w (w.alloc (.cells (madeCells #[Value.slice none 0 0] n) 28)) := Fut.alloc _ _
  generalize w.alloc (.cells (madeCells #[Value.slice none 0 0] n) 28) = W1 at *
  generalize hB : w.heap.size = g at *
  have HF0 := Lib.hid F1
  have HG0 := Lib.hid hG0
  have HBB := Lib.hid hB
  clear hG0 F1 hmk2 hB
  go_loopw [12] (fun iv wr => ∃ (k : Nat) (bl : Nat → Nat), k ≤ n ∧ iv = .int .i64 k ∧ Hid (Grid wr g g n n bl k kn) ∧ Hid (RowKit.Below g w wr)) (fun iv _ => n - (intOf iv).toNat)
  case atStart => exact ⟨0, fun _ => 0, Nat.zero_le _, rfl, Lib.hid (HG0.out.congr fun i j hi => absurd hi (Nat.not_lt_zero i)), HF0⟩
  case round =>
    obtain ⟨k, bl, hk, rfl, HG, HF⟩ := hrel
    by_cases hlt : k < n
    · have hkx : (k : Int) < n := by omega
      have hGo := HG.out.outer
      have o1 : wr.cell? ⟨g, k, none⟩ = some (.slice none 0 0) := by rw [hGo.cell hlt, if_neg (Nat.lt_irrefl _)]
      have o2 : wr.frozen? ⟨g, k, none⟩ = false := hGo.frozen k
      have o3 : g < wr.heap.size := hGo.lt
      have hGR := HG.out.row.congr (f' := fun i j => if i = k then 0 else kn i j) (fun i j _ _ => rfl)
      have hBR : RowKit.Below g w ((wr.alloc (.cells (madeCells #[Value.int .i64 0] n) 3)).setCell ⟨g, k, none⟩ (.slice (some ⟨wr.heap.size, 0, none⟩) n n)) := (HF.out.alloc (Nat.le_of_lt o3) _).setCell (Nat.le_refl _) _
      clear hGo HG HF
      rw [World.setCell_alloc_past _ _ _ _ o3] at hGR hBR
      go_upto_region 6 with fail
      generalize (wr.setCell ⟨g, k, none⟩ (.slice (some ⟨wr.heap.size, 0, none⟩) n n)).alloc (.cells (madeCells #[Value.int .i64 0] n) 3) = W2 at *
      have hb2 : (fun i => if i = k then wr.heap.size else bl i) k = wr.heap.size := by simp
      generalize (fun i => if i = k then wr.heap.size else bl i) = bl2 at *
      generalize wr.heap.size = b at *
      have HG2 := Lib.hid hGR
      have HB2 := Lib.hid hBR
      have HBL := Lib.hid hb2
      have g0 := hGR.cell (Nat.lt_succ_self k) hlt
      rw [hb2] at g0
      clear hGR hBR o1 o2 o3 bl hb2
      go_wp2_with fail
      clear g0
      go_loopw [25] (fun iv wr => ∃ d : Nat, d ≤ n ∧ iv = .int .i64 d ∧ Hid (Grid wr g g n n bl2 (k + 1) (fun i j => if i = k then (if j < d then kn i j else 0) else kn i j)) ∧ Hid (RowKit.Below g w wr)) (fun iv _ => n - (intOf iv).toNat)
      case atStart => exact ⟨0, Nat.zero_le _, rfl, Lib.hid (HG2.out.congr fun i j _ _ => by
        by_cases e : i = k
        · rw [if_pos e, if_pos e, if_neg (Nat.not_lt_zero j)]
        · rw [if_neg e, if_neg e]), HB2⟩
      case round =>
        obtain ⟨d, hdn, rfl, HG3, HB3⟩ := hrel
        by_cases hdl : d < n
        · have hdx : (d : Int) < n := by omega
          have HFw : Hid (Fut w wr) := Lib.hid (by unfold Fut; rw [HBB.out]; exact HB3.out)
          have HSS := Lib.hid (fun W F => HST.out k d W F hlt hdl)
          have g1 := HG3.out.cell (Nat.lt_succ_self k) hlt
          have g2 := HG3.out.at (Nat.lt_succ_self k) hdl
          have g3 : wr.frozen? ⟨bl2 k, d, none⟩ = false := (HG3.out.inner k (Nat.lt_succ_self k)).frozen d
          have hgb : g ≤ bl2 k := by have := HG3.out.above k (Nat.lt_succ_self k); omega
          have hgz := HG3.out.outer.lt
          have hbz := (HG3.out.inner k (Nat.lt_succ_self k)).lt
          rw [HBL.out] at g1 g2 g3 hgb hbz
          have hgl := HG3.out.above k (Nat.lt_succ_self k)
          rw [HBL.out] at hgl
          have hn1 : ¬ g = b := by omega
          have hn2 : ¬ b = g := by omega
          go_upto_region 9 with fail
          go_region_held3 (fun w' => w'.cell? ⟨g, k, none⟩ = some (.slice (some ⟨b, 0, none⟩) n n)) (first | assumption | simp [go_sem, *]) (first | (go_at_call 197; refine (HSS.out _ (HFw.out.trans (Fut.drewN wr 1))).mono ?_; rintro _ w5 ⟨rfl, F5⟩; have q1 : w5.cell? ⟨g, k, none⟩ = some (.slice (some ⟨b, 0, none⟩) n n) := ((RowKit.Below.cell F5 (p := ⟨g, k, none⟩) hgz).trans g1); have q2 : w5.cell? ⟨b, d, none⟩ = some (.int .i64 _) := ((RowKit.Below.cell F5 (p := ⟨b, d, none⟩) hbz).trans g2); have q3 : w5.frozen? ⟨b, d, none⟩ = false := ((RowKit.Below.frozen F5 (p := ⟨b, d, none⟩) hbz).trans g3)))
          have hGw : Grid w5 g g n n bl2 (k + 1) (fun i j => if i = k then (if j < d then kn i j else 0) else kn i j) := (HG3.out.fut (Fut.drewN wr 1)).fut F5
          have hBw : RowKit.Below g w w5 := (RowKit.Below.drew HB3.out).trans (RowKit.Below.mono F5 (by show g ≤ wr.heap.size; omega))
          have HP := Lib.hid (hGw.put (Nat.lt_succ_self k) d (kn k d))
          have HB4 : Hid (RowKit.Below g w (w5.setCell ⟨bl2 k, d, none⟩ (.int .i64 (kn k d)))) := Lib.hid (hBw.setCell (by rw [HBL.out]; exact hgb) _)
          have HP2 : Hid (Grid (w5.setCell ⟨bl2 k, d, none⟩ (.int .i64 (kn k d))) g g n n bl2 (k + 1) (fun i j => if i = k then (if j < d + 1 then kn i j else 0) else kn i j)) := Lib.hid (HP.out.congr fun i j _ _ => by
            by_cases ei : i = k
            · rw [if_pos ei, if_pos ei]
              by_cases ej : j = d
              · rw [if_pos ⟨ei, ej⟩, if_pos (by omega), ei, ej]
              · rw [if_neg (fun q => ej q.2)]
                by_cases e3 : j < d
                · rw [if_pos e3, if_pos (by omega)]
                · rw [if_neg e3, if_neg (by omega)]
            · rw [if_neg (fun q => ei q.1), if_neg ei, if_neg ei])
          rw [HBL.out] at HB4 HP2
          clear HP hGw hBw HG3 HB3 q1 q2 q3 g1 g2 g3
          generalize w5.setCell ⟨b, d, none⟩ (.int .i64 (kn k d)) = w6 at *
          go_wp2
          go_round
          case rel => exact ⟨d + 1, by omega, by go_num, HP2, HB4⟩
          case measure => simp [intOf]; omega
        · obtain rfl : d = n := by omega
          have HG4 := Lib.hid (HG3.out.congr (f' := kn) (fun i j _ hj => by
            by_cases ei : i = k
            · rw [if_pos ei, if_pos hj]
            · rw [if_neg ei]))
          clear HG3
          go_wp2
          go_round
          case rel => exact ⟨k + 1, bl2, by omega, by go_num, HG4, HB3⟩
          case measure => simp [intOf]; omega
    · obtain rfl : k = n := by omega
      go_wp2
      go_ret
      exact ⟨_, rfl, ⟨g, bl, rfl, by rw [HBB.out]; exact HG.out⟩, by unfold Fut; rw [HBB.out]; exact HF.out⟩
set_option maxRecDepth 100000 in
set_option maxHeartbeats 4000000 in
theorem laid_rows (n : Nat) (h1 : 1 ≤ n) (h5 : n ≤ 5) (a : Option Addr) (cap : Nat) (zss : List (List Int)) (w : World) (hL : LstAt w a zss) (hl : zss.length ≤ 5) (hz : ∀ k, k < zss.length → (lth zss k).length ≤ 1000) (hr : ∀ k, k < zss.length → n ≤ (lth zss k).length) :
    Calls Try.prog 119 #[.int .i64 n, .iface 79 (.slice a zss.length cap)] w fun e w' => ∃ v, e = .returned v ∧ OwnG w' w.heap.size v n n (knF zss) ∧ Fut w w' := by
  have HST := Lib.hid (fun (k d : Nat) (W : World) (F : Fut w W) (h1 : k < n) (h2 : d < n) => same_fut (rows_street a cap zss k d W (hL.fut F) (by omega) (fun h => Nat.lt_of_lt_of_le h2 (hr k h)) (hz k)))
  have hms : ∀ W, (method 284 79 (.slice a zss.length cap) "breeze/week.street").run Try.prog W = .ok (196, (.slice a zss.length cap)) W := fun _ => by kernel_rfl
  have hmk1 := fun W => mk_row n (by omega) W
  have hmk2 := fun W => mk_board n (by omega) W
  have hnx : (n : Int) ≤ 5 := by omega
  clear hL hz hr
  generalize knF zss = kn at *
  go_enter Try.func119, Try.ntmps119
  go_wp2_with fail
  have hG0 := Grid.made w n n
  have F1 : RowKit.Below w.heap.size w (w.alloc (.cells (madeCells #[Value.slice none 0 0] n) 28)) := Fut.alloc _ _
  generalize w.alloc (.cells (madeCells #[Value.slice none 0 0] n) 28) = W1 at *
  generalize hB : w.heap.size = g at *
  have HF0 := Lib.hid F1
  have HG0 := Lib.hid hG0
  have HBB := Lib.hid hB
  clear hG0 F1 hmk2 hB
  go_loopw [12] (fun iv wr => ∃ (k : Nat) (bl : Nat → Nat), k ≤ n ∧ iv = .int .i64 k ∧ Hid (Grid wr g g n n bl k kn) ∧ Hid (RowKit.Below g w wr)) (fun iv _ => n - (intOf iv).toNat)
  case atStart => exact ⟨0, fun _ => 0, Nat.zero_le _, rfl, Lib.hid (HG0.out.congr fun i j hi => absurd hi (Nat.not_lt_zero i)), HF0⟩
  case round =>
    obtain ⟨k, bl, hk, rfl, HG, HF⟩ := hrel
    by_cases hlt : k < n
    · have hkx : (k : Int) < n := by omega
      have hGo := HG.out.outer
      have o1 : wr.cell? ⟨g, k, none⟩ = some (.slice none 0 0) := by rw [hGo.cell hlt, if_neg (Nat.lt_irrefl _)]
      have o2 : wr.frozen? ⟨g, k, none⟩ = false := hGo.frozen k
      have o3 : g < wr.heap.size := hGo.lt
      have hGR := HG.out.row.congr (f' := fun i j => if i = k then 0 else kn i j) (fun i j _ _ => rfl)
      have hBR : RowKit.Below g w ((wr.alloc (.cells (madeCells #[Value.int .i64 0] n) 3)).setCell ⟨g, k, none⟩ (.slice (some ⟨wr.heap.size, 0, none⟩) n n)) := (HF.out.alloc (Nat.le_of_lt o3) _).setCell (Nat.le_refl _) _
      clear hGo HG HF
      rw [World.setCell_alloc_past _ _ _ _ o3] at hGR hBR
      go_upto_region 6 with fail
      generalize (wr.setCell ⟨g, k, none⟩ (.slice (some ⟨wr.heap.size, 0, none⟩) n n)).alloc (.cells (madeCells #[Value.int .i64 0] n) 3) = W2 at *
      have hb2 : (fun i => if i = k then wr.heap.size else bl i) k = wr.heap.size := by simp
      generalize (fun i => if i = k then wr.heap.size else bl i) = bl2 at *
      generalize wr.heap.size = b at *
      have HG2 := Lib.hid hGR
      have HB2 := Lib.hid hBR
      have HBL := Lib.hid hb2
      have g0 := hGR.cell (Nat.lt_succ_self k) hlt
      rw [hb2] at g0
      clear hGR hBR o1 o2 o3 bl hb2
      go_wp2_with fail
      clear g0
      go_loopw [25] (fun iv wr => ∃ d : Nat, d ≤ n ∧ iv = .int .i64 d ∧ Hid (Grid wr g g n n bl2 (k + 1) (fun i j => if i = k then (if j < d then kn i j else 0) else kn i j)) ∧ Hid (RowKit.Below g w wr)) (fun iv _ => n - (intOf iv).toNat)
      case atStart => exact ⟨0, Nat.zero_le _, rfl, Lib.hid (HG2.out.congr fun i j _ _ => by
        by_cases e : i = k
        · rw [if_pos e, if_pos e, if_neg (Nat.not_lt_zero j)]
        · rw [if_neg e, if_neg e]), HB2⟩
      case round =>
        obtain ⟨d, hdn, rfl, HG3, HB3⟩ := hrel
        by_cases hdl : d < n
        · have hdx : (d : Int) < n := by omega
          have HFw : Hid (Fut w wr) := Lib.hid (by unfold Fut; rw [HBB.out]; exact HB3.out)
          have HSS := Lib.hid (fun W F => HST.out k d W F hlt hdl)
          have g1 := HG3.out.cell (Nat.lt_succ_self k) hlt
          have g2 := HG3.out.at (Nat.lt_succ_self k) hdl
          have g3 : wr.frozen? ⟨bl2 k, d, none⟩ = false := (HG3.out.inner k (Nat.lt_succ_self k)).frozen d
          have hgb : g ≤ bl2 k := by have := HG3.out.above k (Nat.lt_succ_self k); omega
          have hgz := HG3.out.outer.lt
          have hbz := (HG3.out.inner k (Nat.lt_succ_self k)).lt
          rw [HBL.out] at g1 g2 g3 hgb hbz
          have hgl := HG3.out.above k (Nat.lt_succ_self k)
          rw [HBL.out] at hgl
          have hn1 : ¬ g = b := by omega
          have hn2 : ¬ b = g := by omega
          go_upto_region 9 with fail
          go_region_held3 (fun w' => w'.cell? ⟨g, k, none⟩ = some (.slice (some ⟨b, 0, none⟩) n n)) (first | assumption | simp [go_sem, *]) (first | (go_at_call 196; refine (HSS.out _ (HFw.out.trans (Fut.drewN wr 1))).mono ?_; rintro _ w5 ⟨rfl, F5⟩; have q1 : w5.cell? ⟨g, k, none⟩ = some (.slice (some ⟨b, 0, none⟩) n n) := ((RowKit.Below.cell F5 (p := ⟨g, k, none⟩) hgz).trans g1); have q2 : w5.cell? ⟨b, d, none⟩ = some (.int .i64 _) := ((RowKit.Below.cell F5 (p := ⟨b, d, none⟩) hbz).trans g2); have q3 : w5.frozen? ⟨b, d, none⟩ = false := ((RowKit.Below.frozen F5 (p := ⟨b, d, none⟩) hbz).trans g3)))
          have hGw : Grid w5 g g n n bl2 (k + 1) (fun i j => if i = k then (if j < d then kn i j else 0) else kn i j) := (HG3.out.fut (Fut.drewN wr 1)).fut F5
          have hBw : RowKit.Below g w w5 := (RowKit.Below.drew HB3.out).trans (RowKit.Below.mono F5 (by show g ≤ wr.heap.size; omega))
          have HP := Lib.hid (hGw.put (Nat.lt_succ_self k) d (kn k d))
          have HB4 : Hid (RowKit.Below g w (w5.setCell ⟨bl2 k, d, none⟩ (.int .i64 (kn k d)))) := Lib.hid (hBw.setCell (by rw [HBL.out]; exact hgb) _)
          have HP2 : Hid (Grid (w5.setCell ⟨bl2 k, d, none⟩ (.int .i64 (kn k d))) g g n n bl2 (k + 1) (fun i j => if i = k then (if j < d + 1 then kn i j else 0) else kn i j)) := Lib.hid (HP.out.congr fun i j _ _ => by
            by_cases ei : i = k
            · rw [if_pos ei, if_pos ei]
              by_cases ej : j = d
              · rw [if_pos ⟨ei, ej⟩, if_pos (by omega), ei, ej]
              · rw [if_neg (fun q => ej q.2)]
                by_cases e3 : j < d
                · rw [if_pos e3, if_pos (by omega)]
                · rw [if_neg e3, if_neg (by omega)]
            · rw [if_neg (fun q => ei q.1), if_neg ei, if_neg ei])
          rw [HBL.out] at HB4 HP2
          clear HP hGw hBw HG3 HB3 q1 q2 q3 g1 g2 g3
          generalize w5.setCell ⟨b, d, none⟩ (.int .i64 (kn k d)) = w6 at *
          go_wp2
          go_round
          case rel => exact ⟨d + 1, by omega, by go_num, HP2, HB4⟩
          case measure => simp [intOf]; omega
        · obtain rfl : d = n := by omega
          have HG4 := Lib.hid (HG3.out.congr (f' := kn) (fun i j _ hj => by
            by_cases ei : i = k
            · rw [if_pos ei, if_pos hj]
            · rw [if_neg ei]))
          clear HG3
          go_wp2
          go_round
          case rel => exact ⟨k + 1, bl2, by omega, by go_num, HG4, HB3⟩
          case measure => simp [intOf]; omega
    · obtain rfl : k = n := by omega
      go_wp2
      go_ret
      exact ⟨_, rfl, ⟨g, bl, rfl, by rw [HBB.out]; exact HG.out⟩, by unfold Fut; rw [HBB.out]; exact HF.out⟩
end
section
/-- the smallest street that bars a corner. -/
def barF (n : Nat) (zss : List (List Int)) : Option Nat := (List.range n).findSome? fun (s : Nat) => if barsE n zss (s : Int) = true then some s else none
/-- what a search fills. -/
def fullF (n : Nat) (zss : List (List Int)) : Nat → Nat → Int := (fillF n (n * n) 0 (knF zss)).getD (knF zss)
abbrev SearchP (n : Nat) (bar : Option Nat) (F : Nat → Nat → Int) (w : World) (e : Ending) (w' : World) : Prop :=
  match bar with
  | some s => e = .returned (.iface 84 (.int .i64 s)) ∧ Fut w w'
  | none => ∃ v, e = .returned (.iface 114 v) ∧ OwnG w' w.heap.size v n n F ∧ Fut w w'
set_option maxRecDepth 100000 in
set_option maxHeartbeats 4000000 in
theorem search_beg (n : Nat) (h1 : 1 ≤ n) (h5 : n ≤ 5) (a : Option Addr) (cap : Nat) (zss : List (List Int)) (w : World) (hL : LstAt w a zss) (hl : zss.length ≤ 5) (hz : ∀ k, k < zss.length → (lth zss k).length ≤ 5) :
    Calls Try.prog 87 #[.int .i64 n, .iface 83 (begV n a zss.length cap)] w (SearchP n (barF n zss) (fullF n zss) w) := by
  have HLD := Lib.hid (fun W (F : Fut w W) => laid_beg n h1 h5 a cap zss W (hL.fut F) hl (fun k hk => by have := hz k hk; omega))
  have HBR := Lib.hid (fun (s : Nat) W (F : Fut w W) => bars_any (n : Int) a cap zss (s : Int) W (hL.fut F) hl hz (by omega) (by omega))
  have hmb : ∀ W, (method 284 83 (begV n a zss.length cap) "breeze/week.bars").run Try.prog W = .ok (92, begV n a zss.length cap) W := fun _ => by kernel_rfl
  obtain ⟨Q, hQ⟩ : ∃ Q : Nat → Option Nat, Q = fun (s : Nat) => if barsE n zss (s : Int) = true then some s else none := ⟨_, rfl⟩
  have hB : barF n zss = (List.range n).findSome? Q := by rw [hQ]; rfl
  have HQ := Lib.hid (fun s => congrFun hQ s)
  rw [hB]
  have hF : fullF n zss = (fillF n (n * n) 0 (knF zss)).getD (knF zss) := rfl
  rw [hF]
  clear hL hz hQ hB hF
  generalize knF zss = kn at *
  generalize hR : (List.range n).findSome? Q = R at *
  have HR := Lib.hid hR
  have hnx : (n : Int) ≤ 5 := by omega
  clear hR
  go_enter Try.func87, Try.ntmps87
  go_wp2_with fail
  go_loopw [8] (fun iv wr => ∃ k : Nat, k ≤ n ∧ iv = .int .i64 k ∧ Hid (∀ j, j < k → Q j = none) ∧ Hid (Fut w wr)) (fun iv _ => n - (intOf iv).toNat)
  case atStart => exact ⟨0, Nat.zero_le _, rfl, Lib.hid (fun j hj => absurd hj (Nat.not_lt_zero j)), Lib.hid Fut.rfl⟩
  case round =>
    obtain ⟨k, hk, rfl, HN, HF⟩ := hrel
    by_cases hlt : k < n
    · have hkx : (k : Int) < n := by omega
      have HBK := Lib.hid (HBR.out k wr HF.out)
      have HQk := Lib.hid (HQ.out k)
      cases hb : barsE n zss (k : Int)
      · rw [hb] at HBK HQk
        simp only [Bool.false_eq_true, if_false] at HQk
        clear hb
        go_wp2_with (go_at_call 92; refine HBK.out.mono ?_; rintro _ w3 ⟨rfl, F3⟩)
        have HF3 := Lib.hid (HF.out.trans F3)
        have HN2 : Hid (∀ j, j < k + 1 → Q j = none) := Lib.hid (fun j hj => by
          rcases Nat.lt_or_ge j k with q | q
          · exact HN.out j q
          · obtain rfl : j = k := by omega
            exact HQk.out)
        go_round
        case rel => exact ⟨k + 1, by omega, by go_num, HN2, HF3⟩
        case measure => simp [intOf]; omega
      · rw [hb] at HBK HQk
        simp only [if_true] at HQk
        clear hb
        have hRk : R = some k := by rw [← HR.out]; exact fs_at HN.out HQk.out hlt
        subst hRk
        go_wp2_with (go_at_call 92; refine HBK.out.mono ?_; rintro _ w3 ⟨rfl, F3⟩)
        go_ret
        exact ⟨rfl, HF.out.trans F3⟩
    · obtain rfl : k = n := by omega
      have hRk : R = none := by rw [← HR.out]; exact fs_none HN.out
      subst hRk
      go_wp2_with fail
      refine (HLD.out wr HF.out).mono ?_
      rintro _ w3 ⟨v, rfl, ⟨g, bl, rfl, hG⟩, F3⟩
      have HFL := Lib.hid (fill_any k h1 h5 wr.heap.size g bl (k * k) 0 kn w3 (by omega) hG)
      have HF3 := Lib.hid F3
      have HGB := Lib.hid hG.base
      clear hG F3
      go_wp2_with fail
      refine HFL.out.mono ?_
      rintro _ w4 ⟨rfl, hG4, hB4⟩
      have HG4 := Lib.hid hG4
      have HF4 := Lib.hid ((HF.out.trans HF3.out).trans' hB4 (by have := HGB.out; have := RowKit.Below.size HF.out; omega))
      have hsz := RowKit.Below.size HF.out
      clear hG4 hB4
      go_wp2
      go_ret
      exact ⟨_, rfl, ⟨g, bl, rfl, ⟨by have := HGB.out; omega, HG4.out.outer, HG4.out.above, HG4.out.inner, HG4.out.apart⟩⟩, HF4.out⟩
set_option maxRecDepth 100000 in
set_option maxHeartbeats 4000000 in
theorem search_rows (n : Nat) (h1 : 1 ≤ n) (h5 : n ≤ 5) (a : Option Addr) (cap : Nat) (zss : List (List Int)) (w : World) (hL : LstAt w a zss) (hl : zss.length ≤ 5) (hz : ∀ k, k < zss.length → (lth zss k).length = n) :
    Calls Try.prog 87 #[.int .i64 n, .iface 79 (.slice a zss.length cap)] w (SearchP n none (fullF n zss) w) := by
  have HLD := Lib.hid (fun W (F : Fut w W) => laid_rows n h1 h5 a cap zss W (hL.fut F) hl (fun k hk => by have := hz k hk; omega) (fun k hk => by have := hz k hk; omega))
  have HBR := Lib.hid (fun (v x : Value) W => rows_bars v x W)
  have hmb : ∀ W, (method 284 79 (.slice a zss.length cap) "breeze/week.bars").run Try.prog W = .ok (195, .slice a zss.length cap) W := fun _ => by kernel_rfl
  have hF : fullF n zss = (fillF n (n * n) 0 (knF zss)).getD (knF zss) := rfl
  rw [hF]
  clear hL hz hF
  generalize knF zss = kn at *
  have hnx : (n : Int) ≤ 5 := by omega
  go_enter Try.func87, Try.ntmps87
  go_wp2_with fail
  go_loopw [8] (fun iv wr => ∃ k : Nat, k ≤ n ∧ iv = .int .i64 k ∧ wr = w) (fun iv _ => n - (intOf iv).toNat)
  case atStart => exact ⟨0, Nat.zero_le _, rfl, rfl⟩
  case round =>
    obtain ⟨k, hk, rfl, rfl⟩ := hrel
    by_cases hlt : k < n
    · have hkx : (k : Int) < n := by omega
      go_wp2_with (go_at_call 195; refine (HBR.out _ _ _).mono ?_; rintro _ _ ⟨rfl, rfl⟩)
      go_round
      case rel => exact ⟨k + 1, by omega, by go_num, trivial⟩
      case measure => simp [intOf]; omega
    · obtain rfl : k = n := by omega
      go_wp2_with fail
      refine (HLD.out wr Fut.rfl).mono ?_
      rintro _ w3 ⟨v, rfl, ⟨g, bl, rfl, hG⟩, F3⟩
      have HFL := Lib.hid (fill_any k h1 h5 wr.heap.size g bl (k * k) 0 kn w3 (by omega) hG)
      have HF3 := Lib.hid F3
      have HGB := Lib.hid hG.base
      clear hG F3
      go_wp2_with fail
      refine HFL.out.mono ?_
      rintro _ w4 ⟨rfl, hG4, hB4⟩
      have HG4 := Lib.hid hG4
      have HF4 := Lib.hid (HF3.out.trans' hB4 (by have := HGB.out; omega))
      clear hG4 hB4
      go_wp2
      go_ret
      exact ⟨_, rfl, ⟨g, bl, rfl, HG4.out⟩, HF4.out⟩
end
section
abbrev CompP (n : Nat) (bar : Option Nat) (F : Nat → Nat → Int) (w : World) (e : Ending) (w' : World) : Prop :=
  match bar with
  | some _ => e = .returned (.tuple #[.slice none 0 0, .int .i64 12]) ∧ Fut w w'
  | none => ∃ v, e = .returned (.tuple #[v, .int .i64 0]) ∧ OwnG w' w.heap.size v n n F ∧ Fut w w'
theorem as_miss (x : Value) (W : World) : (Instr.typeAssert (.iface 84 x) 20 114 true).run Try.prog W = .ok (.tuple #[.slice none 0 0, .bool false]) W := by kernel_rfl
theorem as_hit (x : Value) (W : World) : (Instr.typeAssert (.iface 114 x) 20 114 true).run Try.prog W = .ok (.tuple #[x, .bool true]) W := by kernel_rfl
theorem as_miss84 (x : Value) (W : World) : (Instr.typeAssert (.iface 114 x) 20 84 true).run Try.prog W = .ok (.tuple #[.int .i64 0, .bool false]) W := by kernel_rfl
theorem as_hit84 (x : Value) (W : World) : (Instr.typeAssert (.iface 84 x) 20 84 true).run Try.prog W = .ok (.tuple #[x, .bool true]) W := by kernel_rfl
set_option maxRecDepth 100000 in
theorem completed_any (n : Nat) (sv : Value) (bar : Option Nat) (F : Nat → Nat → Int) (w : World) (H : Calls Try.prog 87 #[.int .i64 n, sv] w (SearchP n bar F w)) :
    Calls Try.prog 80 #[.int .i64 n, sv] w (CompP n bar F w) := by
  have HH := Lib.hid H
  have hq1 := as_miss
  have hq2 := as_hit
  clear H
  cases bar with
  | some s =>
    go_enter Try.func80, Try.ntmps80
    go_wp2_with fail
    refine HH.out.mono ?_
    rintro _ w3 ⟨rfl, F3⟩
    have HF3 := Lib.hid F3
    clear F3
    go_wp2
    go_ret2
    exact ⟨rfl, HF3.out⟩
  | none =>
    go_enter Try.func80, Try.ntmps80
    go_wp2_with fail
    refine HH.out.mono ?_
    rintro _ w3 ⟨v, rfl, ⟨g, bl, rfl, hG⟩, F3⟩
    have HF3 := Lib.hid F3
    have HG := Lib.hid hG
    clear F3 hG
    go_wp2
    go_ret2
    exact ⟨_, rfl, ⟨g, bl, rfl, HG.out⟩, HF3.out⟩
end
section
theorem cor_rows {c : Int} {zss : List (List Int)} (h : corE c zss = 0) : 1 ≤ c ∧ c ≤ 5 ∧ (zss.length : Int) ≤ c ∧ ∀ i, i < zss.length → (lth zss i).length = (lth zss 0).length ∧ ((lth zss i).length : Int) ≤ c ∧ amE c (zss.take i) (lth zss i) = 0 := by
  unfold corE at h
  by_cases hs : sizeE c zss.length = 0
  · rw [if_pos hs] at h
    obtain ⟨c1, c5, hn⟩ := size_good hs
    refine ⟨c1, c5, hn, ?_⟩
    have key : ∀ (t : List (List Int)) (k : Nat), coG c zss t k = 0 → ∀ i, i < t.length → (lth t i).length = (lth zss 0).length ∧ ((lth t i).length : Int) ≤ c ∧ amE c (zss.take (k + i)) (lth t i) = 0 := by
      intro t
      induction t with
      | nil => intro k _ i hi; exact absurd hi (by simp)
      | cons l t ih =>
        intro k h i hi
        unfold coG at h
        by_cases h1 : l.length = (lth zss 0).length ∧ (l.length : Int) ≤ c
        · rw [if_pos h1] at h
          by_cases h2 : amE c (zss.take k) l = 0
          · rw [if_pos h2] at h
            cases i with
            | zero => exact ⟨h1.1, h1.2, h2⟩
            | succ i =>
              have := ih (k + 1) h i (by simp at hi; omega)
              rw [show k + 1 + i = k + (i + 1) by omega] at this
              exact this
          · rw [if_neg h2] at h; exact absurd h h2
        · rw [if_neg h1] at h; exact absurd h (by decide)
    intro i hi
    have := key zss 0 h i hi
    rwa [Nat.zero_add] at this
  · rw [if_neg hs] at h; exact absurd h hs
theorem OwnG.tup {w w' : World} {v : Value} {n : Nat} {f : Nat → Nat → Int} {B : Nat} (h : OwnG w' B v n n f) (hn : n ≤ 1000) (F : Fut w w') (r : Int) : TupLC r (gridL n n f) w (.returned (.tuple #[v, .int .i64 r])) w' := by
  obtain ⟨g, bl, rfl, hG⟩ := h
  have el := gridL_len n n f
  exact ⟨some ⟨g, 0, none⟩, n, by rw [el], by omega, by omega, hG.lists (by omega), F⟩
def fullE (c : Int) (zss : List (List Int)) : List (List Int) := if chkE c zss = 0 then gridL c.toNat c.toNat (fullF c.toNat zss) else []
set_option maxRecDepth 100000 in
theorem full_any (c : Int) (a : Option Addr) (cap : Nat) (zss : List (List Int)) (w : World) (hL : LstC w a zss) (hcap : zss.length ≤ cap) (hcm : cap ≤ 9223372036854775807) :
    Calls Try.prog 30 #[.int .i64 c, .slice a zss.length cap] w (TupLC (chkE c zss) (fullE c zss) w) := by
  have HC := Lib.hid (check_any c a cap zss w hL hcap hcm)
  unfold fullE
  by_cases hs : chkE c zss = 0
  · rw [if_pos hs]
    rw [hs] at HC ⊢
    obtain ⟨c1, c5, hn, hrow⟩ := chk_rows hs
    obtain ⟨n, rfl⟩ := Int.eq_ofNat_of_zero_le (show 0 ≤ c by omega)
    rw [show ((n : Int)).toNat = n by simp]
    have HCC := Lib.hid (fun W (F : Fut w W) => completed_any n (.iface 79 (.slice a zss.length cap)) none (fullF n zss) W (search_rows n (by omega) (by omega) a cap zss W (hL.lst.fut F) (by omega) (fun k hk => by have := (hrow k hk).1; omega)))
    have hn5 : n ≤ 1000 := by omega
    clear hL hs hrow hcap hcm
    generalize fullF n zss = ff at *
    go_enter Try.func30, Try.ntmps30
    go_wp2_with fail
    refine HC.out.mono ?_
    rintro _ w1 ⟨rfl, F1⟩
    have HF1 := Lib.hid F1
    have H2 := Lib.hid (HCC.out w1 F1)
    clear F1
    go_wp2_with fail
    refine H2.out.mono ?_
    rintro _ w2 ⟨v, rfl, hO, F2⟩
    have HO := Lib.hid (hO.tup hn5 (HF1.out.trans F2) 0)
    clear hO F2
    go_wp2
    go_ret2
    exact HO.out
  · rw [if_neg hs]
    clear hL
    generalize chkE c zss = E at *
    go_enter Try.func30, Try.ntmps30
    go_wp2_with fail
    refine HC.out.mono ?_
    rintro _ w1 ⟨rfl, F⟩
    have HF := Lib.hid F
    clear F
    go_wp2
    go_ret2
    exact TupLC.nil E HF.out
def filE (c : Int) (zss : List (List Int)) : Int := if corE c zss = 0 then (if (barF c.toNat zss).isSome = true then 12 else 0) else corE c zss
def filL (c : Int) (zss : List (List Int)) : List (List Int) := if corE c zss = 0 then (if (barF c.toNat zss).isSome = true then [] else gridL c.toNat c.toNat (fullF c.toNat zss)) else []
set_option maxRecDepth 100000 in
theorem fillC_any (c : Int) (a : Option Addr) (cap : Nat) (zss : List (List Int)) (w : World) (hL : LstC w a zss) (hcap : zss.length ≤ cap) (hcm : cap ≤ 9223372036854775807) :
    Calls Try.prog 40 #[.int .i64 c, .slice a zss.length cap] w (TupLC (filE c zss) (filL c zss) w) := by
  have HC := Lib.hid (corner_any c a cap zss w hL hcap hcm)
  unfold filE filL
  by_cases hs : corE c zss = 0
  · rw [if_pos hs, if_pos hs]
    rw [hs] at HC
    obtain ⟨c1, c5, hn, hrow⟩ := cor_rows hs
    obtain ⟨n, rfl⟩ := Int.eq_ofNat_of_zero_le (show 0 ≤ c by omega)
    rw [show ((n : Int)).toNat = n by simp]
    have HCC := Lib.hid (fun W (F : Fut w W) => completed_any n (.iface 83 (begV n a zss.length cap)) (barF n zss) (fullF n zss) W (search_beg n (by omega) (by omega) a cap zss W (hL.lst.fut F) (by omega) (fun k hk => by have := (hrow k hk).2.1; omega)))
    have hn5 : n ≤ 1000 := by omega
    clear hL hs hrow hcap hcm
    generalize fullF n zss = ff at *
    generalize barF n zss = bar at *
    cases bar with
    | some s =>
      simp only [Option.isSome_some, if_true]
      go_enter Try.func40, Try.ntmps40
      go_wp2_with fail
      refine HC.out.mono ?_
      rintro _ w1 ⟨rfl, F1⟩
      have HF1 := Lib.hid F1
      have H2 := Lib.hid (HCC.out w1 F1)
      clear F1
      go_wp2_with fail
      refine H2.out.mono ?_
      rintro _ w2 ⟨rfl, F2⟩
      have HF2 := Lib.hid (HF1.out.trans F2)
      clear F2
      go_wp2
      go_ret2
      exact TupLC.nil 12 HF2.out
    | none =>
      simp only [Option.isSome_none, Bool.false_eq_true, if_false]
      go_enter Try.func40, Try.ntmps40
      go_wp2_with fail
      refine HC.out.mono ?_
      rintro _ w1 ⟨rfl, F1⟩
      have HF1 := Lib.hid F1
      have H2 := Lib.hid (HCC.out w1 F1)
      clear F1
      go_wp2_with fail
      refine H2.out.mono ?_
      rintro _ w2 ⟨v, rfl, hO, F2⟩
      have HO := Lib.hid (hO.tup hn5 (HF1.out.trans F2) 0)
      clear hO F2
      go_wp2
      go_ret2
      exact HO.out
  · rw [if_neg hs, if_neg hs]
    clear hL
    generalize corE c zss = E at *
    go_enter Try.func40, Try.ntmps40
    go_wp2_with fail
    refine HC.out.mono ?_
    rintro _ w1 ⟨rfl, F⟩
    have HF := Lib.hid F
    clear F
    go_wp2
    go_ret2
    exact TupLC.nil E HF.out
/-- what Why answers: the street, and the error. -/
def whyS (c : Int) (zss : List (List Int)) : Int := if corE c zss = 0 then (((barF c.toNat zss).getD 0 : Nat) : Int) else 0
def whyE (c : Int) (zss : List (List Int)) : Int := if corE c zss = 0 then (if (barF c.toNat zss).isSome = true then 0 else 13) else corE c zss
set_option maxRecDepth 100000 in
theorem why_any (c : Int) (a : Option Addr) (cap : Nat) (zss : List (List Int)) (w : World) (hL : LstC w a zss) (hcap : zss.length ≤ cap) (hcm : cap ≤ 9223372036854775807) :
    Calls Try.prog 38 #[.int .i64 c, .slice a zss.length cap] w fun e w' => e = .returned (.tuple #[.int .i64 (whyS c zss), .int .i64 (whyE c zss)]) ∧ Fut w w' := by
  have HC := Lib.hid (corner_any c a cap zss w hL hcap hcm)
  have hq1 := as_miss84
  have hq2 := as_hit84
  unfold whyS whyE
  by_cases hs : corE c zss = 0
  · rw [if_pos hs, if_pos hs]
    rw [hs] at HC
    obtain ⟨c1, c5, hn, hrow⟩ := cor_rows hs
    obtain ⟨n, rfl⟩ := Int.eq_ofNat_of_zero_le (show 0 ≤ c by omega)
    rw [show ((n : Int)).toNat = n by simp]
    have HCC := Lib.hid (fun W (F : Fut w W) => search_beg n (by omega) (by omega) a cap zss W (hL.lst.fut F) (by omega) (fun k hk => by have := (hrow k hk).2.1; omega))
    clear hL hs hrow hcap hcm
    generalize fullF n zss = ff at *
    generalize barF n zss = bar at *
    cases bar with
    | some s =>
      simp only [Option.isSome_some, if_true, Option.getD_some]
      go_enter Try.func38, Try.ntmps38
      go_wp2_with fail
      refine HC.out.mono ?_
      rintro _ w1 ⟨rfl, F1⟩
      have HF1 := Lib.hid F1
      have H2 := Lib.hid (HCC.out w1 F1)
      clear F1
      go_wp2_with fail
      refine H2.out.mono ?_
      rintro _ w2 ⟨rfl, F2⟩
      have HF2 := Lib.hid (HF1.out.trans F2)
      clear F2
      go_wp2
      go_ret2
      exact ⟨rfl, HF2.out⟩
    | none =>
      simp only [Option.isSome_none, Bool.false_eq_true, if_false, Option.getD_none]
      go_enter Try.func38, Try.ntmps38
      go_wp2_with fail
      refine HC.out.mono ?_
      rintro _ w1 ⟨rfl, F1⟩
      have HF1 := Lib.hid F1
      have H2 := Lib.hid (HCC.out w1 F1)
      clear F1
      go_wp2_with fail
      refine H2.out.mono ?_
      rintro _ w2 ⟨v, rfl, hO, F2⟩
      have HF2 := Lib.hid (HF1.out.trans F2)
      clear hO F2
      go_wp2
      go_ret2
      exact ⟨rfl, HF2.out⟩
  · rw [if_neg hs, if_neg hs]
    clear hL
    generalize corE c zss = E at *
    go_enter Try.func38, Try.ntmps38
    go_wp2_with fail
    refine HC.out.mono ?_
    rintro _ w1 ⟨rfl, F⟩
    have HF := Lib.hid F
    clear F
    go_wp2
    go_ret2
    exact ⟨rfl, HF.out⟩
def prvE (c : Int) (zss : List (List Int)) (s : Int) : Int := if corE c zss = 0 then (if inB c s = true then (if barsE c zss s = true then 0 else 14) else 2) else corE c zss
set_option maxRecDepth 100000 in
theorem proves_any (c : Int) (a : Option Addr) (cap : Nat) (zss : List (List Int)) (s : Int) (w : World) (hL : LstC w a zss) (hcap : zss.length ≤ cap) (hcm : cap ≤ 9223372036854775807) :
    Calls Try.prog 44 #[.int .i64 c, .slice a zss.length cap, .int .i64 s] w fun e w' => e = .returned (.int .i64 (prvE c zss s)) ∧ Fut w w' := by
  have HC := Lib.hid (corner_any c a cap zss w hL hcap hcm)
  unfold prvE
  by_cases hs : corE c zss = 0
  · rw [if_pos hs]
    rw [hs] at HC
    obtain ⟨c1, c5, hn, hrow⟩ := cor_rows hs
    have HB := Lib.hid (fun W (F : Fut w W) => bars_any c a cap zss s W (hL.lst.fut F) (by omega) (fun k hk => by have := (hrow k hk).2.1; omega) c1 c5)
    have HI := Lib.hid (fun W => isIndex_any s c W)
    clear hL hs hrow hcap hcm
    generalize barsE c zss s = bb at *
    generalize inB c s = ib at *
    generalize hE : (if ib = true then (if bb = true then (0 : Int) else 14) else 2) = E at *
    have HE := Lib.hid hE
    clear hE
    go_enter Try.func44, Try.ntmps44
    go_wp2_with fail
    refine HC.out.mono ?_
    rintro _ w1 ⟨rfl, F1⟩
    have HF1 := Lib.hid F1
    clear F1
    go_wp2_with fail
    refine (HI.out w1).mono ?_
    rintro _ _ ⟨rfl, rfl⟩
    cases ib
    · go_wp2
      go_ret
      exact ⟨ret_int (by rw [← HE.out]; rfl), HF1.out⟩
    · go_wp2_with fail
      refine (HB.out _ (HF1.out.trans (Fut.alloc _ _))).mono ?_
      rintro _ w3 ⟨rfl, F3⟩
      have HF3 := Lib.hid ((HF1.out.trans (Fut.alloc _ _)).trans F3)
      clear F3
      cases bb
      · go_wp2
        go_ret
        exact ⟨ret_int (by rw [← HE.out]; rfl), HF3.out⟩
      · go_wp2
        go_ret
        exact ⟨ret_int (by rw [← HE.out]; rfl), HF3.out⟩
  · rw [if_neg hs]
    clear hL
    generalize corE c zss = E at *
    go_enter Try.func44, Try.ntmps44
    go_wp2_with fail
    refine HC.out.mono ?_
    rintro _ w1 ⟨rfl, F⟩
    have HF := Lib.hid F
    clear F
    go_wp2
    go_ret
    exact ⟨rfl, HF.out⟩
end
section
def opnE (c : Int) (zss : List (List Int)) : Int := if chkE c zss = 0 then (if (zss.length : Int) = c then 16 else 0) else chkE c zss
theorem open_any (c : Int) (a : Option Addr) (cap : Nat) (zss : List (List Int)) (w : World) (hL : LstC w a zss) (hcap : zss.length ≤ cap) (hcm : cap ≤ 9223372036854775807) :
    Calls Try.prog 71 #[.int .i64 c, .slice a zss.length cap] w fun e w' => e = .returned (.int .i64 (opnE c zss)) ∧ Fut w w' := by
  have HC := Lib.hid (check_any c a cap zss w hL hcap hcm)
  unfold opnE
  by_cases hs : chkE c zss = 0
  · rw [if_pos hs]
    rw [hs] at HC
    clear hL hs
    by_cases hq : (zss.length : Int) = c
    · rw [if_pos hq]
      go_enter Try.func71, Try.ntmps71
      go_wp2_with fail
      refine HC.out.mono ?_
      rintro _ w1 ⟨rfl, F⟩
      have HF := Lib.hid F
      clear F
      go_wp2
      go_ret
      exact ⟨rfl, HF.out⟩
    · rw [if_neg hq]
      go_enter Try.func71, Try.ntmps71
      go_wp2_with fail
      refine HC.out.mono ?_
      rintro _ w1 ⟨rfl, F⟩
      have HF := Lib.hid F
      clear F
      go_wp2
      go_ret
      exact ⟨rfl, HF.out⟩
  · rw [if_neg hs]
    clear hL
    generalize chkE c zss = E at *
    go_enter Try.func71, Try.ntmps71
    go_wp2_with fail
    refine HC.out.mono ?_
    rintro _ w1 ⟨rfl, F⟩
    have HF := Lib.hid F
    clear F
    go_wp2
    go_ret
    exact ⟨rfl, HF.out⟩
def fulE (c : Int) (zss : List (List Int)) : Int := if chkE c zss = 0 then (if (zss.length : Int) < c then 21 else 0) else chkE c zss
theorem isfull_any (c : Int) (a : Option Addr) (cap : Nat) (zss : List (List Int)) (w : World) (hL : LstC w a zss) (hcap : zss.length ≤ cap) (hcm : cap ≤ 9223372036854775807) :
    Calls Try.prog 83 #[.int .i64 c, .slice a zss.length cap] w fun e w' => e = .returned (.int .i64 (fulE c zss)) ∧ Fut w w' := by
  have HC := Lib.hid (check_any c a cap zss w hL hcap hcm)
  unfold fulE
  by_cases hs : chkE c zss = 0
  · rw [if_pos hs]
    rw [hs] at HC
    clear hL hs
    by_cases hq : (zss.length : Int) < c
    · rw [if_pos hq]
      go_enter Try.func83, Try.ntmps83
      go_wp2_with fail
      refine HC.out.mono ?_
      rintro _ w1 ⟨rfl, F⟩
      have HF := Lib.hid F
      clear F
      go_wp2
      go_ret
      exact ⟨rfl, HF.out⟩
    · rw [if_neg hq]
      go_enter Try.func83, Try.ntmps83
      go_wp2_with fail
      refine HC.out.mono ?_
      rintro _ w1 ⟨rfl, F⟩
      have HF := Lib.hid F
      clear F
      go_wp2
      go_ret
      exact ⟨rfl, HF.out⟩
  · rw [if_neg hs]
    clear hL
    generalize chkE c zss = E at *
    go_enter Try.func83, Try.ntmps83
    go_wp2_with fail
    refine HC.out.mono ?_
    rintro _ w1 ⟨rfl, F⟩
    have HF := Lib.hid F
    clear F
    go_wp2
    go_ret
    exact ⟨rfl, HF.out⟩
end
end Go.Proofs.Ytpgifeaejjjjnaa
