/- Layer 3: lists of numbers and rows of lists (for all texts of this seat). -/
import Derived.Test.YtpgifeaejjjjnaaRows
import Derived.WalkKit
import Derived.WalkSpells
import Derived.WalkLawsBesides
import Derived.RegionTactic
import Derived.BigRegion
import Derived.Deep.RegionHeld3
import Derived.Deep.RegionWith
import Derived.Deep.QuietTactic
import Derived.BigQuiet
import Derived.Lib.Hide
import Derived.IntWalk
import Derived.Deep.DeepCutAuto
import Derived.Deep.AppendLies
import Derived.Deep.CutBlock
import Derived.Deep.RegionLawGrows
import Derived.StillTailTactics
import Derived.Deep.OwnRows
import Derived.Laws.OwnMore
import Derived.OwnWalk
import Derived.StillTactics
import Derived.Laws.EntriesVeiled
namespace Go.Sort
end Go.Sort
namespace Go.Proofs.Ytpgifeaejjjjnaa
open Go.RowKit Go.Sort
theorem bcell {W w1 : World} (hb : Below W.heap.size W w1) : (∀ b o, b < W.heap.size → w1.cell? ⟨b, o, none⟩ = W.cell? ⟨b, o, none⟩) ∧ (∀ b o, b < W.heap.size → w1.frozen? ⟨b, o, none⟩ = W.frozen? ⟨b, o, none⟩) :=
        ⟨fun b o h => hb.cell (p := ⟨b, o, none⟩) h, fun b o h => hb.frozen (p := ⟨b, o, none⟩) h⟩
/-- a list's element. -/
def nth (zs : List Int) (k : Nat) : Int := zs[k]?.getD 0
theorem nth_eq (zs : List Int) (k : Nat) : nth zs k = zs[k]?.getD 0 := rfl
/-- the slice at a reads as these numbers. -/
def IntsAt (w : World) (a : Option Addr) (zs : List Int) : Prop :=
  ∀ j, j < zs.length → ∃ b off, a = some ⟨b, off, none⟩ ∧ b < w.heap.size ∧ w.cell? ⟨b, off + j, none⟩ = some (.int .i64 (nth zs j))
theorem IntsAt.below {w w' : World} {a : Option Addr} {zs : List Int} (h : IntsAt w a zs) (hb : Below w.heap.size w w') : IntsAt w' a zs := fun j hj => by
  obtain ⟨b, off, rfl, h1, h2⟩ := h j hj
  exact ⟨b, off, rfl, Nat.lt_of_lt_of_le h1 hb.size, by rw [← h2]; exact hb.cell (p := ⟨b, off + j, none⟩) h1⟩
theorem ret_int {k : IntKind} {a b : Int} (h : a = b) : Ending.returned (.int k a) = .returned (.int k b) := by rw [h]
theorem retb {a b : Bool} (h : a = b) : Ending.returned (.bool a) = .returned (.bool b) := by rw [h]
theorem ret_bool {a b : Bool} (h : a = b) : Ending.returned (.bool a) = .returned (.bool b) := by rw [h]
theorem below_drewN {w w0 : World} {B : Nat} (h : RowKit.Below B w0 w) (n : Nat) : RowKit.Below B w0 (w.drewN n) := h.trans ⟨rfl, rfl, rfl, Nat.le_refl _, fun _ _ => rfl⟩
def Owns (w : World) (B : Nat) (v : Value) (zs : List Int) : Prop := w.ownsRow B 3 1 v zs.length (zs.map (Value.int .i64))
theorem Owns.base {w : World} {B B' : Nat} {v : Value} {zs : List Int} (h : Owns w B v zs) (hB : B' ≤ B) : Owns w B' v zs := by
  obtain ⟨h1, h2⟩ := h
  refine ⟨h1, ?_⟩
  rcases h2 with h2 | ⟨g, cap, cur, h3, h4, h5⟩
  · exact .inl h2
  · exact .inr ⟨g, cap, cur, h3, by omega, h5⟩
/-- w' is w, or w with more in its heap. -/
def Fut (w w' : World) : Prop := RowKit.Below w.heap.size w w'
theorem Fut.rfl {w : World} : Fut w w := RowKit.Below.refl _ _
theorem Fut.trans {a b c : World} (h : Fut a b) (h' : Fut b c) : Fut a c :=
  RowKit.Below.trans h (RowKit.Below.mono h' (RowKit.Below.size h))
theorem Fut.alloc (w : World) (o : Obj) : Fut w (w.alloc o) := RowKit.Below.alloc (RowKit.Below.refl _ _) (Nat.le_refl _) o
theorem Fut.drewN (w : World) (n : Nat) : Fut w (w.drewN n) := below_drewN (RowKit.Below.refl _ _) n
theorem IntsAt.fut {w w' : World} {a : Option Addr} {zs : List Int} (h : IntsAt w a zs) (hb : Fut w w') : IntsAt w' a zs := h.below hb
theorem info3 : (Try.prog.info? 3).map (fun i => (i.zero, i.size, i.bytes)) = some (some (.int .i64 0), 1, 8) := by kernel_rfl
theorem info_parts {t : TypeId} {z : Option Value} {s b : Nat} (h : (Try.prog.info? t).map (fun i => (i.zero, i.size, i.bytes)) = some (z, s, b)) :
    ∃ i, Try.prog.info? t = some i ∧ i.zero = z ∧ i.size = s ∧ i.bytes = b := by
  cases hi : Try.prog.info? t with
  | none => rw [hi] at h; simp at h
  | some i =>
    rw [hi] at h; simp at h
    exact ⟨i, rfl, h.1, h.2.1, h.2.2⟩
theorem nil_ints (w : World) (a : Option Addr) : IntsAt w a [] := fun j hj => absurd hj (by simp)
theorem Owns.ints {w : World} {B : Nat} {v : Value} {zs : List Int} (h : Owns w B v zs) : ∃ a cap, v = .slice a zs.length cap ∧ IntsAt w a zs := by
  obtain ⟨_, h | ⟨g, cap, cur, rfl, _, hg, _, _, _, htake⟩⟩ := h
  · obtain ⟨rfl, h0⟩ := h
    exact ⟨none, 0, by rw [h0], fun j hj => by omega⟩
  · refine ⟨_, cap, rfl, fun j hj => ⟨g, 0, rfl, (Array.getElem?_eq_some_iff.1 hg).1, ?_⟩⟩
    rw [cell_of_row w g _ cur 3 (0, 0) hg, Nat.zero_add]
    have e : (zs.map (Value.int .i64))[j]? = some (.int .i64 (nth zs j)) := by rw [nth_eq]; simp [hj]
    rw [← e, ← htake, List.getElem?_take]
    simp; omega
theorem Owns.fut {w w' : World} {B : Nat} {v : Value} {zs : List Int} (h : Owns w B v zs) (F : Fut w w') : Owns w' B v zs := by
  obtain ⟨h1, h2⟩ := h
  refine ⟨h1, ?_⟩
  rcases h2 with h2 | ⟨g, cap, cur, h3, h4, h5, h6⟩
  · exact .inl h2
  · exact .inr ⟨g, cap, cur, h3, h4, by rw [F.block g (Array.getElem?_eq_some_iff.1 h5).1]; exact h5, h6⟩
theorem Fut.trans' {a b c : World} (h : Fut a b) {B : Nat} (h' : RowKit.Below B b c) (hB : a.heap.size ≤ B) : Fut a c :=
  RowKit.Below.trans h (RowKit.Below.mono h' hB)
theorem maxL {n : Nat} (h : n ≤ 200000) : n + 1 ≤ maxLen := by unfold maxLen; omega
def oftL (n : Nat) (zs : List Int) : List Int := (List.range n).map fun (i : Nat) => ((zs.count (i : Int) : Nat) : Int)
theorem oft_len (n : Nat) (zs : List Int) : (oftL n zs).length = n := by unfold oftL; simp
theorem oft_nth (n : Nat) (zs : List Int) (i : Nat) (h : i < n) : nth (oftL n zs) i = ((zs.count (i : Int) : Nat) : Int) := by
  rw [nth_eq]; unfold oftL; simp [h]
theorem oft_nil (n : Nat) : (oftL n []).map (Value.int .i64) = List.replicate n (.int .i64 0) := by
  unfold oftL
  rw [List.map_map]
  apply List.ext_getElem
  · simp
  · intro j h1 h2; simp
theorem made_own (w : World) (n : Nat) (h : n ≤ 1000) : Owns (w.alloc (.cells (madeCells #[Value.int .i64 0] n) 3)) w.heap.size (.slice (some ⟨w.heap.size, 0, none⟩) n n) (oftL n []) := by
  have e : (madeCells #[Value.int .i64 0] n).toList = List.replicate n (.int .i64 0) := by
    apply List.ext_getElem
    · simp [madeCells]
    · intro j h1 h2; simp [madeCells, Nat.mod_one]
  have hs : (madeCells #[Value.int .i64 0] n).size = n * 1 := by rw [← Array.length_toList, e]; simp
  have := World.ownsRow_lit (base := w.heap.size) (e := 3) (size := 1) w (madeCells #[Value.int .i64 0] n) n (Nat.le_refl _) (by unfold maxLen; omega) hs
  unfold Owns
  rw [oft_nil, oft_len, ← e]
  exact this
theorem own_at {w : World} {B g n : Nat} {L : List Int} (h : Owns w B (.slice (some ⟨g, 0, none⟩) n n) L) (hn : L.length = n) (z : Nat) (hz : z < n) :
    w.cell? ⟨g, z, none⟩ = some (.int .i64 (nth L z)) ∧ w.frozen? ⟨g, z, none⟩ = false ∧ g < w.heap.size := by
  unfold Owns at h
  rw [hn] at h
  have h1 := h.cellAt z (by omega)
  refine ⟨?_, h.frozenAt z, (h.lt g rfl).2⟩
  rw [h1, nth_eq]
  simp [List.getElem?_eq_getElem (show z < L.length by omega)]
theorem own_set {w : World} {B g n : Nat} {L : List Int} (h : Owns w B (.slice (some ⟨g, 0, none⟩) n n) L) (hn : L.length = n) (z : Nat) (u : Int) :
    Owns (w.setCell ⟨g, z, none⟩ (.int .i64 u)) B (.slice (some ⟨g, 0, none⟩) n n) (L.set z u) := by
  unfold Owns at h ⊢
  rw [hn] at h
  have h1 := (h.stored z (.int .i64 u)).1
  rw [List.length_set, hn, List.map_set]
  exact h1
theorem own_ints {w : World} {B g n : Nat} {L : List Int} (h : Owns w B (.slice (some ⟨g, 0, none⟩) n n) L) (hn : L.length = n) : IntsAt w (some ⟨g, 0, none⟩) L := fun j hj => by
  obtain ⟨h1, _, h3⟩ := own_at h hn j (by omega)
  exact ⟨g, 0, rfl, h3, by rw [Nat.zero_add]; exact h1⟩
/-- a world behind this one: more in its heap, maybe. -/
structure After (w : World) where
  w' : World
  F : Fut w w'
theorem region_fut {id : Nat} {Q : Exit → Act → World → Prop} {a : Act} {w : World} {l : List Oper} (hm : Try.prog.follows .mixedOrders = true) (hB : Region.lexB .any l.toArray = true)
    (h : wpQuiet Try.prog l.toArray (fun w' => ∃ p : After w, w' = p.w') (fun a' => ∀ w', (∃ p : After w, w' = p.w') → Q .normal a' w') l a) : (Code.region id l.toArray true).wp Try.prog Q a w :=
  wp_region_quiet (C := fun w' => ∃ p : After w, w' = p.w') hm hB ⟨⟨_, Fut.drewN w 1⟩, rfl⟩ (by simpa using h)
theorem after_of {f : FuncId} {args : Array Value} {w : World} {p : After w} {v : Value}
    (h : Calls Try.prog f args p.w' fun e w' => e = .returned v ∧ Fut p.w' w') : Calls Try.prog f args p.w' fun e w'' => e = .returned v ∧ ∃ q : After w, w'' = q.w' :=
  h.mono fun _ _ ⟨he, F⟩ => ⟨he, ⟨_, p.F.trans F⟩, rfl⟩
theorem after_same {f : FuncId} {args : Array Value} {w : World} {p : After w} {v : Value}
    (h : Calls Try.prog f args p.w' fun e w' => e = .returned v ∧ p.w' = w') : Calls Try.prog f args p.w' fun e w'' => e = .returned v ∧ ∃ q : After w, w'' = q.w' :=
  h.mono fun _ _ ⟨he, F⟩ => ⟨he, p, F.symm⟩
theorem after_fut {w w2 : World} (h : ∃ p : After w, w2 = p.w') : Fut w w2 := by
  obtain ⟨p, rfl⟩ := h; exact p.F
def lth (zss : List (List Int)) (k : Nat) : List Int := zss[k]?.getD []
theorem lth_eq (zss : List (List Int)) (k : Nat) : lth zss k = zss[k]?.getD [] := rfl
theorem lth_drop (zss : List (List Int)) (k : Nat) (hk : k < zss.length) : zss.drop k = lth zss k :: zss.drop (k + 1) := by
  rw [lth_eq, List.getElem?_eq_getElem hk]
  exact List.drop_eq_getElem_cons hk
/-- the slice at a reads as these lists. -/
def LstAt (w : World) (a : Option Addr) (zss : List (List Int)) : Prop :=
  ∀ j, j < zss.length → ∃ b off l lc, a = some ⟨b, off, none⟩ ∧ b < w.heap.size ∧ w.cell? ⟨b, off + j, none⟩ = some (.slice l (lth zss j).length lc) ∧ IntsAt w l (lth zss j)
theorem LstAt.fut {w w' : World} {a : Option Addr} {zss : List (List Int)} (h : LstAt w a zss) (F : Fut w w') : LstAt w' a zss := fun j hj => by
  obtain ⟨b, off, l, lc, rfl, h1, h2, h3⟩ := h j hj
  exact ⟨b, off, l, lc, rfl, Nat.lt_of_lt_of_le h1 (RowKit.Below.size F), (RowKit.Below.cell F (p := ⟨b, off + j, none⟩) h1).trans h2, h3.fut F⟩
theorem info28 : (Try.prog.info? 28).map (fun i => (i.zero, i.size, i.bytes)) = some (some (.slice none 0 0), 1, 24) := by kernel_rfl
/-- the lists of a proof. -/
def Elems (w : World) (B : Nat) (vals : List Value) (zss : List (List Int)) : Prop := vals.length = zss.length ∧ ∀ j, j < zss.length → ∃ v, vals[j]? = some v ∧ Owns w B v (lth zss j)
def OwnL (w : World) (B : Nat) (v : Value) (zss : List (List Int)) : Prop := ∃ vals, w.ownsRow B 28 1 v zss.length vals ∧ Elems w B vals zss
theorem OwnL.nil (w : World) (B : Nat) : OwnL w B (.slice none 0 0) [] := ⟨[], World.ownsRow_nil _ _ _ _, rfl, fun j hj => absurd hj (by simp)⟩
theorem Owns.grown {w w' : World} {B bm : Nat} {v : Value} {zs : List Int} (h : Owns w B v zs) (g : w.grownBy w' (some bm)) (hb : bm < B) : Owns w' B v zs := by
  refine World.ownsRow.kept h g ?_
  rcases hv : v.ownBlock with _ | k
  · exact .inl rfl
  · refine .inr fun e => ?_
    have := (h.lt k hv).1
    simp at e
    omega
theorem OwnL.grown {w w' : World} {B bm : Nat} {v : Value} {zss : List (List Int)} (h : OwnL w B v zss) (g : w.grownBy w' (some bm)) (hb : bm < B) : OwnL w' B v zss := by
  obtain ⟨vals, h1, h2, h3⟩ := h
  refine ⟨vals, World.ownsRow.kept h1 g ?_, h2, fun j hj => ?_⟩
  · rcases hv : v.ownBlock with _ | k
    · exact .inl rfl
    · refine .inr fun e => ?_
      have := (h1.lt k hv).1
      simp at e
      omega
  · obtain ⟨u, e, hu⟩ := h3 j hj
    exact ⟨u, e, hu.grown g hb⟩
theorem OwnL.fut {w w' : World} {B : Nat} {v : Value} {zss : List (List Int)} (h : OwnL w B v zss) (F : Fut w w') : OwnL w' B v zss := by
  obtain ⟨vals, h1, h2, h3⟩ := h
  refine ⟨vals, World.ownsRow.kept h1 (row := none) ⟨F.os, F.tape, F.output, F.size, fun k hk _ => F.block k hk⟩ ?_, h2, fun j hj => ?_⟩
  · rcases hv : v.ownBlock with _ | k
    · exact .inl rfl
    · exact .inr (by simp)
  · obtain ⟨u, e, hu⟩ := h3 j hj
    exact ⟨u, e, hu.fut F⟩
theorem own_apart {w : World} {B B' : Nat} {v u : Value} {zs : List Int} {n : Nat} {xs : List Value} (h : Owns w B v zs) (h' : w.ownsRow B' 28 1 u n xs) : v.ownBlock = none ∨ v.ownBlock ≠ u.ownBlock := by
  rcases h.2 with ⟨rfl, _⟩ | ⟨g, cap, cur, rfl, _, hg, _⟩
  · exact .inl rfl
  · rcases h'.2 with ⟨rfl, _⟩ | ⟨g', cap', cur', rfl, _, hg', _⟩
    · exact .inr (by simp [Value.ownBlock])
    · refine .inr fun e => ?_
      simp [Value.ownBlock] at e
      rw [e, hg'] at hg
      simp at hg
theorem Elems.app {w w' : World} {B : Nat} {vals : List Value} {zss : List (List Int)} {u nv : Value} {zs : List Int} {n : Nat} {xs : List Value} (h : Elems w B vals zss) (hn : Owns w B nv zs) (hu : w.ownsRow B 28 1 u n xs) (g : w.grownBy w' u.ownBlock) : Elems w' B (vals ++ [nv]) (zss ++ [zs]) := by
  obtain ⟨h1, h2⟩ := h
  refine ⟨by simp [h1], fun j hj => ?_⟩
  by_cases hlt : j < zss.length
  · obtain ⟨v, e, hv⟩ := h2 j hlt
    refine ⟨v, ?_, ?_⟩
    · rw [List.getElem?_append_left (by omega)]; exact e
    · have : lth (zss ++ [zs]) j = lth zss j := by rw [lth_eq, lth_eq, List.getElem?_append_left hlt]
      rw [this]
      exact World.ownsRow.kept hv g (own_apart hv hu)
  · have hj' : j = zss.length := by simp at hj; omega
    subst hj'
    refine ⟨nv, ?_, ?_⟩
    · rw [← h1, List.getElem?_append_right (Nat.le_refl _)]; simp
    · have : lth (zss ++ [zs]) zss.length = zs := by rw [lth_eq, List.getElem?_append_right (Nat.le_refl _)]; simp
      rw [this]
      exact World.ownsRow.kept hn g (own_apart hn hu)
theorem OwnL.lists {w : World} {B : Nat} {v : Value} {zss : List (List Int)} (h : OwnL w B v zss) : ∃ l lc, v = .slice l zss.length lc ∧ LstAt w l zss := by
  obtain ⟨vals, h1, h2, h3⟩ := h
  rcases h1.2 with ⟨rfl, h0⟩ | ⟨g, cap, cur, rfl, hb, hg, hr⟩
  · exact ⟨none, 0, by rw [h0], fun j hj => by omega⟩
  · refine ⟨_, cap, rfl, fun j hj => ?_⟩
    obtain ⟨u, e, hu⟩ := h3 j hj
    obtain ⟨l, lc, rfl, hI⟩ := hu.ints
    refine ⟨g, 0, l, lc, rfl, (Array.getElem?_eq_some_iff.1 hg).1, ?_, hI⟩
    rw [Nat.zero_add, World.ownsRow.cellAt h1 j (by omega)]
    exact e
theorem nil_lists (w : World) (a : Option Addr) : LstAt w a [] := fun j hj => absurd hj (by simp)
/-- a list of numbers and an error. -/
abbrev TupL (r : Int) (L : List Int) (w : World) (e : Ending) (w' : World) : Prop := ∃ l cap, e = .returned (.tuple #[.slice l L.length cap, .int .i64 r]) ∧ IntsAt w' l L ∧ Fut w w'
/-- lists of numbers, and an error. -/
abbrev TupLL (r : Int) (zss : List (List Int)) (w : World) (e : Ending) (w' : World) : Prop := ∃ l lc, e = .returned (.tuple #[.slice l zss.length lc, .int .i64 r]) ∧ LstAt w' l zss ∧ Fut w w'
theorem nth_drop (zs : List Int) (k : Nat) (hk : k < zs.length) : zs.drop k = nth zs k :: zs.drop (k + 1) := by
  rw [nth_eq, List.getElem?_eq_getElem hk]
  exact List.drop_eq_getElem_cons hk
def inB (c x : Int) : Bool := decide (0 ≤ x) && decide (x < c)
theorem isIndex_any (i n : Int) (w : World) : Calls Try.prog 91 #[.int .i64 i, .int .i64 n] w fun e w' => e = .returned (.bool (inB n i)) ∧ w = w' := by
  go_enter Try.func91, Try.ntmps91
  go_wp2
  all_goals
    go_ret
    exact ⟨retb (by simp [inB]; omega), rfl⟩
theorem cont_any (a : Option Addr) (cap : Nat) (zs : List Int) (x : Int) (w : World) (hA : IntsAt w a zs) (hl : zs.length ≤ 1000) :
    Calls Try.prog 94 #[.slice a zs.length cap, .int .i64 x] w fun e w' => ∃ r : Int, e = .returned (.int .i64 r) ∧ decide (0 ≤ r) = zs.contains x ∧ w = w' := by
  have HA := Lib.hid hA
  have hlx : (zs.length : Int) ≤ 1000 := by omega
  clear hA
  generalize hE : zs.contains x = E at *
  have HE := Lib.hid hE
  clear hE
  go_enter Try.func94, Try.ntmps94
  go_wp2_with fail
  go_loop [8] (fun iv => ∃ k : Nat, k ≤ zs.length ∧ iv = .int .i64 k ∧ Hid ((zs.drop k).contains x = E)) (fun iv => zs.length - (intOf iv).toNat)
  case atStart => exact ⟨0, Nat.zero_le _, rfl, HE⟩
  case round =>
    obtain ⟨k, hk, rfl, HO⟩ := hrel
    by_cases hlt : k < zs.length
    · have hkx : (k : Int) < zs.length := by omega
      obtain ⟨b, off, ea, hb, c1⟩ := HA.out k hlt
      subst ea
      have hd := nth_drop zs k hlt
      rw [hd, List.contains_cons] at HO
      generalize nth zs k = z at *
      clear hd HA
      by_cases hq : x = z
      · have hb2 : (x == z) = true := by rw [hq]; simp
        rw [hb2, Bool.true_or] at HO
        have hE : E = true := HO.out.symm
        subst hE
        subst hq
        clear hb2
        go_wp2
        go_ret
        exact ⟨_, rfl, by simp, rfl⟩
      · have hb2 : (x == z) = false := by rw [beq_eq_false_iff_ne]; exact hq
        rw [hb2, Bool.false_or] at HO
        go_wp2
        go_round
        case rel => exact ⟨k + 1, by omega, by go_num, HO⟩
        case measure => simp [intOf]; omega
    · obtain rfl : k = zs.length := by omega
      rw [List.drop_of_length_le (Nat.le_refl _)] at HO
      have hE : E = false := HO.out.symm
      subst hE
      go_wp2
      go_ret
      exact ⟨_, rfl, by simp, rfl⟩
theorem contains_any (a : Option Addr) (cap : Nat) (zs : List Int) (x : Int) (w : World) (hA : IntsAt w a zs) (hl : zs.length ≤ 1000) :
    Calls Try.prog 51 #[.slice a zs.length cap, .int .i64 x] w fun e w' => e = .returned (.bool (zs.contains x)) ∧ w = w' := by
  have H := Lib.hid (cont_any a cap zs x w hA hl)
  clear hA
  generalize zs.contains x = E at *
  go_enter Try.func51, Try.ntmps51
  go_wp2_with fail
  refine H.out.mono ?_
  rintro _ _ ⟨r, rfl, hr, rfl⟩
  have HR := Lib.hid hr
  clear hr
  go_wp2
  go_ret
  exact ⟨retb HR.out, rfl⟩
theorem ints_new (w : World) (zs : List Int) : IntsAt (w.alloc (.cells (zs.map (Value.int .i64)).toArray 3)) (some ⟨w.heap.size, 0, none⟩) zs := fun j hj => by
  refine ⟨w.heap.size, 0, rfl, by simp, ?_⟩
  rw [World.cell?_alloc_at _ _ _ _ rfl, Nat.zero_add, nth_eq]
  simp [hj]
theorem list_id (v : Value) (w : World) : Calls Try.prog 56 #[v] w fun e w' => e = .returned v ∧ w = w' := by
  go_enter Try.func56, Try.ntmps56
  go_wp2
  go_ret
  exact ⟨rfl, rfl⟩
def sameB (xs ys : List Int) : Bool := decide (xs = ys)
theorem same_any (a c : Option Addr) (cap dap : Nat) (xs ys : List Int) (w : World) (hx : xs.length ≤ 9223372036854775807) (_hy : ys.length ≤ 9223372036854775807) (hA : IntsAt w a xs) (hC : IntsAt w c ys) :
    Calls Try.prog 23 #[.slice a xs.length cap, .slice c ys.length dap] w fun e w' => e = .returned (.bool (sameB xs ys)) ∧ ∃ q, w' = w.drewN q := by
  by_cases hl : xs.length = ys.length
  · have hne : ((xs.length : Int) != ys.length) = false := by simp; omega
    have HS : Hid (∀ b, (xs = ys ↔ b = true) → sameB xs ys = b) := fun b h => by unfold sameB; cases b <;> simp_all
    generalize sameB xs ys = r at HS ⊢
    have HL := Lib.hid hl
    have HA := Lib.hid hA
    have HC := Lib.hid hC
    clear hl hA hC
    go_enter Try.func23, Try.ntmps23
    go_wp2
    go_loopw [5] (fun iv wr => ∃ (k q : Nat), k ≤ xs.length ∧ iv = .int .i64 k ∧ wr = w.drewN q ∧ Hid (∀ j, j < k → nth xs j = nth ys j)) (fun iv _ => xs.length - (intOf iv).toNat)
    case atStart => exact ⟨0, 0, Nat.zero_le _, rfl, rfl, fun j hj => absurd hj (Nat.not_lt_zero _)⟩
    case round =>
      obtain ⟨k, q, hk, rfl, rfl, hal⟩ := hrel
      by_cases hlt : k < xs.length
      · obtain ⟨b, off, rfl, hb, hcell⟩ := HA.out k hlt
        obtain ⟨b', off', rfl, hb', hcell'⟩ := HC.out k (by have := HL.out; omega)
        have hky : (k : Int) < ys.length := by have := HL.out; omega
        have hkx : (k : Int) < xs.length := by omega
        have p1 : (w.drewN q).cell? ⟨b, off + k, none⟩ = some (.int .i64 (nth xs k)) := hcell
        have p2 : (w.drewN q).cell? ⟨b', off' + k, none⟩ = some (.int .i64 (nth ys k)) := hcell'
        clear hcell hcell'
        generalize hw : w.drewN q = wq at p1 p2
        have HW := Lib.hid hw
        clear hw
        by_cases he : nth xs k = nth ys k
        · have hne2 : (nth xs k != nth ys k) = false := by simpa using he
          have HN : Hid (∀ j, j < k + 1 → nth xs j = nth ys j) := fun j hj => by
            by_cases e : j = k
            · subst e; exact he
            · exact hal.out j (by omega)
          clear he
          go_wp2_with fail
          go_quiet (fail)
          go_wp2
          go_roundw
          case rel => exact ⟨k + 1, q + nq, by omega, by go_num, by rw [← HW.out, World.drewN_drewN], HN⟩
          case measure => simp [intOf]; omega
        · have hne2 : (nth xs k != nth ys k) = true := by simpa using he
          have E : Hid (r = false) := HS.out false ⟨fun h => absurd (by rw [h]) he, fun h => by cases h⟩
          clear he
          go_wp2_with fail
          go_quiet (fail)
          go_wp2
          go_ret
          exact ⟨ret_bool E.out.symm, q + nq, by rw [← HW.out, World.drewN_drewN]⟩
      · have E : Hid (r = true) := HS.out true ⟨fun _ => rfl, fun _ => by
          apply List.ext_getElem HL.out
          intro j h1 h2
          have := hal.out j (by omega)
          unfold nth at this
          rw [List.getElem?_eq_getElem h1, List.getElem?_eq_getElem h2] at this
          exact this⟩
        clear hal
        go_wp2
        go_ret
        exact ⟨ret_bool E.out.symm, q, rfl⟩
  · have hne : ((xs.length : Int) != ys.length) = true := by simp; omega
    have e : sameB xs ys = false := by unfold sameB; rw [decide_eq_false_iff_not]; intro h; exact hl (by rw [h])
    rw [e]
    clear hl e hA hC
    go_enter Try.func23, Try.ntmps23
    go_wp2
    go_ret
    exact ⟨rfl, 0, rfl⟩
theorem row_form {w : World} {B size : Nat} {e : TypeId} {v : Value} {n : Nat} {xs : List Value} (h : w.ownsRow B e size v n xs) : ∃ a c, v = .slice a n c := by
  rcases h.2 with ⟨rfl, h0⟩ | ⟨g, cap, cur, rfl, _⟩
  · exact ⟨none, 0, by rw [h0]⟩
  · exact ⟨_, _, rfl⟩

end Go.Proofs.Ytpgifeaejjjjnaa
