/- made 41 (made_any) -/
import Derived.Test.YtflllkamdihfaaaLGA
import Derived.Test.YtflllkamdihfaaaLEC
import Derived.Test.YtflllkamdihfaaaLEB
import Derived.Test.YtflllkamdihfaaaLEA
import Derived.Test.YtflllkamdihfaaaLB
import Derived.Test.YtflllkamdihfaaaLDH
import Derived.Test.YtflllkamdihfaaaLCG
import Derived.Test.YtflllkamdihfaaaLMC
import Derived.Test.YtflllkamdihfaaaLCD
import Derived.Deep.DeepCutAuto
namespace Go.Proofs.Ytflllkamdihfaaa
open Go.RowKit Go.Sort
structure BoxPl (w : World) (B : Nat) (t : Nat → Nat) : Prop where
  lt : B < w.heap.size
  c0 : w.cell? ⟨B, 0, none⟩ = some (.int .u8 (t 0 : Nat))
  c1 : w.cell? ⟨B, 1, none⟩ = some (.int .u8 (t 1 : Nat))
  c2 : w.cell? ⟨B, 2, none⟩ = some (.int .u8 (t 2 : Nat))
  c3 : w.cell? ⟨B, 3, none⟩ = some (.int .u16 (t 3 : Nat))
  y : ∀ j, j < 3 → w.cell? ⟨B, 4 + j, none⟩ = some (.int .u8 (t (4 + j) : Nat))
  z : ∀ j, j < 3 → w.cell? ⟨B, 7 + j, none⟩ = some (.int .u8 (t (7 + j) : Nat))
theorem BoxPl.new (w : World) (t : Nat → Nat) : BoxPl (w.alloc (.cells #[.int .u8 (t 0 : Nat), .int .u8 (t 1 : Nat), .int .u8 (t 2 : Nat), .int .u16 (t 3 : Nat), .int .u8 (t 4 : Nat), .int .u8 (t 5 : Nat), .int .u8 (t 6 : Nat), .int .u8 (t 7 : Nat), .int .u8 (t 8 : Nat), .int .u8 (t 9 : Nat)] 63)) w.heap.size t := by
  have h := World.alloc_heap_new w (.cells #[.int .u8 (t 0 : Nat), .int .u8 (t 1 : Nat), .int .u8 (t 2 : Nat), .int .u16 (t 3 : Nat), .int .u8 (t 4 : Nat), .int .u8 (t 5 : Nat), .int .u8 (t 6 : Nat), .int .u8 (t 7 : Nat), .int .u8 (t 8 : Nat), .int .u8 (t 9 : Nat)] 63)
  refine ⟨by simp, ?_, ?_, ?_, ?_, fun j hj => ?_, fun j hj => ?_⟩
  · unfold World.cell?; rw [h]; rfl
  · unfold World.cell?; rw [h]; rfl
  · unfold World.cell?; rw [h]; rfl
  · unfold World.cell?; rw [h]; rfl
  · rcases (by omega : j = 0 ∨ j = 1 ∨ j = 2) with rfl | rfl | rfl <;> (unfold World.cell?; rw [h]; rfl)
  · rcases (by omega : j = 0 ∨ j = 1 ∨ j = 2) with rfl | rfl | rfl <;> (unfold World.cell?; rw [h]; rfl)
theorem BoxPl.fut {w w' : World} {B : Nat} {t : Nat → Nat} (h : BoxPl w B t) (F : Fut w w') : BoxPl w' B t :=
  ⟨Nat.lt_of_lt_of_le h.lt (RowKit.Below.size F), (RowKit.Below.cell F (p := ⟨B, 0, none⟩) h.lt).trans h.c0, (RowKit.Below.cell F (p := ⟨B, 1, none⟩) h.lt).trans h.c1, (RowKit.Below.cell F (p := ⟨B, 2, none⟩) h.lt).trans h.c2, (RowKit.Below.cell F (p := ⟨B, 3, none⟩) h.lt).trans h.c3, fun j hj => (RowKit.Below.cell F (p := ⟨B, 4 + j, none⟩) h.lt).trans (h.y j hj), fun j hj => (RowKit.Below.cell F (p := ⟨B, 7 + j, none⟩) h.lt).trans (h.z j hj)⟩
theorem three_cell {w : World} {B : Nat} {t : TypeId} {x y z : Value} (h : w.heap[B]? = some (.cells #[x, y, z] t)) : w.cell? ⟨B, 0, none⟩ = some x ∧ w.cell? ⟨B, 1, none⟩ = some y ∧ w.cell? ⟨B, 2, none⟩ = some z ∧ w.frozen? ⟨B, 2, none⟩ = false := by
  refine ⟨?_, ?_, ?_, ?_⟩
  · unfold World.cell?; rw [h]; rfl
  · unfold World.cell?; rw [h]; rfl
  · unfold World.cell?; rw [h]; rfl
  · unfold World.frozen?; rw [h]; rfl
theorem three_set {w : World} {B : Nat} {t : TypeId} {x y z : Value} (u : Value) (h : w.heap[B]? = some (.cells #[x, y, z] t)) : (w.setCell ⟨B, 2, none⟩ u).heap[B]? = some (.cells #[x, y, u] t) := by
  rw [setCell_eq_setRow w B 2 _ t (0, 0) u h, setRow_heap _ _ _ _ _ _ h]; rfl
theorem set_grown (w : World) (B k : Nat) (v : Value) : w.grownBy (w.setCell ⟨B, k, none⟩ v) (some B) :=
  grown_set ⟨rfl, rfl, rfl, Nat.le_refl _, fun _ _ _ => rfl⟩
theorem heap_kept {w w' : World} {row : Option Nat} {B : Nat} {o : Obj} (h : w.heap[B]? = some o) (g : w.grownBy w' row) (hne : row ≠ some B) : w'.heap[B]? = some o :=
  (g.block B (Array.getElem?_eq_some_iff.1 h).1 (fun e => hne e.symm)).trans h
theorem heap_fut {w w' : World} {B : Nat} {o : Obj} (h : w.heap[B]? = some o) (F : Fut w w') : w'.heap[B]? = some o :=
  (RowKit.Below.block F _ (Array.getElem?_eq_some_iff.1 h).1).trans h
theorem Owns.kept {w w' : World} {B : Nat} {v : Value} {L : List Int} {row : Option Nat} (h : Owns w B v L) (g : w.grownBy w' row) (hne : v.ownBlock = none ∨ v.ownBlock ≠ row) : Owns w' B v L := World.ownsRow.kept h g hne
theorem own_ge {w : World} {B : Nat} {v : Value} {L : List Int} (h : Owns w B v L) {g : Nat} (hg : g < B) : v.ownBlock = none ∨ v.ownBlock ≠ some g := .inr fun e => by
  have := (World.ownsRow.lt h g e).1
  omega
theorem BoxPl.kept {w w' : World} {B : Nat} {t : Nat → Nat} {row : Option Nat} (h : BoxPl w B t) (g : w.grownBy w' row) (hne : row ≠ some B) : BoxPl w' B t := by
  have k := g.block B h.lt (fun e => hne e.symm)
  exact ⟨Nat.lt_of_lt_of_le h.lt g.size, (World.cell?_of_block (a := ⟨B, 0, none⟩) k).trans h.c0, (World.cell?_of_block (a := ⟨B, 1, none⟩) k).trans h.c1, (World.cell?_of_block (a := ⟨B, 2, none⟩) k).trans h.c2, (World.cell?_of_block (a := ⟨B, 3, none⟩) k).trans h.c3, fun j hj => (World.cell?_of_block (a := ⟨B, 4 + j, none⟩) k).trans (h.y j hj), fun j hj => (World.cell?_of_block (a := ⟨B, 7 + j, none⟩) k).trans (h.z j hj)⟩
/-- two rows of numbers that lie apart. -/
structure Tw (w : World) (B : Nat) (va vb : Value) (A L : List Int) : Prop where
  a : Owns w B va A
  b : Owns w B vb L
  ap : vb.ownBlock = none ∨ vb.ownBlock ≠ va.ownBlock
theorem ap_symm {x y : Option Nat} (h : x = none ∨ x ≠ y) : y = none ∨ y ≠ x := by
  cases y with
  | none => exact .inl rfl
  | some k => refine .inr fun e => ?_; rcases h with h | h
              · rw [h] at e; cases e
              · exact h e.symm
theorem Tw.fut {w w' : World} {B : Nat} {va vb : Value} {A L : List Int} (h : Tw w B va vb A L) (F : Fut w w') : Tw w' B va vb A L := ⟨h.a.fut F, h.b.fut F, h.ap⟩
theorem Tw.kept {w w' : World} {B : Nat} {va vb : Value} {A L : List Int} (h : Tw w B va vb A L) {g : Nat} (hg : g < B) (G : w.grownBy w' (some g)) : Tw w' B va vb A L := ⟨h.a.kept G (own_ge h.a hg), h.b.kept G (own_ge h.b hg), h.ap⟩
theorem Tw.addA {w w' : World} {B : Nat} {va vb nv : Value} {A L A' : List Int} {g : Nat} (h : Tw w B va vb A L) (hown : Owns w' B nv A') (hnv : nv.ownBlock = some g) (hg : w.grownBy w' va.ownBlock) (hat : va.ownBlock = some g ∨ g = w.heap.size) : Tw w' B nv vb A' L := by
  refine ⟨hown, h.b.kept hg h.ap, ?_⟩
  rw [hnv]
  rcases hat with e | e
  · rw [← e]; exact h.ap
  · exact .inr fun e2 => by have := (World.ownsRow.lt h.b g e2).2; omega
theorem Tw.addB {w w' : World} {B : Nat} {va vb nv : Value} {A L L' : List Int} {g : Nat} (h : Tw w B va vb A L) (hown : Owns w' B nv L') (hnv : nv.ownBlock = some g) (hg : w.grownBy w' vb.ownBlock) (hat : vb.ownBlock = some g ∨ g = w.heap.size) : Tw w' B va nv A L' := by
  refine ⟨h.a.kept hg (ap_symm h.ap), hown, ?_⟩
  rw [hnv]
  rcases hat with e | e
  · rw [← e]; exact h.ap
  · exact .inr fun e2 => by have := (World.ownsRow.lt h.a g e2.symm).2; omega
/-- is a corner shut? -/
def shB (q n : Nat) : Bool := bits BinOp.and IntKind.u16 ((q : Int) / 2 ^ n) 1 == 1
def shL (b : Nat → Bool) (i : Nat) : List Int := ((List.range i).filter b).map fun (n : Nat) => (n : Int)
def frL (b : Nat → Bool) (i : Nat) : List Int := ((List.range i).filter fun n => !b n).map fun (n : Nat) => (n : Int)
theorem shL_succ (b : Nat → Bool) (i : Nat) : shL b (i + 1) = if b i = true then shL b i ++ [(i : Int)] else shL b i := by
  unfold shL
  rw [List.range_succ, List.filter_append, List.map_append]
  by_cases h : b i = true
  · rw [if_pos h, List.filter_cons_of_pos h]; rfl
  · rw [if_neg h, List.filter_cons_of_neg h]; simp
theorem frL_succ (b : Nat → Bool) (i : Nat) : frL b (i + 1) = if b i = true then frL b i else frL b i ++ [(i : Int)] := by
  unfold frL
  rw [List.range_succ, List.filter_append, List.map_append]
  by_cases h : b i = true
  · rw [if_pos h, List.filter_cons_of_neg (by simp [h])]; simp
  · rw [if_neg h, List.filter_cons_of_pos (by simpa using h)]; rfl
theorem shL_len (b : Nat → Bool) (i : Nat) : (shL b i).length ≤ i := by
  unfold shL; rw [List.length_map]; exact Nat.le_trans (List.length_filter_le _ _) (by simp)
theorem frL_len (b : Nat → Bool) (i : Nat) : (frL b i).length ≤ i := by
  unfold frL; rw [List.length_map]; exact Nat.le_trans (List.length_filter_le _ _) (by simp)
def mR (t : Nat → Nat) : Nat := 1 + t 0 % 4
def mC (t : Nat → Nat) : Nat := 1 + t 1 % 4
def mK (t : Nat → Nat) : Nat := 1 + t 2 % 3
def mS (t : Nat → Nat) : List Int := shL (shB (t 3)) (mR t * mC t)
def mF (t : Nat → Nat) : List Int := frL (shB (t 3)) (mR t * mC t)
def mOk (t : Nat → Nat) : Bool := decide (mK t ≤ (mF t).length)
def mY (t : Nat → Nat) : List Int := if mOk t = true then drw (fun j => t (4 + j)) (mK t) 0 (mF t) else []
def mT (t : Nat → Nat) : List Int := if mOk t = true then drw (fun j => t (7 + j)) (mK t) 0 (mF t) else []
/-- what made makes: the parish, the places, and whether there are enough corners. -/
def MadeP (t : Nat → Nat) (w : World) (e : Ending) (w' : World) : Prop :=
  ∃ sa sc ya yc ta tc, e = .returned (.tuple #[parV (mR t : Nat) (mC t : Nat) sa (mS t).length sc, plaV ya (mY t).length yc ta (mT t).length tc, .bool (mOk t)]) ∧ Owns w' w.heap.size (.slice sa (mS t).length sc) (mS t) ∧ Owns w' w.heap.size (.slice ya (mY t).length yc) (mY t) ∧ Owns w' w.heap.size (.slice ta (mT t).length tc) (mT t) ∧ Fut w w'
theorem slice3 (o k : Nat) (hk : k ≤ 3) (B : Nat) : ∀ w, (Instr.sliceAt 61 (.pointer (some ⟨B, o, none⟩)) none (some (.int .i64 k)) none).run Try.prog w = .ok (.slice (some ⟨B, o, none⟩) k 3) w := by
  have h0 : ∀ o B w, (Instr.sliceAt 61 (.pointer (some ⟨B, o, none⟩)) none (some (.int .i64 0)) none).run Try.prog w = .ok (.slice (some ⟨B, o, none⟩) 0 3) w := fun _ _ _ => by kernel_rfl
  have h1 : ∀ o B w, (Instr.sliceAt 61 (.pointer (some ⟨B, o, none⟩)) none (some (.int .i64 1)) none).run Try.prog w = .ok (.slice (some ⟨B, o, none⟩) 1 3) w := fun _ _ _ => by kernel_rfl
  have h2 : ∀ o B w, (Instr.sliceAt 61 (.pointer (some ⟨B, o, none⟩)) none (some (.int .i64 2)) none).run Try.prog w = .ok (.slice (some ⟨B, o, none⟩) 2 3) w := fun _ _ _ => by kernel_rfl
  have h3 : ∀ o B w, (Instr.sliceAt 61 (.pointer (some ⟨B, o, none⟩)) none (some (.int .i64 3)) none).run Try.prog w = .ok (.slice (some ⟨B, o, none⟩) 3 3) w := fun _ _ _ => by kernel_rfl
  match k, hk with
  | 0, _ => exact h0 o B
  | 1, _ => exact h1 o B
  | 2, _ => exact h2 o B
  | 3, _ => exact h3 o B
theorem results_made {fn : Func} {p q u : Tmp} {ty tz : TypeId} (h : fn.results = #[.cell p ty, .cell q tz, .tmp u]) (tmps : Array Value) (P : Program) (w : World) :
    (results fn tmps).run P w = ((asAddr (tmps.getD p undef)).run P w).andThen fun a w₁ => ((loadVar ty a).run P w₁).andThen fun v w₂ => ((asAddr (tmps.getD q undef)).run P w₂).andThen fun b w₃ => ((loadVar tz b).run P w₃).andThen fun y w₄ => .ok (.tuple #[v, y, tmps.getD u undef]) w₄ := by
  simp only [results, h]
  simp [Sem.run_bind, Result.andThen]
theorem res41 {tmps : Array Value} {w : World} {B C : Nat} {cs ds : Array Value} {b : Bool} (h6 : tmps.getD 6 undef = .pointer (some ⟨B, 0, none⟩)) (h7 : tmps.getD 7 undef = .pointer (some ⟨C, 0, none⟩)) (h8 : tmps.getD 8 undef = .bool b) (hw : w.heap[B]? = some (.cells cs 24)) (hc : cs.size = 3) (hv : w.heap[C]? = some (.cells ds 26)) (hd : ds.size = 2) :
    (results Try.f41 tmps).run Try.prog w = .ok (.tuple #[.agg cs, .agg ds, .bool b]) w := by
  rw [results_made rfl, h6, h7, h8]
  have hr := run_loadVar_row (P := Try.prog) w B 24 24 cs (0, 0) _ hw Try.underlying24 rfl (by rw [hc]; kernel_rfl)
  have hr2 := run_loadVar_row (P := Try.prog) w C 26 26 ds (0, 0) _ hv Try.underlying26 rfl (by rw [hd]; kernel_rfl)
  simp [asAddr, hr, hr2, Result.andThen]
set_option maxRecDepth 100000 in
set_option maxHeartbeats 8000000 in
theorem made_any (t : Nat → Nat) (ht : t 3 ≤ 65535 ∧ ∀ j, j ≠ 3 → t j ≤ 255) (w : World) :
    Calls Try.prog 41 #[planV t, .int .i64 4, .int .i64 3] w (MadeP t w) := by
  obtain ⟨r, hr⟩ : ∃ r, r = 1 + t 0 % 4 := ⟨_, rfl⟩
  obtain ⟨c, hc⟩ : ∃ c, c = 1 + t 1 % 4 := ⟨_, rfl⟩
  have hr1 : ((t 0 : Nat) : Int) % 4 = (r : Int) - 1 := by omega
  have hc1 : ((t 1 : Nat) : Int) % 4 = (c : Int) - 1 := by omega
  have hr4 : r ≤ 4 := by omega
  have hc4 : c ≤ 4 := by omega
  have b0 := ht.2 0 (by decide)
  have b1 := ht.2 1 (by decide)
  have b2 := ht.2 2 (by decide)
  have b3 := ht.1
  have hw1 : IntKind.i64.wrap (1 + ((r : Int) - 1)) = (r : Int) := by rw [IntWalk.i64_in _ ⟨by omega, by omega⟩]; omega
  have hw2 : IntKind.i64.wrap (1 + ((c : Int) - 1)) = (c : Int) := by rw [IntWalk.i64_in _ ⟨by omega, by omega⟩]; omega
  have HRC : Hid (r = mR t ∧ c = mC t) := Lib.hid ⟨hr, hc⟩
  clear hr hc
  obtain ⟨i0, hi0, hz0, hz1, hz2⟩ := info_parts info3
  unfold planV
  have hB0 := BoxPl.new w t
  go_enter Try.func41, Try.ntmps41
  go_wp2_with fail
  have HBP := Lib.hid (((hB0.fut (Fut.alloc _ (.cells #[.int .i64 0, .int .i64 0, .slice none 0 0] 24))).fut (Fut.alloc _ (.cells #[.slice none 0 0, .slice none 0 0] 26))))
  have h24 : ((w.alloc (.cells #[.int .u8 (t 0 : Nat), .int .u8 (t 1 : Nat), .int .u8 (t 2 : Nat), .int .u16 (t 3 : Nat), .int .u8 (t 4 : Nat), .int .u8 (t 5 : Nat), .int .u8 (t 6 : Nat), .int .u8 (t 7 : Nat), .int .u8 (t 8 : Nat), .int .u8 (t 9 : Nat)] 63)).alloc (.cells #[.int .i64 0, .int .i64 0, .slice none 0 0] 24)).heap[w.heap.size + 1]? = some (.cells #[.int .i64 0, .int .i64 0, .slice none 0 0] 24) := by
    have := World.alloc_heap_new (w.alloc (.cells #[.int .u8 (t 0 : Nat), .int .u8 (t 1 : Nat), .int .u8 (t 2 : Nat), .int .u16 (t 3 : Nat), .int .u8 (t 4 : Nat), .int .u8 (t 5 : Nat), .int .u8 (t 6 : Nat), .int .u8 (t 7 : Nat), .int .u8 (t 8 : Nat), .int .u8 (t 9 : Nat)] 63)) (.cells #[.int .i64 0, .int .i64 0, .slice none 0 0] 24)
    rwa [World.size_alloc] at this
  have h26 : (((w.alloc (.cells #[.int .u8 (t 0 : Nat), .int .u8 (t 1 : Nat), .int .u8 (t 2 : Nat), .int .u16 (t 3 : Nat), .int .u8 (t 4 : Nat), .int .u8 (t 5 : Nat), .int .u8 (t 6 : Nat), .int .u8 (t 7 : Nat), .int .u8 (t 8 : Nat), .int .u8 (t 9 : Nat)] 63)).alloc (.cells #[.int .i64 0, .int .i64 0, .slice none 0 0] 24)).alloc (.cells #[.slice none 0 0, .slice none 0 0] 26)).heap[w.heap.size + 2]? = some (.cells #[.slice none 0 0, .slice none 0 0] 26) := by
    have := World.alloc_heap_new ((w.alloc (.cells #[.int .u8 (t 0 : Nat), .int .u8 (t 1 : Nat), .int .u8 (t 2 : Nat), .int .u16 (t 3 : Nat), .int .u8 (t 4 : Nat), .int .u8 (t 5 : Nat), .int .u8 (t 6 : Nat), .int .u8 (t 7 : Nat), .int .u8 (t 8 : Nat), .int .u8 (t 9 : Nat)] 63)).alloc (.cells #[.int .i64 0, .int .i64 0, .slice none 0 0] 24)) (.cells #[.slice none 0 0, .slice none 0 0] 26)
    rwa [World.size_alloc, World.size_alloc] at this
  have h24' : (((w.alloc (.cells #[.int .u8 (t 0 : Nat), .int .u8 (t 1 : Nat), .int .u8 (t 2 : Nat), .int .u16 (t 3 : Nat), .int .u8 (t 4 : Nat), .int .u8 (t 5 : Nat), .int .u8 (t 6 : Nat), .int .u8 (t 7 : Nat), .int .u8 (t 8 : Nat), .int .u8 (t 9 : Nat)] 63)).alloc (.cells #[.int .i64 0, .int .i64 0, .slice none 0 0] 24)).alloc (.cells #[.slice none 0 0, .slice none 0 0] 26)).heap[w.heap.size + 1]? = some (.cells #[.int .i64 0, .int .i64 0, .slice none 0 0] 24) := by
    rw [RowKit.Below.block (Fut.alloc _ (.cells #[.slice none 0 0, .slice none 0 0] 26)) _ (Array.getElem?_eq_some_iff.1 h24).1]; exact h24
  have HF0 : Hid (Fut w (((w.alloc (.cells #[.int .u8 (t 0 : Nat), .int .u8 (t 1 : Nat), .int .u8 (t 2 : Nat), .int .u16 (t 3 : Nat), .int .u8 (t 4 : Nat), .int .u8 (t 5 : Nat), .int .u8 (t 6 : Nat), .int .u8 (t 7 : Nat), .int .u8 (t 8 : Nat), .int .u8 (t 9 : Nat)] 63)).alloc (.cells #[.int .i64 0, .int .i64 0, .slice none 0 0] 24)).alloc (.cells #[.slice none 0 0, .slice none 0 0] 26))) := Lib.hid (((Fut.alloc _ _).trans (Fut.alloc _ _)).trans (Fut.alloc _ _))
  have hsz : (((w.alloc (.cells #[.int .u8 (t 0 : Nat), .int .u8 (t 1 : Nat), .int .u8 (t 2 : Nat), .int .u16 (t 3 : Nat), .int .u8 (t 4 : Nat), .int .u8 (t 5 : Nat), .int .u8 (t 6 : Nat), .int .u8 (t 7 : Nat), .int .u8 (t 8 : Nat), .int .u8 (t 9 : Nat)] 63)).alloc (.cells #[.int .i64 0, .int .i64 0, .slice none 0 0] 24)).alloc (.cells #[.slice none 0 0, .slice none 0 0] 26)).heap.size = w.heap.size + 3 := by simp
  clear h24 hB0
  generalize ((w.alloc (.cells #[.int .u8 (t 0 : Nat), .int .u8 (t 1 : Nat), .int .u8 (t 2 : Nat), .int .u16 (t 3 : Nat), .int .u8 (t 4 : Nat), .int .u8 (t 5 : Nat), .int .u8 (t 6 : Nat), .int .u8 (t 7 : Nat), .int .u8 (t 8 : Nat), .int .u8 (t 9 : Nat)] 63)).alloc (.cells #[.int .i64 0, .int .i64 0, .slice none 0 0] 24)).alloc (.cells #[.slice none 0 0, .slice none 0 0] 26) = w3 at *
  have H24 := Lib.hid h24'
  have H26 := Lib.hid h26
  have HSZ := Lib.hid hsz
  have keep : ∀ W, Fut w3.drew W → BoxPl W w.heap.size t := fun W F => HBP.out.fut ((below_drewN Fut.rfl 1 : Fut w3 w3.drew).trans F)
  clear h24' h26 hsz
  go_upto_region 1 with fail
  refine wp_region_held_drew (S := (fun w' => BoxPl w' w.heap.size t)) (by kernel_rfl) ?_ (fun hHeld => ?_)
  · exact keep _ Fut.rfl
  have FD3 : Fut w3 w3.drew := below_drewN Fut.rfl 1
  have HFU := Lib.hid (HF0.out.trans FD3)
  have H24u := Lib.hid (heap_fut H24.out FD3)
  have H26u := Lib.hid (heap_fut H26.out FD3)
  have HSU : Hid (w3.drew.heap.size = w.heap.size + 3) := Lib.hid HSZ.out
  clear FD3 HF0 H24 H26 HSZ HBP
  generalize w3.drew = u0 at *
  refine wpAnyH_take (i := 0) (oi := { dst := some 13, op := Op.fieldAddr 63 (Operand.tmp 3) 0, type := 0, pos := "outright.go:21", after := #[], guard := none }) (v := ?_) rfl (by kernel_rfl) (by kernel_rfl) (by kernel_rfl) (fun _ _ _ h => h) (Or.inl ⟨by rfl, ?_⟩) (by assumption) ?_
  rotate_left
  · (intro w hSw; obtain ⟨_, s0, s1, s2, _⟩ := hSw; go_simp <;> with_reducible rfl)
  try simp only [Act.put, List.setIfInBounds_toArray, List.set_cons_zero, List.set_cons_succ]
  refine wpAnyH_take (i := 1) (oi := { dst := some 14, op := Op.load 5 (Operand.tmp 13), type := 5, pos := "outright.go:21", after := #[{ on := 0, ground := Ground.data }], guard := none }) (v := ?_) rfl (by kernel_rfl) (by kernel_rfl) (by kernel_rfl) (fun _ _ _ h => h) (Or.inl ⟨by rfl, ?_⟩) (by assumption) ?_
  rotate_left
  · (intro w hSw; obtain ⟨_, s0, s1, s2, _⟩ := hSw; go_simp <;> with_reducible rfl)
  try simp only [Act.put, List.setIfInBounds_toArray, List.set_cons_zero, List.set_cons_succ]
  refine wpAnyH_take (i := 2) (oi := { dst := some 15, op := Op.convert 5 3 (Operand.tmp 14), type := 3, pos := "outright.go:21", after := #[{ on := 1, ground := Ground.data }], guard := none }) (v := ?_) rfl (by kernel_rfl) (by kernel_rfl) (by kernel_rfl) (fun _ _ _ h => h) (Or.inl ⟨by rfl, ?_⟩) (by assumption) ?_
  rotate_left
  · (intro w hSw; obtain ⟨_, s0, s1, s2, _⟩ := hSw; go_simp <;> with_reducible rfl)
  try simp only [Act.put, List.setIfInBounds_toArray, List.set_cons_zero, List.set_cons_succ]
  refine wpAnyH_take (i := 3) (oi := { dst := some 16, op := Op.move (Operand.tmp 1), type := 3, pos := "outright.go:21", after := #[], guard := none }) (v := ?_) rfl (by kernel_rfl) (by kernel_rfl) (by kernel_rfl) (fun _ _ _ h => h) (Or.inl ⟨by rfl, ?_⟩) (by assumption) ?_
  rotate_left
  · (intro w hSw; obtain ⟨_, s0, s1, s2, _⟩ := hSw; go_simp <;> with_reducible rfl)
  try simp only [Act.put, List.setIfInBounds_toArray, List.set_cons_zero, List.set_cons_succ]
  refine wpAnyH_take (i := 4) (oi := { dst := some 17, op := Op.binOp BinOp.rem 3 (Operand.tmp 15) (Operand.tmp 16) 3, type := 3, pos := "outright.go:21", after := #[{ on := 2, ground := Ground.data }, { on := 3, ground := Ground.data }], guard := none }) (v := ?_) rfl (by kernel_rfl) (by kernel_rfl) (by kernel_rfl) (fun _ _ _ h => h) (Or.inl ⟨by rfl, ?_⟩) (by assumption) ?_
  rotate_left
  · (intro w hSw; obtain ⟨_, s0, s1, s2, _⟩ := hSw; go_simp <;> with_reducible rfl)
  try simp only [Act.put, List.setIfInBounds_toArray, List.set_cons_zero, List.set_cons_succ]
  refine wpAnyH_take (i := 5) (oi := { dst := some 18, op := Op.binOp BinOp.add 3 (Operand.const (Value.int IntKind.i64 1)) (Operand.tmp 17) 3, type := 3, pos := "outright.go:21", after := #[{ on := 4, ground := Ground.data }], guard := none }) (v := ?_) rfl (by kernel_rfl) (by kernel_rfl) (by kernel_rfl) (fun _ _ _ h => h) (Or.inl ⟨by rfl, ?_⟩) (by assumption) ?_
  rotate_left
  · (intro w hSw; obtain ⟨_, s0, s1, s2, _⟩ := hSw; go_simp <;> with_reducible rfl)
  try simp only [Act.put, List.setIfInBounds_toArray, List.set_cons_zero, List.set_cons_succ]
  refine wpAnyH_take (i := 6) (oi := { dst := some 19, op := Op.fieldAddr 63 (Operand.tmp 3) 1, type := 0, pos := "outright.go:21", after := #[], guard := none }) (v := ?_) rfl (by kernel_rfl) (by kernel_rfl) (by kernel_rfl) (fun _ _ _ h => h) (Or.inl ⟨by rfl, ?_⟩) (by assumption) ?_
  rotate_left
  · (intro w hSw; obtain ⟨_, s0, s1, s2, _⟩ := hSw; go_simp <;> with_reducible rfl)
  try simp only [Act.put, List.setIfInBounds_toArray, List.set_cons_zero, List.set_cons_succ]
  refine wpAnyH_take (i := 7) (oi := { dst := some 20, op := Op.load 5 (Operand.tmp 19), type := 5, pos := "outright.go:21", after := #[{ on := 6, ground := Ground.data }], guard := none }) (v := ?_) rfl (by kernel_rfl) (by kernel_rfl) (by kernel_rfl) (fun _ _ _ h => h) (Or.inl ⟨by rfl, ?_⟩) (by assumption) ?_
  rotate_left
  · (intro w hSw; obtain ⟨_, s0, s1, s2, _⟩ := hSw; go_simp <;> with_reducible rfl)
  try simp only [Act.put, List.setIfInBounds_toArray, List.set_cons_zero, List.set_cons_succ]
  refine wpAnyH_take (i := 8) (oi := { dst := some 21, op := Op.convert 5 3 (Operand.tmp 20), type := 3, pos := "outright.go:21", after := #[{ on := 7, ground := Ground.data }], guard := none }) (v := ?_) rfl (by kernel_rfl) (by kernel_rfl) (by kernel_rfl) (fun _ _ _ h => h) (Or.inl ⟨by rfl, ?_⟩) (by assumption) ?_
  rotate_left
  · (intro w hSw; obtain ⟨_, s0, s1, s2, _⟩ := hSw; go_simp <;> with_reducible rfl)
  try simp only [Act.put, List.setIfInBounds_toArray, List.set_cons_zero, List.set_cons_succ]
  refine wpAnyH_take (i := 9) (oi := { dst := some 22, op := Op.move (Operand.tmp 1), type := 3, pos := "outright.go:21", after := #[], guard := none }) (v := ?_) rfl (by kernel_rfl) (by kernel_rfl) (by kernel_rfl) (fun _ _ _ h => h) (Or.inl ⟨by rfl, ?_⟩) (by assumption) ?_
  rotate_left
  · (intro w hSw; obtain ⟨_, s0, s1, s2, _⟩ := hSw; go_simp <;> with_reducible rfl)
  try simp only [Act.put, List.setIfInBounds_toArray, List.set_cons_zero, List.set_cons_succ]
  refine wpAnyH_take (i := 10) (oi := { dst := some 23, op := Op.binOp BinOp.rem 3 (Operand.tmp 21) (Operand.tmp 22) 3, type := 3, pos := "outright.go:21", after := #[{ on := 8, ground := Ground.data }, { on := 9, ground := Ground.data }], guard := none }) (v := ?_) rfl (by kernel_rfl) (by kernel_rfl) (by kernel_rfl) (fun _ _ _ h => h) (Or.inl ⟨by rfl, ?_⟩) (by assumption) ?_
  rotate_left
  · (intro w hSw; obtain ⟨_, s0, s1, s2, _⟩ := hSw; go_simp <;> with_reducible rfl)
  try simp only [Act.put, List.setIfInBounds_toArray, List.set_cons_zero, List.set_cons_succ]
  refine wpAnyH_take (i := 11) (oi := { dst := some 24, op := Op.binOp BinOp.add 3 (Operand.const (Value.int IntKind.i64 1)) (Operand.tmp 23) 3, type := 3, pos := "outright.go:21", after := #[{ on := 10, ground := Ground.data }], guard := none }) (v := ?_) rfl (by kernel_rfl) (by kernel_rfl) (by kernel_rfl) (fun _ _ _ h => h) (Or.inl ⟨by rfl, ?_⟩) (by assumption) ?_
  rotate_left
  · (intro w hSw; obtain ⟨_, s0, s1, s2, _⟩ := hSw; go_simp <;> with_reducible rfl)
  try simp only [Act.put, List.setIfInBounds_toArray, List.set_cons_zero, List.set_cons_succ]
  refine wpAnyH_take (i := 12) (oi := { dst := some 25, op := Op.build 24 #[(0, Operand.tmp 18), (1, Operand.tmp 24)], type := 24, pos := "outright.go:21", after := #[{ on := 5, ground := Ground.data }, { on := 11, ground := Ground.data }], guard := none }) (v := ?_) rfl (by kernel_rfl) (by kernel_rfl) (by kernel_rfl) (fun _ _ _ h => h) (Or.inl ⟨by rfl, ?_⟩) (by assumption) ?_
  rotate_left
  · (intro w hSw; obtain ⟨_, s0, s1, s2, _⟩ := hSw; go_simp <;> with_reducible rfl)
  try simp only [Act.put, List.setIfInBounds_toArray, List.set_cons_zero, List.set_cons_succ]
  refine wpAnyH_ready (rs := [13]) (by kernel_rfl) (by simp) ?_
  refine AllReadyH.cons (o := { dst := some 9, op := Op.alloc 24, type := 0, pos := "outright.go:21", after := #[], guard := none }) rfl (fun K hK => ?_) AllReadyH.nil
  go_simp
  refine hK.out _ _ ?_ (fun hHeld => ?_)
  · exact keep _ (Fut.alloc u0 (.cells #[.int .i64 0, .int .i64 0, .slice none 0 0] 24))
  clear hK K
  try simp only [Act.put, List.setIfInBounds_toArray, List.set_cons_zero, List.set_cons_succ]
  refine wpAnyH_ready (rs := [14]) (by kernel_rfl) (by simp) ?_
  refine AllReadyH.cons (o := { dst := none, op := Op.store 24 (Operand.tmp 9) (Operand.tmp 25), type := 0, pos := "outright.go:21", after := #[{ on := 13, ground := Ground.data }, { on := 12, ground := Ground.data }, { on := 0, ground := Ground.phase }, { on := 1, ground := Ground.phase }, { on := 2, ground := Ground.phase }, { on := 3, ground := Ground.phase }, { on := 4, ground := Ground.phase }, { on := 5, ground := Ground.phase }, { on := 6, ground := Ground.phase }, { on := 7, ground := Ground.phase }, { on := 8, ground := Ground.phase }, { on := 9, ground := Ground.phase }, { on := 10, ground := Ground.phase }, { on := 11, ground := Ground.phase }, { on := 12, ground := Ground.phase }, { on := 13, ground := Ground.phase }], guard := none }) rfl (fun K hK => ?_) AllReadyH.nil
  go_simp
  refine hK.out _ _ ?_ (fun hHeld => ?_)
  · exact keep _ (Fut.alloc u0 _)
  clear hK K
  try simp only [Act.put, List.setIfInBounds_toArray, List.set_cons_zero, List.set_cons_succ]
  refine wpAnyH_done (by kernel_rfl) ?_ _
  skip
  have hR : IntKind.i64.wrap (1 + (IntKind.i64.wrap ((t 0 : Nat) : Int)).tmod 4) = (r : Int) := by
    rw [show IntKind.i64.wrap ((t 0 : Nat) : Int) = ((t 0 : Nat) : Int) from IntWalk.i64_in _ ⟨by omega, by omega⟩, Int.tmod_eq_emod_of_nonneg (by omega), hr1, hw1]
  have hC : IntKind.i64.wrap (1 + (IntKind.i64.wrap ((t 1 : Nat) : Int)).tmod 4) = (c : Int) := by
    rw [show IntKind.i64.wrap ((t 1 : Nat) : Int) = ((t 1 : Nat) : Int) from IntWalk.i64_in _ ⟨by omega, by omega⟩, Int.tmod_eq_emod_of_nonneg (by omega), hc1, hw2]
  simp only [hR, hC]
  have hP : (u0.alloc (.cells #[.int .i64 (r : Int), .int .i64 (c : Int), .slice none 0 0] 24)).heap[u0.heap.size]? = some (.cells #[.int .i64 (r : Int), .int .i64 (c : Int), .slice none 0 0] 24) := World.alloc_heap_new _ _
  have hcl : u0.heap.size < (u0.alloc (.cells #[.int .i64 (r : Int), .int .i64 (c : Int), .slice none 0 0] 24)).heap.size := by simp
  have c0 : (u0.alloc (.cells #[.int .i64 (r : Int), .int .i64 (c : Int), .slice none 0 0] 24)).cell? ⟨u0.heap.size, 0, none⟩ = some (.int .i64 (r : Int)) := by unfold World.cell?; rw [hP]; rfl
  have c1 : (u0.alloc (.cells #[.int .i64 (r : Int), .int .i64 (c : Int), .slice none 0 0] 24)).cell? ⟨u0.heap.size, 1, none⟩ = some (.int .i64 (c : Int)) := by unfold World.cell?; rw [hP]; rfl
  obtain ⟨w4, hw4⟩ : ∃ w4, w4 = u0.alloc (.cells #[.int .i64 (r : Int), .int .i64 (c : Int), .slice none 0 0] 24) := ⟨_, rfl⟩
  rw [← hw4] at hP hcl c0 c1 ⊢
  have F4 : Fut u0 w4 := by rw [hw4]; exact Fut.alloc u0 _
  have HB4 := Lib.hid (keep w4 F4)
  have HP4 := Lib.hid hP
  have HF4 := Lib.hid (HFU.out.trans F4)
  have H24 := Lib.hid (heap_fut H24u.out F4)
  have H26 := Lib.hid (heap_fut H26u.out F4)
  have hG : u0.heap.size + 1 ≤ w4.heap.size := hcl
  obtain ⟨G, hGe⟩ : ∃ G, G = u0.heap.size := ⟨_, rfl⟩
  have HG : Hid (w.heap.size + 3 ≤ G) := Lib.hid (by rw [hGe, HSU.out]; exact Nat.le_refl _)
  rw [← hGe] at HP4 hG c0 c1 ⊢
  have HGS := Lib.hid hG
  clear hP hcl hw4 hHeld F4 HFU H24u H26u HSU keep hG hGe
  obtain ⟨m, hm⟩ : ∃ m, m = r * c := ⟨_, rfl⟩
  have hm16 : m ≤ 16 := by rw [hm]; exact Nat.mul_le_mul hr4 hc4
  have hwm : IntKind.i64.wrap ((r : Int) * (c : Int)) = (m : Int) := by rw [hm, IntWalk.i64_in _ ⟨by rw [← Int.natCast_mul]; omega, by rw [← Int.natCast_mul, ← hm]; omega⟩, Int.natCast_mul]
  have HM : Hid (m = mR t * mC t) := Lib.hid (by rw [hm, HRC.out.1, HRC.out.2])
  clear hm
  go_wp2_with fail
  clear c0 c1 hR hC hwm hw1 hw2 hr1 hc1
  obtain ⟨bb, hbb⟩ : ∃ bb, bb = shB (t 3) := ⟨_, rfl⟩
  have HT0 : Hid (Tw w4 (G + 1) (.slice none 0 0) (.slice none 0 0) (shL bb 0) (frL bb 0)) := Lib.hid ⟨World.ownsRow_nil _ _ _ _, World.ownsRow_nil _ _ _ _, .inl rfl⟩
  go_loopw [10, 31] (fun fv iv wr => ∃ (i : Nat) (S L : List Int) (sa : Option Addr) (sc : Nat) (fa : Option Addr) (fc : Nat), i ≤ m ∧ iv = .int .i64 i ∧ fv = .slice fa L.length fc ∧ Hid (S = shL bb i ∧ L = frL bb i) ∧ Hid (BoxPl wr w.heap.size t) ∧ Hid (wr.heap[w.heap.size + 1]? = some (.cells #[.int .i64 0, .int .i64 0, .slice none 0 0] 24)) ∧ Hid (wr.heap[w.heap.size + 2]? = some (.cells #[.slice none 0 0, .slice none 0 0] 26)) ∧ Hid (wr.heap[G]? = some (.cells #[.int .i64 (r : Int), .int .i64 (c : Int), .slice sa S.length sc] 24)) ∧ Hid (Tw wr (G + 1) (.slice sa S.length sc) (.slice fa L.length fc) S L) ∧ Hid (Fut w wr) ∧ Hid (G + 1 ≤ wr.heap.size)) (fun _ iv _ => m - (intOf iv).toNat)
  case atStart => exact ⟨0, [], [], none, 0, none, 0, Nat.zero_le _, rfl, rfl, Lib.hid ⟨rfl, rfl⟩, HB4, H24, H26, HP4, HT0, HF4, HGS⟩
  case round =>
    obtain ⟨i, S, L, sa, sc, fa, fc, hi, rfl, rfl, HSL, HBi, HZ4, HZ6, HPi, HTi, HFi, HGi⟩ := hrel
    by_cases hil : i < m
    · have hix : (i : Int) < m := by omega
      have HSN := Lib.hid (shL_succ bb i)
      have HFN := Lib.hid (frL_succ bb i)
      have hSl : S.length ≤ 16 := by rw [HSL.out.1]; have := shL_len bb i; omega
      have hLl : L.length ≤ 16 := by rw [HSL.out.2]; have := frL_len bb i; omega
      obtain ⟨_, _, _, _, s3, _, _⟩ := HBi.out
      cases hb : bb i
      · have hb2 : (bits BinOp.and IntKind.u16 (((t 3 : Nat) : Int) / 2 ^ i) 1 == 1) = false := by rw [hbb] at hb; exact hb
        rw [hb] at HSN HFN
        simp only [Bool.false_eq_true, if_false] at HSN HFN
        have HRW : Hid ((wr.alloc (.cells #[.int .i64 (i : Int)] 3)).ownsRow (G + 1) 3 1 (.slice fa L.length fc) L.length (L.map (Value.int .i64))) := Lib.hid (World.ownsRow.alloc HTi.out.b _)
        clear hbb hb
        go_wp2_with (at_builtin; refine wpList_append_lies _ rfl _ _ 22 rfl (G + 1) 3 i0 (.int .i64 0) 1 8 Try.underlying22 hi0 hz0 hz1 hz2 rfl (by decide) (.slice fa L.length fc) L.length (L.map (Value.int .i64)) rfl HRW.out ⟨wr.heap.size, 0, none⟩ 1 1 [.int .i64 (i : Int)] rfl rfl (cell_one (by simp [go_sem])) (by simp [Value.oneCell']) (by omega) (by unfold maxLen; omega) (by omega) (Nat.le_trans HGi.out (RowKit.Below.size (Fut.alloc wr _))) _ rfl ?_)
        intro g cap w8 hown hgr hat hlt
        have GA : wr.grownBy (wr.alloc (.cells #[.int .i64 (i : Int)] 3)) none := World.grownBy_alloc wr _ _
        have FA : Fut wr (wr.alloc (.cells #[.int .i64 (i : Int)] 3)) := Fut.alloc _ _
        have hge : ∀ q, (Value.slice fa L.length fc).ownBlock = some q → G + 1 ≤ q := fun q hq => (World.ownsRow.lt HRW.out q hq).1
        have hnG : ∀ q, q < G + 1 → (Value.slice fa L.length fc).ownBlock ≠ some q := fun q hq e => by have := hge q e; omega
        have hgG := HG.out
        have HT8 : Hid (Tw w8 (G + 1) (.slice sa S.length sc) (.slice (some ⟨g, 0, none⟩) (L ++ [(i : Int)]).length cap) S (L ++ [(i : Int)])) := Lib.hid ((HTi.out.fut FA).addB (g := g) (by unfold Owns; rw [List.length_append, List.map_append]; exact hown) rfl hgr (by simpa using hat))
        have HB8 := Lib.hid ((HBi.out.fut FA).kept hgr (hnG _ (by omega)))
        have HZ48 := Lib.hid (heap_kept (heap_fut HZ4.out FA) hgr (hnG _ (by omega)))
        have HZ68 := Lib.hid (heap_kept (heap_fut HZ6.out FA) hgr (hnG _ (by omega)))
        have HP8 := Lib.hid (heap_kept (heap_fut HPi.out FA) hgr (hnG _ (by omega)))
        have HF8 : Hid (Fut w w8) := Lib.hid (RowKit.Below.grown (HFi.out.trans FA) hgr (RowKit.Below.size (HFi.out.trans FA)) fun q hq => by have := hge q hq; omega)
        have HG8 : Hid (G + 1 ≤ w8.heap.size) := Lib.hid (Nat.le_trans HGi.out (Nat.le_trans (RowKit.Below.size FA) hgr.size))
        have HSL8 : Hid (S = shL bb (i + 1) ∧ L ++ [(i : Int)] = frL bb (i + 1)) := Lib.hid ⟨by rw [HSN.out]; exact HSL.out.1, by rw [HFN.out, ← HSL.out.2]⟩
        clear hown hgr hat hlt GA FA hge hnG hgG HRW HTi HBi HZ4 HZ6 HPi HFi HGi s3 hb2 HSL HSN HFN
        go_wp2_with fail
        go_roundw
        case rel => first
          | exact ⟨i + 1, S, L ++ [(i : Int)], sa, sc, _, cap, by omega, by go_num, by rw [List.length_append]; rfl, HSL8, HB8, HZ48, HZ68, HP8, HT8, HF8, HG8⟩
          | ((repeat apply Exists.intro); exact ⟨⟨i + 1, S, L ++ [(i : Int)], sa, sc, _, cap, by omega, by go_num, by rw [List.length_append]; rfl, HSL8, HB8, HZ48, HZ68, HP8, HT8, HF8, HG8⟩, rfl⟩)
        case measure => simp [intOf]; omega
      · have hb2 : (bits BinOp.and IntKind.u16 (((t 3 : Nat) : Int) / 2 ^ i) 1 == 1) = true := by rw [hbb] at hb; exact hb
        rw [hb] at HSN HFN
        simp only [if_true] at HSN HFN
        clear hbb hb
        obtain ⟨p0, p1, p2, p3⟩ := three_cell HPi.out
        have HRW : Hid ((wr.alloc (.cells #[.int .i64 (i : Int)] 3)).ownsRow (G + 1) 3 1 (.slice sa S.length sc) S.length (S.map (Value.int .i64))) := Lib.hid (World.ownsRow.alloc HTi.out.a _)
        go_wp2_with (at_builtin; refine wpList_append_lies _ rfl _ _ 22 rfl (G + 1) 3 i0 (.int .i64 0) 1 8 Try.underlying22 hi0 hz0 hz1 hz2 rfl (by decide) (.slice sa S.length sc) S.length (S.map (Value.int .i64)) rfl HRW.out ⟨wr.heap.size, 0, none⟩ 1 1 [.int .i64 (i : Int)] rfl rfl (cell_one (by simp [go_sem])) (by simp [Value.oneCell']) (by omega) (by unfold maxLen; omega) (by omega) (Nat.le_trans HGi.out (RowKit.Below.size (Fut.alloc wr _))) _ rfl ?_)
        intro g cap w8 hown hgr hat hlt
        have FA : Fut wr (wr.alloc (.cells #[.int .i64 (i : Int)] 3)) := Fut.alloc _ _
        have hge : ∀ q, (Value.slice sa S.length sc).ownBlock = some q → G + 1 ≤ q := fun q hq => (World.ownsRow.lt HRW.out q hq).1
        have hnG : ∀ q, q < G + 1 → (Value.slice sa S.length sc).ownBlock ≠ some q := fun q hq e => by have := hge q e; omega
        have hgG := HG.out
        have HT8 : Hid (Tw w8 (G + 1) (.slice (some ⟨g, 0, none⟩) (S ++ [(i : Int)]).length cap) (.slice fa L.length fc) (S ++ [(i : Int)]) L) := Lib.hid ((HTi.out.fut FA).addA (g := g) (by unfold Owns; rw [List.length_append, List.map_append]; exact hown) rfl hgr (by simpa using hat))
        have HB8 := Lib.hid ((HBi.out.fut FA).kept hgr (hnG _ (by omega)))
        have HZ48 := Lib.hid (heap_kept (heap_fut HZ4.out FA) hgr (hnG _ (by omega)))
        have HZ68 := Lib.hid (heap_kept (heap_fut HZ6.out FA) hgr (hnG _ (by omega)))
        have HP8 := Lib.hid (heap_kept (heap_fut HPi.out FA) hgr (hnG _ (by omega)))
        have HF8 : Hid (Fut w w8) := Lib.hid (RowKit.Below.grown (HFi.out.trans FA) hgr (RowKit.Below.size (HFi.out.trans FA)) fun q hq => by have := hge q hq; omega)
        have HG8 : Hid (G + 1 ≤ w8.heap.size) := Lib.hid (Nat.le_trans HGi.out (Nat.le_trans (RowKit.Below.size FA) hgr.size))
        have HSL8 : Hid (S ++ [(i : Int)] = shL bb (i + 1) ∧ L = frL bb (i + 1)) := Lib.hid ⟨by rw [HSN.out, ← HSL.out.1], by rw [HFN.out]; exact HSL.out.2⟩
        clear hown hgr hat hlt FA hge hnG HRW HTi HBi HZ4 HZ6 HPi HFi HGi s3 hb2 HSL HSN HFN p0 p1 p2 p3
        obtain ⟨_, _, p2, p3⟩ := three_cell HP8.out
        have hGl : G < w8.heap.size := HG8.out
        go_wp2_with fail
        have SG := set_grown w8 G 2 (.slice (some ⟨g, 0, none⟩) (S.length + 1) cap)
        have HB9 := Lib.hid (HB8.out.kept SG (by simp; omega))
        have HZ49 := Lib.hid (heap_kept HZ48.out SG (by simp; omega))
        have HZ69 := Lib.hid (heap_kept HZ68.out SG (by simp; omega))
        have HP9 := Lib.hid (three_set (.slice (some ⟨g, 0, none⟩) (S.length + 1) cap) HP8.out)
        have HT9 := Lib.hid (HT8.out.kept (Nat.lt_succ_self G) SG)
        have HF9 : Hid (Fut w (w8.setCell ⟨G, 2, none⟩ (.slice (some ⟨g, 0, none⟩) (S.length + 1) cap))) := Lib.hid (RowKit.Below.setCell HF8.out (p := ⟨G, 2, none⟩) (by show w.heap.size ≤ G; omega) _)
        have HG9 : Hid (G + 1 ≤ (w8.setCell ⟨G, 2, none⟩ (.slice (some ⟨g, 0, none⟩) (S.length + 1) cap)).heap.size) := Lib.hid (Nat.le_trans HG8.out SG.size)
        clear SG HB8 HZ48 HZ68 HP8 HT8 HF8 HG8 hgG p2 p3 hGl
        go_roundw
        case rel => first
          | exact ⟨i + 1, S ++ [(i : Int)], L, _, cap, fa, fc, by omega, by go_num, rfl, HSL8, HB9, HZ49, HZ69, by rw [List.length_append]; exact HP9, HT9, HF9, HG9⟩
          | ((repeat apply Exists.intro); exact ⟨⟨i + 1, S ++ [(i : Int)], L, _, cap, fa, fc, by omega, by go_num, rfl, HSL8, HB9, HZ49, HZ69, by rw [List.length_append]; exact HP9, HT9, HF9, HG9⟩, rfl⟩)
        case measure => simp [intOf]; omega
    · obtain rfl : m = i := by omega
      have HMS : Hid (S = mS t) := Lib.hid (by rw [HSL.out.1, hbb, HM.out]; rfl)
      have HMF : Hid (L = mF t) := Lib.hid (by rw [HSL.out.2, hbb, HM.out]; rfl)
      clear hbb
      obtain ⟨_, _, _, s2, _, _, _⟩ := HBi.out
      obtain ⟨p0, p1, p2, _⟩ := three_cell HPi.out
      obtain ⟨k, hk⟩ : ∃ k, k = 1 + t 2 % 3 := ⟨_, rfl⟩
      have hk1 : ((t 2 : Nat) : Int) % 3 = (k : Int) - 1 := by omega
      have hk3 : k ≤ 3 := by omega
      have hk0 : 1 ≤ k := by omega
      have hwk : IntKind.i64.wrap (1 + ((k : Int) - 1)) = (k : Int) := by rw [IntWalk.i64_in _ ⟨by omega, by omega⟩]; omega
      have hwt : IntKind.i64.wrap ((t 2 : Nat) : Int) = ((t 2 : Nat) : Int) := IntWalk.i64_in _ ⟨by omega, by omega⟩
      have HK := Lib.hid hk
      clear hk
      by_cases hlt : L.length < k
      · have hlx : (L.length : Int) < k := by omega
        obtain ⟨⟨x1, x2⟩, ⟨x3, x4⟩, ⟨x5, x6⟩, x7⟩ := store3 (.int .i64 (r : Int)) (.int .i64 (c : Int)) (.slice sa S.length sc) HZ4.out
        have hz6 : (((wr.setCell ⟨w.heap.size + 1, 0, none⟩ (.int .i64 (r : Int))).setCell ⟨w.heap.size + 1, 1, none⟩ (.int .i64 (c : Int))).setCell ⟨w.heap.size + 1, 2, none⟩ (.slice sa S.length sc)).heap[w.heap.size + 1 + 1]? = some (.cells #[.slice none 0 0, .slice none 0 0] 26) := heap_kept (heap_kept (heap_kept HZ6.out (set_grown _ _ _ _) (by simp)) (set_grown _ _ _ _) (by simp)) (set_grown _ _ _ _) (by simp)
        obtain ⟨⟨y1, y2⟩, ⟨y3, y4⟩, y5⟩ := store2 (.slice none 0 0) (.slice none 0 0) hz6
        have hb1 := But.refl (fun q => q = w.heap.size + 1 ∨ q = w.heap.size + 1 + 1) wr
        have hb2 := ((hb1.setCell (p := ⟨w.heap.size + 1, 0, none⟩) (.inl (.inl rfl)) (.int .i64 (r : Int))).setCell (p := ⟨w.heap.size + 1, 1, none⟩) (.inl (.inl rfl)) (.int .i64 (c : Int))).setCell (p := ⟨w.heap.size + 1, 2, none⟩) (.inl (.inl rfl)) (.slice sa S.length sc)
        have hb3 := (hb2.setCell (p := ⟨w.heap.size + 1 + 1, 0, none⟩) (.inl (.inr rfl)) (.slice none 0 0)).setCell (p := ⟨w.heap.size + 1 + 1, 1, none⟩) (.inl (.inr rfl)) (.slice none 0 0)
        have hx7 := heap_kept (heap_kept x7 (set_grown _ (w.heap.size + 1 + 1) 0 (.slice none 0 0)) (by simp)) (set_grown _ (w.heap.size + 1 + 1) 1 (.slice none 0 0)) (by simp)
        have HB3 := Lib.hid hb3
        have HX7 := Lib.hid hx7
        have HY5 := Lib.hid y5
        have HOF : Hid (mOk t = false) := Lib.hid (by unfold mOk mK; rw [← HMF.out, ← HK.out]; simpa using hlt)
        clear hb1 hb2 hb3 hx7 y5 x7 hz6
        go_upto_if 60 with fail
        go_wp2_with fail
        refine bodyPost_ret (res41 rfl rfl rfl HX7.out rfl HY5.out rfl) rfl ?_
        have hlg := HG.out
        have hA := (HTi.out.a.but HB3.out (fun q hq => by rcases hq with rfl | rfl <;> omega)).base (show w.heap.size ≤ G + 1 by omega)
        have hF : Fut w _ := RowKit.Below.trans HFi.out (But.below HB3.out w.heap.size (RowKit.Below.size HFi.out) (fun q hq => by rcases hq with rfl | rfl <;> omega))
        have hY0 : mY t = [] := by unfold mY; rw [HOF.out]; rfl
        have hT0 : mT t = [] := by unfold mT; rw [HOF.out]; rfl
        refine ⟨sa, sc, none, 0, none, 0, ?_, ?_, ?_, ?_, hF⟩
        · rw [hY0, hT0, HOF.out, ← HMS.out, HRC.out.1, HRC.out.2]; rfl
        · rw [← HMS.out]; exact hA
        · rw [hY0]; exact World.ownsRow_nil _ _ _ _
        · rw [hT0]; exact World.ownsRow_nil _ _ _ _
      · have hlx : ¬ (L.length : Int) < k := by omega
        have HOT : Hid (mOk t = true) := Lib.hid (by unfold mOk mK; rw [← HMF.out, ← HK.out]; simpa using hlt)
        have hkL : k ≤ L.length := by omega
        have hLl : L.length ≤ 1000 := by have := frL_len (shB (t 3)) (mR t * mC t); have h2 := HMF.out; rw [show frL (shB (t 3)) (mR t * mC t) = mF t from rfl, ← h2] at this; rw [← HM.out] at this; omega
        have hIL : IntsAt wr fa L := by
          obtain ⟨_, _, e', _, _, hI0⟩ := HTi.out.b.form
          simp only [Value.slice.injEq, true_and] at e'
          obtain ⟨rfl, rfl⟩ := e'
          exact hI0
        have HD1 := Lib.hid (fun W (F : Fut wr W) => drawn_any k (fun j => t (4 + j)) (fun j => ht.2 (4 + j) (by omega)) fa fc L w.heap.size 4 3 W (hIL.fut F) hk0 hkL hLl (fun j hj => (HBi.out.fut F).y j (by omega)))
        have HD2 := Lib.hid (fun W (F : Fut wr W) => drawn_any k (fun j => t (7 + j)) (fun j => ht.2 (7 + j) (by omega)) fa fc L w.heap.size 7 3 W (hIL.fut F) hk0 hkL hLl (fun j hj => (HBi.out.fut F).z j (by omega)))
        have hs1 := slice3 4 k hk3 w.heap.size
        have hs2 := slice3 7 k hk3 w.heap.size
        have HKL := Lib.hid hkL
        have hcs := three_cell HPi.out
        have HFX : Hid (Fut w wr.drew) := Lib.hid (HFi.out.trans (below_drewN Fut.rfl 1 : Fut wr wr.drew))
        have HFR : Hid (Fut wr wr.drew) := Lib.hid (below_drewN Fut.rfl 1)
        have HPX := Lib.hid (heap_fut HPi.out HFR.out)
        have hgG := HG.out
        clear hIL hkL hcs
        go_upto_region 13 with fail
        refine wp_region_held_drew (S := (fun w' => w'.heap[G]? = some (.cells #[.int .i64 (r : Int), .int .i64 (c : Int), .slice sa S.length sc] 24))) (by kernel_rfl) ?_ (fun hHeld => ?_)
        · exact HPX.out
        generalize wr.drew = u0 at *
        refine wpAnyH_take (i := 0) (oi := { dst := some 63, op := Op.load 24 (Operand.tmp 9), type := 24, pos := "outright.go:34", after := #[], guard := none }) (v := ?_) rfl (by kernel_rfl) (by kernel_rfl) (by kernel_rfl) (fun _ _ _ h => h) (Or.inl ⟨by rfl, ?_⟩) (by assumption) ?_
        rotate_left
        · (intro w hSw; (have hq := three_cell hSw; obtain ⟨s0, s1, s2, _⟩ := hq); go_simp <;> with_reducible rfl)
        try simp only [Act.put, List.setIfInBounds_toArray, List.set_cons_zero, List.set_cons_succ]
        refine wpAnyH_take (i := 1) (oi := { dst := some 64, op := Op.move (Operand.tmp 10), type := 22, pos := "outright.go:34", after := #[], guard := none }) (v := ?_) rfl (by kernel_rfl) (by kernel_rfl) (by kernel_rfl) (fun _ _ _ h => h) (Or.inl ⟨by rfl, ?_⟩) (by assumption) ?_
        rotate_left
        · (intro w hSw; (have hq := three_cell hSw; obtain ⟨s0, s1, s2, _⟩ := hq); go_simp <;> with_reducible rfl)
        try simp only [Act.put, List.setIfInBounds_toArray, List.set_cons_zero, List.set_cons_succ]
        refine wpAnyH_take (i := 2) (oi := { dst := some 65, op := Op.fieldAddr 63 (Operand.tmp 3) 4, type := 0, pos := "outright.go:34", after := #[], guard := none }) (v := ?_) rfl (by kernel_rfl) (by kernel_rfl) (by kernel_rfl) (fun _ _ _ h => h) (Or.inl ⟨by rfl, ?_⟩) (by assumption) ?_
        rotate_left
        · (intro w hSw; (have hq := three_cell hSw; obtain ⟨s0, s1, s2, _⟩ := hq); go_simp <;> with_reducible rfl)
        try simp only [Act.put, List.setIfInBounds_toArray, List.set_cons_zero, List.set_cons_succ]
        refine wpAnyH_take (i := 3) (oi := { dst := some 66, op := Op.move (Operand.tmp 12), type := 3, pos := "outright.go:34", after := #[], guard := none }) (v := ?_) rfl (by kernel_rfl) (by kernel_rfl) (by kernel_rfl) (fun _ _ _ h => h) (Or.inl ⟨by rfl, ?_⟩) (by assumption) ?_
        rotate_left
        · (intro w hSw; (have hq := three_cell hSw; obtain ⟨s0, s1, s2, _⟩ := hq); go_simp <;> with_reducible rfl)
        try simp only [Act.put, List.setIfInBounds_toArray, List.set_cons_zero, List.set_cons_succ]
        refine wpAnyH_take (i := 4) (oi := { dst := some 67, op := Op.slice 61 (Operand.tmp 65) none (some (Operand.tmp 66)) none, type := 123, pos := "outright.go:34", after := #[{ on := 2, ground := Ground.data }, { on := 3, ground := Ground.data }], guard := none }) (v := ?_) rfl (by kernel_rfl) (by kernel_rfl) (by kernel_rfl) (fun _ _ _ h => h) (Or.inl ⟨by rfl, ?_⟩) (by assumption) ?_
        rotate_left
        · (intro w hSw; (have hq := three_cell hSw; obtain ⟨s0, s1, s2, _⟩ := hq); go_simp <;> with_reducible rfl)
        try simp only [Act.put, List.setIfInBounds_toArray, List.set_cons_zero, List.set_cons_succ]
        refine wpAnyH_take (i := 6) (oi := { dst := some 69, op := Op.move (Operand.tmp 10), type := 22, pos := "outright.go:34", after := #[], guard := none }) (v := ?_) rfl (by kernel_rfl) (by kernel_rfl) (by kernel_rfl) (fun _ _ _ h => h) (Or.inl ⟨by rfl, ?_⟩) (by assumption) ?_
        rotate_left
        · (intro w hSw; (have hq := three_cell hSw; obtain ⟨s0, s1, s2, _⟩ := hq); go_simp <;> with_reducible rfl)
        try simp only [Act.put, List.setIfInBounds_toArray, List.set_cons_zero, List.set_cons_succ]
        refine wpAnyH_take (i := 7) (oi := { dst := some 70, op := Op.fieldAddr 63 (Operand.tmp 3) 5, type := 0, pos := "outright.go:34", after := #[], guard := none }) (v := ?_) rfl (by kernel_rfl) (by kernel_rfl) (by kernel_rfl) (fun _ _ _ h => h) (Or.inl ⟨by rfl, ?_⟩) (by assumption) ?_
        rotate_left
        · (intro w hSw; (have hq := three_cell hSw; obtain ⟨s0, s1, s2, _⟩ := hq); go_simp <;> with_reducible rfl)
        try simp only [Act.put, List.setIfInBounds_toArray, List.set_cons_zero, List.set_cons_succ]
        refine wpAnyH_take (i := 8) (oi := { dst := some 71, op := Op.move (Operand.tmp 12), type := 3, pos := "outright.go:34", after := #[], guard := none }) (v := ?_) rfl (by kernel_rfl) (by kernel_rfl) (by kernel_rfl) (fun _ _ _ h => h) (Or.inl ⟨by rfl, ?_⟩) (by assumption) ?_
        rotate_left
        · (intro w hSw; (have hq := three_cell hSw; obtain ⟨s0, s1, s2, _⟩ := hq); go_simp <;> with_reducible rfl)
        try simp only [Act.put, List.setIfInBounds_toArray, List.set_cons_zero, List.set_cons_succ]
        refine wpAnyH_take (i := 9) (oi := { dst := some 72, op := Op.slice 61 (Operand.tmp 70) none (some (Operand.tmp 71)) none, type := 123, pos := "outright.go:34", after := #[{ on := 7, ground := Ground.data }, { on := 8, ground := Ground.data }], guard := none }) (v := ?_) rfl (by kernel_rfl) (by kernel_rfl) (by kernel_rfl) (fun _ _ _ h => h) (Or.inl ⟨by rfl, ?_⟩) (by assumption) ?_
        rotate_left
        · (intro w hSw; (have hq := three_cell hSw; obtain ⟨s0, s1, s2, _⟩ := hq); go_simp <;> with_reducible rfl)
        try simp only [Act.put, List.setIfInBounds_toArray, List.set_cons_zero, List.set_cons_succ]
        refine wpAnyH_ready (rs := [5]) (by kernel_rfl) (by simp) ?_
        refine AllReadyH.cons (o := { dst := some 68, op := Op.call { callee := Callee.value (Operand.func 98), args := #[Operand.tmp 64, Operand.tmp 67], argTypes := #[22, 123] }, type := 22, pos := "outright.go:34", after := #[{ on := 1, ground := Ground.data }, { on := 4, ground := Ground.data }], guard := none }) rfl (fun K hK => ?_) AllReadyH.nil
        go_simp
        go_at_call 98
        refine (HD1.out u0 HFR.out).mono ?_
        rintro _ w5 ⟨v5, rfl, hO5, F5⟩
        obtain ⟨a5, c5, e5, _, _, hI5⟩ := hO5.form
        rw [drw_len] at e5
        subst e5
        have HF5 := Lib.hid F5
        have HO5 := Lib.hid hO5
        clear hO5 F5 hI5
        try go_wp2_with fail
        refine hK.out _ _ ?_ (fun hHeld => ?_)
        · exact heap_fut HPX.out HF5.out
        clear hK K
        try simp only [Act.put, List.setIfInBounds_toArray, List.set_cons_zero, List.set_cons_succ]
        refine wpAnyH_ready (rs := [10]) (by kernel_rfl) (by simp) ?_
        refine AllReadyH.cons (o := { dst := some 73, op := Op.call { callee := Callee.value (Operand.func 98), args := #[Operand.tmp 69, Operand.tmp 72], argTypes := #[22, 123] }, type := 22, pos := "outright.go:34", after := #[{ on := 6, ground := Ground.data }, { on := 9, ground := Ground.data }, { on := 5, ground := Ground.chain }], guard := none }) rfl (fun K hK => ?_) AllReadyH.nil
        go_simp
        go_at_call 98
        refine (HD2.out w5 (HFR.out.trans HF5.out)).mono ?_
        rintro _ w6 ⟨v6, rfl, hO6, F6⟩
        obtain ⟨a6, c6, e6, _, _, hI6⟩ := hO6.form
        rw [drw_len] at e6
        subst e6
        have HF6 := Lib.hid (HF5.out.trans F6)
        have HO6 := Lib.hid hO6
        have HO56 := Lib.hid (HO5.out.fut F6)
        clear hO6 F6 hI6
        try go_wp2_with fail
        refine hK.out _ _ ?_ (fun hHeld => ?_)
        · exact heap_fut HPX.out HF6.out
        clear hK K
        try simp only [Act.put, List.setIfInBounds_toArray, List.set_cons_zero, List.set_cons_succ]
        refine wpAnyH_take (i := 11) (oi := { dst := some 74, op := Op.build 26 #[(0, Operand.tmp 68), (1, Operand.tmp 73)], type := 26, pos := "outright.go:34", after := #[{ on := 5, ground := Ground.data }, { on := 10, ground := Ground.data }, { on := 12, ground := Ground.gcOnly Departure.lateStores }], guard := none }) (v := ?_) rfl (by kernel_rfl) (by kernel_rfl) (by kernel_rfl) (fun _ _ _ h => h) (Or.inl ⟨by rfl, ?_⟩) (by assumption) ?_
        rotate_left
        · (intro w hSw; (have hq := three_cell hSw; obtain ⟨s0, s1, s2, _⟩ := hq); go_simp <;> with_reducible rfl)
        try simp only [Act.put, List.setIfInBounds_toArray, List.set_cons_zero, List.set_cons_succ]
        refine wpAnyH_ready (rs := [12]) (by kernel_rfl) (by simp) ?_
        refine AllReadyH.cons (o := { dst := none, op := Op.store 24 (Operand.tmp 6) (Operand.tmp 63), type := 0, pos := "outright.go:34", after := #[{ on := 0, ground := Ground.data }, { on := 10, ground := Ground.chain }, { on := 0, ground := Ground.phase }, { on := 1, ground := Ground.textOnly Departure.lateStores }, { on := 2, ground := Ground.textOnly Departure.lateStores }, { on := 3, ground := Ground.textOnly Departure.lateStores }, { on := 4, ground := Ground.textOnly Departure.lateStoresUnsure }, { on := 5, ground := Ground.textOnly Departure.lateStoresUnsure }, { on := 6, ground := Ground.textOnly Departure.lateStores }, { on := 7, ground := Ground.textOnly Departure.lateStores }, { on := 8, ground := Ground.textOnly Departure.lateStores }, { on := 9, ground := Ground.textOnly Departure.lateStoresUnsure }, { on := 10, ground := Ground.textOnly Departure.lateStoresUnsure }, { on := 11, ground := Ground.textOnly Departure.lateStores }], guard := none }) rfl (fun K hK => ?_) AllReadyH.nil
        obtain ⟨⟨x1, x2⟩, ⟨x3, x4⟩, ⟨x5, x6⟩, x7⟩ := store3 (.int .i64 (r : Int)) (.int .i64 (c : Int)) (.slice sa S.length sc) (heap_fut (heap_fut HZ4.out HFR.out) HF6.out)
        go_simp
        refine hK.out _ _ ?_ (fun hHeld => ?_)
        · exact heap_kept (heap_kept (heap_kept (heap_fut HPX.out HF6.out) (set_grown _ _ _ _) (by simp; omega)) (set_grown _ _ _ _) (by simp; omega)) (set_grown _ _ _ _) (by simp; omega)
        clear hK K
        try simp only [Act.put, List.setIfInBounds_toArray, List.set_cons_zero, List.set_cons_succ]
        refine wpAnyH_ready (rs := [13]) (by kernel_rfl) (by simp) ?_
        refine AllReadyH.cons (o := { dst := none, op := Op.store 26 (Operand.tmp 7) (Operand.tmp 74), type := 0, pos := "outright.go:34", after := #[{ on := 11, ground := Ground.data }, { on := 12, ground := Ground.chain }, { on := 0, ground := Ground.phase }, { on := 1, ground := Ground.phase }, { on := 2, ground := Ground.phase }, { on := 3, ground := Ground.phase }, { on := 4, ground := Ground.phase }, { on := 5, ground := Ground.phase }, { on := 6, ground := Ground.phase }, { on := 7, ground := Ground.phase }, { on := 8, ground := Ground.phase }, { on := 9, ground := Ground.phase }, { on := 10, ground := Ground.phase }, { on := 11, ground := Ground.phase }, { on := 12, ground := Ground.phase }], guard := none }) rfl (fun K hK => ?_) AllReadyH.nil
        have hz6 : (((w6.setCell ⟨w.heap.size + 1, 0, none⟩ (.int .i64 (r : Int))).setCell ⟨w.heap.size + 1, 1, none⟩ (.int .i64 (c : Int))).setCell ⟨w.heap.size + 1, 2, none⟩ (.slice sa S.length sc)).heap[w.heap.size + 1 + 1]? = some (.cells #[.slice none 0 0, .slice none 0 0] 26) := heap_kept (heap_kept (heap_kept (heap_fut (heap_fut HZ6.out HFR.out) HF6.out) (set_grown _ _ _ _) (by simp)) (set_grown _ _ _ _) (by simp)) (set_grown _ _ _ _) (by simp)
        obtain ⟨⟨y1, y2⟩, ⟨y3, y4⟩, y5⟩ := store2 (.slice a5 k c5) (.slice a6 k c6) hz6
        go_simp
        refine hK.out _ _ ?_ (fun hHeld => ?_)
        · exact heap_kept (heap_kept (heap_kept (heap_kept (heap_kept (heap_fut HPX.out HF6.out) (set_grown _ _ _ _) (by simp; omega)) (set_grown _ _ _ _) (by simp; omega)) (set_grown _ _ _ _) (by simp; omega)) (set_grown _ _ _ _) (by simp; omega)) (set_grown _ _ _ _) (by simp; omega)
        clear hK K
        try simp only [Act.put, List.setIfInBounds_toArray, List.set_cons_zero, List.set_cons_succ]
        refine wpAnyH_ready (rs := [14]) (by kernel_rfl) (by simp) ?_
        refine AllReadyH.cons (o := { dst := some 8, op := Op.assign (Operand.const (Value.bool true)), type := 4, pos := "outright.go:34", after := #[{ on := 13, ground := Ground.chain }, { on := 0, ground := Ground.phase }, { on := 1, ground := Ground.phase }, { on := 2, ground := Ground.phase }, { on := 3, ground := Ground.phase }, { on := 4, ground := Ground.phase }, { on := 5, ground := Ground.phase }, { on := 6, ground := Ground.phase }, { on := 7, ground := Ground.phase }, { on := 8, ground := Ground.phase }, { on := 9, ground := Ground.phase }, { on := 10, ground := Ground.phase }, { on := 11, ground := Ground.phase }, { on := 12, ground := Ground.phase }, { on := 13, ground := Ground.phase }], guard := none }) rfl (fun K hK => ?_) AllReadyH.nil
        go_simp
        refine hK.out _ _ ?_ (fun hHeld => ?_)
        · exact hHeld
        clear hK K
        try simp only [Act.put, List.setIfInBounds_toArray, List.set_cons_zero, List.set_cons_succ]
        refine wpAnyH_done (by kernel_rfl) ?_ _
        have hx7 := heap_kept (heap_kept x7 (set_grown _ (w.heap.size + 1 + 1) 0 (.slice a5 k c5)) (by simp)) (set_grown _ (w.heap.size + 1 + 1) 1 (.slice a6 k c6)) (by simp)
        have HX7 := Lib.hid hx7
        have HY5 := Lib.hid y5
        clear hx7 y5 x7 hz6 x1 x2 x3 x4 x5 x6 y1 y2 y3 y4
        go_wp2_with fail
        refine bodyPost_ret (res41 rfl rfl rfl HX7.out rfl HY5.out rfl) rfl ?_
        have hub : G + 1 ≤ u0.heap.size := Nat.le_trans HGi.out (RowKit.Below.size HFR.out)
        have hu5 : u0.heap.size ≤ w5.heap.size := RowKit.Below.size HF5.out
        have hw6 : w.heap.size ≤ w6.heap.size := by have := RowKit.Below.size HF6.out; omega
        have hb2 := (((But.refl (fun q => q = w.heap.size + 1 ∨ q = w.heap.size + 1 + 1) w6).setCell (p := ⟨w.heap.size + 1, 0, none⟩) (.inl (.inl rfl)) (.int .i64 (r : Int))).setCell (p := ⟨w.heap.size + 1, 1, none⟩) (.inl (.inl rfl)) (.int .i64 (c : Int))).setCell (p := ⟨w.heap.size + 1, 2, none⟩) (.inl (.inl rfl)) (.slice sa S.length sc)
        have hb3 := (hb2.setCell (p := ⟨w.heap.size + 1 + 1, 0, none⟩) (.inl (.inr rfl)) (.slice a5 k c5)).setCell (p := ⟨w.heap.size + 1 + 1, 1, none⟩) (.inl (.inr rfl)) (.slice a6 k c6)
        have hA := ((HTi.out.a.fut (HFR.out.trans HF6.out)).but hb3 (fun q hq => by rcases hq with rfl | rfl <;> omega)).base (show w.heap.size ≤ G + 1 by omega)
        have hYo := (HO56.out.but hb3 (fun q hq => by rcases hq with rfl | rfl <;> omega)).base (show w.heap.size ≤ u0.heap.size by omega)
        have hTo := (HO6.out.but hb3 (fun q hq => by rcases hq with rfl | rfl <;> omega)).base (show w.heap.size ≤ w5.heap.size by omega)
        have hF : Fut w _ := RowKit.Below.trans (HFX.out.trans HF6.out) (But.below hb3 w.heap.size hw6 (fun q hq => by rcases hq with rfl | rfl <;> omega))
        have hY0 : mY t = drw (fun j => t (4 + j)) k 0 L := by unfold mY; rw [HOT.out, if_pos rfl, HK.out, HMF.out]; rfl
        have hT0 : mT t = drw (fun j => t (7 + j)) k 0 L := by unfold mT; rw [HOT.out, if_pos rfl, HK.out, HMF.out]; rfl
        refine ⟨sa, sc, a5, c5, a6, c6, ?_, ?_, ?_, ?_, hF⟩
        · rw [hY0, hT0, HOT.out, ← HMS.out, HRC.out.1, HRC.out.2, drw_len, drw_len]
        · rw [← HMS.out]; exact hA
        · rw [hY0, drw_len]; exact hYo
        · rw [hT0, drw_len]; exact hTo
end Go.Proofs.Ytflllkamdihfaaa
