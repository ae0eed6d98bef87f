/- Layer 1: why a division is not by the rule, where it is none. -/
import Derived.Test.YtdnbdaegahcoeaaI
import Derived.RangeFuncNested
import Derived.RangeFuncBound
import Derived.RangeFuncCalls
import Derived.RangeFuncLeaves
import Derived.Shelf.Abstract
import Derived.Shelf.RegionOpen
import Derived.OwnWalkIn
import Derived.TacticsInMore
import Derived.LoopNIn
import Derived.LoopIn
namespace Go.Proofs.Ytdnbdaegahcoeaa
open Go.RowKit Go.Sort
open Go.Shelf
attribute [local go_sem] Oper.semAt_some
def whyL (zs gs : List Int) : Option (Nat × Nat) := (rowsF zs.length zs.length).find? fun p => !atB zs gs p.1 p.2
theorem heap_alloc_get (w : World) (o : Obj) (k : Nat) : (w.alloc o).heap[k]? = if k = w.heap.size then some o else w.heap[k]? := by
  show (w.heap.push o)[k]? = _
  rw [Array.getElem?_push]
/-- five boxes behind one another. -/
abbrev W5 (w : World) (va vc : Value) : World := ((((w.alloc (.cells #[va] 22)).alloc (.cells #[vc] 22)).alloc (.cells #[.int .i64 0] 3)).alloc (.cells #[.int .i64 0] 3)).alloc (.cells #[.int .i64 0] 24)
structure Five (w : World) (B : Nat) (va vc : Value) (p q r : Int) : Prop where
  a : w.heap[B]? = some (.cells #[va] 22 (0, 0))
  c : w.heap[B + 1]? = some (.cells #[vc] 22 (0, 0))
  p : w.heap[B + 1 + 1]? = some (.cells #[.int .i64 p] 3 (0, 0))
  q : w.heap[B + 1 + 1 + 1]? = some (.cells #[.int .i64 q] 3 (0, 0))
  r : w.heap[B + 1 + 1 + 1 + 1]? = some (.cells #[.int .i64 r] 24 (0, 0))
theorem Five.new (w : World) (va vc : Value) : Five (W5 w va vc) w.heap.size va vc 0 0 0 := by
  constructor <;> simp only [W5, heap_alloc_get, World.size_alloc] <;> (repeat (first | rw [if_pos trivial] | rw [if_pos rfl] | rw [if_neg (by omega)]))
theorem Five.below {w w' : World} {B D : Nat} {va vc : Value} {p q r : Int} (h : Five w B va vc p q r) (hb : RowKit.Below D w w') (hD : B + 4 < D) : Five w' B va vc p q r :=
  ⟨(hb.block _ (by omega)).trans h.a, (hb.block _ (by omega)).trans h.c, (hb.block _ (by omega)).trans h.p, (hb.block _ (by omega)).trans h.q, (hb.block _ (by omega)).trans h.r⟩
theorem Five.grown {w w' : World} {B : Nat} {row : Option Nat} {va vc : Value} {p q r : Int} (h : Five w B va vc p q r) (hg : w.grownBy w' row) (hr : ∀ k, row = some k → B + 4 < k) : Five w' B va vc p q r := by
  have go : ∀ k o, k < B + 5 → w.heap[k]? = some o → w'.heap[k]? = some o := fun k o hk ho =>
    (hg.block k (Array.getElem?_eq_some_iff.1 ho).1 (fun e => by have := hr k e.symm; omega)).trans ho
  exact ⟨go _ _ (by omega) h.a, go _ _ (by omega) h.c, go _ _ (by omega) h.p, go _ _ (by omega) h.q, go _ _ (by omega) h.r⟩
theorem Five.set {w : World} {B : Nat} {va vc : Value} {p q r : Int} (h : Five w B va vc p q r) (p' q' r' : Int) :
    Five (((w.setCell ⟨B + 1 + 1, 0, none⟩ (.int .i64 p')).setCell ⟨B + 1 + 1 + 1, 0, none⟩ (.int .i64 q')).setCell ⟨B + 1 + 1 + 1 + 1, 0, none⟩ (.int .i64 r')) B va vc p' q' r' := by
  have far : ∀ (W : World) (a : Addr) (v : Value) k o, k ≠ a.block → W.heap[k]? = some o → (W.setCell a v).heap[k]? = some o := fun W a v k o hk ho => (RowKit.Below.heap_setCell _ _ _ _ hk).trans ho
  refine ⟨?_, ?_, ?_, ?_, ?_⟩
  · exact far _ _ _ _ _ (by dsimp only; omega) (far _ _ _ _ _ (by dsimp only; omega) (far _ _ _ _ _ (by dsimp only; omega) h.a))
  · exact far _ _ _ _ _ (by dsimp only; omega) (far _ _ _ _ _ (by dsimp only; omega) (far _ _ _ _ _ (by dsimp only; omega) h.c))
  · exact far _ _ _ _ _ (by dsimp only; omega) (far _ _ _ _ _ (by dsimp only; omega) (one_setCell h.p))
  · exact far _ _ _ _ _ (by dsimp only; omega) (one_setCell (far _ _ _ _ _ (by dsimp only; omega) h.q))
  · exact one_setCell (far _ _ _ _ _ (by dsimp only; omega) (far _ _ _ _ _ (by dsimp only; omega) h.r))
theorem lift_pairs (n : Nat) : ∀ l : List (Nat × Nat), (∀ p ∈ l, p.1 < n ∧ p.2 < n) → ∃ L : List (Fin n × Fin n), L.map (fun x => (x.1.val, x.2.val)) = l
  | [], _ => ⟨[], rfl⟩
  | p :: l, h => by
    obtain ⟨L, hL⟩ := lift_pairs n l fun q hq => h q (List.mem_cons_of_mem _ hq)
    have hp := h p (List.mem_cons_self ..)
    exact ⟨(⟨p.1, hp.1⟩, ⟨p.2, hp.2⟩) :: L, by simp [hL]⟩
theorem find_none' {α β : Type} (val : α → β) (f : β → Bool) (L : List α) (h : ∀ x ∈ L, f (val x) = false) : (L.map val).find? f = none := by
  rw [List.find?_eq_none]
  intro y hy
  obtain ⟨x, hx, rfl⟩ := List.mem_map.1 hy
  simp [h x hx]
theorem find_some' {α β : Type} (val : α → β) (f : β → Bool) (ini rest : List α) (x : α) (h : ∀ x ∈ ini, f (val x) = false) (hx : f (val x) = true) : ((ini ++ x :: rest).map val).find? f = some (val x) := by
  rw [List.map_append, List.find?_append, find_none' val f ini h, List.map_cons, List.find?_cons, hx]; rfl
set_option maxRecDepth 100000 in
set_option maxHeartbeats 2000000 in
theorem why_err (x : Int) (a c : Option Addr) (cap dap : Nat) (zs gs : List Int) (w : World) (hl : zs.length ≤ 9223372036854775807) (hlg : gs.length ≤ 9223372036854775807) (hA : IntsAt w a zs) (hG : IntsAt w c gs) (hv : vld x zs gs ≠ 0) :
    Calls Try.prog 32 #[.int .i64 x, .slice a zs.length cap, .slice c gs.length dap] w fun e w' => e = .returned (.tuple #[.int .i64 0, .int .i64 0, .int .i64 (vld x zs gs)]) ∧ RowKit.Below w.heap.size w w' := by
  have hne' : (vld x zs gs != 0) = true := by simpa using hv
  have HV : Hid (∀ W, RowKit.Below w.heap.size w W → Calls Try.prog 34 #[.int .i64 x, .slice a zs.length cap, .slice c gs.length dap] W fun e w' => e = .returned (.int .i64 (vld x zs gs)) ∧ RowKit.Below W.heap.size W w') := fun W hW =>
    valid_any x a c cap dap zs gs W hl hlg (hA.below hW) (hG.below hW)
  generalize vld x zs gs = r at HV hne' ⊢
  clear hA hG hv
  have hB5 : ∀ o1 o2 o3 o4 o5, RowKit.Below w.heap.size w (((((w.alloc o1).alloc o2).alloc o3).alloc o4).alloc o5) := fun o1 o2 o3 o4 o5 =>
    (((((RowKit.Below.refl _ _).alloc (Nat.le_refl _) o1).alloc (by simp) o2).alloc (by simp; omega) o3).alloc (by simp; omega) o4).alloc (by simp; omega) o5
  refine (callsIn_wide (n := 5)).1 ?_
  refine callsIn_of_wp_marks Try.func32 rfl trivial ?_ rfl
  simp only [Try.ntmps32, List.size_toArray, List.length_cons, List.length_nil, Nat.reduceAdd, Nat.reduceSub, Array.replicate_succ, Array.replicate_zero, List.push_toArray, List.append_toArray, List.nil_append, List.cons_append]
  have hF5 := Five.new w (.slice a zs.length cap) (.slice c gs.length dap)
  have HF5 := Lib.hid hF5; clear hF5
  gi_wp2_with fail
  refine ⟨trivial, ?_⟩
  refine (callsIn_wide.2 (HV.out _ (hB5 _ _ _ _ _))).mono ?_
  rintro e w1 ⟨rfl, hB⟩
  have hF := HF5.out.below hB (by simp)
  have hBw := (hB5 _ _ _ _ _).trans (hB.mono (by simp; omega))
  obtain ⟨_, _, hp, hq, hr⟩ := hF
  have p1 := cell_of_one hp; have p2 := free_of_one hp
  have q1 := cell_of_one hq; have q2 := free_of_one hq
  have r1 := cell_of_one hr; have r2 := free_of_one hr
  clear hB hp hq hr hB5 HF5
  gi_wp2
  refine ⟨.tuple #[.int .i64 0, .int .i64 0, .int .i64 r], by simp [results, Try.f32, go_sem, *], rfl, ?_⟩
  exact ((hBw.setCell (by dsimp only; omega) _).setCell (by dsimp only; omega) _).setCell (by dsimp only; omega) _
end Go.Proofs.Ytdnbdaegahcoeaa
