/- shutToo: shutToo_any -/
import Derived.Test.YtflllkamdihfaaaLS
import Derived.Test.YtflllkamdihfaaaLD
import Derived.Laws.ResultCell
namespace Go.Proofs.Ytflllkamdihfaaa
open Go.RowKit Go.Sort
theorem results_one_cell {fn : Func} {p : Tmp} {ty : TypeId} (h : fn.results = #[.cell p ty]) (tmps : Array Value) (P : Program) (w : World) :
    (results fn tmps).run P w = ((asAddr (tmps.getD p undef)).run P w).andThen fun a w₁ => (loadVar ty a).run P w₁ := by
  simp only [results, h]
  simp [Sem.run_bind, Result.andThen]
theorem res95 {tmps : Array Value} {w : World} {B : Nat} {cs : Array Value} (h4 : tmps.getD 4 undef = .pointer (some ⟨B, 0, none⟩)) (hc : cs.size = 3) (hw : w.heap[B]? = some (.cells cs 24)) :
    (results Try.f95 tmps).run Try.prog w = .ok (.agg cs) w := by
  rw [results_one_cell rfl, h4]
  have hr := run_loadVar_row (P := Try.prog) w B 24 24 cs (0, 0) _ hw Try.underlying24 rfl (by rw [hc]; kernel_rfl)
  simp [asAddr, hr, Result.andThen]
theorem store3 {w : World} {B : Nat} {t : TypeId} {x y z : Value} (u v s : Value) (h : w.heap[B]? = some (.cells #[x, y, z] t)) :
    (w.cell? ⟨B, 0, none⟩ = some x ∧ w.frozen? ⟨B, 0, none⟩ = false) ∧ ((w.setCell ⟨B, 0, none⟩ u).cell? ⟨B, 1, none⟩ = some y ∧ (w.setCell ⟨B, 0, none⟩ u).frozen? ⟨B, 1, none⟩ = false) ∧
    (((w.setCell ⟨B, 0, none⟩ u).setCell ⟨B, 1, none⟩ v).cell? ⟨B, 2, none⟩ = some z ∧ ((w.setCell ⟨B, 0, none⟩ u).setCell ⟨B, 1, none⟩ v).frozen? ⟨B, 2, none⟩ = false) ∧
    (((w.setCell ⟨B, 0, none⟩ u).setCell ⟨B, 1, none⟩ v).setCell ⟨B, 2, none⟩ s).heap[B]? = some (.cells #[u, v, s] t) := by
  have h1 : (w.setCell ⟨B, 0, none⟩ u).heap[B]? = some (.cells #[u, y, z] t) := by rw [setCell_eq_setRow w B 0 _ t (0, 0) u h, setRow_heap _ _ _ _ _ _ h]; rfl
  have h2 : ((w.setCell ⟨B, 0, none⟩ u).setCell ⟨B, 1, none⟩ v).heap[B]? = some (.cells #[u, v, z] t) := by rw [setCell_eq_setRow _ B 1 _ t (0, 0) v h1, setRow_heap _ _ _ _ _ _ h1]; rfl
  have h3 : (((w.setCell ⟨B, 0, none⟩ u).setCell ⟨B, 1, none⟩ v).setCell ⟨B, 2, none⟩ s).heap[B]? = some (.cells #[u, v, s] t) := by rw [setCell_eq_setRow _ B 2 _ t (0, 0) s h2, setRow_heap _ _ _ _ _ _ h2]; rfl
  refine ⟨⟨?_, ?_⟩, ⟨?_, ?_⟩, ⟨?_, ?_⟩, h3⟩
  · unfold World.cell?; rw [h]; rfl
  · unfold World.frozen?; rw [h]; rfl
  · unfold World.cell?; rw [h1]; rfl
  · unfold World.frozen?; rw [h1]; rfl
  · unfold World.cell?; rw [h2]; rfl
  · unfold World.frozen?; rw [h2]; rfl
set_option maxRecDepth 100000 in
set_option maxHeartbeats 4000000 in
theorem shutToo_any (r c : Int) (a : Option Addr) (cap : Nat) (S : List Int) (la : Option Addr) (lc : Nat) (L : List Int) (w : World) (hS : IntsAt w a S) (hl : S.length ≤ 1000) (hL : IntsAt w la L) (hll : L.length ≤ 1000) :
    Calls Try.prog 95 #[parV r c a S.length cap, .slice la L.length lc] w fun e w' => ∃ a' cap', e = .returned (parV r c a' (S ++ L).length cap') ∧ (S ++ L).length ≤ cap' ∧ IntsAt w' a' (S ++ L) ∧ Fut w w' := by
  have hA : Fut w ((w.alloc (.cells #[.int .i64 r, .int .i64 c, .slice a S.length cap] 24)).alloc (.cells #[.int .i64 0, .int .i64 0, .slice none 0 0] 24)) := (Fut.alloc _ _).trans (Fut.alloc _ _)
  have hC := concat_two a la S.length L.length cap lc S L ((w.alloc (.cells #[.int .i64 r, .int .i64 c, .slice a S.length cap] 24)).alloc (.cells #[.int .i64 0, .int .i64 0, .slice none 0 0] 24)) (hS.fut hA) (hL.fut hA) rfl rfl hl hll
  have h1 : ((w.alloc (.cells #[.int .i64 r, .int .i64 c, .slice a S.length cap] 24)).alloc (.cells #[.int .i64 0, .int .i64 0, .slice none 0 0] 24)).heap[w.heap.size]? = some (.cells #[.int .i64 r, .int .i64 c, .slice a S.length cap] 24) := by
    rw [RowKit.Below.heap_alloc _ _ _ (by simp)]
    exact World.alloc_heap_new _ _
  have h2 : ((w.alloc (.cells #[.int .i64 r, .int .i64 c, .slice a S.length cap] 24)).alloc (.cells #[.int .i64 0, .int .i64 0, .slice none 0 0] 24)).heap[w.heap.size + 1]? = some (.cells #[.int .i64 0, .int .i64 0, .slice none 0 0] 24) := by
    have := World.alloc_heap_new (w.alloc (.cells #[.int .i64 r, .int .i64 c, .slice a S.length cap] 24)) (.cells #[.int .i64 0, .int .i64 0, .slice none 0 0] 24)
    simpa using this
  simp only [World.size_alloc] at hC
  have HC := Lib.hid hC
  have HA := Lib.hid hA
  have H1 := Lib.hid h1
  have H2 := Lib.hid h2
  clear hA hC h1 h2 hS hL
  go_enter Try.func95, Try.ntmps95
  go_wp2_with fail
  refine HC.out.mono ?_
  rintro _ w5 ⟨v5, rfl, hO, F5⟩
  obtain ⟨l5, c5, rfl, hI⟩ := hO.ints
  have p := RowKit.Below.block F5 _ (show w.heap.size < _ by simp; omega)
  rw [H1.out] at p
  have q := RowKit.Below.block F5 _ (show w.heap.size + 1 < _ by simp; try omega)
  rw [H2.out] at q
  have p2 : w5.cell? ⟨w.heap.size, 2, none⟩ = some (.slice a S.length cap) := by unfold World.cell?; rw [p]; rfl
  have pf : w5.frozen? ⟨w.heap.size, 2, none⟩ = false := by unfold World.frozen?; rw [p]; rfl
  go_upto_region 2 with fail
  have e6 := setCell_eq_setRow w5 w.heap.size 2 _ 24 (0, 0) (Value.slice l5 (S.length + L.length) c5) p
  have p6 : (w5.setCell ⟨w.heap.size, 2, none⟩ (Value.slice l5 (S.length + L.length) c5)).heap[w.heap.size]? = some (.cells #[.int .i64 r, .int .i64 c, .slice l5 (S.length + L.length) c5] 24) := by rw [e6, setRow_heap _ _ _ _ _ _ p]; rfl
  have q6 : (w5.setCell ⟨w.heap.size, 2, none⟩ (Value.slice l5 (S.length + L.length) c5)).heap[w.heap.size + 1]? = some (.cells #[.int .i64 0, .int .i64 0, .slice none 0 0] 24) := by rw [e6, setRow_other _ _ _ _ (by omega)]; exact q
  have hW : w.heap.size + 2 ≤ w5.heap.size := by have := RowKit.Below.size F5; simp at this; omega
  have HO6 := Lib.hid (hO.but (But.setCell (Z := fun q => q = w.heap.size) (But.refl _ _) (p := ⟨w.heap.size, 2, none⟩) (.inl rfl) (Value.slice l5 (S.length + L.length) c5)) (fun q hq => by simp at *; omega))
  have HF6 := Lib.hid (RowKit.Below.setCell (HA.out.trans F5) (p := ⟨w.heap.size, 2, none⟩) (Nat.le_refl _) (Value.slice l5 (S.length + L.length) c5))
  clear e6 p q p2 pf hO hI F5
  generalize w5.setCell ⟨w.heap.size, 2, none⟩ (Value.slice l5 (S.length + L.length) c5) = w6 at *
  have p0 : w6.cell? ⟨w.heap.size, 0, none⟩ = some (.int .i64 r) := by unfold World.cell?; rw [p6]; rfl
  have p1 : w6.cell? ⟨w.heap.size, 1, none⟩ = some (.int .i64 c) := by unfold World.cell?; rw [p6]; rfl
  have p2 : w6.cell? ⟨w.heap.size, 2, none⟩ = some (.slice l5 (S.length + L.length) c5) := by unfold World.cell?; rw [p6]; rfl
  obtain ⟨⟨y1, y2⟩, ⟨y3, y4⟩, ⟨y5, y6⟩, y7⟩ := store3 (.int .i64 r) (.int .i64 c) (.slice l5 (S.length + L.length) c5) q6
  go_wp2_with fail
  refine bodyPost_ret (res95 rfl rfl y7) rfl ?_
  have hb : But (fun q => q = w.heap.size + 1) w6 (((w6.setCell ⟨w.heap.size + 1, 0, none⟩ (.int .i64 r)).setCell ⟨w.heap.size + 1, 1, none⟩ (.int .i64 c)).setCell ⟨w.heap.size + 1, 2, none⟩ (.slice l5 (S.length + L.length) c5)) :=
    But.setCell (Z := fun q => q = w.heap.size + 1) (p := ⟨w.heap.size + 1, 2, none⟩) (But.setCell (Z := fun q => q = w.heap.size + 1) (p := ⟨w.heap.size + 1, 1, none⟩) (But.setCell (Z := fun q => q = w.heap.size + 1) (p := ⟨w.heap.size + 1, 0, none⟩) (But.refl _ _) (.inl rfl) _) (.inl rfl) _) (.inl rfl) _
  have hO9 := HO6.out.but hb (fun q hq => by simp at *; omega)
  obtain ⟨a9, c9, e9, hc9, _⟩ := hO9.form
  obtain ⟨a8, c8, e8, hI9⟩ := hO9.ints
  cases e9
  cases e8
  have hF9 := RowKit.Below.setCell (RowKit.Below.setCell (RowKit.Below.setCell HF6.out (p := ⟨w.heap.size + 1, 0, none⟩) (by simp) (.int .i64 r)) (p := ⟨w.heap.size + 1, 1, none⟩) (by simp) (.int .i64 c)) (p := ⟨w.heap.size + 1, 2, none⟩) (by simp) (.slice l5 (S.length + L.length) c5)
  exact ⟨_, _, by rw [List.length_append], hc9, hI9, hF9⟩
end Go.Proofs.Ytflllkamdihfaaa
