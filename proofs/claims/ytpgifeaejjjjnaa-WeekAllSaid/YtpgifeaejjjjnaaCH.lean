/- count and first. -/
import Derived.Test.YtpgifeaejjjjnaaCG
namespace Go.Proofs.Ytpgifeaejjjjnaa
open Go.RowKit Go.Sort
attribute [local go_sem] Oper.semAt_some
open Go.Shelf
set_option maxRecDepth 100000 in
set_option maxHeartbeats 4000000 in
theorem count_any {g : Nat} {lb : Array Value} {xs : List (List Int)} {N0 : Nat} {Ok : World → Prop} (hseq : SeqV Try.prog g lb Rd xs N0 Ok) (eg : ∀ args w, (callFunc g args).run Try.prog w = .ok (.enter g args) w) (w : World) (hN : N0 ≤ w.heap.size)
    (hOk : ∀ W, RowKit.Below w.heap.size w W → Ok W) (hx : xs.length ≤ 1000000) :
    Calls Try.prog 79 #[.func (.func g) #[] lb] w fun e w' => e = .returned (.int .i64 xs.length) ∧ Fut w w' := by
  refine (callsIn_wide (n := 3)).1 ?_
  refine callsIn_of_wp_marks Try.func79 rfl trivial ?_ rfl
  simp only [Try.ntmps79, List.size_toArray, List.length_cons, List.length_nil, Nat.reduceAdd, Nat.reduceSub, Array.replicate_succ, Array.replicate_zero, List.push_toArray, List.append_toArray, List.nil_append, List.cons_append]
  gi_wp2_with fail
  have hc0 : (w.alloc (.cells #[.int .i64 0] 3)).cell? ⟨w.heap.size, 0, none⟩ = some (.int .i64 (0 : Nat)) := alloc_cell w _ _
  have hf0 : (w.alloc (.cells #[.int .i64 0] 3)).frozen? ⟨w.heap.size, 0, none⟩ = false := by
    have h := World.alloc_heap_new w (.cells #[.int .i64 0] 3)
    unfold World.frozen?; rw [h]; rfl
  have hb0 : RowKit.Below w.heap.size w (w.alloc (.cells #[.int .i64 0] 3)) := (RowKit.Below.refl _ w).alloc (Nat.le_refl _) _
  have hs0 : (w.alloc (.cells #[.int .i64 0] 3)).heap.size = w.heap.size + 1 := by simp
  generalize w.alloc (.cells #[.int .i64 0] 3) = W0 at *
  refine range_v (xs := xs) (V := Rd) (N0 := N0) (Ok := Ok) (gf := g) (lb := lb) rfl eg
    (fun x v w w' h k => h.calm k) hseq (by omega) (fun W2 hb2 => hOk _ (hb0.trans (hb2.mono (by omega)))) rfl (fun k => k = w.heap.size) (fun k hk => by subst hk; exact ⟨hN, by omega⟩)
    (fun pre W1 => W1.cell? ⟨w.heap.size, 0, none⟩ = some (.int .i64 (pre.length : Nat)) ∧ W1.frozen? ⟨w.heap.size, 0, none⟩ = false ∧ Hid (RowKit.Below w.heap.size w W1))
    (fun _ _ _ => False)
    (fun s A B hs hb => ⟨(hb.cell (p := ⟨w.heap.size, 0, none⟩) (by show w.heap.size < _; omega)).trans hs.1, (hb.frozen (p := ⟨w.heap.size, 0, none⟩) (by show w.heap.size < _; omega)).trans hs.2.1, Lib.hid (hs.2.2.out.trans (hb.mono (by omega)))⟩)
    (fun _ _ _ _ hs _ => hs)
    ⟨hc0, hf0, Lib.hid hb0⟩
    (fun v => { tmps := #[.func (.func g) #[] lb, undef, .int .i64 0, .pointer (some ⟨w.heap.size, 0, none⟩), .func (.func g) #[] lb, v, undef, undef, undef], defers := [] })
    ?assign ?body ?done ?stop
  case assign =>
    intro m l' v W1 K hK
    gi_wp2
    simpa using hK
  case body =>
    rintro m l' pre x v W1 hs1 ⟨hc1, hf1, hb1⟩ _ hpre
    have hlen : pre.length + 1 ≤ xs.length := by have := hpre.length_le; simpa using this
    have hwr : IntKind.i64.wrap ((pre.length : Int) + 1) = (pre.length : Int) + 1 := IntWalk.i64_in _ ⟨by omega, by omega⟩
    gi_wp2_with fail
    refine ⟨But.setCell (Z := fun k => k = w.heap.size) (p := ⟨w.heap.size, 0, none⟩) (But.refl _ W1) (.inl rfl) _, ?_, ?_, Lib.hid (hb1.out.setCell (p := ⟨w.heap.size, 0, none⟩) (Nat.le_refl _) _)⟩
    · have h5 := World.cell?_setCell_same' W1 ⟨w.heap.size, 0, none⟩ (.int .i64 ((pre.length : Int) + 1)) (by rw [hc1]; rfl)
      rw [h5]; simp
    · rw [World.frozen?_setCell]; exact hf1
  case done =>
    rintro D W5 hD ⟨hc5, hf5, hb5⟩ hK
    gi_wp2_with fail
    refine ⟨by simp, .inl ⟨_, _, rfl, run_takeDeferred hK, ?_⟩⟩
    exact ⟨_, results_tmp rfl _ _ _, rfl, hb5.out.trans (below_putObj _ _ (by omega))⟩
  case stop =>
    rintro D c pre W5 hD hpre hF hK
    exact hF.elim
theorem slice_box {w : World} {B : Nat} {u : Value} (h : w.heap[B]? = some (.cells #[u] 28)) : w.cell? ⟨B, 0, none⟩ = some u ∧ w.frozen? ⟨B, 0, none⟩ = false := by
  unfold World.cell? World.frozen?
  rw [h]
  exact ⟨rfl, rfl⟩
theorem set_heap {w : World} {B : Nat} {u u' : Value} {t : TypeId} (h : w.heap[B]? = some (.cells #[u] t)) : (w.setCell ⟨B, 0, none⟩ u').heap[B]? = some (.cells #[u'] t) := by
  obtain ⟨hlt, hk⟩ := Array.getElem?_eq_some_iff.1 h
  show (w.heap.modify B _)[B]? = _
  rw [Array.getElem?_eq_getElem (by rw [Array.size_modify]; exact hlt), Array.getElem_modify_self, hk]
  rfl
/-- what is read lies elsewhere than in a slice's box. -/
theorem Rd.store {x : List Int} {v : Value} {w : World} (h : Rd x v w) {B n c : Nat} {a : Option Addr} (hb : w.heap[B]? = some (.cells #[.slice a n c] 28)) (u : Value) : Rd x v (w.setCell ⟨B, 0, none⟩ u) := by
  obtain ⟨xa, xc, e, h1, h2, h3⟩ := h
  refine ⟨xa, xc, e, h1, h2, fun j hj => ?_⟩
  obtain ⟨b, off, ea, hlt, hc⟩ := h3 j hj
  have hne : b ≠ B := by
    rintro rfl
    unfold World.cell? at hc
    rw [hb] at hc
    cases hoj : off + j with
    | zero => rw [hoj] at hc; cases hc
    | succ m => rw [hoj] at hc; simp at hc
  exact ⟨b, off, ea, by simp only [World.setCell, Array.size_modify]; exact hlt, (World.cell?_of_block (RowKit.Below.heap_setCell w ⟨B, 0, none⟩ u b hne)).trans hc⟩
set_option maxRecDepth 100000 in
set_option maxHeartbeats 4000000 in
theorem first_any {g : Nat} {lb : Array Value} {xs : List (List Int)} {N0 : Nat} {Ok : World → Prop} (hseq : SeqV Try.prog g lb Rd xs N0 Ok) (eg : ∀ args w, (callFunc g args).run Try.prog w = .ok (.enter g args) w) (w : World) (hN : N0 ≤ w.heap.size)
    (hOk : ∀ W, RowKit.Below w.heap.size w W → Ok W) :
    Calls Try.prog 72 #[.func (.func g) #[] lb] w fun e w' => ∃ v, e = .returned v ∧ Rd (lth xs 0) v w' ∧ Fut w w' := by
  refine (callsIn_wide (n := 3)).1 ?_
  refine callsIn_of_wp_marks Try.func72 rfl trivial ?_ rfl
  simp only [Try.ntmps72, List.size_toArray, List.length_cons, List.length_nil, Nat.reduceAdd, Nat.reduceSub, Array.replicate_succ, Array.replicate_zero, List.push_toArray, List.append_toArray, List.nil_append, List.cons_append]
  gi_wp2_with fail
  have hh0 : (w.alloc (.cells #[.slice none 0 0] 28)).heap[w.heap.size]? = some (.cells #[.slice none 0 0] 28) := World.alloc_heap_new w _
  have hb0 : RowKit.Below w.heap.size w (w.alloc (.cells #[.slice none 0 0] 28)) := (RowKit.Below.refl _ w).alloc (Nat.le_refl _) _
  have hs0 : (w.alloc (.cells #[.slice none 0 0] 28)).heap.size = w.heap.size + 1 := by simp
  generalize w.alloc (.cells #[.slice none 0 0] 28) = W0 at *
  refine range_v (xs := xs) (V := Rd) (N0 := N0) (Ok := Ok) (gf := g) (lb := lb) rfl eg
    (fun x v w w' h k => h.calm k) hseq (by omega) (fun W2 hb2 => hOk _ (hb0.trans (hb2.mono (by omega)))) rfl (fun k => k = w.heap.size) (fun k hk => by subst hk; exact ⟨hN, by omega⟩)
    (fun pre W1 => pre = [] ∧ W1.heap[w.heap.size]? = some (.cells #[.slice none 0 0] 28) ∧ Hid (RowKit.Below w.heap.size w W1))
    (fun c pre W1 => c = .ret ∧ ∃ x v, pre = [x] ∧ W1.cell? ⟨w.heap.size, 0, none⟩ = some v ∧ Rd x v W1 ∧ Hid (RowKit.Below w.heap.size w W1))
    (fun s A B hs hb => ⟨hs.1, (hb.block _ (by omega)).trans hs.2.1, Lib.hid (hs.2.2.out.trans (hb.mono (by omega)))⟩)
    (fun c s A B hs hb => by
      obtain ⟨h1, x, v, h2, h3, h4, h5⟩ := hs
      exact ⟨h1, x, v, h2, hb.cell h3, h4.calm (hb.mono (Nat.zero_le _)), Lib.hid (h5.out.trans ((hb.mono (by omega)).low_below h5.out.size))⟩)
    ⟨rfl, hh0, Lib.hid hb0⟩
    (fun v => { tmps := #[.func (.func g) #[] lb, undef, .pointer (some ⟨w.heap.size, 0, none⟩), v, .func (.func g) #[] lb, v, undef], defers := [] })
    ?assign ?body ?done ?stop
  case assign =>
    intro m l' v W1 K hK
    gi_wp2
    exact hK
  case body =>
    rintro m l' pre x v W1 hs1 ⟨rfl, hh1, hb1⟩ hR hpre
    obtain ⟨hc1, hf1⟩ := slice_box hh1
    have HR := Lib.hid hR
    obtain ⟨xa, xc, rfl, _⟩ := hR
    gi_wp2_with fail
    have h5 := (slice_box (set_heap (u' := .slice xa x.length xc) hh1)).1
    exact ⟨But.setCell (Z := fun k => k = w.heap.size) (p := ⟨w.heap.size, 0, none⟩) (But.refl _ W1) (.inl rfl) _, rfl, x, _, rfl, h5, HR.out.store hh1 _, Lib.hid (hb1.out.setCell (p := ⟨w.heap.size, 0, none⟩) (Nat.le_refl _) _)⟩
  case done =>
    rintro D W5 hD ⟨rfl, hh5, hb5⟩ hK
    obtain ⟨hc5, hf5⟩ := slice_box hh5
    gi_wp2_with fail
    have hK' := (KeepsOthers.setCell W5 ⟨w.heap.size, 0, none⟩ (.slice none 0 0)).same D _ hK rfl
    refine ⟨by simp, .inl ⟨_, _, rfl, run_takeDeferred hK', ?_⟩⟩
    have hc6 := (Calm.putObj (B := w.heap.size) (.deferred none) (by omega) hK' rfl).cell (slice_box (set_heap (u' := .slice none 0 0) hh5)).1
    refine ⟨.slice none 0 0, ?_, _, rfl, ⟨none, 0, rfl, Nat.le_refl _, by decide, fun j hj => absurd hj (by simp [lth])⟩, (hb5.out.setCell (p := ⟨w.heap.size, 0, none⟩) (Nat.le_refl _) _).trans (below_putObj _ _ (by omega))⟩
    simp [results, Try.f72, go_sem, hc6]
  case stop =>
    rintro D c pre W5 hD hpre ⟨rfl, x, v, rfl, hc5, hR5, hb5⟩ hK
    gi_wp2_with fail
    refine ⟨by simp, .inl ⟨_, _, rfl, run_takeDeferred hK, ?_⟩⟩
    have hca : Calm w.heap.size W5 (W5.putObj D (.deferred none)) := Calm.putObj (B := w.heap.size) (.deferred none) (by omega) hK rfl
    have hc6 := hca.cell hc5
    have hx : lth xs 0 = x := by
      obtain ⟨t, rfl⟩ := hpre
      rfl
    refine ⟨v, ?_, _, rfl, by rw [hx]; exact hR5.calm (hca.mono (Nat.zero_le _)), hb5.out.trans (below_putObj _ _ (by omega))⟩
    simp [results, Try.f72, go_sem, hc6]
end Go.Proofs.Ytpgifeaejjjjnaa
