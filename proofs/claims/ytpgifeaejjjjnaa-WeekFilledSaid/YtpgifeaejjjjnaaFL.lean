/- slices.Clone at lists (48): clone_lists -/
import Derived.Test.YtpgifeaejjjjnaaCO
namespace Go.Proofs.Ytpgifeaejjjjnaa
open Go.RowKit Go.Sort
theorem OwnL.x {w : World} {B : Nat} {v : Value} {zss : List (List Int)} (h : OwnL w B v zss) : OwnX w B v zss := by
  obtain ⟨vals, h1, h2, h3⟩ := h
  refine ⟨vals, h1, h2, fun j hj => ?_⟩
  obtain ⟨u, e, hu⟩ := h3 j hj
  exact ⟨u, e, hu.base (Nat.zero_le _)⟩
set_option maxRecDepth 100000 in
set_option maxHeartbeats 1000000 in
/-- slices.Clone at lists of one's own: the row is copied, the lists are not. -/
theorem clone_lists {B : Nat} (v : Value) (zss : List (List Int)) (w : World) (hX : OwnX w B v zss) (hl : zss.length ≤ 1000) :
    Calls Try.prog 48 #[v] w fun e w' => ∃ v', e = .returned v' ∧ OwnX w' w.heap.size v' zss ∧ Fut w w' := by
  have q22 : ∀ (w : World) (a : Option Addr) (n c n' c' : Nat), (binOp .eql 22 (.slice a n c) (.slice none n' c')).run Try.prog w = .ok (.bool a.isNone) w := fun w a n c n' c' => Lib.run_eql_slice_nil w _ _ a n c n' c' Try.underlying22
  obtain ⟨vals, h1, h2⟩ := hX
  have h1' := h1
  rcases h1.2 with ⟨rfl, h0⟩ | ⟨g, cap, cur, rfl, _⟩
  · obtain rfl : zss = [] := List.eq_nil_of_length_eq_zero h0
    clear h1 h1' h2
    go_enter Try.func48, Try.ntmps48
    go_wp2
    go_ret
    exact ⟨_, rfl, OwnX.nil _ _, Fut.rfl⟩
  · obtain ⟨i1, hi1, hy0, hy1, hy2⟩ := info_parts info28
    have HN : Hid (∀ j u, vals[j]? = some u → w.cell? ((⟨g, 0, none⟩ : Addr).add j) = some u) := Lib.hid (World.ownsRow.cells h1' (g := g) rfl)
    have HE := Lib.hid h2
    have HVL := Lib.hid h2.1
    have hlx : (zss.length : Int) ≤ 1000 := by omega
    clear h1 h1' h2
    go_enter Try.func48, Try.ntmps48
    go_wp2_with (at_builtin; refine wpList_append_own _ rfl _ _ 22 rfl w.heap.size 28 i1 (.slice none 0 0) 1 24 Try.underlying22 hi1 hy0 hy1 hy2 rfl (by decide) _ _ _ rfl (World.ownsRow_made w #[] 0 (Nat.le_refl _) (Nat.zero_le _) rfl) ⟨g, 0, none⟩ zss.length cap vals rfl ?qc1 ?qc2 ?qc3 ?qc4 ?qc5 ?qc6 ?_)
    case qc1 => rw [HVL.out]; simp
    case qc2 => intro j u hj; exact Lib.cell?_alloc_some _ (HN.out j u hj)
    case qc3 => exact HE.out.cells
    case qc4 => unfold maxLen; omega
    case qc5 => omega
    case qc6 => simp
    intro v' w1 hown hgrow _
    go_wp2
    go_ret
    have F : Fut w w1 := ((RowKit.Below.refl _ w).alloc (Nat.le_refl _) _).grown hgrow (by simp) (by intro k hk; simp [Value.ownBlock] at hk; omega)
    exact ⟨v', rfl, ⟨vals, by simpa using hown, HE.out.fut F⟩, F⟩
end Go.Proofs.Ytpgifeaejjjjnaa
