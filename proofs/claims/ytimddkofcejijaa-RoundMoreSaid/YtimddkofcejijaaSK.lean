/- Layer 2: slices.Clone at streets. -/
import Derived.Test.YtimddkofcejijaaSJ
namespace Go.Proofs.Ytimddkofcejijaa
open Go.RowKit Go.Sort
theorem flatP_len : ∀ l : List (Int × Int), (flatP l).length = l.length * 2
  | [] => rfl
  | p :: l => by show (flatP l).length + 1 + 1 = _; rw [flatP_len l, List.length_cons]; omega
theorem flatP_one : ∀ (l : List (Int × Int)), ∀ u ∈ flatP l, u.oneCell' = true
  | [], u, h => by cases h
  | p :: l, u, h => by
    rcases List.mem_cons.1 h with rfl | h
    · rfl
    rcases List.mem_cons.1 h with rfl | h
    · rfl
    exact flatP_one l u h
theorem flatP_cell {w : World} {b off : Nat} {ss : List (Int × Int)} (h : StrAt w (some ⟨b, off, none⟩) ss) : ∀ j u, (flatP ss)[j]? = some u → w.cell? ⟨b, off + j, none⟩ = some u := fun j u hj => by
  have hlt : j < (flatP ss).length := (List.getElem?_eq_some_iff.1 hj).1
  rw [flatP_len] at hlt
  obtain ⟨b', off', e, _, c1, c2⟩ := h (j / 2) (by omega)
  simp at e
  obtain ⟨rfl, rfl⟩ := e
  obtain ⟨g1, g2⟩ := flatP_get ss (j / 2) (by omega)
  rcases Nat.mod_two_eq_zero_or_one j with hm | hm
  · have e : j / 2 * 2 = j := by omega
    rw [e] at c1 g1
    rw [c1, ← hj, g1]
  · have e : j / 2 * 2 + 1 = j := by omega
    rw [e] at g2
    rw [Nat.add_assoc, e] at c2
    rw [c2, ← hj, g2]
set_option maxRecDepth 100000 in
set_option maxHeartbeats 1000000 in
/-- slices.Clone at streets. -/
theorem clone_any (l : Option Addr) (lc : Nat) (ss : List (Int × Int)) (w : World) (hS : StrAt w l ss) (hl : ss.length ≤ 1000) :
    Calls Try.prog 43 #[.slice l ss.length lc] w fun e w' => ∃ v, e = .returned v ∧ OwnP w' w.heap.size v ss ∧ Fut w w' := by
  have q22 : ∀ (w : World) (a : Option Addr) (n c n' c' : Nat), (binOp .eql 22 (.slice a n c) (.slice none n' c')).run Try.prog w = .ok (.bool a.isNone) w := fun w a n c n' c' => Lib.run_eql_slice_nil w _ _ a n c n' c' Try.underlying22
  cases hn : l with
  | none =>
    subst hn
    have h0 : ss = [] := by
      cases ss with
      | nil => rfl
      | cons p t => obtain ⟨b, off, e, _⟩ := hS 0 (by simp); cases e
    subst h0
    clear hS
    go_enter Try.func43, Try.ntmps43
    go_wp2
    go_ret
    exact ⟨_, rfl, World.ownsRow_nil _ _ _ _, Fut.rfl⟩
  | some ad =>
    subst hn
    obtain ⟨i0, hi0, hz0, hz1, hz2⟩ := info_parts info65
    have HN : Hid (∀ j u, (flatP ss)[j]? = some u → w.cell? (ad.add j) = some u) := Lib.hid (fun j u hj => by
      have hlt : j < (flatP ss).length := (List.getElem?_eq_some_iff.1 hj).1
      rw [flatP_len] at hlt
      obtain ⟨b, off, e, _⟩ := hS 0 (by omega)
      simp at e
      subst e
      rw [Addr.add_lit]
      exact flatP_cell hS j u hj)
    have hlx : (ss.length : Int) ≤ 1000 := by omega
    clear hS
    go_enter Try.func43, Try.ntmps43
    go_wp2_with (at_builtin; refine wpList_append_own _ rfl _ _ 22 rfl w.heap.size 65 i0 (.agg #[.int .i64 0, .int .i64 0]) 2 16 Try.underlying22 hi0 hz0 hz1 hz2 rfl (by decide) _ _ _ rfl (World.ownsRow_made w #[] 0 (Nat.le_refl _) (Nat.zero_le _) rfl) ad ss.length lc (flatP ss) rfl ?qc1 ?qc2 ?qc3 ?qc4 ?qc5 ?qc6 ?_)
    case qc1 => exact flatP_len ss
    case qc2 => intro j u hj; exact Lib.cell?_alloc_some _ (HN.out j u hj)
    case qc3 => exact flatP_one ss
    case qc4 => unfold maxLen; omega
    case qc5 => omega
    case qc6 => simp
    intro v' w1 hown hgrow _
    go_wp2
    go_ret
    refine ⟨v', rfl, ?_, ?_⟩
    · unfold OwnP; simpa using hown
    · exact ((RowKit.Below.refl _ w).alloc (Nat.le_refl _) _).grown hgrow (by simp) (by intro k hk; simp [Value.ownBlock] at hk; omega)
end Go.Proofs.Ytimddkofcejijaa
