/- LaneCounts answers true for every parish and all places, and leaves no old memory changed; there is no further condition. -/
import Derived.Test.YtflllkamdihfaaaRows
import Derived.WalkKit
import Derived.ProofKit
import Derived.OpenShut
import Derived.Carry
import Derived.Test.YtflllkamdihfaaaLDJ
import Derived.Test.YtflllkamdihfaaaSD
namespace Go.Proofs.Ytflllkamdihfaaa.laneCounts
open Go.ChangeShapes Go.WideShapes Go.ChangeAt Go.RowKit

theorem own : ownKnob Try.prog.godebug = none := by kernel_rfl

set_option maxRecDepth 100000 in
theorem lifted (os : Os) (started : os.Started) (H : Type) (enc : TypeId × Value → H) :
    ReturnsInHanded {} Try.checked os 4 .any (Rows.laneCountsSpec.pre6 enc Try.prog Try.f4 Rows.laneCountsRow.domain false) (Rows.laneCountsSpec.post enc Try.prog Try.f4 false true false false) := by
  refine returnsInHanded_of_change (C := Try.checked) own started (by kernel_rfl) Try.func4
    (ChangeSpec.witness6 (enc := enc) (C := Try.checked) false ⟨#[], #[.agg #[.int .i64 0, .int .i64 0, .slice none 0 0], .agg #[.slice none 0 0, .slice none 0 0]], []⟩ 8 (by kernel_rfl) (by kernel_rfl) (by kernel_rfl) (by kernel_rfl)) ?_
  intro W base args ds gs before hval0 hW hcnd _
  have hval : ∀ (j : Nat) t v, Try.f4.params[j]? = some t → args[j]? = some v → Value.okWide Try.prog W .any base t v := hval0
  have hW' := hW
  obtain ⟨p, q, hA0, hV, rfl, hfz, hnd⟩ := hW
  have hA : DataW.TrodAll enc Try.prog W 0 (fun _ => true) true Try.f4.params.toList args.toList ds p := hA0
  rw [Try.params4] at hA hval
  obtain ⟨v0, vs0, d0, ds0, p0, q0, hargs, rfl, rfl, h0, r0⟩ := trodAll_cons hA
  obtain ⟨v1, vs1, d1, ds1, p1, q1, rfl, rfl, rfl, h1, r1⟩ := trodAll_cons r0
  obtain ⟨rfl, rfl, rfl⟩ := trodAll_nil r1
  obtain rfl : args = #[v0, v1] := by cases args; simp_all
  obtain ⟨rfl, rfl⟩ := trodVars_none hV
  have hlt : ∀ x ∈ p0 ++ (p1), x.block < W.heap.size := fun x hx => by have := hW'.lt x (by simpa using hx); simpa using this
  obtain ⟨rr0, cc0, a0, cap0, S0, rfl, hl0, hm0, hI0⟩ := open_parish (hval 0 24 v0 rfl rfl) h0
  obtain ⟨ya1, yc1, Y1, ta1, tc1, T1, rfl, hl1, hm1, hY1, hT1⟩ := open_places (hval 1 26 v1 rfl rfl) h1
  clear hA0 hval0
  simp only [List.append_nil] at hW' hlt
  refine (law4_any rr0 cc0 a0 cap0 S0 ya1 yc1 Y1 ta1 tc1 T1 W hI0 hY1 hT1 hl1 hm1).mono fun e W' ⟨he, hg⟩ => ?_
  subst he
  have hTT0 := fun (sp : Nat → Bool) (hsp : ∀ x ∈ p0, sp x.block = true) => WideElems.Trod_stays (W' := W') (sp' := sp) (by kernel_rfl) (by kernel_rfl) (of_decide_eq_true (by kernel_rfl)) h0 (fun x hx => RowKit.Below.same hg (hlt x (by simp [hx]))) hsp
  have hTT1 := fun (sp : Nat → Bool) (hsp : ∀ x ∈ p1, sp x.block = true) => WideElems.Trod_stays (W' := W') (sp' := sp) (by kernel_rfl) (by kernel_rfl) (of_decide_eq_true (by kernel_rfl)) h1 (fun x hx => RowKit.Below.same hg (hlt x (by simp [hx]))) hsp
  exact ⟨_, rfl, post_fut (pv := []) hW' (fun _ _ _ => (trodAll_cons_mk (shut_bool Try.underlying4 _) trodAll_mk0)) (fun sp hsp => (trodAll_cons_mk (hTT0 sp (fun x hx => hsp x (by simp [hx]))) (trodAll_cons_mk (hTT1 sp (fun x hx => hsp x (by simp [hx]))) trodAll_mk0))) (fun _ _ => rfl) hg⟩

theorem over : Rows.laneCountsRow.holds Try.pinned (OpenSpec.ofChange Rows.laneCountsSpec) :=
  OpenClaim.holds_of_wide 4 Try.f4 rfl rfl rfl rfl rfl rfl rfl ⟨rfl, rfl, rfl, rfl, rfl⟩ rfl rfl rfl rfl rfl (by kernel_rfl) Try.func4 (by kernel_rfl)
    (of_decide_eq_true (by kernel_rfl)) (by unfold Func.isWrapper; first | (rw [if_pos (by decide +kernel)]; kernel_rfl) | (rw [if_neg (by decide +kernel)]; exact ⟨rfl, rfl⟩))
    (fun os started H enc _ => lifted os started H enc)

/-- the statement. -/
theorem proved : Rows.LaneCountsSaid :=
  over
end Go.Proofs.Ytflllkamdihfaaa.laneCounts
