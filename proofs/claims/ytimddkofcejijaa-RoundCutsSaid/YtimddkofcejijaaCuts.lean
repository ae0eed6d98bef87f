/- RoundCuts answers true for all maps (any number of corners, any streets), any list of numbers and any list of lists of numbers that can be read, and leaves no old memory changed: there is no further condition. -/
import Derived.Test.YtimddkofcejijaaRows
import Derived.WalkKit
import Derived.ProofKit
import Derived.OpenShut
import Derived.Carry
import Derived.Test.YtimddkofcejijaaCutsM
import Derived.Test.YtimddkofcejijaaSQ
import Derived.Test.YtimddkofcejijaaSD
namespace Go.Proofs.Ytimddkofcejijaa.roundCuts
open Go.ChangeShapes Go.WideShapes Go.ChangeAt Go.RowKit

theorem own : ownKnob Try.prog.godebug = none := by kernel_rfl

set_option maxRecDepth 100000 in
theorem lifted (os : Os) (started : os.Started) (H : Type) (enc : TypeId × Value → H) :
    ReturnsInHanded {} Try.checked os 6 .any (Rows.roundCutsSpec.pre6 enc Try.prog Try.f6 Rows.roundCutsRow.domain false) (Rows.roundCutsSpec.post enc Try.prog Try.f6 false true false false) := by
  refine returnsInHanded_of_change (C := Try.checked) own started (by kernel_rfl) Try.func6
    (ChangeSpec.witness6 (enc := enc) (C := Try.checked) false ⟨#[], #[.agg #[.int .i64 0, .slice none 0 0], .slice none 0 0, .slice none 0 0], []⟩ 8 (by kernel_rfl) (by kernel_rfl) (by kernel_rfl) (by kernel_rfl)) ?_
  intro W base args ds gs before hval0 hW hcnd _
  have hval : ∀ (j : Nat) t v, Try.f6.params[j]? = some t → args[j]? = some v → Value.okWide Try.prog W .any base t v := hval0
  have hW' := hW
  obtain ⟨p, q, hA0, hV, rfl, hfz, hnd⟩ := hW
  have hA : DataW.TrodAll enc Try.prog W 0 (fun _ => true) true Try.f6.params.toList args.toList ds p := hA0
  rw [Try.params6] at hA hval
  obtain ⟨v0, vs0, d0, ds0, p0, q0, hargs, rfl, rfl, h0, r0⟩ := trodAll_cons hA
  obtain ⟨v1, vs1, d1, ds1, p1, q1, rfl, rfl, rfl, h1, r1⟩ := trodAll_cons r0
  obtain ⟨v2, vs2, d2, ds2, p2, q2, rfl, rfl, rfl, h2, r2⟩ := trodAll_cons r1
  obtain ⟨rfl, rfl, rfl⟩ := trodAll_nil r2
  obtain rfl : args = #[v0, v1, v2] := by cases args; simp_all
  obtain ⟨rfl, rfl⟩ := trodVars_none hV
  have hlt : ∀ x ∈ p0 ++ (p1 ++ (p2)), x.block < W.heap.size := fun x hx => by have := hW'.lt x (by simpa using hx); simpa using this
  obtain ⟨c0, a0, cap0, ss0, rfl, hl0, hS0⟩ := open_map (hval 0 24 v0 rfl rfl) h0
  obtain ⟨a1, cap1, z1, rfl, hl1, hI1⟩ := open_sl (hval 1 25 v1 rfl rfl) h1
  obtain ⟨a2, cap2, z2, rfl, hl2, hk2, hI2⟩ := open_lls (hval 2 45 v2 rfl rfl) h2
  clear hA0 hval0
  simp only [List.append_nil] at hW' hlt
  refine (cutsLaw_any c0 a0 cap0 ss0 a1 cap1 z1 a2 cap2 z2 W hS0 hI1 hI2 hl0 hl1 hl2 hk2).mono fun e W' ⟨he, hg⟩ => ?_
  subst he
  have hT0 := fun (sp : Nat → Bool) (hsp : ∀ x ∈ p0, sp x.block = true) => WideElems.Trod_stays (W' := W') (sp' := sp) (by kernel_rfl) (by kernel_rfl) (of_decide_eq_true (by kernel_rfl)) h0 (fun x hx => RowKit.Below.same hg (hlt x (by simp [hx]))) hsp
  have hT1 := fun (sp : Nat → Bool) (hsp : ∀ x ∈ p1, sp x.block = true) => WideElems.Trod_stays (W' := W') (sp' := sp) (by kernel_rfl) (by kernel_rfl) (of_decide_eq_true (by kernel_rfl)) h1 (fun x hx => RowKit.Below.same hg (hlt x (by simp [hx]))) hsp
  have hT2 := fun (sp : Nat → Bool) (hsp : ∀ x ∈ p2, sp x.block = true) => WideElems.Trod_stays (W' := W') (sp' := sp) (by kernel_rfl) (by kernel_rfl) (of_decide_eq_true (by kernel_rfl)) h2 (fun x hx => RowKit.Below.same hg (hlt x (by simp [hx]))) hsp
  exact ⟨_, rfl, post_fut (pv := []) hW' (fun _ _ _ => (trodAll_cons_mk (shut_bool Try.underlying4 _) trodAll_mk0)) (fun sp hsp => (trodAll_cons_mk (hT0 sp (fun x hx => hsp x (by simp [hx]))) (trodAll_cons_mk (hT1 sp (fun x hx => hsp x (by simp [hx]))) (trodAll_cons_mk (hT2 sp (fun x hx => hsp x (by simp [hx]))) trodAll_mk0)))) (fun _ _ => rfl) hg⟩

theorem over : Rows.roundCutsRow.holds Try.pinned (OpenSpec.ofChange Rows.roundCutsSpec) :=
  OpenClaim.holds_of_wide 6 Try.f6 rfl rfl rfl rfl rfl rfl rfl ⟨rfl, rfl, rfl, rfl, rfl⟩ rfl rfl rfl rfl rfl (by kernel_rfl) Try.func6 (by kernel_rfl)
    (of_decide_eq_true (by kernel_rfl)) (by unfold Func.isWrapper; first | (rw [if_pos (by decide +kernel)]; kernel_rfl) | (rw [if_neg (by decide +kernel)]; exact ⟨rfl, rfl⟩))
    (fun os started H enc _ => lifted os started H enc)

/-- the statement. -/
theorem proved : Rows.RoundCutsSaid :=
  over
end Go.Proofs.Ytimddkofcejijaa.roundCuts
