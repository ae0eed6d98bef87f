/-
  No cell of these rows narrows 'for every input' (looked for: loops, veiled, ifaces, maps, wideKeys, modest, calm, conditions, laid).
  DERIVED. THE GIVEN ROWS OF THIS SEAT. 10 by the template 'for every input the law returns true; each argument reads behind the call as it read before'; 0 by the template 'total and deterministic' (their statements: YtimddkofcejijaaTotals.lean).
  GIVEN WITH THE SEED: the statements are not yours to turn. If you find one false, say at which input.
  Laid BY PROGRAM, IN A SANDBOX (cutbox-rows.mjs): the forced cells as the released guide's own fill.sh prints them over the translation e732cda212293e84… (all of the seat's roots in one cut). By AI agents, Wed Nov 11 2026. No macro, syntax, notation, axiom, sorry.
-/
import Derived.Test.YtimddkofcejijaaChecked
import GoSem.Claim
import GoSem.ClaimJoined
import GoSem.ClaimMapViews
import Derived.JoinedTies
import Derived.KernelRfl
namespace Go.Proofs.Ytimddkofcejijaa
/- THE CELL 'sum', in the pinned program and in every row, IS THE sha256 OF THE DUMP (.gsa) THAT YtimddkofcejijaaProg.lean LOADS. Nothing in Lean hashes anything: it is a label: what it is worth is what the hold of that sum in a sandbox is worth. -/
noncomputable def Try.pinned : Pinned := { name := "ytimddkofcejijaa", sum := "e732cda212293e841b5aa9e6ed873adad99e98fc6f9f9fa99332230cd02dc590", checked := Try.checked }
namespace Rows
def none {H : Type} : Left H := { results := [], args := [] }

/-- 'breezelaw02.RoundChecks': WHATEVER THE INPUT: true; the input reads as it did. -/
def roundChecksSpec : ChangeSpec := { name := "roundChecks", fn := fun _ => fun
  | [d1, d2] => { results := [.lit (.bool true)], args := [d1, d2] }
  | _ => none }
def roundChecksRow : OpenClaim := { program := "ytimddkofcejijaa", sum := "e732cda212293e841b5aa9e6ed873adad99e98fc6f9f9fa99332230cd02dc590", func := "breeze/breezelaw02.RoundChecks", spec := "roundChecks", unfollowed := true, recurses := true, apart := false }
def RoundChecksSaid : Prop := roundChecksRow.holds Try.pinned (OpenSpec.ofChange roundChecksSpec)

/-- ITS FALSE NEIGHBOUR: 'it returns false'. Refute it at one input. -/
def roundChecksWrong : ChangeSpec := { name := "roundChecks", fn := fun _ => fun
  | [d1, d2] => { results := [.lit (.bool false)], args := [d1, d2] }
  | _ => none }
def RoundChecksWrongFalsely : Prop := roundChecksRow.holds Try.pinned (OpenSpec.ofChange roundChecksWrong)

/-- 'breezelaw02.RoundFewest': WHATEVER THE INPUT: true; the input reads as it did. -/
def roundFewestSpec : ChangeSpec := { name := "roundFewest", fn := fun _ => fun
  | [d] => { results := [.lit (.bool true)], args := [d] }
  | _ => none }
def roundFewestRow : OpenClaim := { program := "ytimddkofcejijaa", sum := "e732cda212293e841b5aa9e6ed873adad99e98fc6f9f9fa99332230cd02dc590", func := "breeze/breezelaw02.RoundFewest", spec := "roundFewest", unfollowed := true, recurses := true, apart := false }
def RoundFewestSaid : Prop := roundFewestRow.holds Try.pinned (OpenSpec.ofChange roundFewestSpec)

/-- ITS FALSE NEIGHBOUR: 'it returns false'. Refute it at one input. -/
def roundFewestWrong : ChangeSpec := { name := "roundFewest", fn := fun _ => fun
  | [d] => { results := [.lit (.bool false)], args := [d] }
  | _ => none }
def RoundFewestWrongFalsely : Prop := roundFewestRow.holds Try.pinned (OpenSpec.ofChange roundFewestWrong)

/-- 'breezelaw02.RoundRounds': WHATEVER THE INPUT: true; the input reads as it did. -/
def roundRoundsSpec : ChangeSpec := { name := "roundRounds", fn := fun _ => fun
  | [d1, d2, d3] => { results := [.lit (.bool true)], args := [d1, d2, d3] }
  | _ => none }
def roundRoundsRow : OpenClaim := { program := "ytimddkofcejijaa", sum := "e732cda212293e841b5aa9e6ed873adad99e98fc6f9f9fa99332230cd02dc590", func := "breeze/breezelaw02.RoundRounds", spec := "roundRounds", unfollowed := true, recurses := true, apart := false }
def RoundRoundsSaid : Prop := roundRoundsRow.holds Try.pinned (OpenSpec.ofChange roundRoundsSpec)

/-- ITS FALSE NEIGHBOUR: 'it returns false'. Refute it at one input. -/
def roundRoundsWrong : ChangeSpec := { name := "roundRounds", fn := fun _ => fun
  | [d1, d2, d3] => { results := [.lit (.bool false)], args := [d1, d2, d3] }
  | _ => none }
def RoundRoundsWrongFalsely : Prop := roundRoundsRow.holds Try.pinned (OpenSpec.ofChange roundRoundsWrong)

/-- 'breezelaw02.RoundCuts': WHATEVER THE INPUT: true; the input reads as it did. -/
def roundCutsSpec : ChangeSpec := { name := "roundCuts", fn := fun _ => fun
  | [d1, d2, d3] => { results := [.lit (.bool true)], args := [d1, d2, d3] }
  | _ => none }
def roundCutsRow : OpenClaim := { program := "ytimddkofcejijaa", sum := "e732cda212293e841b5aa9e6ed873adad99e98fc6f9f9fa99332230cd02dc590", func := "breeze/breezelaw02.RoundCuts", spec := "roundCuts", unfollowed := true, recurses := true, apart := false }
def RoundCutsSaid : Prop := roundCutsRow.holds Try.pinned (OpenSpec.ofChange roundCutsSpec)

/-- ITS FALSE NEIGHBOUR: 'it returns false'. Refute it at one input. -/
def roundCutsWrong : ChangeSpec := { name := "roundCuts", fn := fun _ => fun
  | [d1, d2, d3] => { results := [.lit (.bool false)], args := [d1, d2, d3] }
  | _ => none }
def RoundCutsWrongFalsely : Prop := roundCutsRow.holds Try.pinned (OpenSpec.ofChange roundCutsWrong)

/-- 'breezelaw02.RoundCounted': WHATEVER THE INPUT: true; the input reads as it did. -/
def roundCountedSpec : ChangeSpec := { name := "roundCounted", fn := fun _ => fun
  | [d] => { results := [.lit (.bool true)], args := [d] }
  | _ => none }
def roundCountedRow : OpenClaim := { program := "ytimddkofcejijaa", sum := "e732cda212293e841b5aa9e6ed873adad99e98fc6f9f9fa99332230cd02dc590", func := "breeze/breezelaw02.RoundCounted", spec := "roundCounted", unfollowed := true, recurses := true, apart := false }
def RoundCountedSaid : Prop := roundCountedRow.holds Try.pinned (OpenSpec.ofChange roundCountedSpec)

/-- ITS FALSE NEIGHBOUR: 'it returns false'. Refute it at one input. -/
def roundCountedWrong : ChangeSpec := { name := "roundCounted", fn := fun _ => fun
  | [d] => { results := [.lit (.bool false)], args := [d] }
  | _ => none }
def RoundCountedWrongFalsely : Prop := roundCountedRow.holds Try.pinned (OpenSpec.ofChange roundCountedWrong)

/-- 'breezelaw02.RoundNamed': WHATEVER THE INPUT: true; the input reads as it did. -/
def roundNamedSpec : ChangeSpec := { name := "roundNamed", fn := fun _ => fun
  | [d1, d2, d3] => { results := [.lit (.bool true)], args := [d1, d2, d3] }
  | _ => none }
def roundNamedRow : OpenClaim := { program := "ytimddkofcejijaa", sum := "e732cda212293e841b5aa9e6ed873adad99e98fc6f9f9fa99332230cd02dc590", func := "breeze/breezelaw02.RoundNamed", spec := "roundNamed", unfollowed := true, recurses := true, apart := false }
def RoundNamedSaid : Prop := roundNamedRow.holds Try.pinned (OpenSpec.ofChange roundNamedSpec)

/-- ITS FALSE NEIGHBOUR: 'it returns false'. Refute it at one input. -/
def roundNamedWrong : ChangeSpec := { name := "roundNamed", fn := fun _ => fun
  | [d1, d2, d3] => { results := [.lit (.bool false)], args := [d1, d2, d3] }
  | _ => none }
def RoundNamedWrongFalsely : Prop := roundNamedRow.holds Try.pinned (OpenSpec.ofChange roundNamedWrong)

/-- 'breezelaw02.RoundMore': WHATEVER THE INPUT: true; the input reads as it did. -/
def roundMoreSpec : ChangeSpec := { name := "roundMore", fn := fun _ => fun
  | [d1, d2, d3] => { results := [.lit (.bool true)], args := [d1, d2, d3] }
  | _ => none }
def roundMoreRow : OpenClaim := { program := "ytimddkofcejijaa", sum := "e732cda212293e841b5aa9e6ed873adad99e98fc6f9f9fa99332230cd02dc590", func := "breeze/breezelaw02.RoundMore", spec := "roundMore", unfollowed := true, recurses := true, apart := false }
def RoundMoreSaid : Prop := roundMoreRow.holds Try.pinned (OpenSpec.ofChange roundMoreSpec)

/-- ITS FALSE NEIGHBOUR: 'it returns false'. Refute it at one input. -/
def roundMoreWrong : ChangeSpec := { name := "roundMore", fn := fun _ => fun
  | [d1, d2, d3] => { results := [.lit (.bool false)], args := [d1, d2, d3] }
  | _ => none }
def RoundMoreWrongFalsely : Prop := roundMoreRow.holds Try.pinned (OpenSpec.ofChange roundMoreWrong)

/-- 'breezelaw02.RoundKnown': WHATEVER THE INPUT: true; the input reads as it did. -/
def roundKnownSpec : ChangeSpec := { name := "roundKnown", fn := fun _ => fun
  | [] => { results := [.lit (.bool true)], args := [] }
  | _ => none }
def roundKnownRow : OpenClaim := { program := "ytimddkofcejijaa", sum := "e732cda212293e841b5aa9e6ed873adad99e98fc6f9f9fa99332230cd02dc590", func := "breeze/breezelaw02.RoundKnown", spec := "roundKnown", unfollowed := true, recurses := true, apart := false }
def RoundKnownSaid : Prop := roundKnownRow.holds Try.pinned (OpenSpec.ofChange roundKnownSpec)

/-- ITS FALSE NEIGHBOUR: 'it returns false'. Refute it at one input. -/
def roundKnownWrong : ChangeSpec := { name := "roundKnown", fn := fun _ => fun
  | [] => { results := [.lit (.bool false)], args := [] }
  | _ => none }
def RoundKnownWrongFalsely : Prop := roundKnownRow.holds Try.pinned (OpenSpec.ofChange roundKnownWrong)

/-- 'breezetop.TopTolls': WHATEVER THE INPUT: true; the input reads as it did. -/
def topTollsSpec : ChangeSpec := { name := "topTolls", fn := fun _ => fun
  | [d1, d2, d3, d4] => { results := [.lit (.bool true)], args := [d1, d2, d3, d4] }
  | _ => none }
def topTollsRow : OpenClaim := { program := "ytimddkofcejijaa", sum := "e732cda212293e841b5aa9e6ed873adad99e98fc6f9f9fa99332230cd02dc590", func := "breeze/breezetop.TopTolls", spec := "topTolls", unfollowed := true, recurses := true, apart := false }
def TopTollsSaid : Prop := topTollsRow.holds Try.pinned (OpenSpec.ofChange topTollsSpec)

/-- ITS FALSE NEIGHBOUR: 'it returns false'. Refute it at one input. -/
def topTollsWrong : ChangeSpec := { name := "topTolls", fn := fun _ => fun
  | [d1, d2, d3, d4] => { results := [.lit (.bool false)], args := [d1, d2, d3, d4] }
  | _ => none }
def TopTollsWrongFalsely : Prop := topTollsRow.holds Try.pinned (OpenSpec.ofChange topTollsWrong)

/-- 'breezetop.TopPassed': WHATEVER THE INPUT: true; the input reads as it did. -/
def topPassedSpec : ChangeSpec := { name := "topPassed", fn := fun _ => fun
  | [d1, d2, d3, d4] => { results := [.lit (.bool true)], args := [d1, d2, d3, d4] }
  | _ => none }
def topPassedRow : OpenClaim := { program := "ytimddkofcejijaa", sum := "e732cda212293e841b5aa9e6ed873adad99e98fc6f9f9fa99332230cd02dc590", func := "breeze/breezetop.TopPassed", spec := "topPassed", unfollowed := true, recurses := true, apart := false }
def TopPassedSaid : Prop := topPassedRow.holds Try.pinned (OpenSpec.ofChange topPassedSpec)

/-- ITS FALSE NEIGHBOUR: 'it returns false'. Refute it at one input. -/
def topPassedWrong : ChangeSpec := { name := "topPassed", fn := fun _ => fun
  | [d1, d2, d3, d4] => { results := [.lit (.bool false)], args := [d1, d2, d3, d4] }
  | _ => none }
def TopPassedWrongFalsely : Prop := topPassedRow.holds Try.pinned (OpenSpec.ofChange topPassedWrong)

/- THE SECOND FORM. 'bulk': how many values and letters a reading holds, each counted each time it is reached (what is shared counts as often as it is met; a slice's spare places count too). A statement '..UptoSaid' is the law's where the arguments, and the package variables that the reading takes, are together of bulk at most 1048576: NARROWER than '..Said'. Prove '..Said' where nothing that the law and all that it calls make is longer than what came in: it says more and counts as full. Else prove '..UptoSaid'. A law counts once. -/
mutual
def uptoBulk {H : Type} : DataW H → Nat
  | .lit (.string bytes) => bytes.length + 1
  | .lit _ => 1
  | .nil => 1
  | .ptr d => uptoBulk d + 1
  | .slice elems spare => uptoBulkAll elems + uptoBulkAll spare + 1
  | .agg parts => uptoBulkAll parts + 1
  | .iface _ d => uptoBulk d + 1
  | .map entries => uptoBulkEntries entries + 1
  | .held _ => 1
def uptoBulkAll {H : Type} : List (DataW H) → Nat
  | [] => 0
  | d :: r => uptoBulk d + uptoBulkAll r
def uptoBulkEntries {H : Type} : List (Lit × DataW H) → Nat
  | [] => 0
  | x :: r => uptoBulkEntry x + uptoBulkEntries r
def uptoBulkEntry {H : Type} : Lit × DataW H → Nat
  | (.string bytes, d) => bytes.length + uptoBulk d + 1
  | (_, d) => uptoBulk d + 1
 end
def uptoSmall : (H : Type) → List (DataW H) → Bool := fun _ ds => decide (uptoBulkAll ds ≤ 1048576)
def OpenSpec.upto (s : _root_.Go.ChangeSpec) : _root_.Go.OpenSpec := { _root_.Go.OpenSpec.ofChange s with cond := some uptoSmall }

/-- 'breezelaw02.RoundChecks', WHERE WHAT IT READS IS OF BULK AT MOST 1048576: true; the input reads as it did. -/
def roundChecksUptoRow : OpenClaim := { program := "ytimddkofcejijaa", sum := "e732cda212293e841b5aa9e6ed873adad99e98fc6f9f9fa99332230cd02dc590", func := "breeze/breezelaw02.RoundChecks", spec := "roundChecks", unfollowed := true, recurses := true, apart := false, narrowed := true }
def RoundChecksUptoSaid : Prop := roundChecksUptoRow.holds Try.pinned (OpenSpec.upto roundChecksSpec)

/-- 'breezelaw02.RoundFewest', WHERE WHAT IT READS IS OF BULK AT MOST 1048576: true; the input reads as it did. -/
def roundFewestUptoRow : OpenClaim := { program := "ytimddkofcejijaa", sum := "e732cda212293e841b5aa9e6ed873adad99e98fc6f9f9fa99332230cd02dc590", func := "breeze/breezelaw02.RoundFewest", spec := "roundFewest", unfollowed := true, recurses := true, apart := false, narrowed := true }
def RoundFewestUptoSaid : Prop := roundFewestUptoRow.holds Try.pinned (OpenSpec.upto roundFewestSpec)

/-- 'breezelaw02.RoundRounds', WHERE WHAT IT READS IS OF BULK AT MOST 1048576: true; the input reads as it did. -/
def roundRoundsUptoRow : OpenClaim := { program := "ytimddkofcejijaa", sum := "e732cda212293e841b5aa9e6ed873adad99e98fc6f9f9fa99332230cd02dc590", func := "breeze/breezelaw02.RoundRounds", spec := "roundRounds", unfollowed := true, recurses := true, apart := false, narrowed := true }
def RoundRoundsUptoSaid : Prop := roundRoundsUptoRow.holds Try.pinned (OpenSpec.upto roundRoundsSpec)

/-- 'breezelaw02.RoundCuts', WHERE WHAT IT READS IS OF BULK AT MOST 1048576: true; the input reads as it did. -/
def roundCutsUptoRow : OpenClaim := { program := "ytimddkofcejijaa", sum := "e732cda212293e841b5aa9e6ed873adad99e98fc6f9f9fa99332230cd02dc590", func := "breeze/breezelaw02.RoundCuts", spec := "roundCuts", unfollowed := true, recurses := true, apart := false, narrowed := true }
def RoundCutsUptoSaid : Prop := roundCutsUptoRow.holds Try.pinned (OpenSpec.upto roundCutsSpec)

/-- 'breezelaw02.RoundCounted', WHERE WHAT IT READS IS OF BULK AT MOST 1048576: true; the input reads as it did. -/
def roundCountedUptoRow : OpenClaim := { program := "ytimddkofcejijaa", sum := "e732cda212293e841b5aa9e6ed873adad99e98fc6f9f9fa99332230cd02dc590", func := "breeze/breezelaw02.RoundCounted", spec := "roundCounted", unfollowed := true, recurses := true, apart := false, narrowed := true }
def RoundCountedUptoSaid : Prop := roundCountedUptoRow.holds Try.pinned (OpenSpec.upto roundCountedSpec)

/-- 'breezelaw02.RoundNamed', WHERE WHAT IT READS IS OF BULK AT MOST 1048576: true; the input reads as it did. -/
def roundNamedUptoRow : OpenClaim := { program := "ytimddkofcejijaa", sum := "e732cda212293e841b5aa9e6ed873adad99e98fc6f9f9fa99332230cd02dc590", func := "breeze/breezelaw02.RoundNamed", spec := "roundNamed", unfollowed := true, recurses := true, apart := false, narrowed := true }
def RoundNamedUptoSaid : Prop := roundNamedUptoRow.holds Try.pinned (OpenSpec.upto roundNamedSpec)

/-- 'breezelaw02.RoundMore', WHERE WHAT IT READS IS OF BULK AT MOST 1048576: true; the input reads as it did. -/
def roundMoreUptoRow : OpenClaim := { program := "ytimddkofcejijaa", sum := "e732cda212293e841b5aa9e6ed873adad99e98fc6f9f9fa99332230cd02dc590", func := "breeze/breezelaw02.RoundMore", spec := "roundMore", unfollowed := true, recurses := true, apart := false, narrowed := true }
def RoundMoreUptoSaid : Prop := roundMoreUptoRow.holds Try.pinned (OpenSpec.upto roundMoreSpec)

/-- 'breezelaw02.RoundKnown', WHERE WHAT IT READS IS OF BULK AT MOST 1048576: true; the input reads as it did. -/
def roundKnownUptoRow : OpenClaim := { program := "ytimddkofcejijaa", sum := "e732cda212293e841b5aa9e6ed873adad99e98fc6f9f9fa99332230cd02dc590", func := "breeze/breezelaw02.RoundKnown", spec := "roundKnown", unfollowed := true, recurses := true, apart := false, narrowed := true }
def RoundKnownUptoSaid : Prop := roundKnownUptoRow.holds Try.pinned (OpenSpec.upto roundKnownSpec)

/-- 'breezetop.TopTolls', WHERE WHAT IT READS IS OF BULK AT MOST 1048576: true; the input reads as it did. -/
def topTollsUptoRow : OpenClaim := { program := "ytimddkofcejijaa", sum := "e732cda212293e841b5aa9e6ed873adad99e98fc6f9f9fa99332230cd02dc590", func := "breeze/breezetop.TopTolls", spec := "topTolls", unfollowed := true, recurses := true, apart := false, narrowed := true }
def TopTollsUptoSaid : Prop := topTollsUptoRow.holds Try.pinned (OpenSpec.upto topTollsSpec)

/-- 'breezetop.TopPassed', WHERE WHAT IT READS IS OF BULK AT MOST 1048576: true; the input reads as it did. -/
def topPassedUptoRow : OpenClaim := { program := "ytimddkofcejijaa", sum := "e732cda212293e841b5aa9e6ed873adad99e98fc6f9f9fa99332230cd02dc590", func := "breeze/breezetop.TopPassed", spec := "topPassed", unfollowed := true, recurses := true, apart := false, narrowed := true }
def TopPassedUptoSaid : Prop := topPassedUptoRow.holds Try.pinned (OpenSpec.upto topPassedSpec)

end Rows
end Go.Proofs.Ytimddkofcejijaa
