/-
  No cell of these rows narrows 'for every input' (looked for: loops, veiled, ifaces, maps, wideKeys, modest, calm, conditions, laid).
  DERIVED. THE GIVEN ROWS OF THIS SEAT. 13 by the template 'for every input the law returns true; each argument reads behind the call as it read before'; 0 by the template 'total and deterministic' (their statements: YtpgifeaejjjjnaaTotals.lean).
  GIVEN WITH THE SEED: the statements are not yours to turn. If you find one false, say at which input.
  Laid BY PROGRAM, IN A SANDBOX (cutbox-rows.mjs): the forced cells as the released guide's own fill.sh prints them over the translation 0564cefdf854472f… (all of the seat's roots in one cut). By AI agents, Wed Nov 11 2026. No macro, syntax, notation, axiom, sorry.
-/
import Derived.Test.YtpgifeaejjjjnaaChecked
import GoSem.Claim
import GoSem.ClaimJoined
import GoSem.ClaimMapViews
import Derived.JoinedTies
import Derived.KernelRfl
namespace Go.Proofs.Ytpgifeaejjjjnaa
/- THE CELL 'sum', in the pinned program and in every row, IS THE sha256 OF THE DUMP (.gsa) THAT YtpgifeaejjjjnaaProg.lean LOADS. Nothing in Lean hashes anything: it is a label: what it is worth is what the hold of that sum in a sandbox is worth. -/
noncomputable def Try.pinned : Pinned := { name := "ytpgifeaejjjjnaa", sum := "0564cefdf854472f044d7e5831bff0bd929d1354776ccec54795153cdd0c3fe9", checked := Try.checked }
namespace Rows
def none {H : Type} : Left H := { results := [], args := [] }

/-- 'breezelaw03.WeekRows': WHATEVER THE INPUT: true; the input reads as it did. -/
def weekRowsSpec : ChangeSpec := { name := "weekRows", fn := fun _ => fun
  | [d1, d2] => { results := [.lit (.bool true)], args := [d1, d2] }
  | _ => none }
def weekRowsRow : OpenClaim := { program := "ytpgifeaejjjjnaa", sum := "0564cefdf854472f044d7e5831bff0bd929d1354776ccec54795153cdd0c3fe9", func := "breeze/breezelaw03.WeekRows", spec := "weekRows", unfollowed := true, recurses := true, apart := false }
def WeekRowsSaid : Prop := weekRowsRow.holds Try.pinned (OpenSpec.ofChange weekRowsSpec)

/-- ITS FALSE NEIGHBOUR: 'it returns false'. Refute it at one input. -/
def weekRowsWrong : ChangeSpec := { name := "weekRows", fn := fun _ => fun
  | [d1, d2] => { results := [.lit (.bool false)], args := [d1, d2] }
  | _ => none }
def WeekRowsWrongFalsely : Prop := weekRowsRow.holds Try.pinned (OpenSpec.ofChange weekRowsWrong)

/-- 'breezelaw03.WeekFulls': WHATEVER THE INPUT: true; the input reads as it did. -/
def weekFullsSpec : ChangeSpec := { name := "weekFulls", fn := fun _ => fun
  | [d1, d2] => { results := [.lit (.bool true)], args := [d1, d2] }
  | _ => none }
def weekFullsRow : OpenClaim := { program := "ytpgifeaejjjjnaa", sum := "0564cefdf854472f044d7e5831bff0bd929d1354776ccec54795153cdd0c3fe9", func := "breeze/breezelaw03.WeekFulls", spec := "weekFulls", unfollowed := true, recurses := true, apart := false }
def WeekFullsSaid : Prop := weekFullsRow.holds Try.pinned (OpenSpec.ofChange weekFullsSpec)

/-- ITS FALSE NEIGHBOUR: 'it returns false'. Refute it at one input. -/
def weekFullsWrong : ChangeSpec := { name := "weekFulls", fn := fun _ => fun
  | [d1, d2] => { results := [.lit (.bool false)], args := [d1, d2] }
  | _ => none }
def WeekFullsWrongFalsely : Prop := weekFullsRow.holds Try.pinned (OpenSpec.ofChange weekFullsWrong)

/-- 'breezelaw03.WeekCorners': WHATEVER THE INPUT: true; the input reads as it did. -/
def weekCornersSpec : ChangeSpec := { name := "weekCorners", fn := fun _ => fun
  | [d1, d2, d3] => { results := [.lit (.bool true)], args := [d1, d2, d3] }
  | _ => none }
def weekCornersRow : OpenClaim := { program := "ytpgifeaejjjjnaa", sum := "0564cefdf854472f044d7e5831bff0bd929d1354776ccec54795153cdd0c3fe9", func := "breeze/breezelaw03.WeekCorners", spec := "weekCorners", unfollowed := true, recurses := true, apart := false }
def WeekCornersSaid : Prop := weekCornersRow.holds Try.pinned (OpenSpec.ofChange weekCornersSpec)

/-- ITS FALSE NEIGHBOUR: 'it returns false'. Refute it at one input. -/
def weekCornersWrong : ChangeSpec := { name := "weekCorners", fn := fun _ => fun
  | [d1, d2, d3] => { results := [.lit (.bool false)], args := [d1, d2, d3] }
  | _ => none }
def WeekCornersWrongFalsely : Prop := weekCornersRow.holds Try.pinned (OpenSpec.ofChange weekCornersWrong)

/-- 'breezelaw03.WeekHall': WHATEVER THE INPUT: true; the input reads as it did. -/
def weekHallSpec : ChangeSpec := { name := "weekHall", fn := fun _ => fun
  | [d] => { results := [.lit (.bool true)], args := [d] }
  | _ => none }
def weekHallRow : OpenClaim := { program := "ytpgifeaejjjjnaa", sum := "0564cefdf854472f044d7e5831bff0bd929d1354776ccec54795153cdd0c3fe9", func := "breeze/breezelaw03.WeekHall", spec := "weekHall", unfollowed := true, recurses := true, apart := false }
def WeekHallSaid : Prop := weekHallRow.holds Try.pinned (OpenSpec.ofChange weekHallSpec)

/-- ITS FALSE NEIGHBOUR: 'it returns false'. Refute it at one input. -/
def weekHallWrong : ChangeSpec := { name := "weekHall", fn := fun _ => fun
  | [d] => { results := [.lit (.bool false)], args := [d] }
  | _ => none }
def WeekHallWrongFalsely : Prop := weekHallRow.holds Try.pinned (OpenSpec.ofChange weekHallWrong)

/-- 'breezelaw03.WeekFilled': WHATEVER THE INPUT: true; the input reads as it did. -/
def weekFilledSpec : ChangeSpec := { name := "weekFilled", fn := fun _ => fun
  | [d] => { results := [.lit (.bool true)], args := [d] }
  | _ => none }
def weekFilledRow : OpenClaim := { program := "ytpgifeaejjjjnaa", sum := "0564cefdf854472f044d7e5831bff0bd929d1354776ccec54795153cdd0c3fe9", func := "breeze/breezelaw03.WeekFilled", spec := "weekFilled", unfollowed := true, recurses := true, apart := false }
def WeekFilledSaid : Prop := weekFilledRow.holds Try.pinned (OpenSpec.ofChange weekFilledSpec)

/-- ITS FALSE NEIGHBOUR: 'it returns false'. Refute it at one input. -/
def weekFilledWrong : ChangeSpec := { name := "weekFilled", fn := fun _ => fun
  | [d] => { results := [.lit (.bool false)], args := [d] }
  | _ => none }
def WeekFilledWrongFalsely : Prop := weekFilledRow.holds Try.pinned (OpenSpec.ofChange weekFilledWrong)

/-- 'breezelaw03.WeekRyser': WHATEVER THE INPUT: true; the input reads as it did. -/
def weekRyserSpec : ChangeSpec := { name := "weekRyser", fn := fun _ => fun
  | [d1, d2, d3] => { results := [.lit (.bool true)], args := [d1, d2, d3] }
  | _ => none }
def weekRyserRow : OpenClaim := { program := "ytpgifeaejjjjnaa", sum := "0564cefdf854472f044d7e5831bff0bd929d1354776ccec54795153cdd0c3fe9", func := "breeze/breezelaw03.WeekRyser", spec := "weekRyser", unfollowed := true, recurses := true, apart := false }
def WeekRyserSaid : Prop := weekRyserRow.holds Try.pinned (OpenSpec.ofChange weekRyserSpec)

/-- ITS FALSE NEIGHBOUR: 'it returns false'. Refute it at one input. -/
def weekRyserWrong : ChangeSpec := { name := "weekRyser", fn := fun _ => fun
  | [d1, d2, d3] => { results := [.lit (.bool false)], args := [d1, d2, d3] }
  | _ => none }
def WeekRyserWrongFalsely : Prop := weekRyserRow.holds Try.pinned (OpenSpec.ofChange weekRyserWrong)

/-- 'breezelaw03.WeekTurned': WHATEVER THE INPUT: true; the input reads as it did. -/
def weekTurnedSpec : ChangeSpec := { name := "weekTurned", fn := fun _ => fun
  | [d] => { results := [.lit (.bool true)], args := [d] }
  | _ => none }
def weekTurnedRow : OpenClaim := { program := "ytpgifeaejjjjnaa", sum := "0564cefdf854472f044d7e5831bff0bd929d1354776ccec54795153cdd0c3fe9", func := "breeze/breezelaw03.WeekTurned", spec := "weekTurned", unfollowed := true, recurses := true, apart := false }
def WeekTurnedSaid : Prop := weekTurnedRow.holds Try.pinned (OpenSpec.ofChange weekTurnedSpec)

/-- ITS FALSE NEIGHBOUR: 'it returns false'. Refute it at one input. -/
def weekTurnedWrong : ChangeSpec := { name := "weekTurned", fn := fun _ => fun
  | [d] => { results := [.lit (.bool false)], args := [d] }
  | _ => none }
def WeekTurnedWrongFalsely : Prop := weekTurnedRow.holds Try.pinned (OpenSpec.ofChange weekTurnedWrong)

/-- 'breezelaw03.WeekCrossed': WHATEVER THE INPUT: true; the input reads as it did. -/
def weekCrossedSpec : ChangeSpec := { name := "weekCrossed", fn := fun _ => fun
  | [d] => { results := [.lit (.bool true)], args := [d] }
  | _ => none }
def weekCrossedRow : OpenClaim := { program := "ytpgifeaejjjjnaa", sum := "0564cefdf854472f044d7e5831bff0bd929d1354776ccec54795153cdd0c3fe9", func := "breeze/breezelaw03.WeekCrossed", spec := "weekCrossed", unfollowed := true, recurses := true, apart := false }
def WeekCrossedSaid : Prop := weekCrossedRow.holds Try.pinned (OpenSpec.ofChange weekCrossedSpec)

/-- ITS FALSE NEIGHBOUR: 'it returns false'. Refute it at one input. -/
def weekCrossedWrong : ChangeSpec := { name := "weekCrossed", fn := fun _ => fun
  | [d] => { results := [.lit (.bool false)], args := [d] }
  | _ => none }
def WeekCrossedWrongFalsely : Prop := weekCrossedRow.holds Try.pinned (OpenSpec.ofChange weekCrossedWrong)

/-- 'breezelaw03.WeekEven': WHATEVER THE INPUT: true; the input reads as it did. -/
def weekEvenSpec : ChangeSpec := { name := "weekEven", fn := fun _ => fun
  | [d1, d2, d3] => { results := [.lit (.bool true)], args := [d1, d2, d3] }
  | _ => none }
def weekEvenRow : OpenClaim := { program := "ytpgifeaejjjjnaa", sum := "0564cefdf854472f044d7e5831bff0bd929d1354776ccec54795153cdd0c3fe9", func := "breeze/breezelaw03.WeekEven", spec := "weekEven", unfollowed := true, recurses := true, apart := false }
def WeekEvenSaid : Prop := weekEvenRow.holds Try.pinned (OpenSpec.ofChange weekEvenSpec)

/-- ITS FALSE NEIGHBOUR: 'it returns false'. Refute it at one input. -/
def weekEvenWrong : ChangeSpec := { name := "weekEven", fn := fun _ => fun
  | [d1, d2, d3] => { results := [.lit (.bool false)], args := [d1, d2, d3] }
  | _ => none }
def WeekEvenWrongFalsely : Prop := weekEvenRow.holds Try.pinned (OpenSpec.ofChange weekEvenWrong)

/-- 'breezelaw03.WeekNamed': WHATEVER THE INPUT: true; the input reads as it did. -/
def weekNamedSpec : ChangeSpec := { name := "weekNamed", fn := fun _ => fun
  | [d1, d2, d3, d4] => { results := [.lit (.bool true)], args := [d1, d2, d3, d4] }
  | _ => none }
def weekNamedRow : OpenClaim := { program := "ytpgifeaejjjjnaa", sum := "0564cefdf854472f044d7e5831bff0bd929d1354776ccec54795153cdd0c3fe9", func := "breeze/breezelaw03.WeekNamed", spec := "weekNamed", unfollowed := true, recurses := true, apart := false }
def WeekNamedSaid : Prop := weekNamedRow.holds Try.pinned (OpenSpec.ofChange weekNamedSpec)

/-- ITS FALSE NEIGHBOUR: 'it returns false'. Refute it at one input. -/
def weekNamedWrong : ChangeSpec := { name := "weekNamed", fn := fun _ => fun
  | [d1, d2, d3, d4] => { results := [.lit (.bool false)], args := [d1, d2, d3, d4] }
  | _ => none }
def WeekNamedWrongFalsely : Prop := weekNamedRow.holds Try.pinned (OpenSpec.ofChange weekNamedWrong)

/-- 'breezelaw03.WeekAll': WHATEVER THE INPUT: true; the input reads as it did. -/
def weekAllSpec : ChangeSpec := { name := "weekAll", fn := fun _ => fun
  | [d] => { results := [.lit (.bool true)], args := [d] }
  | _ => none }
def weekAllRow : OpenClaim := { program := "ytpgifeaejjjjnaa", sum := "0564cefdf854472f044d7e5831bff0bd929d1354776ccec54795153cdd0c3fe9", func := "breeze/breezelaw03.WeekAll", spec := "weekAll", unfollowed := true, recurses := true, apart := false }
def WeekAllSaid : Prop := weekAllRow.holds Try.pinned (OpenSpec.ofChange weekAllSpec)

/-- ITS FALSE NEIGHBOUR: 'it returns false'. Refute it at one input. -/
def weekAllWrong : ChangeSpec := { name := "weekAll", fn := fun _ => fun
  | [d] => { results := [.lit (.bool false)], args := [d] }
  | _ => none }
def WeekAllWrongFalsely : Prop := weekAllRow.holds Try.pinned (OpenSpec.ofChange weekAllWrong)

/-- 'breezelaw03.WeekKnown': WHATEVER THE INPUT: true; the input reads as it did. -/
def weekKnownSpec : ChangeSpec := { name := "weekKnown", fn := fun _ => fun
  | [] => { results := [.lit (.bool true)], args := [] }
  | _ => none }
def weekKnownRow : OpenClaim := { program := "ytpgifeaejjjjnaa", sum := "0564cefdf854472f044d7e5831bff0bd929d1354776ccec54795153cdd0c3fe9", func := "breeze/breezelaw03.WeekKnown", spec := "weekKnown", unfollowed := true, recurses := true, apart := false }
def WeekKnownSaid : Prop := weekKnownRow.holds Try.pinned (OpenSpec.ofChange weekKnownSpec)

/-- ITS FALSE NEIGHBOUR: 'it returns false'. Refute it at one input. -/
def weekKnownWrong : ChangeSpec := { name := "weekKnown", fn := fun _ => fun
  | [] => { results := [.lit (.bool false)], args := [] }
  | _ => none }
def WeekKnownWrongFalsely : Prop := weekKnownRow.holds Try.pinned (OpenSpec.ofChange weekKnownWrong)

/-- 'breezetop.TopDays': WHATEVER THE INPUT: true; the input reads as it did. -/
def topDaysSpec : ChangeSpec := { name := "topDays", fn := fun _ => fun
  | [d1, d2, d3] => { results := [.lit (.bool true)], args := [d1, d2, d3] }
  | _ => none }
def topDaysRow : OpenClaim := { program := "ytpgifeaejjjjnaa", sum := "0564cefdf854472f044d7e5831bff0bd929d1354776ccec54795153cdd0c3fe9", func := "breeze/breezetop.TopDays", spec := "topDays", unfollowed := true, recurses := true, apart := false }
def TopDaysSaid : Prop := topDaysRow.holds Try.pinned (OpenSpec.ofChange topDaysSpec)

/-- ITS FALSE NEIGHBOUR: 'it returns false'. Refute it at one input. -/
def topDaysWrong : ChangeSpec := { name := "topDays", fn := fun _ => fun
  | [d1, d2, d3] => { results := [.lit (.bool false)], args := [d1, d2, d3] }
  | _ => none }
def TopDaysWrongFalsely : Prop := topDaysRow.holds Try.pinned (OpenSpec.ofChange topDaysWrong)

/- THE SECOND FORM. 'bulk': how many values and letters a reading holds, each counted each time it is reached (what is shared counts as often as it is met; a slice's spare places count too). A statement '..UptoSaid' is the law's where the arguments, and the package variables that the reading takes, are together of bulk at most 1048576: NARROWER than '..Said'. Prove '..Said' where nothing that the law and all that it calls make is longer than what came in: it says more and counts as full. Else prove '..UptoSaid'. A law counts once. -/
mutual
def uptoBulk {H : Type} : DataW H → Nat
  | .lit (.string bytes) => bytes.length + 1
  | .lit _ => 1
  | .nil => 1
  | .ptr d => uptoBulk d + 1
  | .slice elems spare => uptoBulkAll elems + uptoBulkAll spare + 1
  | .agg parts => uptoBulkAll parts + 1
  | .iface _ d => uptoBulk d + 1
  | .map entries => uptoBulkEntries entries + 1
  | .held _ => 1
def uptoBulkAll {H : Type} : List (DataW H) → Nat
  | [] => 0
  | d :: r => uptoBulk d + uptoBulkAll r
def uptoBulkEntries {H : Type} : List (Lit × DataW H) → Nat
  | [] => 0
  | x :: r => uptoBulkEntry x + uptoBulkEntries r
def uptoBulkEntry {H : Type} : Lit × DataW H → Nat
  | (.string bytes, d) => bytes.length + uptoBulk d + 1
  | (_, d) => uptoBulk d + 1
 end
def uptoSmall : (H : Type) → List (DataW H) → Bool := fun _ ds => decide (uptoBulkAll ds ≤ 1048576)
def OpenSpec.upto (s : _root_.Go.ChangeSpec) : _root_.Go.OpenSpec := { _root_.Go.OpenSpec.ofChange s with cond := some uptoSmall }

/-- 'breezelaw03.WeekRows', WHERE WHAT IT READS IS OF BULK AT MOST 1048576: true; the input reads as it did. -/
def weekRowsUptoRow : OpenClaim := { program := "ytpgifeaejjjjnaa", sum := "0564cefdf854472f044d7e5831bff0bd929d1354776ccec54795153cdd0c3fe9", func := "breeze/breezelaw03.WeekRows", spec := "weekRows", unfollowed := true, recurses := true, apart := false, narrowed := true }
def WeekRowsUptoSaid : Prop := weekRowsUptoRow.holds Try.pinned (OpenSpec.upto weekRowsSpec)

/-- 'breezelaw03.WeekFulls', WHERE WHAT IT READS IS OF BULK AT MOST 1048576: true; the input reads as it did. -/
def weekFullsUptoRow : OpenClaim := { program := "ytpgifeaejjjjnaa", sum := "0564cefdf854472f044d7e5831bff0bd929d1354776ccec54795153cdd0c3fe9", func := "breeze/breezelaw03.WeekFulls", spec := "weekFulls", unfollowed := true, recurses := true, apart := false, narrowed := true }
def WeekFullsUptoSaid : Prop := weekFullsUptoRow.holds Try.pinned (OpenSpec.upto weekFullsSpec)

/-- 'breezelaw03.WeekCorners', WHERE WHAT IT READS IS OF BULK AT MOST 1048576: true; the input reads as it did. -/
def weekCornersUptoRow : OpenClaim := { program := "ytpgifeaejjjjnaa", sum := "0564cefdf854472f044d7e5831bff0bd929d1354776ccec54795153cdd0c3fe9", func := "breeze/breezelaw03.WeekCorners", spec := "weekCorners", unfollowed := true, recurses := true, apart := false, narrowed := true }
def WeekCornersUptoSaid : Prop := weekCornersUptoRow.holds Try.pinned (OpenSpec.upto weekCornersSpec)

/-- 'breezelaw03.WeekHall', WHERE WHAT IT READS IS OF BULK AT MOST 1048576: true; the input reads as it did. -/
def weekHallUptoRow : OpenClaim := { program := "ytpgifeaejjjjnaa", sum := "0564cefdf854472f044d7e5831bff0bd929d1354776ccec54795153cdd0c3fe9", func := "breeze/breezelaw03.WeekHall", spec := "weekHall", unfollowed := true, recurses := true, apart := false, narrowed := true }
def WeekHallUptoSaid : Prop := weekHallUptoRow.holds Try.pinned (OpenSpec.upto weekHallSpec)

/-- 'breezelaw03.WeekFilled', WHERE WHAT IT READS IS OF BULK AT MOST 1048576: true; the input reads as it did. -/
def weekFilledUptoRow : OpenClaim := { program := "ytpgifeaejjjjnaa", sum := "0564cefdf854472f044d7e5831bff0bd929d1354776ccec54795153cdd0c3fe9", func := "breeze/breezelaw03.WeekFilled", spec := "weekFilled", unfollowed := true, recurses := true, apart := false, narrowed := true }
def WeekFilledUptoSaid : Prop := weekFilledUptoRow.holds Try.pinned (OpenSpec.upto weekFilledSpec)

/-- 'breezelaw03.WeekRyser', WHERE WHAT IT READS IS OF BULK AT MOST 1048576: true; the input reads as it did. -/
def weekRyserUptoRow : OpenClaim := { program := "ytpgifeaejjjjnaa", sum := "0564cefdf854472f044d7e5831bff0bd929d1354776ccec54795153cdd0c3fe9", func := "breeze/breezelaw03.WeekRyser", spec := "weekRyser", unfollowed := true, recurses := true, apart := false, narrowed := true }
def WeekRyserUptoSaid : Prop := weekRyserUptoRow.holds Try.pinned (OpenSpec.upto weekRyserSpec)

/-- 'breezelaw03.WeekTurned', WHERE WHAT IT READS IS OF BULK AT MOST 1048576: true; the input reads as it did. -/
def weekTurnedUptoRow : OpenClaim := { program := "ytpgifeaejjjjnaa", sum := "0564cefdf854472f044d7e5831bff0bd929d1354776ccec54795153cdd0c3fe9", func := "breeze/breezelaw03.WeekTurned", spec := "weekTurned", unfollowed := true, recurses := true, apart := false, narrowed := true }
def WeekTurnedUptoSaid : Prop := weekTurnedUptoRow.holds Try.pinned (OpenSpec.upto weekTurnedSpec)

/-- 'breezelaw03.WeekCrossed', WHERE WHAT IT READS IS OF BULK AT MOST 1048576: true; the input reads as it did. -/
def weekCrossedUptoRow : OpenClaim := { program := "ytpgifeaejjjjnaa", sum := "0564cefdf854472f044d7e5831bff0bd929d1354776ccec54795153cdd0c3fe9", func := "breeze/breezelaw03.WeekCrossed", spec := "weekCrossed", unfollowed := true, recurses := true, apart := false, narrowed := true }
def WeekCrossedUptoSaid : Prop := weekCrossedUptoRow.holds Try.pinned (OpenSpec.upto weekCrossedSpec)

/-- 'breezelaw03.WeekEven', WHERE WHAT IT READS IS OF BULK AT MOST 1048576: true; the input reads as it did. -/
def weekEvenUptoRow : OpenClaim := { program := "ytpgifeaejjjjnaa", sum := "0564cefdf854472f044d7e5831bff0bd929d1354776ccec54795153cdd0c3fe9", func := "breeze/breezelaw03.WeekEven", spec := "weekEven", unfollowed := true, recurses := true, apart := false, narrowed := true }
def WeekEvenUptoSaid : Prop := weekEvenUptoRow.holds Try.pinned (OpenSpec.upto weekEvenSpec)

/-- 'breezelaw03.WeekNamed', WHERE WHAT IT READS IS OF BULK AT MOST 1048576: true; the input reads as it did. -/
def weekNamedUptoRow : OpenClaim := { program := "ytpgifeaejjjjnaa", sum := "0564cefdf854472f044d7e5831bff0bd929d1354776ccec54795153cdd0c3fe9", func := "breeze/breezelaw03.WeekNamed", spec := "weekNamed", unfollowed := true, recurses := true, apart := false, narrowed := true }
def WeekNamedUptoSaid : Prop := weekNamedUptoRow.holds Try.pinned (OpenSpec.upto weekNamedSpec)

/-- 'breezelaw03.WeekAll', WHERE WHAT IT READS IS OF BULK AT MOST 1048576: true; the input reads as it did. -/
def weekAllUptoRow : OpenClaim := { program := "ytpgifeaejjjjnaa", sum := "0564cefdf854472f044d7e5831bff0bd929d1354776ccec54795153cdd0c3fe9", func := "breeze/breezelaw03.WeekAll", spec := "weekAll", unfollowed := true, recurses := true, apart := false, narrowed := true }
def WeekAllUptoSaid : Prop := weekAllUptoRow.holds Try.pinned (OpenSpec.upto weekAllSpec)

/-- 'breezelaw03.WeekKnown', WHERE WHAT IT READS IS OF BULK AT MOST 1048576: true; the input reads as it did. -/
def weekKnownUptoRow : OpenClaim := { program := "ytpgifeaejjjjnaa", sum := "0564cefdf854472f044d7e5831bff0bd929d1354776ccec54795153cdd0c3fe9", func := "breeze/breezelaw03.WeekKnown", spec := "weekKnown", unfollowed := true, recurses := true, apart := false, narrowed := true }
def WeekKnownUptoSaid : Prop := weekKnownUptoRow.holds Try.pinned (OpenSpec.upto weekKnownSpec)

/-- 'breezetop.TopDays', WHERE WHAT IT READS IS OF BULK AT MOST 1048576: true; the input reads as it did. -/
def topDaysUptoRow : OpenClaim := { program := "ytpgifeaejjjjnaa", sum := "0564cefdf854472f044d7e5831bff0bd929d1354776ccec54795153cdd0c3fe9", func := "breeze/breezetop.TopDays", spec := "topDays", unfollowed := true, recurses := true, apart := false, narrowed := true }
def TopDaysUptoSaid : Prop := topDaysUptoRow.holds Try.pinned (OpenSpec.upto topDaysSpec)

end Rows
end Go.Proofs.Ytpgifeaejjjjnaa
