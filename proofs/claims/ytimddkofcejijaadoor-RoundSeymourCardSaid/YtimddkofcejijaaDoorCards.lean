/-
  DERIVED. GIVEN WITH THE SEED: THE CARDS: each row of YtimddkofcejijaaDoorRows.lean that lists a variable, with what it lists TIED to the program's text (the seventh form; the later family's looks); each row that meets fmt, with fmt's text TOLD by the authors' own Lean function (tested against real Go, not proved from fmt's source: count such statements apart). THE CARD IS WHAT COUNTS. Prove the row's statement (the work); the ties are given (YtimddkofcejijaaDoorTie.lean); close each card by the builder's one call (the guide's Derived/Test/ToyasCard.lean, 'card_holds'). Laid BY PROGRAM, IN A SANDBOX (cutbox-door.mjs). By AI agents, Wed Nov 11 2026. No macro, syntax, notation, axiom, sorry.
-/
import Derived.Test.YtimddkofcejijaaDoorRows
import GoSem.ClaimSeven
namespace Go.Proofs.YtimddkofcejijaaDoor
namespace Rows

/-- THE TIED CARD OF 'breezelaw02.RoundSeymour'. -/
def roundSeymourCard : Claim7 := { stood := { row := roundSeymourRow, standIns := [], harness := (true, "9a581ea60bc91d68a638e431d168dc4cf59abe793973abf69086034bd2e5863d"), looks := false }, kinds := [], alts := [], laidByText := true, laidKinds := [.data, .data], laidTests := true, laidLooks := .later }
def RoundSeymourCardSaid : Prop := Claim7.holds Tryd.pinned (.plain (OpenSpec.ofChange roundSeymourSpec)) roundSeymourCard

/-- THE TIED CARD OF 'breezelaw02.RoundEnough'. -/
def roundEnoughCard : Claim7 := { stood := { row := roundEnoughRow, standIns := [], harness := (true, "9a581ea60bc91d68a638e431d168dc4cf59abe793973abf69086034bd2e5863d"), looks := false }, kinds := [], alts := [], laidByText := true, laidKinds := [.data, .data], laidTests := true, laidLooks := .later }
def RoundEnoughCardSaid : Prop := Claim7.holds Tryd.pinned (.plain (OpenSpec.ofChange roundEnoughSpec)) roundEnoughCard

/-- THE TIED CARD OF 'breezelaw02.RoundGone'. -/
def roundGoneCard : Claim7 := { stood := { row := roundGoneRow, standIns := [], harness := (true, "9a581ea60bc91d68a638e431d168dc4cf59abe793973abf69086034bd2e5863d"), looks := false }, kinds := [], alts := [], laidByText := true, laidKinds := [.data, .data], laidTests := true, laidLooks := .later }
def RoundGoneCardSaid : Prop := Claim7.holds Tryd.pinned (.plain (OpenSpec.ofChange roundGoneSpec)) roundGoneCard

/-- THE TIED CARD OF 'breezelaw02.RoundSides'. -/
def roundSidesCard : Claim7 := { stood := { row := roundSidesRow, standIns := [], harness := (true, "9a581ea60bc91d68a638e431d168dc4cf59abe793973abf69086034bd2e5863d"), looks := false }, kinds := [], alts := [], laidByText := true, laidKinds := [.data, .data], laidTests := true, laidLooks := .later }
def RoundSidesCardSaid : Prop := Claim7.holds Tryd.pinned (.plain (OpenSpec.ofChange roundSidesSpec)) roundSidesCard

/-- THE SECOND FORM's CARD OF 'breezelaw02.RoundSeymour'. -/
def roundSeymourUptoCard : Claim7 := { stood := { row := roundSeymourUptoRow, standIns := [], harness := (true, "9a581ea60bc91d68a638e431d168dc4cf59abe793973abf69086034bd2e5863d"), looks := false }, kinds := [], alts := [], laidByText := true, laidKinds := [.data, .data], laidTests := true, laidLooks := .later }
def RoundSeymourUptoCardSaid : Prop := Claim7.holds Tryd.pinned (.plain (OpenSpec.upto roundSeymourSpec)) roundSeymourUptoCard

/-- THE SECOND FORM's CARD OF 'breezelaw02.RoundEnough'. -/
def roundEnoughUptoCard : Claim7 := { stood := { row := roundEnoughUptoRow, standIns := [], harness := (true, "9a581ea60bc91d68a638e431d168dc4cf59abe793973abf69086034bd2e5863d"), looks := false }, kinds := [], alts := [], laidByText := true, laidKinds := [.data, .data], laidTests := true, laidLooks := .later }
def RoundEnoughUptoCardSaid : Prop := Claim7.holds Tryd.pinned (.plain (OpenSpec.upto roundEnoughSpec)) roundEnoughUptoCard

/-- THE SECOND FORM's CARD OF 'breezelaw02.RoundGone'. -/
def roundGoneUptoCard : Claim7 := { stood := { row := roundGoneUptoRow, standIns := [], harness := (true, "9a581ea60bc91d68a638e431d168dc4cf59abe793973abf69086034bd2e5863d"), looks := false }, kinds := [], alts := [], laidByText := true, laidKinds := [.data, .data], laidTests := true, laidLooks := .later }
def RoundGoneUptoCardSaid : Prop := Claim7.holds Tryd.pinned (.plain (OpenSpec.upto roundGoneSpec)) roundGoneUptoCard

/-- THE SECOND FORM's CARD OF 'breezelaw02.RoundSides'. -/
def roundSidesUptoCard : Claim7 := { stood := { row := roundSidesUptoRow, standIns := [], harness := (true, "9a581ea60bc91d68a638e431d168dc4cf59abe793973abf69086034bd2e5863d"), looks := false }, kinds := [], alts := [], laidByText := true, laidKinds := [.data, .data], laidTests := true, laidLooks := .later }
def RoundSidesUptoCardSaid : Prop := Claim7.holds Tryd.pinned (.plain (OpenSpec.upto roundSidesSpec)) roundSidesUptoCard
end Rows
end Go.Proofs.YtimddkofcejijaaDoor
