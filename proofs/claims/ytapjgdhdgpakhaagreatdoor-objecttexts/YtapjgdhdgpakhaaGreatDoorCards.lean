/-
  DERIVED. GIVEN WITH THE SEED: THE CARDS: each row of YtapjgdhdgpakhaaGreatDoorRows.lean that lists a variable, with what it lists TIED to the program's text (the seventh form; the later family's looks); each row that meets fmt, with fmt's text TOLD by the authors' own Lean function (tested against real Go, not proved from fmt's source: count such statements apart). THE CARD IS WHAT COUNTS. Prove the row's statement (the work); the ties are given (YtapjgdhdgpakhaaGreatDoorTie.lean); close each card by the builder's one call (the guide's Derived/Test/ToyasCard.lean, 'card_holds'). Laid BY PROGRAM, IN A SANDBOX (cutbox-door.mjs). By AI agents, Wed Nov 11 2026. No macro, syntax, notation, axiom, sorry.
-/
import Derived.Test.YtapjgdhdgpakhaaGreatDoorRows
import GoSem.ClaimSeven
namespace Go.Proofs.YtapjgdhdgpakhaaGreatDoor
namespace Rows

/-- THE TIED CARD OF 'diptychlaw11.ObjectTells'. -/
def objectTellsCard : Claim7 := { stood := { row := objectTellsRow, standIns := [], harness := (true, "7a99d484e8adf8cd498081c56c5b664c424d229d5ed9a22f918e864804edc53c"), looks := true }, kinds := [], alts := [], laidByText := true, laidKinds := [.data, .data, .data, .sentinel, .sentinel], laidTests := true, laidLooks := .later }
def ObjectTellsCardSaid : Prop := Claim7.holds Tryz.pinned (.plain (OpenSpec.ofChange objectTellsSpec)) objectTellsCard

/-- THE TIED CARD OF 'diptychlaw11.ObjectBack'. -/
def objectBackCard : Claim7 := { stood := { row := objectBackRow, standIns := [], harness := (true, "7a99d484e8adf8cd498081c56c5b664c424d229d5ed9a22f918e864804edc53c"), looks := true }, kinds := [], alts := [], laidByText := true, laidKinds := [.data, .data, .data, .sentinel, .sentinel], laidTests := true, laidLooks := .later }
def ObjectBackCardSaid : Prop := Claim7.holds Tryz.pinned (.plain (OpenSpec.ofChange objectBackSpec)) objectBackCard

/-- THE TIED CARD OF 'diptychlaw11.ObjectSpaces'. -/
def objectSpacesCard : Claim7 := { stood := { row := objectSpacesRow, standIns := [], harness := (true, "7a99d484e8adf8cd498081c56c5b664c424d229d5ed9a22f918e864804edc53c"), looks := true }, kinds := [], alts := [], laidByText := true, laidKinds := [.data, .data, .data, .sentinel, .sentinel], laidTests := true, laidLooks := .later }
def ObjectSpacesCardSaid : Prop := Claim7.holds Tryz.pinned (.plain (OpenSpec.ofChange objectSpacesSpec)) objectSpacesCard

/-- THE TIED CARD OF 'diptychlaw11.ObjectTexts'. -/
def objectTextsCard : Claim7 := { stood := { row := objectTextsRow, standIns := [], harness := (true, "7a99d484e8adf8cd498081c56c5b664c424d229d5ed9a22f918e864804edc53c"), looks := true }, kinds := [], alts := [], laidByText := true, laidKinds := [.data, .data, .data, .sentinel, .sentinel], laidTests := true, laidLooks := .later }
def ObjectTextsCardSaid : Prop := Claim7.holds Tryz.pinned (.plain (OpenSpec.ofChange objectTextsSpec)) objectTextsCard

/-- THE TIED CARD OF 'diptychlaw11.ObjectEntries'. -/
def objectEntriesCard : Claim7 := { stood := { row := objectEntriesRow, standIns := [], harness := (true, "7a99d484e8adf8cd498081c56c5b664c424d229d5ed9a22f918e864804edc53c"), looks := true }, kinds := [], alts := [], laidByText := true, laidKinds := [.data, .data, .data, .sentinel, .sentinel], laidTests := true, laidLooks := .later }
def ObjectEntriesCardSaid : Prop := Claim7.holds Tryz.pinned (.plain (OpenSpec.ofChange objectEntriesSpec)) objectEntriesCard

/-- THE SECOND FORM's CARD OF 'diptychlaw11.ObjectTells'. -/
def objectTellsUptoCard : Claim7 := { stood := { row := objectTellsUptoRow, standIns := [], harness := (true, "7a99d484e8adf8cd498081c56c5b664c424d229d5ed9a22f918e864804edc53c"), looks := true }, kinds := [], alts := [], laidByText := true, laidKinds := [.data, .data, .data, .sentinel, .sentinel], laidTests := true, laidLooks := .later }
def ObjectTellsUptoCardSaid : Prop := Claim7.holds Tryz.pinned (.plain (OpenSpec.upto objectTellsSpec)) objectTellsUptoCard

/-- THE SECOND FORM's CARD OF 'diptychlaw11.ObjectBack'. -/
def objectBackUptoCard : Claim7 := { stood := { row := objectBackUptoRow, standIns := [], harness := (true, "7a99d484e8adf8cd498081c56c5b664c424d229d5ed9a22f918e864804edc53c"), looks := true }, kinds := [], alts := [], laidByText := true, laidKinds := [.data, .data, .data, .sentinel, .sentinel], laidTests := true, laidLooks := .later }
def ObjectBackUptoCardSaid : Prop := Claim7.holds Tryz.pinned (.plain (OpenSpec.upto objectBackSpec)) objectBackUptoCard

/-- THE SECOND FORM's CARD OF 'diptychlaw11.ObjectSpaces'. -/
def objectSpacesUptoCard : Claim7 := { stood := { row := objectSpacesUptoRow, standIns := [], harness := (true, "7a99d484e8adf8cd498081c56c5b664c424d229d5ed9a22f918e864804edc53c"), looks := true }, kinds := [], alts := [], laidByText := true, laidKinds := [.data, .data, .data, .sentinel, .sentinel], laidTests := true, laidLooks := .later }
def ObjectSpacesUptoCardSaid : Prop := Claim7.holds Tryz.pinned (.plain (OpenSpec.upto objectSpacesSpec)) objectSpacesUptoCard

/-- THE SECOND FORM's CARD OF 'diptychlaw11.ObjectTexts'. -/
def objectTextsUptoCard : Claim7 := { stood := { row := objectTextsUptoRow, standIns := [], harness := (true, "7a99d484e8adf8cd498081c56c5b664c424d229d5ed9a22f918e864804edc53c"), looks := true }, kinds := [], alts := [], laidByText := true, laidKinds := [.data, .data, .data, .sentinel, .sentinel], laidTests := true, laidLooks := .later }
def ObjectTextsUptoCardSaid : Prop := Claim7.holds Tryz.pinned (.plain (OpenSpec.upto objectTextsSpec)) objectTextsUptoCard

/-- THE SECOND FORM's CARD OF 'diptychlaw11.ObjectEntries'. -/
def objectEntriesUptoCard : Claim7 := { stood := { row := objectEntriesUptoRow, standIns := [], harness := (true, "7a99d484e8adf8cd498081c56c5b664c424d229d5ed9a22f918e864804edc53c"), looks := true }, kinds := [], alts := [], laidByText := true, laidKinds := [.data, .data, .data, .sentinel, .sentinel], laidTests := true, laidLooks := .later }
def ObjectEntriesUptoCardSaid : Prop := Claim7.holds Tryz.pinned (.plain (OpenSpec.upto objectEntriesSpec)) objectEntriesUptoCard
end Rows
end Go.Proofs.YtapjgdhdgpakhaaGreatDoor
