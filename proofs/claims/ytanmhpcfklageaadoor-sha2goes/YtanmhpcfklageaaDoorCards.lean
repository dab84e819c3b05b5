/-
  DERIVED. GIVEN WITH THE SEED: THE CARDS: each row of YtanmhpcfklageaaDoorRows.lean that lists a variable, with what it lists TIED to the program's text (the seventh form; the later family's looks); each row that meets fmt, with fmt's text TOLD by the authors' own Lean function (tested against real Go, not proved from fmt's source: count such statements apart). THE CARD IS WHAT COUNTS. Prove the row's statement (the work); the ties are given (YtanmhpcfklageaaDoorTie.lean); close each card by the builder's one call (the guide's Derived/Test/ToyasCard.lean, 'card_holds'). Laid BY PROGRAM, IN A SANDBOX (cutbox-door.mjs). By AI agents, Wed Nov 11 2026. No macro, syntax, notation, axiom, sorry.
-/
import Derived.Test.YtanmhpcfklageaaDoorRows
import GoSem.ClaimSeven
namespace Go.Proofs.YtanmhpcfklageaaDoor
namespace Rows

/-- THE TIED CARD OF 'diptychlaw03.Sha2Sums'. -/
def sha2SumsCard : Claim7 := { stood := { row := sha2SumsRow, standIns := [], harness := (true, "38f5034f1ab5a99e480f63d4ad0bd114724bc33ce8a8f87c9869a2f4842fad5d"), looks := false }, kinds := [], alts := [], laidByText := true, laidKinds := [.data], laidTests := true, laidLooks := .later }
def Sha2SumsCardSaid : Prop := Claim7.holds Tryd.pinned (.plain (OpenSpec.ofChange sha2SumsSpec)) sha2SumsCard

/-- THE TIED CARD OF 'diptychlaw03.Sha2Pieces'. -/
def sha2PiecesCard : Claim7 := { stood := { row := sha2PiecesRow, standIns := [], harness := (true, "38f5034f1ab5a99e480f63d4ad0bd114724bc33ce8a8f87c9869a2f4842fad5d"), looks := false }, kinds := [], alts := [], laidByText := true, laidKinds := [.data], laidTests := true, laidLooks := .later }
def Sha2PiecesCardSaid : Prop := Claim7.holds Tryd.pinned (.plain (OpenSpec.ofChange sha2PiecesSpec)) sha2PiecesCard

/-- THE TIED CARD OF 'diptychlaw03.Sha2Goes'. -/
def sha2GoesCard : Claim7 := { stood := { row := sha2GoesRow, standIns := [], harness := (true, "38f5034f1ab5a99e480f63d4ad0bd114724bc33ce8a8f87c9869a2f4842fad5d"), looks := false }, kinds := [], alts := [], laidByText := true, laidKinds := [.data], laidTests := true, laidLooks := .later }
def Sha2GoesCardSaid : Prop := Claim7.holds Tryd.pinned (.plain (OpenSpec.ofChange sha2GoesSpec)) sha2GoesCard

/-- THE SECOND FORM's CARD OF 'diptychlaw03.Sha2Sums'. -/
def sha2SumsUptoCard : Claim7 := { stood := { row := sha2SumsUptoRow, standIns := [], harness := (true, "38f5034f1ab5a99e480f63d4ad0bd114724bc33ce8a8f87c9869a2f4842fad5d"), looks := false }, kinds := [], alts := [], laidByText := true, laidKinds := [.data], laidTests := true, laidLooks := .later }
def Sha2SumsUptoCardSaid : Prop := Claim7.holds Tryd.pinned (.plain (OpenSpec.upto sha2SumsSpec)) sha2SumsUptoCard

/-- THE SECOND FORM's CARD OF 'diptychlaw03.Sha2Pieces'. -/
def sha2PiecesUptoCard : Claim7 := { stood := { row := sha2PiecesUptoRow, standIns := [], harness := (true, "38f5034f1ab5a99e480f63d4ad0bd114724bc33ce8a8f87c9869a2f4842fad5d"), looks := false }, kinds := [], alts := [], laidByText := true, laidKinds := [.data], laidTests := true, laidLooks := .later }
def Sha2PiecesUptoCardSaid : Prop := Claim7.holds Tryd.pinned (.plain (OpenSpec.upto sha2PiecesSpec)) sha2PiecesUptoCard

/-- THE SECOND FORM's CARD OF 'diptychlaw03.Sha2Goes'. -/
def sha2GoesUptoCard : Claim7 := { stood := { row := sha2GoesUptoRow, standIns := [], harness := (true, "38f5034f1ab5a99e480f63d4ad0bd114724bc33ce8a8f87c9869a2f4842fad5d"), looks := false }, kinds := [], alts := [], laidByText := true, laidKinds := [.data], laidTests := true, laidLooks := .later }
def Sha2GoesUptoCardSaid : Prop := Claim7.holds Tryd.pinned (.plain (OpenSpec.upto sha2GoesSpec)) sha2GoesUptoCard
end Rows
end Go.Proofs.YtanmhpcfklageaaDoor
