/-
  DERIVED. GIVEN WITH THE SEED: THE CARDS: each row of YtmookhbijmibiaaDoorRows.lean that lists a variable, with what it lists TIED to the program's text (the seventh form; the later family's looks); each row that meets fmt, with fmt's text TOLD by the authors' own Lean function (tested against real Go, not proved from fmt's source: count such statements apart). THE CARD IS WHAT COUNTS. Prove the row's statement (the work); the ties are given (YtmookhbijmibiaaDoorTie.lean); close each card by the builder's one call (the guide's Derived/Test/ToyasCard.lean, 'card_holds'). Laid BY PROGRAM, IN A SANDBOX (cutbox-door.mjs). By AI agents, Wed Nov 11 2026. No macro, syntax, notation, axiom, sorry.
-/
import Derived.Test.YtmookhbijmibiaaDoorRows
import GoSem.ClaimSeven
namespace Go.Proofs.YtmookhbijmibiaaDoor
namespace Rows

/-- THE TIED CARD OF 'chatelainelaw11.TapeStretches'. -/
def tapeStretchesCard : Claim7 := { stood := { row := tapeStretchesRow, standIns := [], harness := (true, "38ede281d0f224ba9e13477e432beb519803d8a4e7bba5fe811b50d5de474bdc"), looks := false }, kinds := [], alts := [], laidByText := true, laidKinds := [.data, .data, .data], laidTests := true, laidLooks := .later }
def TapeStretchesCardSaid : Prop := Claim7.holds Tryd.pinned (.plain (OpenSpec.ofChange tapeStretchesSpec)) tapeStretchesCard

/-- THE SECOND FORM's CARD OF 'chatelainelaw11.TapeStretches'. -/
def tapeStretchesUptoCard : Claim7 := { stood := { row := tapeStretchesUptoRow, standIns := [], harness := (true, "38ede281d0f224ba9e13477e432beb519803d8a4e7bba5fe811b50d5de474bdc"), looks := false }, kinds := [], alts := [], laidByText := true, laidKinds := [.data, .data, .data], laidTests := true, laidLooks := .later }
def TapeStretchesUptoCardSaid : Prop := Claim7.holds Tryd.pinned (.plain (OpenSpec.upto tapeStretchesSpec)) tapeStretchesUptoCard
end Rows
end Go.Proofs.YtmookhbijmibiaaDoor
