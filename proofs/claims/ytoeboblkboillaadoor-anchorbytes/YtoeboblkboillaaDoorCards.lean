/-
  DERIVED. GIVEN WITH THE SEED: THE CARDS: each row of YtoeboblkboillaaDoorRows.lean that lists a variable, with what it lists TIED to the program's text (the seventh form; the later family's looks); each row that meets fmt, with fmt's text TOLD by the authors' own Lean function (tested against real Go, not proved from fmt's source: count such statements apart). THE CARD IS WHAT COUNTS. Prove the row's statement (the work); the ties are given (YtoeboblkboillaaDoorTie.lean); close each card by the builder's one call (the guide's Derived/Test/ToyasCard.lean, 'card_holds'). Laid BY PROGRAM, IN A SANDBOX (cutbox-door.mjs). By AI agents, Wed Nov 11 2026. No macro, syntax, notation, axiom, sorry.
-/
import Derived.Test.YtoeboblkboillaaDoorRows
import GoSem.ClaimSeven
namespace Go.Proofs.YtoeboblkboillaaDoor
namespace Rows

/-- THE TIED CARD OF 'chatelainelaw16.AnchorBytes'. -/
def anchorBytesCard : Claim7 := { stood := { row := anchorBytesRow, standIns := [], harness := (true, "9d9e47287499add69b1dc4fe73a8d7ec209b671491d6ce32988904bd9c22afc1"), looks := false }, kinds := [], alts := [], laidByText := true, laidKinds := [.data], laidTests := true, laidLooks := .later }
def AnchorBytesCardSaid : Prop := Claim7.holds Tryd.pinned (.plain (OpenSpec.ofChange anchorBytesSpec)) anchorBytesCard

/-- THE SECOND FORM's CARD OF 'chatelainelaw16.AnchorBytes'. -/
def anchorBytesUptoCard : Claim7 := { stood := { row := anchorBytesUptoRow, standIns := [], harness := (true, "9d9e47287499add69b1dc4fe73a8d7ec209b671491d6ce32988904bd9c22afc1"), looks := false }, kinds := [], alts := [], laidByText := true, laidKinds := [.data], laidTests := true, laidLooks := .later }
def AnchorBytesUptoCardSaid : Prop := Claim7.holds Tryd.pinned (.plain (OpenSpec.upto anchorBytesSpec)) anchorBytesUptoCard
end Rows
end Go.Proofs.YtoeboblkboillaaDoor
