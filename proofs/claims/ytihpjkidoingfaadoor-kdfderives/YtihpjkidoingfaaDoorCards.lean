/-
  DERIVED. GIVEN WITH THE SEED: THE CARDS: each row of YtihpjkidoingfaaDoorRows.lean that lists a variable, with what it lists TIED to the program's text (the seventh form; the later family's looks); each row that meets fmt, with fmt's text TOLD by the authors' own Lean function (tested against real Go, not proved from fmt's source: count such statements apart). THE CARD IS WHAT COUNTS. Prove the row's statement (the work); the ties are given (YtihpjkidoingfaaDoorTie.lean); close each card by the builder's one call (the guide's Derived/Test/ToyasCard.lean, 'card_holds'). Laid BY PROGRAM, IN A SANDBOX (cutbox-door.mjs). By AI agents, Wed Nov 11 2026. No macro, syntax, notation, axiom, sorry.
-/
import Derived.Test.YtihpjkidoingfaaDoorRows
import GoSem.ClaimSeven
namespace Go.Proofs.YtihpjkidoingfaaDoor
namespace Rows

/-- THE TIED CARD OF 'chatelainelaw08.KdfDerives'. -/
def kdfDerivesCard : Claim7 := { stood := { row := kdfDerivesRow, standIns := [], harness := (true, "ce179607b0158a511ec6a98f67e025b0c8ab2207e524a4610aa60a8131cb03fe"), looks := false }, kinds := [], alts := [], laidByText := true, laidKinds := [.data, .data, .data], laidTests := true, laidLooks := .later }
def KdfDerivesCardSaid : Prop := Claim7.holds Tryd.pinned (.plain (OpenSpec.ofChange kdfDerivesSpec)) kdfDerivesCard

/-- THE TIED CARD OF 'chatelainelaw08.KdfNumbers'. -/
def kdfNumbersCard : Claim7 := { stood := { row := kdfNumbersRow, standIns := [], harness := (true, "ce179607b0158a511ec6a98f67e025b0c8ab2207e524a4610aa60a8131cb03fe"), looks := false }, kinds := [], alts := [], laidByText := true, laidKinds := [.data, .data, .data], laidTests := true, laidLooks := .later }
def KdfNumbersCardSaid : Prop := Claim7.holds Tryd.pinned (.plain (OpenSpec.ofChange kdfNumbersSpec)) kdfNumbersCard

/-- THE TIED CARD OF 'chatelainelaw08.KdfSame'. -/
def kdfSameCard : Claim7 := { stood := { row := kdfSameRow, standIns := [], harness := (true, "ce179607b0158a511ec6a98f67e025b0c8ab2207e524a4610aa60a8131cb03fe"), looks := false }, kinds := [], alts := [], laidByText := true, laidKinds := [.data, .data, .data], laidTests := true, laidLooks := .later }
def KdfSameCardSaid : Prop := Claim7.holds Tryd.pinned (.plain (OpenSpec.ofChange kdfSameSpec)) kdfSameCard

/-- THE SECOND FORM's CARD OF 'chatelainelaw08.KdfDerives'. -/
def kdfDerivesUptoCard : Claim7 := { stood := { row := kdfDerivesUptoRow, standIns := [], harness := (true, "ce179607b0158a511ec6a98f67e025b0c8ab2207e524a4610aa60a8131cb03fe"), looks := false }, kinds := [], alts := [], laidByText := true, laidKinds := [.data, .data, .data], laidTests := true, laidLooks := .later }
def KdfDerivesUptoCardSaid : Prop := Claim7.holds Tryd.pinned (.plain (OpenSpec.upto kdfDerivesSpec)) kdfDerivesUptoCard

/-- THE SECOND FORM's CARD OF 'chatelainelaw08.KdfNumbers'. -/
def kdfNumbersUptoCard : Claim7 := { stood := { row := kdfNumbersUptoRow, standIns := [], harness := (true, "ce179607b0158a511ec6a98f67e025b0c8ab2207e524a4610aa60a8131cb03fe"), looks := false }, kinds := [], alts := [], laidByText := true, laidKinds := [.data, .data, .data], laidTests := true, laidLooks := .later }
def KdfNumbersUptoCardSaid : Prop := Claim7.holds Tryd.pinned (.plain (OpenSpec.upto kdfNumbersSpec)) kdfNumbersUptoCard

/-- THE SECOND FORM's CARD OF 'chatelainelaw08.KdfSame'. -/
def kdfSameUptoCard : Claim7 := { stood := { row := kdfSameUptoRow, standIns := [], harness := (true, "ce179607b0158a511ec6a98f67e025b0c8ab2207e524a4610aa60a8131cb03fe"), looks := false }, kinds := [], alts := [], laidByText := true, laidKinds := [.data, .data, .data], laidTests := true, laidLooks := .later }
def KdfSameUptoCardSaid : Prop := Claim7.holds Tryd.pinned (.plain (OpenSpec.upto kdfSameSpec)) kdfSameUptoCard
end Rows
end Go.Proofs.YtihpjkidoingfaaDoor
