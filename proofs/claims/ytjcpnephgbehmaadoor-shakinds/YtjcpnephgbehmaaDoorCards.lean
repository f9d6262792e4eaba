/-
  DERIVED. GIVEN WITH THE SEED: THE CARDS: each row of YtjcpnephgbehmaaDoorRows.lean that lists a variable, with what it lists TIED to the program's text (the seventh form; the later family's looks); each row that meets fmt, with fmt's text TOLD by the authors' own Lean function (tested against real Go, not proved from fmt's source: count such statements apart). THE CARD IS WHAT COUNTS. Prove the row's statement (the work); the ties are given (YtjcpnephgbehmaaDoorTie.lean); close each card by the builder's one call (the guide's Derived/Test/ToyasCard.lean, 'card_holds'). Laid BY PROGRAM, IN A SANDBOX (cutbox-door.mjs). By AI agents, Wed Nov 11 2026. No macro, syntax, notation, axiom, sorry.
-/
import Derived.Test.YtjcpnephgbehmaaDoorRows
import GoSem.ClaimSeven
namespace Go.Proofs.YtjcpnephgbehmaaDoor
namespace Rows

/-- THE TIED CARD OF 'chatelainelaw05.ShaSums'. -/
def shaSumsCard : Claim7 := { stood := { row := shaSumsRow, standIns := [], harness := (true, "80267d60b2410c1d378974a55320e299bf0cd7fc30293e5c2e236db0c92b68d6"), looks := false }, kinds := [], alts := [], laidByText := true, laidKinds := [.data, .data, .data], laidTests := true, laidLooks := .later }
def ShaSumsCardSaid : Prop := Claim7.holds Tryd.pinned (.plain (OpenSpec.ofChange shaSumsSpec)) shaSumsCard

/-- THE TIED CARD OF 'chatelainelaw05.ShaParts'. -/
def shaPartsCard : Claim7 := { stood := { row := shaPartsRow, standIns := [], harness := (true, "80267d60b2410c1d378974a55320e299bf0cd7fc30293e5c2e236db0c92b68d6"), looks := false }, kinds := [], alts := [], laidByText := true, laidKinds := [.data, .data, .data], laidTests := true, laidLooks := .later }
def ShaPartsCardSaid : Prop := Claim7.holds Tryd.pinned (.plain (OpenSpec.ofChange shaPartsSpec)) shaPartsCard

/-- THE TIED CARD OF 'chatelainelaw05.ShaKinds'. -/
def shaKindsCard : Claim7 := { stood := { row := shaKindsRow, standIns := [], harness := (true, "80267d60b2410c1d378974a55320e299bf0cd7fc30293e5c2e236db0c92b68d6"), looks := false }, kinds := [], alts := [], laidByText := true, laidKinds := [.data, .data, .data], laidTests := true, laidLooks := .later }
def ShaKindsCardSaid : Prop := Claim7.holds Tryd.pinned (.plain (OpenSpec.ofChange shaKindsSpec)) shaKindsCard

/-- THE SECOND FORM's CARD OF 'chatelainelaw05.ShaSums'. -/
def shaSumsUptoCard : Claim7 := { stood := { row := shaSumsUptoRow, standIns := [], harness := (true, "80267d60b2410c1d378974a55320e299bf0cd7fc30293e5c2e236db0c92b68d6"), looks := false }, kinds := [], alts := [], laidByText := true, laidKinds := [.data, .data, .data], laidTests := true, laidLooks := .later }
def ShaSumsUptoCardSaid : Prop := Claim7.holds Tryd.pinned (.plain (OpenSpec.upto shaSumsSpec)) shaSumsUptoCard

/-- THE SECOND FORM's CARD OF 'chatelainelaw05.ShaParts'. -/
def shaPartsUptoCard : Claim7 := { stood := { row := shaPartsUptoRow, standIns := [], harness := (true, "80267d60b2410c1d378974a55320e299bf0cd7fc30293e5c2e236db0c92b68d6"), looks := false }, kinds := [], alts := [], laidByText := true, laidKinds := [.data, .data, .data], laidTests := true, laidLooks := .later }
def ShaPartsUptoCardSaid : Prop := Claim7.holds Tryd.pinned (.plain (OpenSpec.upto shaPartsSpec)) shaPartsUptoCard

/-- THE SECOND FORM's CARD OF 'chatelainelaw05.ShaKinds'. -/
def shaKindsUptoCard : Claim7 := { stood := { row := shaKindsUptoRow, standIns := [], harness := (true, "80267d60b2410c1d378974a55320e299bf0cd7fc30293e5c2e236db0c92b68d6"), looks := false }, kinds := [], alts := [], laidByText := true, laidKinds := [.data, .data, .data], laidTests := true, laidLooks := .later }
def ShaKindsUptoCardSaid : Prop := Claim7.holds Tryd.pinned (.plain (OpenSpec.upto shaKindsSpec)) shaKindsUptoCard
end Rows
end Go.Proofs.YtjcpnephgbehmaaDoor
