/-
  DERIVED. GIVEN WITH THE SEED: THE CARDS: each row of YtdfbhgajomdeeaaDoorRows.lean that lists a variable, with what it lists TIED to the program's text (the seventh form; the later family's looks); each row that meets fmt, with fmt's text TOLD by the authors' own Lean function (tested against real Go, not proved from fmt's source: count such statements apart). THE CARD IS WHAT COUNTS. Prove the row's statement (the work); the ties are given (YtdfbhgajomdeeaaDoorTie.lean); close each card by the builder's one call (the guide's Derived/Test/ToyasCard.lean, 'card_holds'). Laid BY PROGRAM, IN A SANDBOX (cutbox-door.mjs). By AI agents, Wed Nov 11 2026. No macro, syntax, notation, axiom, sorry.
-/
import Derived.Test.YtdfbhgajomdeeaaDoorRows
import GoSem.ClaimSeven
namespace Go.Proofs.YtdfbhgajomdeeaaDoor
namespace Rows

/-- THE TIED CARD OF 'chatelainelaw06.HmacTags'. -/
def hmacTagsCard : Claim7 := { stood := { row := hmacTagsRow, standIns := [], harness := (true, "105bae5de7f260411ac19b89b135ce444c93d850e3104e7f4ecc2626b4bff4d0"), looks := false }, kinds := [], alts := [], laidByText := true, laidKinds := [.data, .data, .data], laidTests := true, laidLooks := .later }
def HmacTagsCardSaid : Prop := Claim7.holds Tryd.pinned (.plain (OpenSpec.ofChange hmacTagsSpec)) hmacTagsCard

/-- THE TIED CARD OF 'chatelainelaw06.HmacChains'. -/
def hmacChainsCard : Claim7 := { stood := { row := hmacChainsRow, standIns := [], harness := (true, "105bae5de7f260411ac19b89b135ce444c93d850e3104e7f4ecc2626b4bff4d0"), looks := false }, kinds := [], alts := [], laidByText := true, laidKinds := [.data, .data, .data], laidTests := true, laidLooks := .later }
def HmacChainsCardSaid : Prop := Claim7.holds Tryd.pinned (.plain (OpenSpec.ofChange hmacChainsSpec)) hmacChainsCard

/-- THE TIED CARD OF 'chatelainelaw06.HmacKeys'. -/
def hmacKeysCard : Claim7 := { stood := { row := hmacKeysRow, standIns := [], harness := (true, "105bae5de7f260411ac19b89b135ce444c93d850e3104e7f4ecc2626b4bff4d0"), looks := false }, kinds := [], alts := [], laidByText := true, laidKinds := [.data, .data, .data], laidTests := true, laidLooks := .later }
def HmacKeysCardSaid : Prop := Claim7.holds Tryd.pinned (.plain (OpenSpec.ofChange hmacKeysSpec)) hmacKeysCard

/-- THE SECOND FORM's CARD OF 'chatelainelaw06.HmacTags'. -/
def hmacTagsUptoCard : Claim7 := { stood := { row := hmacTagsUptoRow, standIns := [], harness := (true, "105bae5de7f260411ac19b89b135ce444c93d850e3104e7f4ecc2626b4bff4d0"), looks := false }, kinds := [], alts := [], laidByText := true, laidKinds := [.data, .data, .data], laidTests := true, laidLooks := .later }
def HmacTagsUptoCardSaid : Prop := Claim7.holds Tryd.pinned (.plain (OpenSpec.upto hmacTagsSpec)) hmacTagsUptoCard

/-- THE SECOND FORM's CARD OF 'chatelainelaw06.HmacChains'. -/
def hmacChainsUptoCard : Claim7 := { stood := { row := hmacChainsUptoRow, standIns := [], harness := (true, "105bae5de7f260411ac19b89b135ce444c93d850e3104e7f4ecc2626b4bff4d0"), looks := false }, kinds := [], alts := [], laidByText := true, laidKinds := [.data, .data, .data], laidTests := true, laidLooks := .later }
def HmacChainsUptoCardSaid : Prop := Claim7.holds Tryd.pinned (.plain (OpenSpec.upto hmacChainsSpec)) hmacChainsUptoCard

/-- THE SECOND FORM's CARD OF 'chatelainelaw06.HmacKeys'. -/
def hmacKeysUptoCard : Claim7 := { stood := { row := hmacKeysUptoRow, standIns := [], harness := (true, "105bae5de7f260411ac19b89b135ce444c93d850e3104e7f4ecc2626b4bff4d0"), looks := false }, kinds := [], alts := [], laidByText := true, laidKinds := [.data, .data, .data], laidTests := true, laidLooks := .later }
def HmacKeysUptoCardSaid : Prop := Claim7.holds Tryd.pinned (.plain (OpenSpec.upto hmacKeysSpec)) hmacKeysUptoCard
end Rows
end Go.Proofs.YtdfbhgajomdeeaaDoor
