/-
  DERIVED. GIVEN WITH THE SEED: THE CARDS: each row of YtdjknmnmacppdaaDoorRows.lean that lists a variable, with what it lists TIED to the program's text (the seventh form; the later family's looks); each row that meets fmt, with fmt's text TOLD by the authors' own Lean function (tested against real Go, not proved from fmt's source: count such statements apart). THE CARD IS WHAT COUNTS. Prove the row's statement (the work); the ties are given (YtdjknmnmacppdaaDoorTie.lean); close each card by the builder's one call (the guide's Derived/Test/ToyasCard.lean, 'card_holds'). Laid BY PROGRAM, IN A SANDBOX (cutbox-door.mjs). By AI agents, Wed Nov 11 2026. No macro, syntax, notation, axiom, sorry.
-/
import Derived.Test.YtdjknmnmacppdaaDoorRows
import GoSem.ClaimSeven
namespace Go.Proofs.YtdjknmnmacppdaaDoor
namespace Rows

/-- THE TIED CARD OF 'chatelainelaw10.XtsSectors'. -/
def xtsSectorsCard : Claim7 := { stood := { row := xtsSectorsRow, standIns := [], harness := (true, "4763dc46a5cefd51747f4eb1b3da70707b5e534e320662d64bb5366d08fd9839"), looks := false }, kinds := [], alts := [], laidByText := true, laidKinds := [.data], laidTests := true, laidLooks := .later }
def XtsSectorsCardSaid : Prop := Claim7.holds Tryd.pinned (.plain (OpenSpec.ofChange xtsSectorsSpec)) xtsSectorsCard

/-- THE TIED CARD OF 'chatelainelaw10.XtsTweaks'. -/
def xtsTweaksCard : Claim7 := { stood := { row := xtsTweaksRow, standIns := [], harness := (true, "4763dc46a5cefd51747f4eb1b3da70707b5e534e320662d64bb5366d08fd9839"), looks := false }, kinds := [], alts := [], laidByText := true, laidKinds := [.data], laidTests := true, laidLooks := .later }
def XtsTweaksCardSaid : Prop := Claim7.holds Tryd.pinned (.plain (OpenSpec.ofChange xtsTweaksSpec)) xtsTweaksCard

/-- THE TIED CARD OF 'chatelainelaw10.XtsApart'. -/
def xtsApartCard : Claim7 := { stood := { row := xtsApartRow, standIns := [], harness := (true, "4763dc46a5cefd51747f4eb1b3da70707b5e534e320662d64bb5366d08fd9839"), looks := false }, kinds := [], alts := [], laidByText := true, laidKinds := [.data], laidTests := true, laidLooks := .later }
def XtsApartCardSaid : Prop := Claim7.holds Tryd.pinned (.plain (OpenSpec.ofChange xtsApartSpec)) xtsApartCard

/-- THE SECOND FORM's CARD OF 'chatelainelaw10.XtsSectors'. -/
def xtsSectorsUptoCard : Claim7 := { stood := { row := xtsSectorsUptoRow, standIns := [], harness := (true, "4763dc46a5cefd51747f4eb1b3da70707b5e534e320662d64bb5366d08fd9839"), looks := false }, kinds := [], alts := [], laidByText := true, laidKinds := [.data], laidTests := true, laidLooks := .later }
def XtsSectorsUptoCardSaid : Prop := Claim7.holds Tryd.pinned (.plain (OpenSpec.upto xtsSectorsSpec)) xtsSectorsUptoCard

/-- THE SECOND FORM's CARD OF 'chatelainelaw10.XtsTweaks'. -/
def xtsTweaksUptoCard : Claim7 := { stood := { row := xtsTweaksUptoRow, standIns := [], harness := (true, "4763dc46a5cefd51747f4eb1b3da70707b5e534e320662d64bb5366d08fd9839"), looks := false }, kinds := [], alts := [], laidByText := true, laidKinds := [.data], laidTests := true, laidLooks := .later }
def XtsTweaksUptoCardSaid : Prop := Claim7.holds Tryd.pinned (.plain (OpenSpec.upto xtsTweaksSpec)) xtsTweaksUptoCard

/-- THE SECOND FORM's CARD OF 'chatelainelaw10.XtsApart'. -/
def xtsApartUptoCard : Claim7 := { stood := { row := xtsApartUptoRow, standIns := [], harness := (true, "4763dc46a5cefd51747f4eb1b3da70707b5e534e320662d64bb5366d08fd9839"), looks := false }, kinds := [], alts := [], laidByText := true, laidKinds := [.data], laidTests := true, laidLooks := .later }
def XtsApartUptoCardSaid : Prop := Claim7.holds Tryd.pinned (.plain (OpenSpec.upto xtsApartSpec)) xtsApartUptoCard
end Rows
end Go.Proofs.YtdjknmnmacppdaaDoor
