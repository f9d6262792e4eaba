/-
  NARROWER THAN 'FOR EVERY INPUT', by the rows' own cells (each row's printed sentence says how): XtsSectors: laid · XtsTweaks: laid · XtsApart: laid.
  DERIVED. THE GIVEN ROWS OF THIS SEAT. 3 by the template 'for every input the law returns true; each argument reads behind the call as it read before'; 0 by the template 'total and deterministic' (their statements: YtdjknmnmacppdaaDoorTotals.lean).
  GIVEN WITH THE SEED: the statements are not yours to turn. If you find one false, say at which input.
  Laid BY PROGRAM, IN A SANDBOX (cutbox-rows.mjs): the forced cells as the released guide's own fill.sh prints them over the translation 8f7d207dafa9551a… (all of the seat's roots in one cut). By AI agents, Wed Nov 11 2026. No macro, syntax, notation, axiom, sorry.
-/
import Derived.Test.YtdjknmnmacppdaaDoorChecked
import GoSem.Claim
import GoSem.ClaimJoined
import GoSem.ClaimMapViews
import Derived.JoinedTies
import Derived.KernelRfl
namespace Go.Proofs.YtdjknmnmacppdaaDoor
/- THE CELL 'sum', in the pinned program and in every row, IS THE sha256 OF THE DUMP (.gsa) THAT YtdjknmnmacppdaaDoorProg.lean LOADS. Nothing in Lean hashes anything: it is a label: what it is worth is what the hold of that sum in a sandbox is worth. -/
noncomputable def Tryd.pinned : Pinned := { name := "ytdjknmnmacppdaadoor", sum := "8f7d207dafa9551a3f77a5b9f9f5d7717d7d46129f25096c19fd91bd03ce7417", checked := Tryd.checked }
namespace Rows
def none {H : Type} : Left H := { results := [], args := [] }

/- WHAT THE LISTED PACKAGE-LEVEL VARIABLES READ AS WHEN THE CALL BEGINS. Each datum BY PROGRAM (the guide's laid-datum.mjs) off the statement by which the dump's own 'gosem.cut.vars' lays the variable. In a bare row this is a premise. The card (YtdjknmnmacppdaaDoorCards.lean) ties it to the program's text. -/
def laid_chatelaine_word_shifts {H : Type} : DataW H := .agg [.lit (.int .u64 0), .lit (.int .u64 8), .lit (.int .u64 16), .lit (.int .u64 24), .lit (.int .u64 32), .lit (.int .u64 40), .lit (.int .u64 48), .lit (.int .u64 56)]

/-- 'chatelainelaw10.XtsSectors': WHATEVER THE INPUT: true; the input reads as it did. -/
def xtsSectorsSpec : ChangeSpec := { name := "xtsSectors", fn := fun _ => fun
  | [d1, d2, d3] => { results := [.lit (.bool true)], args := [d1, d2, d3] }
  | _ => none }
def xtsSectorsRow : OpenClaim := { program := "ytdjknmnmacppdaadoor", sum := "8f7d207dafa9551a3f77a5b9f9f5d7717d7d46129f25096c19fd91bd03ce7417", func := "chatelaine/chatelainelaw10.XtsSectors", spec := "xtsSectors", unfollowed := true, recurses := true, named := ["chatelaine/word.shifts"], apart := false, laid := [("chatelaine/word.shifts", laid_chatelaine_word_shifts)] }
def XtsSectorsSaid : Prop := xtsSectorsRow.holds Tryd.pinned (OpenSpec.ofChange xtsSectorsSpec)

/-- ITS FALSE NEIGHBOUR: 'it returns false'. Refute it at one input. -/
def xtsSectorsWrong : ChangeSpec := { name := "xtsSectors", fn := fun _ => fun
  | [d1, d2, d3] => { results := [.lit (.bool false)], args := [d1, d2, d3] }
  | _ => none }
def XtsSectorsWrongFalsely : Prop := xtsSectorsRow.holds Tryd.pinned (OpenSpec.ofChange xtsSectorsWrong)

/-- 'chatelainelaw10.XtsTweaks': WHATEVER THE INPUT: true; the input reads as it did. -/
def xtsTweaksSpec : ChangeSpec := { name := "xtsTweaks", fn := fun _ => fun
  | [d1, d2, d3] => { results := [.lit (.bool true)], args := [d1, d2, d3] }
  | _ => none }
def xtsTweaksRow : OpenClaim := { program := "ytdjknmnmacppdaadoor", sum := "8f7d207dafa9551a3f77a5b9f9f5d7717d7d46129f25096c19fd91bd03ce7417", func := "chatelaine/chatelainelaw10.XtsTweaks", spec := "xtsTweaks", unfollowed := true, recurses := true, named := ["chatelaine/word.shifts"], apart := false, laid := [("chatelaine/word.shifts", laid_chatelaine_word_shifts)] }
def XtsTweaksSaid : Prop := xtsTweaksRow.holds Tryd.pinned (OpenSpec.ofChange xtsTweaksSpec)

/-- ITS FALSE NEIGHBOUR: 'it returns false'. Refute it at one input. -/
def xtsTweaksWrong : ChangeSpec := { name := "xtsTweaks", fn := fun _ => fun
  | [d1, d2, d3] => { results := [.lit (.bool false)], args := [d1, d2, d3] }
  | _ => none }
def XtsTweaksWrongFalsely : Prop := xtsTweaksRow.holds Tryd.pinned (OpenSpec.ofChange xtsTweaksWrong)

/-- 'chatelainelaw10.XtsApart': WHATEVER THE INPUT: true; the input reads as it did. -/
def xtsApartSpec : ChangeSpec := { name := "xtsApart", fn := fun _ => fun
  | [d1, d2, d3] => { results := [.lit (.bool true)], args := [d1, d2, d3] }
  | _ => none }
def xtsApartRow : OpenClaim := { program := "ytdjknmnmacppdaadoor", sum := "8f7d207dafa9551a3f77a5b9f9f5d7717d7d46129f25096c19fd91bd03ce7417", func := "chatelaine/chatelainelaw10.XtsApart", spec := "xtsApart", unfollowed := true, recurses := true, named := ["chatelaine/word.shifts"], apart := false, laid := [("chatelaine/word.shifts", laid_chatelaine_word_shifts)] }
def XtsApartSaid : Prop := xtsApartRow.holds Tryd.pinned (OpenSpec.ofChange xtsApartSpec)

/-- ITS FALSE NEIGHBOUR: 'it returns false'. Refute it at one input. -/
def xtsApartWrong : ChangeSpec := { name := "xtsApart", fn := fun _ => fun
  | [d1, d2, d3] => { results := [.lit (.bool false)], args := [d1, d2, d3] }
  | _ => none }
def XtsApartWrongFalsely : Prop := xtsApartRow.holds Tryd.pinned (OpenSpec.ofChange xtsApartWrong)

/- THE SECOND FORM. 'bulk': how many values and letters a reading holds, each counted each time it is reached (what is shared counts as often as it is met; a slice's spare places count too). A statement '..UptoSaid' is the law's where the arguments, and the package variables that the reading takes, are together of bulk at most 1048576: NARROWER than '..Said'. Prove '..Said' where nothing that the law and all that it calls make is longer than what came in: it says more and counts as full. Else prove '..UptoSaid'. A law counts once. -/
mutual
def uptoBulk {H : Type} : DataW H → Nat
  | .lit (.string bytes) => bytes.length + 1
  | .lit _ => 1
  | .nil => 1
  | .ptr d => uptoBulk d + 1
  | .slice elems spare => uptoBulkAll elems + uptoBulkAll spare + 1
  | .agg parts => uptoBulkAll parts + 1
  | .iface _ d => uptoBulk d + 1
  | .map entries => uptoBulkEntries entries + 1
  | .held _ => 1
def uptoBulkAll {H : Type} : List (DataW H) → Nat
  | [] => 0
  | d :: r => uptoBulk d + uptoBulkAll r
def uptoBulkEntries {H : Type} : List (Lit × DataW H) → Nat
  | [] => 0
  | x :: r => uptoBulkEntry x + uptoBulkEntries r
def uptoBulkEntry {H : Type} : Lit × DataW H → Nat
  | (.string bytes, d) => bytes.length + uptoBulk d + 1
  | (_, d) => uptoBulk d + 1
 end
def uptoSmall : (H : Type) → List (DataW H) → Bool := fun _ ds => decide (uptoBulkAll ds ≤ 1048576)
def OpenSpec.upto (s : _root_.Go.ChangeSpec) : _root_.Go.OpenSpec := { _root_.Go.OpenSpec.ofChange s with cond := some uptoSmall }

/-- 'chatelainelaw10.XtsSectors', WHERE WHAT IT READS IS OF BULK AT MOST 1048576: true; the input reads as it did. -/
def xtsSectorsUptoRow : OpenClaim := { program := "ytdjknmnmacppdaadoor", sum := "8f7d207dafa9551a3f77a5b9f9f5d7717d7d46129f25096c19fd91bd03ce7417", func := "chatelaine/chatelainelaw10.XtsSectors", spec := "xtsSectors", unfollowed := true, recurses := true, named := ["chatelaine/word.shifts"], apart := false, laid := [("chatelaine/word.shifts", laid_chatelaine_word_shifts)], narrowed := true }
def XtsSectorsUptoSaid : Prop := xtsSectorsUptoRow.holds Tryd.pinned (OpenSpec.upto xtsSectorsSpec)

/-- 'chatelainelaw10.XtsTweaks', WHERE WHAT IT READS IS OF BULK AT MOST 1048576: true; the input reads as it did. -/
def xtsTweaksUptoRow : OpenClaim := { program := "ytdjknmnmacppdaadoor", sum := "8f7d207dafa9551a3f77a5b9f9f5d7717d7d46129f25096c19fd91bd03ce7417", func := "chatelaine/chatelainelaw10.XtsTweaks", spec := "xtsTweaks", unfollowed := true, recurses := true, named := ["chatelaine/word.shifts"], apart := false, laid := [("chatelaine/word.shifts", laid_chatelaine_word_shifts)], narrowed := true }
def XtsTweaksUptoSaid : Prop := xtsTweaksUptoRow.holds Tryd.pinned (OpenSpec.upto xtsTweaksSpec)

/-- 'chatelainelaw10.XtsApart', WHERE WHAT IT READS IS OF BULK AT MOST 1048576: true; the input reads as it did. -/
def xtsApartUptoRow : OpenClaim := { program := "ytdjknmnmacppdaadoor", sum := "8f7d207dafa9551a3f77a5b9f9f5d7717d7d46129f25096c19fd91bd03ce7417", func := "chatelaine/chatelainelaw10.XtsApart", spec := "xtsApart", unfollowed := true, recurses := true, named := ["chatelaine/word.shifts"], apart := false, laid := [("chatelaine/word.shifts", laid_chatelaine_word_shifts)], narrowed := true }
def XtsApartUptoSaid : Prop := xtsApartUptoRow.holds Tryd.pinned (OpenSpec.upto xtsApartSpec)

end Rows
end Go.Proofs.YtdjknmnmacppdaaDoor
