/-
  No cell of these rows narrows 'for every input' (looked for: loops, veiled, ifaces, maps, wideKeys, modest, calm, conditions, laid).
  DERIVED. THE GIVEN ROWS OF THIS SEAT. 4 by the template 'for every input the law returns true; each argument reads behind the call as it read before'; 0 by the template 'total and deterministic' (their statements: YtaibegafoncddaaTotals.lean).
  GIVEN WITH THE SEED: the statements are not yours to turn. If you find one false, say at which input.
  Laid BY PROGRAM, IN A SANDBOX (cutbox-rows.mjs): the forced cells as the released guide's own fill.sh prints them over the translation 7cf63490bed04dba… (all of the seat's roots in one cut). By AI agents, Wed Nov 11 2026. No macro, syntax, notation, axiom, sorry.
-/
import Derived.Test.YtaibegafoncddaaChecked
import GoSem.Claim
import GoSem.ClaimJoined
import GoSem.ClaimMapViews
import Derived.JoinedTies
import Derived.KernelRfl
namespace Go.Proofs.Ytaibegafoncddaa
/- THE CELL 'sum', in the pinned program and in every row, IS THE sha256 OF THE DUMP (.gsa) THAT YtaibegafoncddaaProg.lean LOADS. Nothing in Lean hashes anything: it is a label: what it is worth is what the hold of that sum in a sandbox is worth. -/
noncomputable def Try.pinned : Pinned := { name := "ytaibegafoncddaa", sum := "7cf63490bed04dbaac51d1d1dcdcb3236d43caa5b7125c009fd3c3bdd7deb132", checked := Try.checked }
namespace Rows
def none {H : Type} : Left H := { results := [], args := [] }

/-- 'chatelainelaw02.GfTimes': WHATEVER THE INPUT: true; the input reads as it did. -/
def gfTimesSpec : ChangeSpec := { name := "gfTimes", fn := fun _ => fun
  | [d1, d2, d3] => { results := [.lit (.bool true)], args := [d1, d2, d3] }
  | _ => none }
def gfTimesRow : OpenClaim := { program := "ytaibegafoncddaa", sum := "7cf63490bed04dbaac51d1d1dcdcb3236d43caa5b7125c009fd3c3bdd7deb132", func := "chatelaine/chatelainelaw02.GfTimes", spec := "gfTimes", apart := false }
def GfTimesSaid : Prop := gfTimesRow.holds Try.pinned (OpenSpec.ofChange gfTimesSpec)

/-- ITS FALSE NEIGHBOUR: 'it returns false'. Refute it at one input. -/
def gfTimesWrong : ChangeSpec := { name := "gfTimes", fn := fun _ => fun
  | [d1, d2, d3] => { results := [.lit (.bool false)], args := [d1, d2, d3] }
  | _ => none }
def GfTimesWrongFalsely : Prop := gfTimesRow.holds Try.pinned (OpenSpec.ofChange gfTimesWrong)

/-- 'chatelainelaw02.GfDoubles': WHATEVER THE INPUT: true; the input reads as it did. -/
def gfDoublesSpec : ChangeSpec := { name := "gfDoubles", fn := fun _ => fun
  | [d1, d2] => { results := [.lit (.bool true)], args := [d1, d2] }
  | _ => none }
def gfDoublesRow : OpenClaim := { program := "ytaibegafoncddaa", sum := "7cf63490bed04dbaac51d1d1dcdcb3236d43caa5b7125c009fd3c3bdd7deb132", func := "chatelaine/chatelainelaw02.GfDoubles", spec := "gfDoubles", apart := false }
def GfDoublesSaid : Prop := gfDoublesRow.holds Try.pinned (OpenSpec.ofChange gfDoublesSpec)

/-- ITS FALSE NEIGHBOUR: 'it returns false'. Refute it at one input. -/
def gfDoublesWrong : ChangeSpec := { name := "gfDoubles", fn := fun _ => fun
  | [d1, d2] => { results := [.lit (.bool false)], args := [d1, d2] }
  | _ => none }
def GfDoublesWrongFalsely : Prop := gfDoublesRow.holds Try.pinned (OpenSpec.ofChange gfDoublesWrong)

/-- 'chatelainelaw02.GfLaws': WHATEVER THE INPUT: true; the input reads as it did. -/
def gfLawsSpec : ChangeSpec := { name := "gfLaws", fn := fun _ => fun
  | [d1, d2, d3] => { results := [.lit (.bool true)], args := [d1, d2, d3] }
  | _ => none }
def gfLawsRow : OpenClaim := { program := "ytaibegafoncddaa", sum := "7cf63490bed04dbaac51d1d1dcdcb3236d43caa5b7125c009fd3c3bdd7deb132", func := "chatelaine/chatelainelaw02.GfLaws", spec := "gfLaws", unfollowed := true, recurses := true, apart := false }
def GfLawsSaid : Prop := gfLawsRow.holds Try.pinned (OpenSpec.ofChange gfLawsSpec)

/-- ITS FALSE NEIGHBOUR: 'it returns false'. Refute it at one input. -/
def gfLawsWrong : ChangeSpec := { name := "gfLaws", fn := fun _ => fun
  | [d1, d2, d3] => { results := [.lit (.bool false)], args := [d1, d2, d3] }
  | _ => none }
def GfLawsWrongFalsely : Prop := gfLawsRow.holds Try.pinned (OpenSpec.ofChange gfLawsWrong)

/-- 'chatelainelaw02.GfApart': WHATEVER THE INPUT: true; the input reads as it did. -/
def gfApartSpec : ChangeSpec := { name := "gfApart", fn := fun _ => fun
  | [d1, d2] => { results := [.lit (.bool true)], args := [d1, d2] }
  | _ => none }
def gfApartRow : OpenClaim := { program := "ytaibegafoncddaa", sum := "7cf63490bed04dbaac51d1d1dcdcb3236d43caa5b7125c009fd3c3bdd7deb132", func := "chatelaine/chatelainelaw02.GfApart", spec := "gfApart", apart := false }
def GfApartSaid : Prop := gfApartRow.holds Try.pinned (OpenSpec.ofChange gfApartSpec)

/-- ITS FALSE NEIGHBOUR: 'it returns false'. Refute it at one input. -/
def gfApartWrong : ChangeSpec := { name := "gfApart", fn := fun _ => fun
  | [d1, d2] => { results := [.lit (.bool false)], args := [d1, d2] }
  | _ => none }
def GfApartWrongFalsely : Prop := gfApartRow.holds Try.pinned (OpenSpec.ofChange gfApartWrong)

/- THE SECOND FORM. 'bulk': how many values and letters a reading holds, each counted each time it is reached (what is shared counts as often as it is met; a slice's spare places count too). A statement '..UptoSaid' is the law's where the arguments, and the package variables that the reading takes, are together of bulk at most 1048576: NARROWER than '..Said'. Prove '..Said' where nothing that the law and all that it calls make is longer than what came in: it says more and counts as full. Else prove '..UptoSaid'. A law counts once. -/
mutual
def uptoBulk {H : Type} : DataW H → Nat
  | .lit (.string bytes) => bytes.length + 1
  | .lit _ => 1
  | .nil => 1
  | .ptr d => uptoBulk d + 1
  | .slice elems spare => uptoBulkAll elems + uptoBulkAll spare + 1
  | .agg parts => uptoBulkAll parts + 1
  | .iface _ d => uptoBulk d + 1
  | .map entries => uptoBulkEntries entries + 1
  | .held _ => 1
def uptoBulkAll {H : Type} : List (DataW H) → Nat
  | [] => 0
  | d :: r => uptoBulk d + uptoBulkAll r
def uptoBulkEntries {H : Type} : List (Lit × DataW H) → Nat
  | [] => 0
  | x :: r => uptoBulkEntry x + uptoBulkEntries r
def uptoBulkEntry {H : Type} : Lit × DataW H → Nat
  | (.string bytes, d) => bytes.length + uptoBulk d + 1
  | (_, d) => uptoBulk d + 1
 end
def uptoSmall : (H : Type) → List (DataW H) → Bool := fun _ ds => decide (uptoBulkAll ds ≤ 1048576)
def OpenSpec.upto (s : _root_.Go.ChangeSpec) : _root_.Go.OpenSpec := { _root_.Go.OpenSpec.ofChange s with cond := some uptoSmall }

/-- 'chatelainelaw02.GfTimes', WHERE WHAT IT READS IS OF BULK AT MOST 1048576: true; the input reads as it did. -/
def gfTimesUptoRow : OpenClaim := { program := "ytaibegafoncddaa", sum := "7cf63490bed04dbaac51d1d1dcdcb3236d43caa5b7125c009fd3c3bdd7deb132", func := "chatelaine/chatelainelaw02.GfTimes", spec := "gfTimes", apart := false, narrowed := true }
def GfTimesUptoSaid : Prop := gfTimesUptoRow.holds Try.pinned (OpenSpec.upto gfTimesSpec)

/-- 'chatelainelaw02.GfDoubles', WHERE WHAT IT READS IS OF BULK AT MOST 1048576: true; the input reads as it did. -/
def gfDoublesUptoRow : OpenClaim := { program := "ytaibegafoncddaa", sum := "7cf63490bed04dbaac51d1d1dcdcb3236d43caa5b7125c009fd3c3bdd7deb132", func := "chatelaine/chatelainelaw02.GfDoubles", spec := "gfDoubles", apart := false, narrowed := true }
def GfDoublesUptoSaid : Prop := gfDoublesUptoRow.holds Try.pinned (OpenSpec.upto gfDoublesSpec)

/-- 'chatelainelaw02.GfLaws', WHERE WHAT IT READS IS OF BULK AT MOST 1048576: true; the input reads as it did. -/
def gfLawsUptoRow : OpenClaim := { program := "ytaibegafoncddaa", sum := "7cf63490bed04dbaac51d1d1dcdcb3236d43caa5b7125c009fd3c3bdd7deb132", func := "chatelaine/chatelainelaw02.GfLaws", spec := "gfLaws", unfollowed := true, recurses := true, apart := false, narrowed := true }
def GfLawsUptoSaid : Prop := gfLawsUptoRow.holds Try.pinned (OpenSpec.upto gfLawsSpec)

/-- 'chatelainelaw02.GfApart', WHERE WHAT IT READS IS OF BULK AT MOST 1048576: true; the input reads as it did. -/
def gfApartUptoRow : OpenClaim := { program := "ytaibegafoncddaa", sum := "7cf63490bed04dbaac51d1d1dcdcb3236d43caa5b7125c009fd3c3bdd7deb132", func := "chatelaine/chatelainelaw02.GfApart", spec := "gfApart", apart := false, narrowed := true }
def GfApartUptoSaid : Prop := gfApartUptoRow.holds Try.pinned (OpenSpec.upto gfApartSpec)

end Rows
end Go.Proofs.Ytaibegafoncddaa
