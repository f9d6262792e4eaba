/-
  No cell of these rows narrows 'for every input' (looked for: loops, veiled, ifaces, maps, wideKeys, modest, calm, conditions, laid).
  DERIVED. THE GIVEN ROWS OF THIS SEAT. 3 by the template 'for every input the law returns true; each argument reads behind the call as it read before'; 0 by the template 'total and deterministic' (their statements: YtonkmkgehggoiaaTotals.lean).
  GIVEN WITH THE SEED: the statements are not yours to turn. If you find one false, say at which input.
  Laid BY PROGRAM, IN A SANDBOX (cutbox-rows.mjs): the forced cells as the released guide's own fill.sh prints them over the translation ecbc7c7446a01c3b… (all of the seat's roots in one cut). By AI agents, Wed Nov 11 2026. No macro, syntax, notation, axiom, sorry.
-/
import Derived.Test.YtonkmkgehggoiaaChecked
import GoSem.Claim
import GoSem.ClaimJoined
import GoSem.ClaimMapViews
import Derived.JoinedTies
import Derived.KernelRfl
namespace Go.Proofs.Ytonkmkgehggoiaa
/- THE CELL 'sum', in the pinned program and in every row, IS THE sha256 OF THE DUMP (.gsa) THAT YtonkmkgehggoiaaProg.lean LOADS. Nothing in Lean hashes anything: it is a label: what it is worth is what the hold of that sum in a sandbox is worth. -/
noncomputable def Try.pinned : Pinned := { name := "ytonkmkgehggoiaa", sum := "ecbc7c7446a01c3b7cf37b1562b60f8aa39a0fc9a8522e774b67d8982d35f615", checked := Try.checked }
namespace Rows
def none {H : Type} : Left H := { results := [], args := [] }

/-- 'chatelainelaw03.SboxOf': WHATEVER THE INPUT: true; the input reads as it did. -/
def sboxOfSpec : ChangeSpec := { name := "sboxOf", fn := fun _ => fun
  | [d] => { results := [.lit (.bool true)], args := [d] }
  | _ => none }
def sboxOfRow : OpenClaim := { program := "ytonkmkgehggoiaa", sum := "ecbc7c7446a01c3b7cf37b1562b60f8aa39a0fc9a8522e774b67d8982d35f615", func := "chatelaine/chatelainelaw03.SboxOf", spec := "sboxOf", apart := false }
def SboxOfSaid : Prop := sboxOfRow.holds Try.pinned (OpenSpec.ofChange sboxOfSpec)

/-- ITS FALSE NEIGHBOUR: 'it returns false'. Refute it at one input. -/
def sboxOfWrong : ChangeSpec := { name := "sboxOf", fn := fun _ => fun
  | [d] => { results := [.lit (.bool false)], args := [d] }
  | _ => none }
def SboxOfWrongFalsely : Prop := sboxOfRow.holds Try.pinned (OpenSpec.ofChange sboxOfWrong)

/-- 'chatelainelaw03.SboxSwaps': WHATEVER THE INPUT: true; the input reads as it did. -/
def sboxSwapsSpec : ChangeSpec := { name := "sboxSwaps", fn := fun _ => fun
  | [d] => { results := [.lit (.bool true)], args := [d] }
  | _ => none }
def sboxSwapsRow : OpenClaim := { program := "ytonkmkgehggoiaa", sum := "ecbc7c7446a01c3b7cf37b1562b60f8aa39a0fc9a8522e774b67d8982d35f615", func := "chatelaine/chatelainelaw03.SboxSwaps", spec := "sboxSwaps", apart := false }
def SboxSwapsSaid : Prop := sboxSwapsRow.holds Try.pinned (OpenSpec.ofChange sboxSwapsSpec)

/-- ITS FALSE NEIGHBOUR: 'it returns false'. Refute it at one input. -/
def sboxSwapsWrong : ChangeSpec := { name := "sboxSwaps", fn := fun _ => fun
  | [d] => { results := [.lit (.bool false)], args := [d] }
  | _ => none }
def SboxSwapsWrongFalsely : Prop := sboxSwapsRow.holds Try.pinned (OpenSpec.ofChange sboxSwapsWrong)

/-- 'chatelainelaw03.SboxApart': WHATEVER THE INPUT: true; the input reads as it did. -/
def sboxApartSpec : ChangeSpec := { name := "sboxApart", fn := fun _ => fun
  | [d1, d2] => { results := [.lit (.bool true)], args := [d1, d2] }
  | _ => none }
def sboxApartRow : OpenClaim := { program := "ytonkmkgehggoiaa", sum := "ecbc7c7446a01c3b7cf37b1562b60f8aa39a0fc9a8522e774b67d8982d35f615", func := "chatelaine/chatelainelaw03.SboxApart", spec := "sboxApart", apart := false }
def SboxApartSaid : Prop := sboxApartRow.holds Try.pinned (OpenSpec.ofChange sboxApartSpec)

/-- ITS FALSE NEIGHBOUR: 'it returns false'. Refute it at one input. -/
def sboxApartWrong : ChangeSpec := { name := "sboxApart", fn := fun _ => fun
  | [d1, d2] => { results := [.lit (.bool false)], args := [d1, d2] }
  | _ => none }
def SboxApartWrongFalsely : Prop := sboxApartRow.holds Try.pinned (OpenSpec.ofChange sboxApartWrong)

/- THE SECOND FORM. 'bulk': how many values and letters a reading holds, each counted each time it is reached (what is shared counts as often as it is met; a slice's spare places count too). A statement '..UptoSaid' is the law's where the arguments, and the package variables that the reading takes, are together of bulk at most 1048576: NARROWER than '..Said'. Prove '..Said' where nothing that the law and all that it calls make is longer than what came in: it says more and counts as full. Else prove '..UptoSaid'. A law counts once. -/
mutual
def uptoBulk {H : Type} : DataW H → Nat
  | .lit (.string bytes) => bytes.length + 1
  | .lit _ => 1
  | .nil => 1
  | .ptr d => uptoBulk d + 1
  | .slice elems spare => uptoBulkAll elems + uptoBulkAll spare + 1
  | .agg parts => uptoBulkAll parts + 1
  | .iface _ d => uptoBulk d + 1
  | .map entries => uptoBulkEntries entries + 1
  | .held _ => 1
def uptoBulkAll {H : Type} : List (DataW H) → Nat
  | [] => 0
  | d :: r => uptoBulk d + uptoBulkAll r
def uptoBulkEntries {H : Type} : List (Lit × DataW H) → Nat
  | [] => 0
  | x :: r => uptoBulkEntry x + uptoBulkEntries r
def uptoBulkEntry {H : Type} : Lit × DataW H → Nat
  | (.string bytes, d) => bytes.length + uptoBulk d + 1
  | (_, d) => uptoBulk d + 1
 end
def uptoSmall : (H : Type) → List (DataW H) → Bool := fun _ ds => decide (uptoBulkAll ds ≤ 1048576)
def OpenSpec.upto (s : _root_.Go.ChangeSpec) : _root_.Go.OpenSpec := { _root_.Go.OpenSpec.ofChange s with cond := some uptoSmall }

/-- 'chatelainelaw03.SboxOf', WHERE WHAT IT READS IS OF BULK AT MOST 1048576: true; the input reads as it did. -/
def sboxOfUptoRow : OpenClaim := { program := "ytonkmkgehggoiaa", sum := "ecbc7c7446a01c3b7cf37b1562b60f8aa39a0fc9a8522e774b67d8982d35f615", func := "chatelaine/chatelainelaw03.SboxOf", spec := "sboxOf", apart := false, narrowed := true }
def SboxOfUptoSaid : Prop := sboxOfUptoRow.holds Try.pinned (OpenSpec.upto sboxOfSpec)

/-- 'chatelainelaw03.SboxSwaps', WHERE WHAT IT READS IS OF BULK AT MOST 1048576: true; the input reads as it did. -/
def sboxSwapsUptoRow : OpenClaim := { program := "ytonkmkgehggoiaa", sum := "ecbc7c7446a01c3b7cf37b1562b60f8aa39a0fc9a8522e774b67d8982d35f615", func := "chatelaine/chatelainelaw03.SboxSwaps", spec := "sboxSwaps", apart := false, narrowed := true }
def SboxSwapsUptoSaid : Prop := sboxSwapsUptoRow.holds Try.pinned (OpenSpec.upto sboxSwapsSpec)

/-- 'chatelainelaw03.SboxApart', WHERE WHAT IT READS IS OF BULK AT MOST 1048576: true; the input reads as it did. -/
def sboxApartUptoRow : OpenClaim := { program := "ytonkmkgehggoiaa", sum := "ecbc7c7446a01c3b7cf37b1562b60f8aa39a0fc9a8522e774b67d8982d35f615", func := "chatelaine/chatelainelaw03.SboxApart", spec := "sboxApart", apart := false, narrowed := true }
def SboxApartUptoSaid : Prop := sboxApartUptoRow.holds Try.pinned (OpenSpec.upto sboxApartSpec)

end Rows
end Go.Proofs.Ytonkmkgehggoiaa
