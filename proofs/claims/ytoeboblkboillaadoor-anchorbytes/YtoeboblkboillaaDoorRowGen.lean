/-
  Own lemmas for every row: what came in as a slice of bytes. No conditions.
-/
import Derived.Test.YtoeboblkboillaaDoorCards
import Derived.Test.YtoeboblkboillaaDoorTie
import Derived.Test.YtoeboblkboillaaDoorBytes
import Derived.WalkKit
import Derived.ProofKit
import Derived.OpenShut
import Derived.ChangeOld
import Derived.Below
import Derived.Deep.DeepHandedRow
import Derived.Lib.LaidTab
namespace Go.Proofs.YtoeboblkboillaaDoor
open Go.ChangeShapes Go.WideShapes Go.ChangeAt Go.RowKit

theorem own : ownKnob Tryd.prog.godebug = none := by kernel_rfl
theorem laidOut : laidOutB Tryd.prog = true := by kernel_rfl
/-- A block with other cells. -/
def relay (cs : Array Value) : Obj → Obj
  | .cells _ t frozen => .cells cs t frozen
  | o => o
theorem cellsByte : Tryd.prog.cellsOf 5 = 1 := by kernel_rfl
/-- A slice of bytes that came in, as its reading gives it. -/
theorem bys_of_ints {W : World} {x : Addr} {len cap : Nat} {zs : List Int} (hl : len ≤ cap) (hz : zs.length = cap)
    (hcell : ∀ i, i < zs.length → W.cell? (x.add i) = some (.int .u8 (zs.getD i 0))) (hw : ∀ n ∈ zs, (Lit.int .u8 n).wf = true) :
    ∃ bs : List Nat, bs.length = len ∧ Bys W W.heap.size (some x) bs := by
  have hr := range_u8 hw
  refine ⟨(zs.take len).map Int.toNat, by simp; omega, ?_, fun hp => ?_⟩
  · intro y hy
    simp only [List.mem_map] at hy
    obtain ⟨z, hz', rfl⟩ := hy
    obtain ⟨j, hj, rfl⟩ := List.getElem_of_mem (List.mem_of_mem_take hz')
    have := hr j
    simp only [List.getElem?_eq_getElem hj, Option.getD_some] at this
    omega
  · simp only [List.length_map, List.length_take] at hp
    obtain ⟨b, off, spot⟩ := x
    have hc := hcell 0 (by omega)
    have hspot : spot = none := by simpa [Addr.add] using World.cell?_spot hc
    subst hspot
    refine ⟨b, off, rfl, ?_, fun i hi => ?_⟩
    · have := lt_of_cell hc
      simpa [Addr.add] using this
    · simp only [List.length_map, List.length_take] at hi
      have hci := hcell i (by omega)
      have e : Addr.add ⟨b, off, none⟩ i = ⟨b, off + i, none⟩ := by
        unfold Addr.add; split <;> simp_all
      rw [e] at hci
      rw [hci]
      have hzi : i < zs.length := by omega
      have := hr i
      simp only [List.getElem?_eq_getElem hzi, Option.getD_some] at this
      have e2 : ((zs.take len).map Int.toNat).getD i 0 = zs[i].toNat := by
        have hil : i < len := by omega
        simp [hil, hzi]
      rw [e2]
      simp only [List.getD_eq_getElem?_getD, List.getElem?_eq_getElem hzi, Option.getD_some]
      rw [Int.toNat_of_nonneg this.1]
end Go.Proofs.YtoeboblkboillaaDoor
