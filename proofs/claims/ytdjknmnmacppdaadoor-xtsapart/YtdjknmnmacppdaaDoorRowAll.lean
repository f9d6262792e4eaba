/-
  Own lemmas for every row: what came in as a slice of bytes. No conditions.
  What the listed variable holds (a row that lists the table of widths alone).
-/
import Derived.Test.YtdjknmnmacppdaaDoorCards
import Derived.Test.YtdjknmnmacppdaaDoorTie
import Derived.Test.YtdjknmnmacppdaaDoorBytes
import Derived.WalkKit
import Derived.ProofKit
import Derived.OpenShut
import Derived.ChangeOld
import Derived.Below
import Derived.Deep.DeepHandedRow
import Derived.Lib.LaidTab
namespace Go.Proofs.YtdjknmnmacppdaaDoor
open Go.ChangeShapes Go.WideShapes Go.ChangeAt Go.RowKit

theorem own : ownKnob Tryd.prog.godebug = none := by kernel_rfl
theorem laidOut : laidOutB Tryd.prog = true := by kernel_rfl
/-- A block with other cells. -/
def relay (cs : Array Value) : Obj → Obj
  | .cells _ t frozen => .cells cs t frozen
  | o => o
theorem cellsByte : Tryd.prog.cellsOf 5 = 1 := by kernel_rfl
/-- A slice of bytes that came in, as its reading gives it. -/
theorem bys_of_ints {W : World} {x : Addr} {len cap : Nat} {zs : List Int} (hl : len ≤ cap) (hz : zs.length = cap)
    (hcell : ∀ i, i < zs.length → W.cell? (x.add i) = some (.int .u8 (zs.getD i 0))) (hw : ∀ n ∈ zs, (Lit.int .u8 n).wf = true) :
    ∃ bs : List Nat, bs.length = len ∧ Bys W W.heap.size (some x) bs := by
  have hr := range_u8 hw
  refine ⟨(zs.take len).map Int.toNat, by simp; omega, ?_, fun hp => ?_⟩
  · intro y hy
    simp only [List.mem_map] at hy
    obtain ⟨z, hz', rfl⟩ := hy
    obtain ⟨j, hj, rfl⟩ := List.getElem_of_mem (List.mem_of_mem_take hz')
    have := hr j
    simp only [List.getElem?_eq_getElem hj, Option.getD_some] at this
    omega
  · simp only [List.length_map, List.length_take] at hp
    obtain ⟨b, off, spot⟩ := x
    have hc := hcell 0 (by omega)
    have hspot : spot = none := by simpa [Addr.add] using World.cell?_spot hc
    subst hspot
    refine ⟨b, off, rfl, ?_, fun i hi => ?_⟩
    · have := lt_of_cell hc
      simpa [Addr.add] using this
    · simp only [List.length_map, List.length_take] at hi
      have hci := hcell i (by omega)
      have e : Addr.add ⟨b, off, none⟩ i = ⟨b, off + i, none⟩ := by
        unfold Addr.add; split <;> simp_all
      rw [e] at hci
      rw [hci]
      have hzi : i < zs.length := by omega
      have := hr i
      simp only [List.getElem?_eq_getElem hzi, Option.getD_some] at this
      have e2 : ((zs.take len).map Int.toNat).getD i 0 = zs[i].toNat := by
        have hil : i < len := by omega
        simp [hil, hzi]
      rw [e2]
      simp only [List.getD_eq_getElem?_getD, List.getElem?_eq_getElem hzi, Option.getD_some]
      rw [Int.toNat_of_nonneg this.1]
end Go.Proofs.YtdjknmnmacppdaaDoor
namespace Go.Proofs.YtdjknmnmacppdaaDoor
open Go.ChangeShapes Go.WideShapes Go.ChangeAt Go.RowKit

theorem gTab : Tryd.prog.globalNamed "chatelaine/word.shifts" = some 0 := by kernel_rfl
theorem gTabType : (Tryd.prog.globals[0]?).map (·.type) = some 90 := by kernel_rfl
theorem cellsTab : Tryd.prog.cellsOf 90 = 8 := by kernel_rfl
theorem cellsUint : Tryd.prog.cellsOf 78 = 1 := by kernel_rfl
theorem table {W : World} (h : laidMetH Tryd.prog [("chatelaine/word.shifts", Rows.laid_chatelaine_word_shifts)] W) : Lib.TabIs Tryd.prog W "chatelaine/word.shifts" .u64 [0, 8, 16, 24, 32, 40, 48, 56] :=
  Lib.tabIs_of_head (rest := []) gTab gTabType Tryd.underlying90 Tryd.underlying78 cellsUint cellsTab h

theorem tab_of {W : World} (h : laidMetH Tryd.prog [("chatelaine/word.shifts", Rows.laid_chatelaine_word_shifts)] W) : Tab W 0 := by
  intro j hj
  have := (table h).cell gTab
  match j, hj with
  | 0, _ => exact this 0 (by decide)
  | 1, _ => exact this 1 (by decide)
  | 2, _ => exact this 2 (by decide)
  | 3, _ => exact this 3 (by decide)
  | 4, _ => exact this 4 (by decide)
  | 5, _ => exact this 5 (by decide)
  | 6, _ => exact this 6 (by decide)
  | 7, _ => exact this 7 (by decide)
  | j + 8, hj => omega
end Go.Proofs.YtdjknmnmacppdaaDoor
