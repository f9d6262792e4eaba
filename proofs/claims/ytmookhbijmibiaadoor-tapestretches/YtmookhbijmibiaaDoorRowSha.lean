/-
  What the listed variables hold (a row that lists word.shifts, sha.first and sha.kinds, in this order).
-/
import Derived.Test.YtmookhbijmibiaaDoorRowGen
import Derived.Test.YtmookhbijmibiaaDoorShaSum
import Derived.Stop.LaidErr
namespace Go.Proofs.YtmookhbijmibiaaDoor
open Go.ChangeShapes Go.WideShapes Go.ChangeAt Go.RowKit Sh

/-- The rows' list. -/
def laidSha : List (String × DataW Unit) := [("chatelaine/word.shifts", Rows.laid_chatelaine_word_shifts), ("chatelaine/sha.first", Rows.laid_chatelaine_sha_first), ("chatelaine/sha.kinds", Rows.laid_chatelaine_sha_kinds)]
theorem gTab : Tryd.prog.globalNamed "chatelaine/word.shifts" = some 1 := by kernel_rfl
theorem gTabType : (Tryd.prog.globals[1]?).map (·.type) = some 63 := by kernel_rfl
theorem gFirst : Tryd.prog.globalNamed "chatelaine/sha.first" = some 0 := by kernel_rfl
theorem gFirstType : (Tryd.prog.globals[0]?).map (·.type) = some 48 := by kernel_rfl
theorem gKinds : Tryd.prog.globalNamed "chatelaine/sha.kinds" = some 2 := by kernel_rfl
theorem gKindsType : (Tryd.prog.globals[2]?).map (·.type) = some 65 := by kernel_rfl
theorem cellsTab : Tryd.prog.cellsOf 63 = 8 := by kernel_rfl
theorem cellsUint : Tryd.prog.cellsOf 62 = 1 := by kernel_rfl
theorem cells8 : Tryd.prog.cellsOf 48 = 8 := by kernel_rfl
theorem cells64 : Tryd.prog.cellsOf 65 = 64 := by kernel_rfl
theorem cellsWord : Tryd.prog.cellsOf 38 = 1 := by kernel_rfl

theorem vars_of {W : World} (h : laidMetH Tryd.prog laidSha W) : VarsS W := by
  have h1 : laidMet Tryd.prog laidSha W := h
  have h2 : laidMet Tryd.prog [("chatelaine/sha.first", Rows.laid_chatelaine_sha_first), ("chatelaine/sha.kinds", Rows.laid_chatelaine_sha_kinds)] W := laidMet.tail h1
  have h3 : laidMet Tryd.prog [("chatelaine/sha.kinds", Rows.laid_chatelaine_sha_kinds)] W := laidMet.tail h2
  have t1 : Lib.TabIs Tryd.prog W "chatelaine/word.shifts" .u64 [0, 8, 16, 24, 32, 40, 48, 56] := Lib.tabIs_of_head (rest := [("chatelaine/sha.first", Rows.laid_chatelaine_sha_first), ("chatelaine/sha.kinds", Rows.laid_chatelaine_sha_kinds)]) gTab gTabType Tryd.underlying63 Tryd.underlying62 cellsUint cellsTab h1
  have t2 : Lib.TabIs Tryd.prog W "chatelaine/sha.first" .u32 (H0.l.map fun (z : Nat) => (z : Int)) := Lib.tabIs_of_head (rest := [("chatelaine/sha.kinds", Rows.laid_chatelaine_sha_kinds)]) gFirst gFirstType Tryd.underlying48 Tryd.underlying38 cellsWord cells8 h2
  have t3 : Lib.TabIs Tryd.prog W "chatelaine/sha.kinds" .u32 (K.map fun (z : Nat) => (z : Int)) := Lib.tabIs_of_head (rest := []) gKinds gKindsType Tryd.underlying65 Tryd.underlying38 cellsWord cells64 h3
  refine ⟨⟨fun j hj => ?_, fun j hj => ?_⟩, fun j hj => ?_⟩
  · have := t1.cell gTab
    match j, hj with
    | 0, _ => exact this 0 (by decide)
    | 1, _ => exact this 1 (by decide)
    | 2, _ => exact this 2 (by decide)
    | 3, _ => exact this 3 (by decide)
    | 4, _ => exact this 4 (by decide)
    | 5, _ => exact this 5 (by decide)
    | 6, _ => exact this 6 (by decide)
    | 7, _ => exact this 7 (by decide)
    | j + 8, hj => omega
  · have := t3.cell gKinds j (by rw [List.length_map]; exact hj)
    rw [this]
    simp [hj]
  · have := t2.cell gFirst j (by rw [List.length_map]; exact hj)
    rw [this]
    simp [hj]
end Go.Proofs.YtmookhbijmibiaaDoor
