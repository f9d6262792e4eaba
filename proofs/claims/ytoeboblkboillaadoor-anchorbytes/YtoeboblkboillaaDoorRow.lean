/-
  What the listed variable holds (a row that lists the table of widths alone).
-/
import Derived.Test.YtoeboblkboillaaDoorRowGen
namespace Go.Proofs.YtoeboblkboillaaDoor
open Go.ChangeShapes Go.WideShapes Go.ChangeAt Go.RowKit

theorem gTab : Tryd.prog.globalNamed "chatelaine/word.shifts" = some 0 := by kernel_rfl
theorem gTabType : (Tryd.prog.globals[0]?).map (·.type) = some 75 := by kernel_rfl
theorem cellsTab : Tryd.prog.cellsOf 75 = 8 := by kernel_rfl
theorem cellsUint : Tryd.prog.cellsOf 74 = 1 := by kernel_rfl
theorem table {W : World} (h : laidMetH Tryd.prog [("chatelaine/word.shifts", Rows.laid_chatelaine_word_shifts)] W) : Lib.TabIs Tryd.prog W "chatelaine/word.shifts" .u64 [0, 8, 16, 24, 32, 40, 48, 56] :=
  Lib.tabIs_of_head (rest := []) gTab gTabType Tryd.underlying75 Tryd.underlying74 cellsUint cellsTab h

theorem tab_of {W : World} (h : laidMetH Tryd.prog [("chatelaine/word.shifts", Rows.laid_chatelaine_word_shifts)] W) : Tab W 0 := by
  intro j hj
  have := (table h).cell gTab
  match j, hj with
  | 0, _ => exact this 0 (by decide)
  | 1, _ => exact this 1 (by decide)
  | 2, _ => exact this 2 (by decide)
  | 3, _ => exact this 3 (by decide)
  | 4, _ => exact this 4 (by decide)
  | 5, _ => exact this 5 (by decide)
  | 6, _ => exact this 6 (by decide)
  | 7, _ => exact this 7 (by decide)
  | j + 8, hj => omega
end Go.Proofs.YtoeboblkboillaaDoor
