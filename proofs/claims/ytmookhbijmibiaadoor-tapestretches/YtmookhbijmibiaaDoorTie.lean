/-
  DERIVED. GIVEN WITH THE SEED: THE PROGRAM's TIES (one call each: nine closed facts by the kernel) AND EACH ROW's TIE, after the 31st guide's Derived/Test/Toyas{Tie, Card}.lean. No idea stands in it: it is a product of the set-up. Laid BY PROGRAM, IN A SANDBOX (cutbox-door.mjs). By AI agents, Wed Nov 11 2026. No macro, syntax, notation, axiom, sorry.
-/
import Derived.Test.YtmookhbijmibiaaDoorRows
import Derived.LaidByTextLater
import Derived.SevenTiedAt
import Derived.LaidSub
import Derived.LaidOnce
namespace Go.Proofs.YtmookhbijmibiaaDoor
open Go
set_option maxRecDepth 100000
theorem seatTie1 : Tryd.prog.laidByTextLater [("chatelaine/word.shifts", Rows.laid_chatelaine_word_shifts), ("chatelaine/sha.first", Rows.laid_chatelaine_sha_first), ("chatelaine/sha.kinds", Rows.laid_chatelaine_sha_kinds)] [.data, .data, .data] true :=
  Program.laidByTextLater_by_one 24 8 65 (by kernel_rfl) (by kernel_rfl) (by kernel_rfl) (by kernel_rfl) (by kernel_rfl) (by kernel_rfl) (fun _ _ => by kernel_rfl)
theorem noOwnUnsafe : Tryd.pinned.checked.prog.headLifts.contains "ownunsafe" = false := by kernel_rfl
theorem tie : Tryd.prog.laidByTextLater [("chatelaine/word.shifts", Rows.laid_chatelaine_word_shifts), ("chatelaine/sha.first", Rows.laid_chatelaine_sha_first), ("chatelaine/sha.kinds", Rows.laid_chatelaine_sha_kinds)] [.data, .data, .data] true :=
  Program.laidByTextLater.sub seatTie1 ["chatelaine/word.shifts", "chatelaine/sha.first", "chatelaine/sha.kinds"] (by kernel_rfl) (by kernel_rfl)
theorem tapeStretches_row_tie : Rows.tapeStretchesRow.laidByTextAt .later Tryd.pinned [.data, .data, .data] true :=
  OpenClaim.laidByTextAt_later rfl rfl tie noOwnUnsafe
theorem tapeStretchesUpto_row_tie : Rows.tapeStretchesUptoRow.laidByTextAt .later Tryd.pinned [.data, .data, .data] true :=
  OpenClaim.laidByTextAt_later rfl rfl tie noOwnUnsafe
end Go.Proofs.YtmookhbijmibiaaDoor
