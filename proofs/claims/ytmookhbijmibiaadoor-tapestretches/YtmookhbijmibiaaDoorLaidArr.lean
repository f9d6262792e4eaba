/-
  What word.Put32 and word.Put64 lay, as arrays are held. No conditions.
-/
import Derived.Test.YtmookhbijmibiaaDoorW32
import Derived.Test.YtmookhbijmibiaaDoorArr
namespace Go.Proofs.YtmookhbijmibiaaDoor
open Go.RowKit Arr
theorem laid_all {x s : Nat} {arr : Array Value} (h : Laid x s s arr) : arr = na .u8 (bytesOf x s) := by
  apply Array.ext_getElem?
  intro i
  by_cases hi : i < s
  · rw [h.2 i hi, na_get _ _ _ (by rw [length_bytesOf]; exact hi)]
  · rw [Array.getElem?_eq_none (by rw [h.1]; omega), Array.getElem?_eq_none (by rw [size_na, length_bytesOf]; omega)]
theorem laid_cells {x : Nat} {arr : Array Value} (h : Laid x 4 4 arr) : arr = na .u8 (bytesOf x 4) := by
  apply Array.ext_getElem?
  intro i
  by_cases hi : i < 4
  · rw [h.2 i hi, na_get _ _ _ (by rw [length_bytesOf]; exact hi)]
  · rw [Array.getElem?_eq_none (by rw [h.1]; omega), Array.getElem?_eq_none (by rw [size_na, length_bytesOf]; omega)]
end Go.Proofs.YtmookhbijmibiaaDoor
