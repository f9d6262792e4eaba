/-
  Stretches of a slice of bytes, for a program that has sums (all of it lies in Cut). No conditions.
-/
import Derived.Test.YtmookhbijmibiaaDoorShaAdd
import Derived.Test.YtmookhbijmibiaaDoorCut
