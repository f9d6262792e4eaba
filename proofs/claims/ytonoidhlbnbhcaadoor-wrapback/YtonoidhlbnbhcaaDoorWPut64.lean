/-
  The contract of word.Put64, for seats with W32 and without sha. Condition: the table of widths stands in its variable.
-/
import Derived.Test.YtonoidhlbnbhcaaDoorW32
namespace Go.Proofs.YtonoidhlbnbhcaaDoor
open Go.RowKit

theorem put64_any (x : Nat) (w : World) (ht : Tab w 0) : Calls Tryd.prog 15 #[.int .u64 (x : Int)] w (Spread x 8 w) := by
  have HS := Lib.hid (spread_any x 8 (by omega) (by omega) w ht)
  clear ht
  go_enter Tryd.func15, Tryd.ntmps15
  go_wp2_with fail
  refine HS.out.mono ?_
  rintro e w' ⟨arr, hla, rfl, rfl⟩
  have HLA := Lib.hid hla
  clear hla
  go_wp2
  go_ret
  exact ⟨arr, HLA.out, rfl, rfl⟩
end Go.Proofs.YtonoidhlbnbhcaaDoor
