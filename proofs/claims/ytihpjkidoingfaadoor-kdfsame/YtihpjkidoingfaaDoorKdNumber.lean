/-
  Contract of kdf.Number: a number's eight bytes. Conditions: the table of widths stands in its variable.
-/
import Derived.Test.YtihpjkidoingfaaDoorWPut
namespace Go.Proofs.YtihpjkidoingfaaDoor
open Go.RowKit

/-- What Number leaves where there is one: a new block. -/
def NumSome (n : Nat) (w : World) (e : Ending) (w' : World) : Prop :=
  ∃ arr, Laid n 8 8 arr ∧ e = .returned (.slice (some ⟨w.heap.size, 0, none⟩) 8 8) ∧ w' = w.alloc (.cells arr 5)
theorem number_any (n : Nat) (hn : n ≤ 4611686018427387904) (w : World) (ht : Tab w 0) :
    Calls Tryd.prog 12 #[.int .i64 (n : Int)] w (NumSome n w) := by
  have h8 : n < 256 ^ 8 := by
    have : (256 : Nat) ^ 8 = 18446744073709551616 := by decide
    omega
  have H := Lib.hid (put_some n 8 (by omega) (by omega) hn h8 w ht)
  clear h8
  clear ht
  go_enter Tryd.func12, Tryd.ntmps12
  go_wp2_with fail
  refine H.out.mono ?_
  rintro e w' ⟨arr, hla, rfl, rfl⟩
  have HLA := Lib.hid hla; clear hla
  go_wp2
  go_ret
  exact ⟨arr, HLA.out, rfl, rfl⟩
theorem number_none (n : Int) (hn : n < 0 ∨ 4611686018427387904 < n) (w : World) (ht : Tab w 0) :
    Calls Tryd.prog 12 #[.int .i64 n] w (fun e w' => e = .returned (.slice none 0 0) ∧ w = w') := by
  have H := Lib.hid (put_misfit n 8 (by omega) (by omega) (by unfold fitsB; exact decide_eq_false (fun h => by omega)) w ht)
  clear ht
  go_enter Tryd.func12, Tryd.ntmps12
  go_wp2_with fail
  refine H.out.mono ?_
  rintro e w' ⟨rfl, rfl⟩
  go_wp2
  go_ret
  exact ⟨rfl, rfl⟩
end Go.Proofs.YtihpjkidoingfaaDoor
