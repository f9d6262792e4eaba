/-
  What Fuse, Overwrite and Image answer of a disk that is none. No conditions.
-/
import Derived.Test.YtfjaiolgbcindaaDkFns
namespace Go.Proofs.Ytfjaiolgbcindaa
open Go.RowKit Arr Dsk
theorem fuse_nil (w : World) (v u : Value) : Calls Try.prog 17 #[.pointer none, v, u] w fun en w' => en = .returned (.tuple #[]) ∧ w = w' := by
  have C := Lib.hid (none_nil w)
  go_enter Try.func17, Try.ntmps17
  go_wp2_with fail
  refine C.out.mono ?_
  rintro en w' ⟨rfl, rfl⟩
  go_wp2
  (try simp only [Exit.inBlock, Exit.then])
  refine bodyPost_ret (results_none rfl _ _ _) rfl ?_
  exact ⟨rfl, rfl⟩
theorem over_nil (w : World) (i : Int) (u : Value) : Calls Try.prog 22 #[.pointer none, .int .i64 i, u] w fun en w' => en = .returned (.int .i64 1) ∧ Below w.heap.size w w' := by
  have C := Lib.hid (none_nil (w.alloc (.cells #[.int .i64 i] 3)))
  have HB := Lib.hid (below_alloc w (.cells #[.int .i64 i] 3))
  go_enter Try.func22, Try.ntmps22
  go_wp2_with fail
  refine C.out.mono ?_
  rintro en w' ⟨rfl, rfl⟩
  go_wp2
  go_ret
  exact ⟨rfl, HB.out⟩
theorem image_nil (w : World) : Calls Try.prog 15 #[.pointer none] w fun en w' => en = .returned (.slice none 0 0) ∧ w = w' := by
  have C := Lib.hid (none_nil w)
  go_enter Try.func15, Try.ntmps15
  go_wp2_with fail
  refine C.out.mono ?_
  rintro en w' ⟨rfl, rfl⟩
  go_wp2
  go_ret
  exact ⟨rfl, rfl⟩
end Go.Proofs.Ytfjaiolgbcindaa
