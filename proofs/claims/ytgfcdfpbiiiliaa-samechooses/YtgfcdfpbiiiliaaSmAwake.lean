/-
  The contract of the laws' own first look (the chapter's example): it answers true, and leaves what was there. No conditions.
-/
import Derived.Test.YtgfcdfpbiiiliaaSmFns
namespace Go.Proofs.Ytgfcdfpbiiiliaa
open Go.RowKit Sm

/-- The call answers true, and what was there is as it was. -/
def Tru (w : World) (e : Ending) (w' : World) : Prop := e = .returned (.bool true) ∧ Below w.heap.size w w'

theorem bys_two (w : World) (x y : Nat) (hx : x < 256) (hy : y < 256) : Bys (w.alloc (.cells #[.int .u8 (x : Int), .int .u8 (y : Int)] 5)) (w.heap.size + 1) (some ⟨w.heap.size, 0, none⟩) [x, y] := by
  refine ⟨by simp [hx, hy], fun _ => ⟨w.heap.size, 0, rfl, by omega, fun i hi => ?_⟩⟩
  rw [Nat.zero_add, World.cell?_alloc_new]
  match i, hi with
  | 0, _ => rfl
  | 1, _ => rfl
  | i + 2, hi => simp at hi; omega

set_option maxHeartbeats 400000 in
theorem awake_any (w : World) : Calls Try.prog 6 #[] w (Tru w) := by
  have b1 : Bys ((w.alloc (.cells #[.int .u8 1, .int .u8 2] 5)).alloc (.cells #[.int .u8 1, .int .u8 3] 5)) (w.heap.size + 1) (some ⟨w.heap.size, 0, none⟩) [1, 2] :=
    (bys_two w 1 2 (by omega) (by omega)).below ((Below.refl _ _).alloc (by simp) _)
  have b2 : Bys ((w.alloc (.cells #[.int .u8 1, .int .u8 2] 5)).alloc (.cells #[.int .u8 1, .int .u8 3] 5)) (w.heap.size + 2) (some ⟨w.heap.size + 1, 0, none⟩) [1, 3] := by
    have h := bys_two (w.alloc (.cells #[.int .u8 1, .int .u8 2] 5)) 1 3 (by omega) (by omega)
    simpa using h
  have HS := Lib.hid (less_loop (some ⟨w.heap.size, 0, none⟩) (some ⟨w.heap.size + 1, 0, none⟩) [1, 2] [1, 3] 2 2 2 _ rfl rfl (by omega) _ _ b1 b2)
  have HB := Lib.hid (fun m => bytes_any (some ⟨w.heap.size, 0, none⟩) (some ⟨w.heap.size + 1, 0, none⟩) [1, 2] [1, 3] 2 2 2 2 _ rfl rfl (by omega) _ _ (b1.drewN m) (b2.drewN m))
  have HW := Lib.hid (fun m => below_drewN (((Below.refl w.heap.size w).alloc (Nat.le_refl _) (.cells #[.int .u8 1, .int .u8 2] 5)).alloc (by simp) (.cells #[.int .u8 1, .int .u8 3] 5)) m)
  clear b1 b2
  go_enter Try.func6, Try.ntmps6
  go_wp2_with fail
  refine HS.out.mono ?_
  rintro e w' ⟨m, rfl, rfl⟩
  go_wp2_with fail
  refine (HB.out m).mono ?_
  rintro e w' ⟨rfl, rfl⟩
  go_wp2
  go_ret
  exact ⟨rfl, HW.out m⟩
end Go.Proofs.Ytgfcdfpbiiiliaa
