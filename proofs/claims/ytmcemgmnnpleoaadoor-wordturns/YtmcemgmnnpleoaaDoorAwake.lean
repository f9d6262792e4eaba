/-
  The contract of the laws' own first look (the chapter's example): it answers true, and leaves what was there. Condition: the table of widths stands in its variable.
-/
import Derived.Test.YtmcemgmnnpleoaaDoorPutGet
import Derived.Test.YtmcemgmnnpleoaaDoorSame
namespace Go.Proofs.YtmcemgmnnpleoaaDoor
open Go.RowKit

theorem bytes258 : bytesOf 258 3 = [0, 1, 2] := by decide

/-- The call answers the bool, and what was there is as it was. -/
def Ret (b : Bool) (w : World) (e : Ending) (w' : World) : Prop := e = .returned (.bool b) ∧ Below w.heap.size w w'

theorem bys012 (w : World) : Bys (w.alloc (.cells #[.int .u8 0, .int .u8 1, .int .u8 2] 5)) (w.heap.size + 1) (some ⟨w.heap.size, 0, none⟩) [0, 1, 2] := by
  refine ⟨by decide, fun _ => ⟨w.heap.size, 0, rfl, by omega, fun i hi => ?_⟩⟩
  rw [Nat.zero_add, World.cell?_alloc_new]
  match i, hi with
  | 0, _ => rfl
  | 1, _ => rfl
  | 2, _ => rfl
  | i + 3, hi => simp at hi; omega

set_option maxHeartbeats 400000 in
theorem awake_any (w : World) (ht : Tab w 0) : Calls Tryd.prog 7 #[] w (Ret true w) := by
  have HP := Lib.hid (put_some 258 3 (by omega) (by omega) (by omega) (by decide) w ht)
  have HT := Lib.hid ht; clear ht
  go_enter Tryd.func7, Tryd.ntmps7
  go_wp2_with fail
  refine HP.out.mono ?_
  rintro e w' ⟨arr, hla, rfl, rfl⟩
  have HLA := Lib.hid hla; clear hla
  have hb1 : Bys ((w.alloc (.cells arr 5)).alloc (.cells #[.int .u8 0, .int .u8 1, .int .u8 2] 5)) (w.heap.size + 1) (some ⟨w.heap.size, 0, none⟩) [0, 1, 2] := by
    have h := HLA.out.bys w
    rw [bytes258] at h
    exact h.below ((Below.refl _ _).alloc (by simp) _)
  have hb2 : Bys ((w.alloc (.cells arr 5)).alloc (.cells #[.int .u8 0, .int .u8 1, .int .u8 2] 5)) (w.heap.size + 2) (some ⟨w.heap.size + 1, 0, none⟩) [0, 1, 2] := by
    have h := bys012 (w.alloc (.cells arr 5))
    simpa using h
  have hs := same_any (some ⟨w.heap.size, 0, none⟩) (some ⟨w.heap.size + 1, 0, none⟩) [0, 1, 2] [0, 1, 2] 3 3 3 3 _ rfl rfl (by omega) _ _ hb1 hb2
  have HS := Lib.hid hs; clear hs hb1 hb2
  go_wp2_with fail
  refine HS.out.mono ?_
  rintro e w' ⟨n, rfl, rfl⟩
  go_wp2
  go_ret
  exact ⟨rfl, below_drewN (((Below.refl _ _).alloc (Nat.le_refl _) _).alloc (by simp) _) n⟩
end Go.Proofs.YtmcemgmnnpleoaaDoor
