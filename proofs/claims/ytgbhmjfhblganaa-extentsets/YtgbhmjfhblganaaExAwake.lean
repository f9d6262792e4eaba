/-
  The contract of the laws' awake. No conditions.
-/
import Derived.Test.YtgbhmjfhblganaaExJoin
import Derived.Test.YtgbhmjfhblganaaExSame
namespace Go.Proofs.Ytgbhmjfhblganaa
open Go.RowKit Arr Ex

theorem five {l : List (Int × Int)} (h1 : right l = true) (h2 : ∀ u, Mem u l ↔ Mem u [(0, 3)] ∨ Mem u [(3, 2)]) : l = [(0, 5)] := by
  refine right_ext' h1 (by decide) fun u => ?_
  rw [h2]
  simp only [mem_cons, mem_nil, or_false]
  show (0 ≤ u ∧ u < 0 + 3) ∨ (3 ≤ u ∧ u < 3 + 2) ↔ 0 ≤ u ∧ u < 0 + 5
  omega
set_option maxHeartbeats 1000000 in
theorem awake_any (w : World) : Calls Try.prog 6 #[] w (Bel (.bool true) w) := by
  have hA := below_alloc w (.cells #[.int .i64 0, .int .i64 3] 42)
  have x0 := exts_lit w (0, 3) (by unfold I64; decide)
  generalize hw1 : w.alloc (.cells #[.int .i64 0, .int .i64 3] 42) = w1 at *
  have s1 : w1.heap.size = w.heap.size + 1 := by rw [← hw1]; simp
  have HW1 := Lib.hid hw1
  have x1 := exts_lit w1 (3, 2) (by unfold I64; decide)
  have hB := below_alloc w1 (.cells #[.int .i64 3, .int .i64 2] 42)
  have C := Lib.hid (join_any (w1.alloc (.cells #[.int .i64 3, .int .i64 2] 42)) (some ⟨w.heap.size, 0, none⟩) (some ⟨w1.heap.size, 0, none⟩) 1 1 1 1 [(0, 3)] [(3, 2)] rfl rfl (by omega) (by omega) (fun h => by cases h) (fun h => by cases h)
    ((x0.below (hB.mono (by omega))).more (by simp; omega)) (x1.more (by simp)))
  have HB := Lib.hid (hA.trans (hB.mono hA.size))
  clear hA hB x0 x1
  go_enter Try.func6, Try.ntmps6
  rw [s1] at C
  go_wp2_with fail
  refine C.out.mono ?_
  rintro e w3 ⟨v, l, rfl, ho, hb, hj, _, _⟩
  have ej : joins [(0, 3)] [(3, 2)] = true := by decide
  obtain ⟨hr, hm, _⟩ := hj ej
  obtain rfl := five hr hm
  rw [ej]
  obtain ⟨A, c, rfl, _, _, _, hx⟩ := ho.shape
  have HX := Lib.hid (hx (by intro x hx; simp at hx; subst hx; unfold I64; decide))
  have HB3 := Lib.hid (HB.out.trans (hb.mono HB.out.size))
  have x5 := exts_lit w3 (0, 5) (by unfold I64; decide)
  have hb5 := below_alloc w3 (.cells #[.int .i64 0, .int .i64 5] 42)
  have C5 := Lib.hid (same_any (w3.alloc (.cells #[.int .i64 0, .int .i64 5] 42)) A (some ⟨w3.heap.size, 0, none⟩) 1 c 1 1 [(0, 5)] [(0, 5)] rfl rfl (by omega) _ _ (HX.out.below hb5) x5)
  have HB5 := Lib.hid (HB3.out.trans (hb5.mono HB3.out.size))
  rw [show decide ([((0 : Int), (5 : Int))] = [(0, 5)]) = true from by simp] at C5
  clear ho hb hj hr hm hx x5 hb5 C HW1
  go_wp2_with fail
  refine C5.out.mono ?_
  rintro e w6 ⟨rfl, q, rfl⟩
  go_wp2
  go_ret
  exact ⟨rfl, below_drewN HB5.out q⟩
end Go.Proofs.Ytgbhmjfhblganaa
