/-
  Numbers and rows for the reference's Box. No conditions.
-/
import Derived.Test.YtonoidhlbnbhcaaDoorSboxRef
import Derived.Test.YtonoidhlbnbhcaaDoorBoxAll
import Derived.Test.YtonoidhlbnbhcaaDoorOwnAll
namespace Go.Proofs.YtonoidhlbnbhcaaDoor
open Go.RowKit Arr Gf Sb

/-- The powers of 3. -/
def pwL : List Nat := [1, 3, 5, 15, 17, 51, 85, 255, 26, 46, 114, 150, 161, 248, 19, 53, 95, 225, 56, 72, 216, 115, 149, 164, 247, 2, 6, 10, 30, 34, 102, 170, 229, 52, 92, 228, 55, 89, 235, 38, 106, 190, 217, 112, 144, 171, 230, 49, 83, 245, 4, 12, 20, 60, 68, 204, 79, 209, 104, 184, 211, 110, 178, 205, 76, 212, 103, 169, 224, 59, 77, 215, 98, 166, 241, 8, 24, 40, 120, 136, 131, 158, 185, 208, 107, 189, 220, 127, 129, 152, 179, 206, 73, 219, 118, 154, 181, 196, 87, 249, 16, 48, 80, 240, 11, 29, 39, 105, 187, 214, 97, 163, 254, 25, 43, 125, 135, 146, 173, 236, 47, 113, 147, 174, 233, 32, 96, 160, 251, 22, 58, 78, 210, 109, 183, 194, 93, 231, 50, 86, 250, 21, 63, 65, 195, 94, 226, 61, 71, 201, 64, 192, 91, 237, 44, 116, 156, 191, 218, 117, 159, 186, 213, 100, 172, 239, 42, 126, 130, 157, 188, 223, 122, 142, 137, 128, 155, 182, 193, 88, 232, 35, 101, 175, 234, 37, 111, 177, 200, 67, 197, 84, 252, 31, 33, 99, 165, 244, 7, 9, 27, 45, 119, 153, 176, 203, 70, 202, 69, 207, 74, 222, 121, 139, 134, 145, 168, 227, 62, 66, 198, 81, 243, 14, 18, 54, 90, 238, 41, 123, 141, 140, 143, 138, 133, 148, 167, 242, 13, 23, 57, 75, 221, 124, 132, 151, 162, 253, 28, 36, 108, 180, 199, 82, 246]
theorem pwL_len : pwL.length = 255 := by decide +kernel
theorem pwL_next (j : Nat) (hj : j < 254) : T (pwL.getD j 0) 3 = pwL.getD (j + 1) 0 := by
  have : ∀ j, j < 254 → T (pwL.getD j 0) 3 = pwL.getD (j + 1) 0 := by decide +kernel
  exact this j hj
theorem pwL_lt (j : Nat) : pwL.getD j 0 < 256 := by
  by_cases h : j < 255
  · have : ∀ j, j < 255 → pwL.getD j 0 < 256 := by decide +kernel
    exact this j h
  · rw [List.getD_eq_getElem?_getD, List.getElem?_eq_none (by rw [pwL_len]; omega)]; decide
theorem pwL_more (j : Nat) (hj : j < 254) : pwL.take (j + 1 + 1) = pwL.take (j + 1) ++ [pwL.getD (j + 1) 0] := Sw.take_more pwL (j + 1) (by rw [pwL_len]; omega)
theorem take_getD (l : List Nat) (j : Nat) : (l.take (j + 1)).getD j 0 = l.getD j 0 := by
  rw [List.getD_eq_getElem?_getD, List.getD_eq_getElem?_getD, List.getElem?_take, if_pos (by omega)]
/-- What n rounds more make of the row. -/
def fillR : Nat → Nat → List Nat → List Nat
  | 0, _, l => l
  | n + 1, k, l => fillR n (k + 1) (l.set (pwL.getD k 0) (tb (pwL.getD ((255 - k) % 255) 0)))
theorem fillR_all : fillR 255 0 box0 = boxL := by decide +kernel
theorem tb_zero : tb 0 = 99 := by decide +kernel
theorem made_zs : (madeCells (Value.int .i64 0).cells (256 * 1)).toList = vals .i64 (zs 256) := by kernel_rfl
theorem one_owns1 (w : World) : (w.alloc (.cells #[.int .i64 1] 3)).ownsRow w.heap.size 3 1 (.slice (some ⟨w.heap.size, 0, none⟩) 1 1) 1 (vals .i64 (pwL.take 1)) :=
  ⟨rfl, .inr ⟨w.heap.size, 1, #[.int .i64 1], rfl, Nat.le_refl _, heap_alloc_new w _, Nat.le_refl _, by unfold maxLen; omega, rfl, rfl⟩⟩
theorem info_int : (Tryd.prog.info? 3).map (fun i => (i.zero, i.size, i.bytes)) = some (some (.int .i64 0), 1, 8) := by kernel_rfl

end Go.Proofs.YtonoidhlbnbhcaaDoor
