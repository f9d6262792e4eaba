/-
  Own plain lemmas on the box of bytes. No program is named here.
-/
import Derived.Test.YtonoidhlbnbhcaaDoorGfNum
namespace Go.Proofs.YtonoidhlbnbhcaaDoor.Sb
open Gf

/-- A byte turned to the left by t places, t from 1 to 7. -/
def rot8 (x t : Nat) : Nat := (x * 2 ^ t % 256) ||| (x / 2 ^ (8 - t))
/-- The first n turns, put together. -/
def tn (v : Nat) : Nat → Nat
  | 0 => v ^^^ 99
  | n + 1 => tn v n ^^^ rot8 v (n + 1)
/-- An inverse, turned. -/
def tb (v : Nat) : Nat := tn v 4
/-- The box. -/
def B (a : Nat) : Nat := tb (inv a)

theorem rot8_lt (x t : Nat) (hx : x < 256) (_ht : t < 5) : rot8 x t < 256 := by
  refine Nat.or_lt_two_pow (n := 8) (Nat.mod_lt _ (by omega)) ?_
  exact Nat.lt_of_le_of_lt (Nat.div_le_self _ _) hx
theorem tn_lt (v n : Nat) (hv : v < 256) (hn : n < 5) : tn v n < 256 := by
  induction n with
  | zero => exact xor_lt hv (by omega)
  | succ n ih => exact xor_lt (ih (by omega)) (rot8_lt v _ hv hn)
theorem tb_lt (v : Nat) (hv : v < 256) : tb v < 256 := tn_lt v 4 hv (by omega)
theorem B_lt (a : Nat) (ha : a < 256) : B a < 256 := tb_lt _ (inv_lt a ha)

/-- a to 254, by squares. -/
def p254 (a : Nat) : Nat :=
  let a2 := T a a; let a4 := T a2 a2; let a8 := T a4 a4; let a16 := T a8 a8; let a32 := T a16 a16; let a64 := T a32 a32; let a128 := T a64 a64
  T a128 (T a64 (T a32 (T a16 (T a8 (T a4 a2)))))
theorem p254_eq (a : Nat) (ha : a < 256) : p254 a = inv a := by
  have s : ∀ m, T (pw a m) (pw a m) = pw a (m + m) := fun m => (pw_add a m m ha).symm
  have h2 : T a a = pw a 2 := (pw_two a ha).symm
  have j : ∀ m n, T (pw a m) (pw a n) = pw a (m + n) := fun m n => (pw_add a m n ha).symm
  simp only [p254, h2, s, j]
  rfl
theorem B_eq (a : Nat) (ha : a < 256) : B a = tb (p254 a) := by rw [p254_eq a ha]; rfl

/-- The box, as a list. -/
def boxL : List Nat := [99, 124, 119, 123, 242, 107, 111, 197, 48, 1, 103, 43, 254, 215, 171, 118, 202, 130, 201, 125, 250, 89, 71, 240, 173, 212, 162, 175, 156, 164, 114, 192, 183, 253, 147, 38, 54, 63, 247, 204, 52, 165, 229, 241, 113, 216, 49, 21, 4, 199, 35, 195, 24, 150, 5, 154, 7, 18, 128, 226, 235, 39, 178, 117, 9, 131, 44, 26, 27, 110, 90, 160, 82, 59, 214, 179, 41, 227, 47, 132, 83, 209, 0, 237, 32, 252, 177, 91, 106, 203, 190, 57, 74, 76, 88, 207, 208, 239, 170, 251, 67, 77, 51, 133, 69, 249, 2, 127, 80, 60, 159, 168, 81, 163, 64, 143, 146, 157, 56, 245, 188, 182, 218, 33, 16, 255, 243, 210, 205, 12, 19, 236, 95, 151, 68, 23, 196, 167, 126, 61, 100, 93, 25, 115, 96, 129, 79, 220, 34, 42, 144, 136, 70, 238, 184, 20, 222, 94, 11, 219, 224, 50, 58, 10, 73, 6, 36, 92, 194, 211, 172, 98, 145, 149, 228, 121, 231, 200, 55, 109, 141, 213, 78, 169, 108, 86, 244, 234, 101, 122, 174, 8, 186, 120, 37, 46, 28, 166, 180, 198, 232, 221, 116, 31, 75, 189, 139, 138, 112, 62, 181, 102, 72, 3, 246, 14, 97, 53, 87, 185, 134, 193, 29, 158, 225, 248, 152, 17, 105, 217, 142, 148, 155, 30, 135, 233, 206, 85, 40, 223, 140, 161, 137, 13, 191, 230, 66, 104, 65, 153, 45, 15, 176, 84, 187, 22]
theorem boxL_len : boxL.length = 256 := by decide +kernel
theorem boxL_lt (i : Nat) : boxL.getD i 0 < 256 := by
  by_cases h : i < 256
  · have : ∀ i, i < 256 → boxL.getD i 0 < 256 := by decide +kernel
    exact this i h
  · rw [List.getD_eq_getElem?_getD, List.getElem?_eq_none (by rw [boxL_len]; omega)]; decide
theorem boxL_get (a : Nat) (ha : a < 256) : boxL.getD a 0 = B a := by
  have : ∀ a, a < 256 → boxL.getD a 0 = tb (p254 a) := by decide +kernel
  rw [B_eq a ha]; exact this a ha
theorem boxL_nodup : boxL.Nodup := by decide +kernel

theorem B_inj (a b : Nat) (ha : a < 256) (hb : b < 256) (h : B a = B b) : a = b := by
  have : ∀ a, a < 256 → boxL.idxOf (boxL.getD a 0) = a := by decide +kernel
  rw [← boxL_get a ha, ← boxL_get b hb] at h
  rw [← this a ha, ← this b hb, h]
theorem B_ne (a : Nat) (ha : a < 256) : B a ≠ a := by
  have : ∀ a, a < 256 → boxL.getD a 0 ≠ a := by decide +kernel
  rw [← boxL_get a ha]; exact this a ha
theorem B_opp (a : Nat) (ha : a < 256) : B a ≠ 255 - a := by
  have : ∀ a, a < 256 → boxL.getD a 0 ≠ 255 - a := by decide +kernel
  rw [← boxL_get a ha]; exact this a ha
end Go.Proofs.YtonoidhlbnbhcaaDoor.Sb
