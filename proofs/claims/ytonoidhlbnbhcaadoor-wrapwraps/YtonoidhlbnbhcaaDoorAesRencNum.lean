/-
  The reference's round over numbers is the cipher's. Plain mathematics: no program is named here, no conditions.
-/
import Derived.Test.YtonoidhlbnbhcaaDoorAesRefNum
namespace Go.Proofs.YtonoidhlbnbhcaaDoor.Ae
open Gf Sb
theorem T_three (x : Nat) (hx : x < 256) : T x 3 = D x ^^^ x := by
  rw [show (3 : Nat) = 2 ^^^ 1 from rfl, T_right, T_one x hx, D_eq x hx]
/-- The four of a column, as the reference has them. -/
theorem rmix (t : List Nat) (ht : ∀ i, t.getD i 0 < 256) (c q : Nat) (hq : q = 4 * c) :
    (T (t.getD q 0) 2 ^^^ T (t.getD (q + 1) 0) 3) ^^^ (t.getD (q + 2) 0 ^^^ t.getD (q + 3) 0) = mixAt t q ∧
    (t.getD q 0 ^^^ T (t.getD (q + 1) 0) 2) ^^^ (T (t.getD (q + 2) 0) 3 ^^^ t.getD (q + 3) 0) = mixAt t (q + 1) ∧
    (t.getD q 0 ^^^ t.getD (q + 1) 0) ^^^ (T (t.getD (q + 2) 0) 2 ^^^ T (t.getD (q + 3) 0) 3) = mixAt t (q + 2) ∧
    (T (t.getD q 0) 3 ^^^ t.getD (q + 1) 0) ^^^ (t.getD (q + 2) 0 ^^^ T (t.getD (q + 3) 0) 2) = mixAt t (q + 3) := by
  subst hq
  have m0 := mixAt_col t c 0 (by omega)
  have m1 := mixAt_col t c 1 (by omega)
  have m2 := mixAt_col t c 2 (by omega)
  have m3 := mixAt_col t c 3 (by omega)
  simp only [Nat.add_zero, Nat.zero_add, Nat.reduceAdd, Nat.reduceMod] at m0 m1 m2 m3
  rw [m0, m1, m2, m3]
  have h0 := ht (4 * c)
  have h1 := ht (4 * c + 1)
  have h2 := ht (4 * c + 2)
  have h3 := ht (4 * c + 3)
  rw [T_three _ h0, T_three _ h1, T_three _ h2, T_three _ h3, D_eq _ h0, D_eq _ h1, D_eq _ h2, D_eq _ h3]
  generalize t.getD (4 * c) 0 = a
  generalize t.getD (4 * c + 1) 0 = b
  generalize t.getD (4 * c + 2) 0 = d
  generalize t.getD (4 * c + 3) 0 = e
  refine ⟨?_, ?_, ?_, ?_⟩
  all_goals
    simp only [D_xor]
    simp only [Nat.xor_assoc, xor_left, Nat.xor_comm, Nat.xor_self, Nat.xor_zero, xor_can]
theorem from_1 (i : Nat) (hi : i < 16) : i % 4 + 4 * ((i / 4 + i % 4) % 4) = from' 1 i := by
  have : ∀ i, i < 16 → i % 4 + 4 * ((i / 4 + i % 4) % 4) = from' 1 i := by decide
  exact this i hi
theorem turn_sub_get (x : List Nat) (i : Nat) (hi : i < 16) : (turnL 1 (subL boxL x)).getD i 0 = boxL.getD (x.getD (from' 1 i) 0) 0 := by
  rw [turnL, map_get _ _ _ hi, subL, map_get _ _ _ (from_lt 1 i)]
/-- The reference's bytes are the keys'. -/
theorem allB_ek (ws : List Nat) (n j i : Nat) (hn : 4 * n ≤ 240) (hj : 16 * j + 16 ≤ 4 * n) (hi : i < 16) : (allB ws n).getD (16 * j + i) 0 = (ek (flat ws n) j).getD i 0 := by
  rw [allB_get _ _ _ (by omega)]
  have e : (ek (flat ws n) j).getD i 0 = (flat ws n).getD (16 * j + i) 0 := by simp [ek, hi]
  rw [e, flat, upto_get _ _ _ _ _ (by omega), if_pos (by omega)]
theorem xor_map (s l k : List Nat) (j : Nat) (h : ∀ i, i < 16 → l.getD (16 * j + i) 0 = k.getD i 0) : ((List.range 16).map fun i => s.getD i 0 ^^^ l.getD (16 * j + i) 0) = xorL s k := by
  refine list_ext (n := 16) (by simp) (by simp [xorL]) fun i hi => ?_
  rw [map_get _ _ _ hi, xorL, map_get _ _ _ hi, h i hi]
theorem wb_lt (ws : List Nat) (j : Nat) : wb ws j < 256 := Nat.mod_lt _ (by omega)
theorem allB_lt (ws : List Nat) (n i : Nat) : (allB ws n).getD i 0 < 256 := by
  by_cases h : i < 4 * n
  · rw [allB_get _ _ _ h]; exact wb_lt _ _
  · rw [getD_out _ _ (by rw [length_allB]; omega)]; omega
end Go.Proofs.YtonoidhlbnbhcaaDoor.Ae
