/-
  The reference's wrapping over lists: what a step makes of A and of each piece. Plain mathematics: no program is named here, no conditions.
-/
import Derived.Test.YtonoidhlbnbhcaaDoorWrNum
namespace Go.Proofs.YtonoidhlbnbhcaaDoor.Wr
open Gf Sb Ae Arr

/-- A block being filled: the first k bytes of A, and of the piece at o. -/
def jk (l : List Nat) (o k : Nat) : List Nat := (List.range 16).map fun i => if i < 8 then (if i < k then l.getD i 0 else 0) else (if i - 8 < k then l.getD (o + (i - 8)) 0 else 0)
theorem length_jk (l : List Nat) (o k : Nat) : (jk l o k).length = 16 := by simp [jk]
theorem jk_get (l : List Nat) (o k i : Nat) (hi : i < 16) : (jk l o k).getD i 0 = if i < 8 then (if i < k then l.getD i 0 else 0) else (if i - 8 < k then l.getD (o + (i - 8)) 0 else 0) := map_get _ 16 i hi
theorem jk_zero (l : List Nat) (o : Nat) : jk l o 0 = zs 16 := by
  refine list_ext (n := 16) (length_jk ..) (length_zs _) fun i hi => ?_
  rw [jk_get _ _ _ _ hi, zs_get]
  simp
theorem jk_all (l : List Nat) (o : Nat) : jk l o 8 = jn l o := by
  refine list_ext (n := 16) (length_jk ..) (length_jn ..) fun i hi => ?_
  rw [jk_get _ _ _ _ hi, jn_get _ _ _ hi]
  by_cases h : i < 8
  · rw [if_pos h, if_pos h, if_pos h]
  · rw [if_neg h, if_neg h, if_pos (by omega)]
theorem jk_succ (l : List Nat) (o k : Nat) (hk : k < 8) : jk l o (k + 1) = ((jk l o k).set k (l.getD k 0)).set (8 + k) (l.getD (o + k) 0) := by
  have h1 : ((jk l o k).set k (l.getD k 0)).length = 16 := by rw [List.length_set, length_jk]
  refine list_ext (n := 16) (length_jk ..) (by rw [List.length_set, h1]) fun i hi => ?_
  rw [Sw.getD_set _ _ _ _ (by rw [h1]; omega), Sw.getD_set _ _ _ _ (by rw [length_jk]; omega), jk_get _ _ _ _ hi, jk_get _ _ _ _ hi]
  by_cases h : i < 8
  · rw [if_pos h, if_pos h, if_neg (show ¬ i = 8 + k by omega)]
    by_cases h2 : i = k
    · subst h2; rw [if_pos (by omega), if_pos rfl]
    · rw [if_neg h2]
      by_cases h3 : i < k
      · rw [if_pos (by omega), if_pos h3]
      · rw [if_neg (by omega), if_neg h3]
  · rw [if_neg h, if_neg h, if_neg (show ¬ i = k by omega)]
    by_cases h2 : i = 8 + k
    · subst h2; rw [if_pos (by omega), if_pos rfl, show 8 + k - 8 = k by omega]
    · rw [if_neg h2]
      by_cases h3 : i - 8 < k
      · rw [if_pos (by omega), if_pos h3]
      · rw [if_neg (by omega), if_neg h3]
theorem pl_at (n j i : Nat) (hi : i < n) : pl n (j * n + i + 1) = 8 * (i + 1) := by
  rw [pl, show j * n + i + 1 - 1 = i + n * j by rw [Nat.mul_comm]; omega, Nat.add_mul_mod_self_left, Nat.mod_eq_of_lt hi]
  omega
/-- What a step leaves, byte by byte. -/
theorem ly_take8 {n : Nat} {l b : List Nat} {o : Nat} (hl : Tx n l) (ho8 : 8 ≤ o) (ho : o + 8 ≤ 8 * (n + 1)) (hb : b.length = 16) : (ly l o b).take 8 = b.take 8 := by
  have h1 := hl.1
  refine list_ext (n := 8) (by rw [List.length_take, length_ly (by omega) hb]; omega) (by rw [List.length_take]; omega) fun i hi => ?_
  rw [show ((ly l o b).take 8).getD i 0 = (ly l o b).getD i 0 by simp [List.getD_eq_getElem?_getD, hi], show (b.take 8).getD i 0 = b.getD i 0 by simp [List.getD_eq_getElem?_getD, hi], ly_get ho8 (by omega) hb, if_neg (by omega), if_pos hi]
theorem ly_piece {n : Nat} {l b : List Nat} {i : Nat} (hl : Tx n l) (hi : i < n) (hb : b.length = 16) (j k : Nat) (hk : k < 8) :
    (ly l (8 * (i + 1)) b).getD (8 * (j + 1) + k) 0 = if j = i then b.getD (8 + k) 0 else l.getD (8 * (j + 1) + k) 0 := by
  have h1 := hl.1
  rw [ly_get (by omega) (by omega) hb]
  by_cases h : j = i
  · subst h; rw [if_pos (by omega), if_pos rfl]; congr 1; omega
  · rw [if_neg (by omega), if_neg (by omega), if_neg h]
/-- What is added to b, and behind it what stays. -/
theorem ct_lo (b : List Nat) (t k : Nat) (hk : k < 8) : (ct b t).getD k 0 = b.getD k 0 ^^^ (bytesOf t 8).getD k 0 := by rw [ct_get _ _ _ (by omega), if_pos hk]
theorem ct_hi (b : List Nat) (t k : Nat) (hk : k < 8) : (ct b t).getD (8 + k) 0 = b.getD (8 + k) 0 := by rw [ct_get _ _ _ (by omega), if_neg (by omega)]
theorem take8_get (b : List Nat) (k : Nat) (hk : k < 8) : (b.take 8).getD k 0 = b.getD k 0 := by simp [List.getD_eq_getElem?_getD, hk]
theorem drop8_get (b : List Nat) (k : Nat) : (b.drop 8).getD k 0 = b.getD (8 + k) 0 := by simp [List.getD_eq_getElem?_getD]
/-- The list up to the next piece. -/
theorem take_piece (l : List Nat) (m : Nat) : l.take (m + 8) = l.take m ++ (l.drop m).take 8 := by rw [List.take_add]
theorem piece_get (l : List Nat) (m k : Nat) (hk : k < 8) : ((l.drop m).take 8).getD k 0 = l.getD (m + k) 0 := by simp [List.getD_eq_getElem?_getD, hk]
end Go.Proofs.YtonoidhlbnbhcaaDoor.Wr
