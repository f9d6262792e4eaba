/-
  The words of a key, over numbers. Plain mathematics: no program is named here, no conditions.
-/
import Derived.Test.YtdjknmnmacppdaaDoorNumAll
import Derived.Test.YtdjknmnmacppdaaDoorWordAll
namespace Go.Proofs.YtdjknmnmacppdaaDoor.Ae
open Gf Sb

/-- The lowest k bytes of a word, each by the box. -/
def subLow (x : Nat) : Nat → Nat
  | 0 => 0
  | k + 1 => subLow x k ||| (boxL.getD (x / 2 ^ (8 * k) % 256) 0 * 2 ^ (8 * k))
/-- A word, each byte by the box. -/
def subW (x : Nat) : Nat := subLow x 4
theorem part_lt (c k : Nat) (hc : c < 256) : c * 2 ^ (8 * k) < 2 ^ (8 * (k + 1)) := by
  have : 2 ^ (8 * (k + 1)) = 256 * 2 ^ (8 * k) := by rw [show 8 * (k + 1) = 8 + 8 * k by omega, Nat.pow_add]
  rw [this]
  exact Nat.mul_lt_mul_of_pos_right hc (Nat.two_pow_pos _)
theorem subLow_lt (x k : Nat) : subLow x k < 2 ^ (8 * k) := by
  induction k with
  | zero => simp [subLow]
  | succ k ih =>
    rw [subLow]
    refine Nat.or_lt_two_pow (Nat.lt_of_lt_of_le ih (Nat.pow_le_pow_right (by omega) (by omega))) (part_lt _ k (boxL_lt _))
theorem subLow_add (x k : Nat) : subLow x (k + 1) = subLow x k + boxL.getD (x / 2 ^ (8 * k) % 256) 0 * 2 ^ (8 * k) := by
  rw [subLow, Nat.or_comm, Nat.mul_comm, ← Nat.two_pow_add_eq_or_of_lt (subLow_lt x k), Nat.add_comm]
theorem subW_lt (x : Nat) : subW x < 4294967296 := subLow_lt x 4
/-- What word i is put together with, k words being the key's and last word i - 1. -/
def nxt (k i last : Nat) : Nat :=
  if i % k = 0 then subW (rot last 24) ^^^ pw 2 (i / k - 1) * 16777216 else if k = 8 ∧ i % 8 = 4 then subW last else last
theorem xor32 {a b : Nat} (ha : a < 4294967296) (hb : b < 4294967296) : a ^^^ b < 4294967296 := Nat.xor_lt_two_pow (n := 32) ha hb
theorem nxt_lt (k i last : Nat) (h : last < 4294967296) : nxt k i last < 4294967296 := by
  unfold nxt
  split
  · have := pw_lt 2 (i / k - 1) (by omega)
    exact xor32 (subW_lt _) (by omega)
  · split
    · exact subW_lt _
    · exact h
/-- m words more, from word i on. -/
def fw (k : Nat) : Nat → Nat → List Nat → List Nat
  | 0, _, l => l
  | m + 1, i, l => fw k m (i + 1) (l.set i (l.getD (i - k) 0 ^^^ nxt k i (l.getD (i - 1) 0)))
/-- All are words. -/
def Ws (l : List Nat) : Prop := ∀ i, l.getD i 0 < 4294967296
theorem set_get (l : List Nat) (k c i : Nat) : (l.set k c).getD i 0 = if i = k ∧ k < l.length then c else l.getD i 0 := by
  by_cases hk : k < l.length
  · rw [Sw.getD_set _ _ _ _ hk]; simp [hk]
  · rw [List.set_eq_of_length_le (by omega)]; simp [hk]
theorem ws_set {l : List Nat} (h : Ws l) (k c : Nat) (hc : c < 4294967296) : Ws (l.set k c) := by
  intro i
  rw [set_get]
  split
  · exact hc
  · exact h i
theorem ws_step {k i : Nat} {l : List Nat} (h : Ws l) : Ws (l.set i (l.getD (i - k) 0 ^^^ nxt k i (l.getD (i - 1) 0))) := ws_set h _ _ (xor32 (h _) (nxt_lt _ _ _ (h _)))
theorem length_fw (k : Nat) : ∀ (m i : Nat) (l : List Nat), (fw k m i l).length = l.length
  | 0, _, _ => rfl
  | m + 1, i, l => by rw [fw, length_fw k m]; simp
theorem ws_fw (k : Nat) : ∀ (m i : Nat) (l : List Nat), Ws l → Ws (fw k m i l)
  | 0, _, _, h => h
  | m + 1, i, _, h => by rw [fw]; exact ws_fw k m _ _ (ws_step h)
/-- Word i of the key's own. -/
def kw (bs : List Nat) (i : Nat) : Nat := num ((bs.drop (4 * i)).take 4)
/-- The words of a key of k words. -/
def words (bs : List Nat) (k : Nat) : List Nat := fw k (4 * (k + 7) - k) k (upto (kw bs) (fun _ => 0) (4 * (k + 7)) k)
theorem length_words (bs : List Nat) (k : Nat) : (words bs k).length = 4 * (k + 7) := by rw [words, length_fw, length_upto]
theorem kw_lt {bs : List Nat} (hb : ∀ x, x ∈ bs → x < 256) (i : Nat) : kw bs i < 4294967296 := by
  have h1 := num_lt ((bs.drop (4 * i)).take 4) (fun x hx => hb x (List.mem_of_mem_drop (List.mem_of_mem_take hx)))
  have h2 : 256 ^ ((bs.drop (4 * i)).take 4).length ≤ 256 ^ 4 := Nat.pow_le_pow_right (by omega) (by simp; omega)
  have : (256 : Nat) ^ 4 = 4294967296 := by decide
  unfold kw
  omega
theorem ws_key {bs : List Nat} (hb : ∀ x, x ∈ bs → x < 256) (n k : Nat) : Ws (upto (kw bs) (fun _ => 0) n k) := by
  intro i
  by_cases hi : i < n
  · rw [upto_get _ _ _ _ _ hi]
    split
    · exact kw_lt hb i
    · omega
  · rw [getD_out _ _ (by rw [length_upto]; omega)]; omega
theorem ws_words {bs : List Nat} (hb : ∀ x, x ∈ bs → x < 256) (k : Nat) : Ws (words bs k) := ws_fw _ _ _ _ (ws_key hb _ _)
/-- Byte j of words one behind the other. -/
def wb (ws : List Nat) (j : Nat) : Nat := ws.getD (j / 4) 0 / 256 ^ (3 - j % 4) % 256
/-- The first words' bytes, and noughts behind. -/
def flat (ws : List Nat) (i : Nat) : List Nat := upto (wb ws) (fun _ => 0) 240 (4 * i)
theorem length_flat (ws : List Nat) (i : Nat) : (flat ws i).length = 240 := length_upto ..
theorem flat_lt (ws : List Nat) (i j : Nat) : (flat ws i).getD j 0 < 256 := by
  by_cases hj : j < 240
  · rw [flat, upto_get _ _ _ _ _ hj]
    split
    · exact Nat.mod_lt _ (by omega)
    · omega
  · rw [getD_out _ _ (by rw [length_flat]; omega)]; omega
theorem flat_zero (ws : List Nat) : flat ws 0 = List.replicate 240 0 := upto_noughts _ _
/-- The keys of a cipher. -/
def keysOf (bs : List Nat) (k : Nat) : List Nat := flat (words bs k) (4 * (k + 7))
theorem keys_ok (bs : List Nat) (k r : Nat) (hr : r ≤ 14) : Keys r (keysOf bs k) := fun j hj => st_ek (flat_lt _ _) j (by have := length_flat (words bs k) (4 * (k + 7)); omega)
end Go.Proofs.YtdjknmnmacppdaaDoor.Ae
