/-
  Own plain lemmas: a block's bits, moved one place up and put together again, are its double. No conditions.
-/
import Derived.Test.YtdjknmnmacppdaaDoorDblAll
namespace Go.Proofs.YtdjknmnmacppdaaDoor
open Gf

/-- The first n bits, the lowest first. -/
def bitl (l : List Nat) (n : Nat) : List Nat := (List.range n).map fun j => l.getD (j / 8) 0 / 2 ^ (j % 8) % 2
theorem length_bitl (l : List Nat) (n : Nat) : (bitl l n).length = n := by simp [bitl]
theorem bitl_succ (l : List Nat) (n : Nat) : bitl l (n + 1) = bitl l n ++ [l.getD (n / 8) 0 / 2 ^ (n % 8) % 2] := by simp [bitl, List.range_succ]
theorem bitl_get (l : List Nat) (n j : Nat) (h : j < n) : (bitl l n).getD j 0 = l.getD (j / 8) 0 / 2 ^ (j % 8) % 2 := by simp [bitl, h]
theorem bitl_at (l : List Nat) (i k : Nat) (hk : k < 8) : bitl l (8 * i + (k + 1)) = bitl l (8 * i + k) ++ [l.getD i 0 / 2 ^ k % 2] := by
  rw [show 8 * i + (k + 1) = (8 * i + k) + 1 by omega, bitl_succ, show (8 * i + k) / 8 = i by omega, show (8 * i + k) % 8 = k by omega]
theorem half (x k : Nat) : x / 2 ^ (k + 1) = x / 2 ^ k / 2 := by rw [Nat.pow_succ, Nat.div_div_eq_div_mul]
/-- One place up. -/
def nx0 (l : List Nat) (j : Nat) : List Nat := 0 :: bitl l j
theorem length_nx0 (l : List Nat) (j : Nat) : (nx0 l j).length = j + 1 := by simp [nx0, length_bitl]
theorem nx0_succ (l : List Nat) (j n : Nat) (h : j < n) : nx0 l (j + 1) = nx0 l j ++ [(bitl l n).getD j 0] := by
  rw [bitl_get l n j h]; simp [nx0, bitl_succ]
theorem nx0_get (l : List Nat) (j : Nat) (h : j < 128) : (nx0 l 127).getD j 0 = if j = 0 then 0 else l.getD ((j - 1) / 8) 0 / 2 ^ ((j - 1) % 8) % 2 := by
  cases j with
  | zero => rfl
  | succ j =>
    have := bitl_get l 127 j (by omega)
    simpa [nx0] using this
/-- The bits 0, 1, 2 and 7 turned. -/
def flip (x : List Nat) : List Nat := (((x.set 0 (1 - x.getD 0 0)).set 1 (1 - x.getD 1 0)).set 2 (1 - x.getD 2 0)).set 7 (1 - x.getD 7 0)
theorem length_flip (x : List Nat) : (flip x).length = x.length := by simp [flip]
theorem flip_get (x : List Nat) (hx : x.length = 128) (j : Nat) : (flip x).getD j 0 = if j = 0 ∨ j = 1 ∨ j = 2 ∨ j = 7 then 1 - x.getD j 0 else x.getD j 0 := by
  unfold flip
  rw [getD_set _ _ _ _ (by simp [hx]), getD_set _ _ _ _ (by simp [hx]), getD_set _ _ _ _ (by simp [hx]), getD_set _ _ _ _ (by omega)]
  by_cases h7 : j = 7
  · subst h7; simp
  · by_cases h2 : j = 2
    · subst h2; simp
    · by_cases h1 : j = 1
      · subst h1; simp
      · by_cases h0 : j = 0
        · subst h0; simp
        · simp [h0, h1, h2, h7]
/-- Bits put together, the highest first. -/
def hn (f : Nat → Nat) : Nat → Nat
  | 0 => 0
  | j + 1 => 2 * hn f j + f (7 - j)
theorem hn_lt (f : Nat → Nat) (hf : ∀ q, f q < 2) (j : Nat) : hn f j < 2 ^ j := by
  induction j with
  | zero => simp [hn]
  | succ j ih => have := hf (7 - j); simp only [hn, Nat.pow_succ]; omega
theorem hn_8 (f : Nat → Nat) : hn f 8 = f 0 + 2 * f 1 + 4 * f 2 + 8 * f 3 + 16 * f 4 + 32 * f 5 + 64 * f 6 + 128 * f 7 := by
  simp only [hn, Nat.reduceSub, Nat.sub_self, Nat.sub_zero]
  omega
theorem nx0_bit (l : List Nat) (j : Nat) (h : j < 128) : (nx0 l 127).getD j 0 < 2 := by
  rw [nx0_get l j h]
  split
  · omega
  · exact Nat.mod_lt _ (by omega)
theorem flip_bit (x : List Nat) (hx : x.length = 128) (hb : ∀ j, j < 128 → x.getD j 0 < 2) (j : Nat) (h : j < 128) : (flip x).getD j 0 < 2 := by
  rw [flip_get x hx]
  have := hb j h
  split <;> omega
/-- What the reference has ahead of its last loops. -/
def nxt (l : List Nat) : List Nat := if l.getD 15 0 / 128 = 1 then flip (nx0 l 127) else nx0 l 127
theorem length_nxt (l : List Nat) : (nxt l).length = 128 := by unfold nxt; split <;> simp [length_flip, length_nx0]
theorem nxt_bit (l : List Nat) (j : Nat) : (nxt l).getD j 0 < 2 := by
  by_cases h : j < 128
  · unfold nxt
    split
    · exact flip_bit _ (length_nx0 l 127) (nx0_bit l) j h
    · exact nx0_bit l j h
  · rw [getD_out _ _ (by rw [length_nxt]; omega)]; omega
theorem nx_sum (l : List Nat) (hb : Bytes l) (i : Nat) (hi : i < 16) : hn (fun q => (nx0 l 127).getD (8 * i + q) 0) 8 = up l i := by
  have g : ∀ q, q < 7 → (nx0 l 127).getD (8 * i + (q + 1)) 0 = l.getD i 0 / 2 ^ q % 2 := fun q hq => by
    rw [nx0_get l _ (by omega), if_neg (by omega), show (8 * i + (q + 1) - 1) / 8 = i by omega, show (8 * i + (q + 1) - 1) % 8 = q by omega]
  have g0 : (nx0 l 127).getD (8 * i + 0) 0 = if i = 0 then 0 else l.getD (i - 1) 0 / 128 := by
    rw [nx0_get l _ (by omega)]
    by_cases h0 : i = 0
    · rw [if_pos (by omega), if_pos h0]
    · rw [if_neg (by omega), if_neg h0, show (8 * i + 0 - 1) / 8 = i - 1 by omega, show (8 * i + 0 - 1) % 8 = 7 by omega]
      have := hb (i - 1)
      omega
  rw [hn_8]
  rw [g0, g 0 (by omega), g 1 (by omega), g 2 (by omega), g 3 (by omega), g 4 (by omega), g 5 (by omega), g 6 (by omega)]
  unfold up
  have hc := hb i
  generalize l.getD i 0 = c at *
  generalize (if i = 0 then 0 else l.getD (i - 1) 0 / 128) = p
  have : ∀ c, c < 256 → 2 * (c / 2 ^ 0 % 2) + 4 * (c / 2 ^ 1 % 2) + 8 * (c / 2 ^ 2 % 2) + 16 * (c / 2 ^ 3 % 2) + 32 * (c / 2 ^ 4 % 2) + 64 * (c / 2 ^ 5 % 2) + 128 * (c / 2 ^ 6 % 2) = 2 * c % 256 := by decide +kernel
  have := this c hc
  omega
theorem flip_sum (l : List Nat) (hb : Bytes l) : hn (fun q => (flip (nx0 l 127)).getD (8 * 0 + q) 0) 8 = up l 0 ^^^ 135 := by
  have hl := length_nx0 l 127
  have g : ∀ q, q < 7 → (nx0 l 127).getD (q + 1) 0 = l.getD 0 0 / 2 ^ q % 2 := fun q hq => by
    rw [nx0_get l _ (by omega), if_neg (by omega), show (q + 1 - 1) / 8 = 0 by omega, show (q + 1 - 1) % 8 = q by omega]
  have g0 : (nx0 l 127).getD 0 0 = 0 := rfl
  rw [hn_8]
  simp only [Nat.mul_zero, Nat.zero_add]
  rw [flip_get _ hl, flip_get _ hl, flip_get _ hl, flip_get _ hl, flip_get _ hl, flip_get _ hl, flip_get _ hl, flip_get _ hl]
  simp only [g0, g 0 (by omega), g 1 (by omega), g 2 (by omega), g 3 (by omega), g 4 (by omega), g 5 (by omega), g 6 (by omega)]
  have hu : up l 0 = 2 * l.getD 0 0 % 256 := by simp [up]
  rw [hu]
  have hc := hb 0
  generalize l.getD 0 0 = c at *
  have : ∀ c, c < 256 → 1 + 2 * (1 - c / 2 ^ 0 % 2) + 4 * (1 - c / 2 ^ 1 % 2) + 8 * (c / 2 ^ 2 % 2) + 16 * (c / 2 ^ 3 % 2) + 32 * (c / 2 ^ 4 % 2) + 64 * (c / 2 ^ 5 % 2) + 128 * (1 - c / 2 ^ 6 % 2) = (2 * c % 256) ^^^ 135 := by decide +kernel
  simpa using this c hc
/-- THE BYTES OF WHAT IS PUT TOGETHER ARE THE DOUBLED BLOCK's. -/
theorem nxt_sum (l : List Nat) (hl : l.length = 16) (hb : Bytes l) (i : Nat) (hi : i < 16) : hn (fun q => (nxt l).getD (8 * i + q) 0) 8 = (dbl l).getD i 0 := by
  rw [dbl_get l hl i hi]
  unfold nxt
  by_cases h : l.getD 15 0 / 128 = 1
  · rw [if_pos h]
    by_cases h0 : i = 0
    · subst h0; rw [if_pos ⟨rfl, h⟩]; exact flip_sum l hb
    · rw [if_neg (fun x => h0 x.1), ← nx_sum l hb i hi]
      have e : ∀ q, (flip (nx0 l 127)).getD (8 * i + q) 0 = (nx0 l 127).getD (8 * i + q) 0 := fun q => by
        rw [flip_get _ (length_nx0 l 127), if_neg (by omega)]
      simp only [e]
  · rw [if_neg h, if_neg (fun x => h x.2), nx_sum l hb i hi]
/-- The first k bytes of m, noughts behind. -/
def pre (m : List Nat) : Nat → List Nat
  | 0 => zeros
  | k + 1 => (pre m k).set k (m.getD k 0)
theorem length_pre (m : List Nat) (k : Nat) : (pre m k).length = 16 := by
  induction k with
  | zero => rfl
  | succ k ih => simp [pre, ih]
theorem pre_get (m : List Nat) (k : Nat) (hk : k ≤ 16) (i : Nat) (h : i < k) : (pre m k).getD i 0 = m.getD i 0 := by
  induction k with
  | zero => omega
  | succ k ih =>
    simp only [pre]
    rw [getD_set _ _ _ _ (by rw [length_pre]; omega)]
    by_cases e : i = k
    · subst e; simp
    · rw [if_neg e, ih (by omega) (by omega)]
theorem pre_all (m : List Nat) (hm : m.length = 16) : pre m 16 = m := by
  apply List.ext_getElem (by rw [length_pre, hm])
  intro i h1 h2
  have := pre_get m 16 (by omega) i (by omega)
  simpa [h1, h2] using this
end Go.Proofs.YtdjknmnmacppdaaDoor
