/-
  Own plain lemmas: doubling goes with sums, and no two blocks have one double. No conditions.
-/
import Derived.Test.YtaibegafoncddaaDbl
namespace Go.Proofs.Ytaibegafoncddaa
open Gf

/-- The first k bytes of the sum of two blocks. -/
def xs (a b : List Nat) : Nat → List Nat
  | 0 => zeros
  | k + 1 => (xs a b k).set k (a.getD k 0 ^^^ b.getD k 0)
theorem length_xs (a b : List Nat) (k : Nat) : (xs a b k).length = 16 := by
  induction k with
  | zero => rfl
  | succ k ih => simp [xs, ih]
theorem zeros_get (i : Nat) : zeros.getD i 0 = 0 := by
  by_cases h : i < 16
  · have : ∀ i, i < 16 → zeros.getD i 0 = 0 := by decide +kernel
    exact this i h
  · exact getD_out _ _ (by simp [zeros]; omega)
theorem xs_get (a b : List Nat) (k : Nat) (hk : k ≤ 16) (i : Nat) : (xs a b k).getD i 0 = if i < k then a.getD i 0 ^^^ b.getD i 0 else 0 := by
  induction k with
  | zero => simp only [xs]; rw [zeros_get]; simp
  | succ k ih =>
    simp only [xs]
    rw [getD_set _ _ _ _ (by rw [length_xs]; omega), ih (by omega)]
    by_cases h : i = k
    · subst h; simp
    · rw [if_neg h]
      by_cases h2 : i < k
      · rw [if_pos h2, if_pos (by omega)]
      · rw [if_neg h2, if_neg (by omega)]
theorem xs_bytes (a b : List Nat) (ha : Bytes a) (hb : Bytes b) : Bytes (xs a b 16) := by
  intro i
  rw [xs_get a b 16 (by omega)]
  split
  · exact xor_lt (ha i) (hb i)
  · omega
theorem list_eq {l m : List Nat} (hl : l.length = 16) (hm : m.length = 16) (h : ∀ i, i < 16 → l.getD i 0 = m.getD i 0) : l = m := by
  apply List.ext_getElem (by omega)
  intro i h1 h2
  have := h i (by omega)
  simpa [h1, h2] using this

theorem low_xor (x p : Nat) (hp : p < 2) : 2 * x % 256 + p = (2 * x % 256) ^^^ p := by
  have e2 : 2 * x % 256 = 2 * (x % 128) := by omega
  rw [e2]
  rcases (show p = 0 ∨ p = 1 by omega) with rfl | rfl
  · simp
  · have : ∀ y, y < 128 → 2 * y + 1 = 2 * y ^^^ 1 := by decide +kernel
    exact this _ (Nat.mod_lt _ (by omega))
theorem twice_xor (x y : Nat) : 2 * (x ^^^ y) % 256 = (2 * x % 256) ^^^ (2 * y % 256) := by
  have e1 : 2 * (x ^^^ y) = 2 * x ^^^ 2 * y := by
    have := shl_xor x y 1
    simpa [Nat.mul_comm] using this
  rw [e1]
  exact Nat.xor_mod_two_pow (n := 8)
theorem high_xor (x y : Nat) : (x ^^^ y) / 128 = x / 128 ^^^ y / 128 := by
  have h := Nat.shiftRight_xor_distrib (a := x) (b := y) (i := 7)
  simpa [Nat.shiftRight_eq_div_pow] using h

/-- A doubled block's bytes, by sums. -/
theorem dbl_sum (l : List Nat) (hl : l.length = 16) (hb : Bytes l) (i : Nat) (hi : i < 16) :
    (dbl l).getD i 0 = ((2 * l.getD i 0 % 256) ^^^ (if i = 0 then 0 else l.getD (i - 1) 0 / 128)) ^^^ (if i = 0 then l.getD 15 0 / 128 * 135 else 0) := by
  have hp : (if i = 0 then 0 else l.getD (i - 1) 0 / 128) < 2 := by have := hb (i - 1); split <;> omega
  have h15 := hb 15
  rw [dbl_get l hl i hi, ← low_xor _ _ hp]
  by_cases h0 : i = 0
  · subst h0
    have u0 : up l 0 = 2 * l.getD 0 0 % 256 := by simp [up]
    rw [u0]
    rcases (show l.getD 15 0 / 128 = 0 ∨ l.getD 15 0 / 128 = 1 by omega) with h | h
    · rw [h, if_neg (fun x => absurd x.2 (by omega))]; simp
    · rw [h, if_pos ⟨rfl, rfl⟩]; simp
  · simp [h0, up]

/-- DOUBLING GOES WITH SUMS. -/
theorem dbl_xor (a b : List Nat) (ha : a.length = 16) (hb : b.length = 16) (ba : Bytes a) (bb : Bytes b) : dbl (xs a b 16) = xs (dbl a) (dbl b) 16 := by
  refine list_eq (length_dbl _ (length_xs a b 16)) (length_xs _ _ 16) (fun i hi => ?_)
  have g : ∀ j, j < 16 → (xs a b 16).getD j 0 = a.getD j 0 ^^^ b.getD j 0 := fun j hj => by rw [xs_get a b 16 (by omega), if_pos hj]
  have a15 := ba 15
  have b15 := bb 15
  rw [dbl_sum _ (length_xs a b 16) (xs_bytes a b ba bb) i hi, xs_get (dbl a) (dbl b) 16 (by omega), if_pos hi, dbl_sum a ha ba i hi, dbl_sum b hb bb i hi, g i hi, twice_xor]
  by_cases h0 : i = 0
  · subst h0
    simp only [if_true]
    rw [g 15 (by omega), high_xor, bit_mul _ _ _ (by omega) (by omega)]
    simp only [Nat.xor_zero]
    rw [xor4]
  · simp only [h0, if_false]
    rw [g (i - 1) (by omega), high_xor]
    simp only [Nat.xor_zero]
    rw [xor4]

theorem odd_xor (x : Nat) : (x ^^^ 135) % 2 = 1 - x % 2 := by
  rw [xor_mod2]
  rcases Nat.mod_two_eq_zero_or_one x with h | h <;> simp [h]
theorem xor_cancel {x y : Nat} (h : x ^^^ 135 = y ^^^ 135) : x = y := by
  have : (x ^^^ 135) ^^^ 135 = (y ^^^ 135) ^^^ 135 := by rw [h]
  simpa [Nat.xor_assoc] using this

/-- NO TWO BLOCKS HAVE ONE DOUBLE. -/
theorem dbl_inj (a b : List Nat) (ha : a.length = 16) (hb : b.length = 16) (ba : Bytes a) (bb : Bytes b) (h : dbl a = dbl b) : a = b := by
  have g : ∀ i, i < 16 → (dbl a).getD i 0 = (dbl b).getD i 0 := fun i _ => by rw [h]
  have up_ : ∀ i, 0 < i → i < 16 → a.getD i 0 % 128 = b.getD i 0 % 128 ∧ a.getD (i - 1) 0 / 128 = b.getD (i - 1) 0 / 128 := by
    intro i h0 hi
    have e := g i hi
    rw [dbl_get a ha i hi, dbl_get b hb i hi, if_neg (by omega), if_neg (by omega)] at e
    unfold up at e
    rw [if_neg (by omega), if_neg (by omega)] at e
    have := ba (i - 1)
    have := bb (i - 1)
    omega
  have e0 : a.getD 0 0 % 128 = b.getD 0 0 % 128 ∧ a.getD 15 0 / 128 = b.getD 15 0 / 128 := by
    have e := g 0 (by omega)
    have a15 := ba 15
    have b15 := bb 15
    rw [dbl_get a ha 0 (by omega), dbl_get b hb 0 (by omega)] at e
    have ua : up a 0 = 2 * a.getD 0 0 % 256 := by simp [up]
    have ub : up b 0 = 2 * b.getD 0 0 % 256 := by simp [up]
    rw [ua, ub] at e
    have pa := odd_xor (2 * a.getD 0 0 % 256)
    have pb := odd_xor (2 * b.getD 0 0 % 256)
    by_cases h1 : a.getD 15 0 / 128 = 1
    · by_cases h2 : b.getD 15 0 / 128 = 1
      · rw [if_pos ⟨rfl, h1⟩, if_pos ⟨rfl, h2⟩] at e
        have := xor_cancel e
        omega
      · rw [if_pos ⟨rfl, h1⟩, if_neg (fun x => h2 x.2)] at e
        omega
    · by_cases h2 : b.getD 15 0 / 128 = 1
      · rw [if_neg (fun x => h1 x.2), if_pos ⟨rfl, h2⟩] at e
        omega
      · rw [if_neg (fun x => h1 x.2), if_neg (fun x => h2 x.2)] at e
        omega
  refine list_eq ha hb (fun i hi => ?_)
  have lowi : a.getD i 0 % 128 = b.getD i 0 % 128 := by
    by_cases h0 : i = 0
    · subst h0; exact e0.1
    · exact (up_ i (by omega) hi).1
  have highi : a.getD i 0 / 128 = b.getD i 0 / 128 := by
    by_cases h0 : i = 15
    · subst h0; exact e0.2
    · have := (up_ (i + 1) (by omega) (by omega)).2
      simpa using this
  omega
theorem dbl_eq_iff (a b : List Nat) (ha : a.length = 16) (hb : b.length = 16) (ba : Bytes a) (bb : Bytes b) : decide (a = b) = decide (dbl a = dbl b) := by
  rw [Bool.eq_iff_iff]
  simp only [decide_eq_true_eq]
  exact ⟨fun h => by rw [h], dbl_inj a b ha hb ba bb⟩
end Go.Proofs.Ytaibegafoncddaa
