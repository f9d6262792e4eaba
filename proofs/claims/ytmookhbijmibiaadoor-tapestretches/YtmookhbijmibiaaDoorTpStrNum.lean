/-
  Own plain lemmas: a seed's bytes, sum behind sum. No program is named here.
-/
import Derived.Test.YtmookhbijmibiaaDoorShaNum
import Derived.Test.YtmookhbijmibiaaDoorNum
import Derived.Test.YtmookhbijmibiaaDoorArrMore
namespace Go.Proofs.YtmookhbijmibiaaDoor.Tps
open Go.RowKit Arr Sh

/-- The i-th sum. -/
def blk (seed : List Nat) (i : Nat) : List Nat := Sh.sum (seed ++ bytesOf i 8)
theorem length_blk (seed : List Nat) (i : Nat) : (blk seed i).length = 32 := length_sum _
/-- The first k sums, one behind the other. -/
def strs (seed : List Nat) : Nat → List Nat
  | 0 => []
  | k + 1 => strs seed k ++ blk seed k
theorem length_strs (seed : List Nat) (k : Nat) : (strs seed k).length = 32 * k := by
  induction k with
  | zero => rfl
  | succ k ih => rw [strs, List.length_append, ih, length_blk]; omega
theorem strs_add (seed : List Nat) (k j : Nat) : ∃ r, strs seed (k + j) = strs seed k ++ r := by
  induction j with
  | zero => exact ⟨[], by simp⟩
  | succ j ih =>
    obtain ⟨r, hr⟩ := ih
    exact ⟨r ++ blk seed (k + j), by rw [← Nat.add_assoc, strs, hr, List.append_assoc]⟩
/-- The first n bytes. -/
def str (seed : List Nat) (n : Nat) : List Nat := (strs seed n).take n
theorem length_str (seed : List Nat) (n : Nat) : (str seed n).length = n := by rw [str, List.length_take, length_strs]; omega
theorem take_strs (seed : List Nat) (k n : Nat) (h : n ≤ 32 * k) : (strs seed k).take n = str seed n := by
  rcases Nat.le_total k n with hk | hk
  · obtain ⟨r, hr⟩ := strs_add seed k (n - k)
    rw [Nat.add_sub_cancel' hk] at hr
    rw [str, hr, List.take_append_of_le_length (by rw [length_strs]; exact h)]
  · obtain ⟨r, hr⟩ := strs_add seed n (k - n)
    rw [Nat.add_sub_cancel' hk] at hr
    rw [str, hr, List.take_append_of_le_length (by rw [length_strs]; omega)]
theorem str_take (seed : List Nat) (k n : Nat) (h : k ≤ n) : (str seed n).take k = str seed k := by
  rw [← take_strs seed n k (by omega), str, List.take_take, Nat.min_eq_left h]
theorem blk_byte (seed : List Nat) (i : Nat) : ∀ x, x ∈ blk seed i → x < 256 := sum_lt _
theorem strs_byte (seed : List Nat) (k : Nat) : ∀ x, x ∈ strs seed k → x < 256 := by
  induction k with
  | zero => intro x hx; cases hx
  | succ k ih =>
    intro x hx
    rw [strs, List.mem_append] at hx
    exact hx.elim (ih x) (blk_byte seed k x)
theorem str_byte (seed : List Nat) (n : Nat) : ∀ x, x ∈ str seed n → x < 256 := fun x hx => strs_byte seed n x (List.mem_of_mem_take hx)
/-- The n bytes on their way, k sums laid. -/
def lain (seed : List Nat) (n k : Nat) : List Nat := (strs seed k).take n ++ zs (n - 32 * k)
theorem length_lain (seed : List Nat) (n k : Nat) : (lain seed n k).length = n := by rw [lain, List.length_append, List.length_take, length_strs, length_zs]; omega
theorem lain_zero (seed : List Nat) (n : Nat) : lain seed n 0 = zs n := by simp [lain, strs]
theorem lain_all (seed : List Nat) (n k : Nat) (h : n ≤ 32 * k) : lain seed n k = str seed n := by
  rw [lain, take_strs seed k n h, show n - 32 * k = 0 by omega]; simp [zs]
theorem lain_succ (seed : List Nat) (n k : Nat) (h : 32 * k < n) : spl (lain seed n k) (32 * k) ((blk seed k).take (min 32 (n - 32 * k))) = lain seed n (k + 1) := by
  have hb := length_blk seed k
  have hs := length_strs seed k
  have e1 : (strs seed k).take n = strs seed k := List.take_of_length_le (by omega)
  have hm : ((blk seed k).take (min 32 (n - 32 * k))).length = min 32 (n - 32 * k) := by rw [List.length_take, hb]; omega
  have e2 : (blk seed k).take (min 32 (n - 32 * k)) = (blk seed k).take (n - 32 * k) := by
    rcases Nat.le_total 32 (n - 32 * k) with h1 | h1
    · rw [Nat.min_eq_left h1, List.take_of_length_le (by omega), List.take_of_length_le (by omega)]
    · rw [Nat.min_eq_right h1]
  have e3 : (lain seed n k).take (32 * k) = strs seed k := by rw [lain, e1, ← hs, List.take_left]
  have e4 : (lain seed n k).drop (32 * k + min 32 (n - 32 * k)) = zs (n - 32 * (k + 1)) := by
    rw [lain, e1, ← List.drop_drop, ← hs, List.drop_left, zs, List.drop_replicate, zs]
    congr 1; omega
  rw [spl, hm, e3, e4, e2, lain, strs, List.take_append, hs, e1, List.append_assoc]
end Go.Proofs.YtmookhbijmibiaaDoor.Tps
