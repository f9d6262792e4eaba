/-
  Tags under a key, as the chapter says them: the key filled up, its pads, tags, chains. No program is named here; no conditions.
-/
import Derived.Test.YtihpjkidoingfaaDoorShaNum
import Derived.Test.YtihpjkidoingfaaDoorArrMore
namespace Go.Proofs.YtihpjkidoingfaaDoor.Hm
open Arr Sh

/-- The key's 64 bytes: its own, or its sum's if it has more, and noughts behind. -/
def fill (k : List Nat) : List Nat := if 64 < k.length then Sh.sum k ++ zs 32 else k ++ zs (64 - k.length)
theorem fill_long {k : List Nat} (h : 64 < k.length) : fill k = Sh.sum k ++ zs 32 := by rw [fill, if_pos h]
theorem fill_short {k : List Nat} (h : ¬ 64 < k.length) : fill k = k ++ zs (64 - k.length) := by rw [fill, if_neg h]
theorem length_fill (k : List Nat) : (fill k).length = 64 := by
  unfold fill
  split
  · rw [List.length_append, length_sum, length_zs]
  · rw [List.length_append, length_zs]; omega
theorem zs_lt (n : Nat) : ∀ x, x ∈ zs n → x < 256 := fun x hx => by have := List.eq_of_mem_replicate hx; omega
theorem fill_lt {k : List Nat} (h : ∀ x, x ∈ k → x < 256) : ∀ x, x ∈ fill k → x < 256 := by
  intro x hx
  unfold fill at hx
  split at hx <;> rw [List.mem_append] at hx <;> rcases hx with hx | hx
  · exact sum_lt _ x hx
  · exact zs_lt _ x hx
  · exact h x hx
  · exact zs_lt _ x hx
/-- A nought behind a key changes nothing. -/
theorem fill_zs (k : List Nat) (m : Nat) (h : k.length + m ≤ 64) : fill (k ++ zs m) = fill k := by
  have hl : (k ++ zs m).length = k.length + m := by rw [List.length_append, length_zs]
  rw [fill_short (by omega), fill_short (by omega), hl, List.append_assoc]
  congr 1
  simp only [zs, List.replicate_append_replicate]
  congr 1
  omega
theorem spl_zs (n : Nat) (m : List Nat) : spl (zs n) 0 m = m ++ zs (n - m.length) := by
  simp [spl, zs]
theorem fill_spl_long {k : List Nat} (h : 64 < k.length) : fill k = spl (zs 64) 0 (Sh.sum k) := by
  rw [fill_long h, spl_zs, length_sum]
theorem fill_spl_short {k : List Nat} (h : ¬ 64 < k.length) : fill k = spl (zs 64) 0 k := by
  rw [fill_short h, spl_zs]

/-- Bytes, put together with a byte. -/
def pd (b : Nat) (l : List Nat) : List Nat := l.map (· ^^^ b)
theorem length_pd (b : Nat) (l : List Nat) : (pd b l).length = l.length := by simp [pd]
theorem pd_get (b : Nat) (l : List Nat) (i : Nat) (h : i < l.length) : (pd b l).getD i 0 = l.getD i 0 ^^^ b := by simp [pd, h]
theorem xor_lt {x b : Nat} (hx : x < 256) (hb : b < 256) : x ^^^ b < 256 := Nat.xor_lt_two_pow (n := 8) hx hb
theorem pd_lt {b : Nat} (hb : b < 256) {l : List Nat} (h : ∀ x, x ∈ l → x < 256) : ∀ x, x ∈ pd b l → x < 256 := by
  intro x hx
  simp only [pd, List.mem_map] at hx
  obtain ⟨y, hy, rfl⟩ := hx
  exact xor_lt (h y hy) hb
/-- The pads of a key. -/
def inn (k : List Nat) : List Nat := pd 54 (fill k)
def outr (k : List Nat) : List Nat := pd 92 (fill k)
theorem length_inn (k : List Nat) : (inn k).length = 64 := by rw [inn, length_pd, length_fill]
theorem length_outr (k : List Nat) : (outr k).length = 64 := by rw [outr, length_pd, length_fill]
theorem inn_lt {k : List Nat} (h : ∀ x, x ∈ k → x < 256) : ∀ x, x ∈ inn k → x < 256 := pd_lt (by omega) (fill_lt h)
theorem outr_lt {k : List Nat} (h : ∀ x, x ∈ k → x < 256) : ∀ x, x ∈ outr k → x < 256 := pd_lt (by omega) (fill_lt h)
/-- A tag, of pads. -/
def tagP (i o t : List Nat) : List Nat := Sh.sum (o ++ Sh.sum (i ++ t))
/-- The tag of bytes under a key. -/
def tag (k t : List Nat) : List Nat := tagP (inn k) (outr k) t
theorem length_tag (k t : List Nat) : (tag k t).length = 32 := length_sum _
theorem tag_lt (k t : List Nat) : ∀ x, x ∈ tag k t → x < 256 := sum_lt _
theorem tag_zs (k t : List Nat) (m : Nat) (h : k.length + m ≤ 64) : tag (k ++ zs m) t = tag k t := by
  unfold tag inn outr
  rw [fill_zs k m h]

/-- The next tag of a chain. -/
def link (k a x : List Nat) : List Nat := tag k (a ++ (bytesOf x.length 8 ++ x))
/-- The tag that stands ahead of item i. -/
def hd (k a : List Nat) (l : List (List Nat)) (i : Nat) : List Nat := (l.take i).foldl (link k) a
theorem hd_zero (k a : List Nat) (l : List (List Nat)) : hd k a l 0 = a := rfl
theorem hd_succ (k a : List Nat) (l : List (List Nat)) (i : Nat) (h : i < l.length) : hd k a l (i + 1) = link k (hd k a l i) l[i] := by
  unfold hd
  rw [List.take_succ_eq_append_getElem h, List.foldl_append]
  rfl
theorem length_hd (k a : List Nat) (l : List (List Nat)) (i : Nat) (ha : a.length = 32) (h : i ≤ l.length) : (hd k a l i).length = 32 := by
  cases i with
  | zero => exact ha
  | succ i => rw [hd_succ k a l i (by omega)]; exact length_tag _ _
theorem hd_lt (k a : List Nat) (l : List (List Nat)) (i : Nat) (ha : ∀ x, x ∈ a → x < 256) (h : i ≤ l.length) : ∀ x, x ∈ hd k a l i → x < 256 := by
  cases i with
  | zero => exact ha
  | succ i => rw [hd_succ k a l i (by omega)]; exact tag_lt _ _
/-- The first i tags, one behind the other. -/
def fl (k a : List Nat) (l : List (List Nat)) : Nat → List Nat
  | 0 => []
  | i + 1 => fl k a l i ++ hd k a l (i + 1)
theorem length_fl (k a : List Nat) (l : List (List Nat)) (i : Nat) (h : i ≤ l.length) : (fl k a l i).length = 32 * i := by
  induction i with
  | zero => rfl
  | succ i ih =>
    rw [fl, List.length_append, ih (by omega), hd_succ k a l i (by omega), link, length_tag]
    omega
/-- One tag, out of all. -/
theorem fl_part (k a : List Nat) (l : List (List Nat)) (n i : Nat) (h : n ≤ l.length) (hi : i < n) : ((fl k a l n).drop (32 * i)).take 32 = hd k a l (i + 1) := by
  induction n with
  | zero => omega
  | succ n ih =>
    have hn := length_fl k a l n (by omega)
    have hh : (hd k a l (n + 1)).length = 32 := by rw [hd_succ k a l n (by omega), link, length_tag]
    rw [fl]
    rcases Nat.lt_or_ge i n with h1 | h1
    · rw [List.drop_append_of_le_length (by omega), List.take_append_of_le_length (by rw [List.length_drop]; omega)]
      exact ih (by omega) h1
    · obtain rfl : i = n := by omega
      rw [← hn, List.drop_left, List.take_of_length_le (by omega)]
/-- A chain of the first items, and one that goes on from its last tag. -/
theorem hd_take (k a : List Nat) (l : List (List Nat)) (n i : Nat) (h : i ≤ n) : hd k a (l.take n) i = hd k a l i := by
  unfold hd
  rw [List.take_take, Nat.min_eq_left h]
theorem hd_drop (k a : List Nat) (l : List (List Nat)) (n i : Nat) : hd k (hd k a l n) (l.drop n) i = hd k a l (n + i) := by
  unfold hd
  rw [← List.foldl_append]
  congr 1
  rw [List.take_add]
theorem fl_take (k a : List Nat) (l : List (List Nat)) (n i : Nat) (h : i ≤ n) : fl k a (l.take n) i = fl k a l i := by
  induction i with
  | zero => rfl
  | succ i ih => rw [fl, fl, ih (by omega), hd_take _ _ _ _ _ h]
theorem fl_drop (k a : List Nat) (l : List (List Nat)) (n i : Nat) : fl k a l n ++ fl k (hd k a l n) (l.drop n) i = fl k a l (n + i) := by
  induction i with
  | zero => simp [fl]
  | succ i ih => rw [fl, hd_drop, ← List.append_assoc, ih]; rfl
/-- The chapter's example. -/
theorem tag_ex : (tag (List.replicate 20 11) [72, 105, 32, 84, 104, 101, 114, 101]).take 4 = [0xb0, 0x34, 0x4c, 0x61] := by decide +kernel
end Go.Proofs.YtihpjkidoingfaaDoor.Hm
