/-
  Sectors of which one byte is another one: what is enciphered alike. No program is named here; no conditions.
-/
import Derived.Test.YtdjknmnmacppdaaDoorXtFnAll
namespace Go.Proofs.YtdjknmnmacppdaaDoor.Xt
open Ae

/-- One byte is another one. -/
def flp (b : List Nat) (i v : Nat) : List Nat := b.set i (b.getD i 0 ^^^ v)
theorem len_flip (b : List Nat) (i v : Nat) : (flp b i v).length = b.length := by simp [flp]
theorem flip_get (b : List Nat) (i v j : Nat) (hi : i < b.length) : (flp b i v).getD j 0 = if j = i then b.getD i 0 ^^^ v else b.getD j 0 := by
  rw [flp, List.getD_eq_getElem?_getD]
  by_cases h : j = i
  · subst h; rw [List.getElem?_set_self hi, if_pos rfl]; rfl
  · rw [List.getElem?_set_ne (fun e => h e.symm), if_neg h, List.getD_eq_getElem?_getD]
theorem byte_of {b : List Nat} (hb : ∀ x, x ∈ b → x < 256) (i : Nat) : b.getD i 0 < 256 := by
  rw [List.getD_eq_getElem?_getD]
  by_cases hi : i < b.length
  · rw [List.getElem?_eq_getElem hi]; exact hb _ (List.getElem_mem _)
  · rw [List.getElem?_eq_none (by omega)]; decide
theorem flip_lt {b : List Nat} (hb : ∀ x, x ∈ b → x < 256) (i v : Nat) (hv : v < 256) : ∀ x, x ∈ flp b i v → x < 256 := fun x hx => by
  rcases List.mem_or_eq_of_mem_set hx with h | h
  · exact hb x h
  · rw [h]; exact Gf.xor_lt (byte_of hb i) hv
theorem flip_eq {b : List Nat} (i v : Nat) (hi : i < b.length) : b = flp b i v ↔ v = 0 := by
  constructor
  · intro h
    have h1 := flip_get b i v i hi
    rw [← h, if_pos rfl] at h1
    rw [← xor_can (b.getD i 0) v, ← h1, Nat.xor_self]
  · intro h
    refine list_ext (n := b.length) rfl (len_flip ..) fun j hj => ?_
    rw [flip_get b i v j hi]
    by_cases e : j = i
    · rw [if_pos e, e, h, Nat.xor_zero]
    · rw [if_neg e]
theorem pc_flip {b : List Nat} {i v m k : Nat} (h : b.length = 16 * m) (hi : i < b.length) (hk : k < m) (hne : k ≠ i / 16) : pc (flp b i v) k = pc b k := by
  refine list_ext (pc_len ((len_flip ..).trans h) hk) (pc_len h hk) fun j hj => ?_
  rw [pc_get _ _ _ hj, pc_get _ _ _ hj, flip_get b i v _ hi, if_neg (by omega)]
theorem outN_congr {f : List Nat → List Nat} {t b c : List Nat} : ∀ q, (∀ k, k < q → pc b k = pc c k) → outN f t b q = outN f t c q
  | 0, _ => rfl
  | q + 1, h => by rw [outN, outN, outN_congr q (fun k hk => h k (by omega)), h q (by omega)]
theorem take_out {f : List Nat → List Nat} {t b : List Nat} (q : Nat) : ∀ m, q ≤ m → (outN f t b m).take (16 * q) = outN f t b q
  | 0, h => by obtain rfl : q = 0 := by omega
               rfl
  | m + 1, h => by
    have hl := len_outN (f := f) t b m
    by_cases e : q = m + 1
    · subst e; exact List.take_of_length_le (by rw [len_outN]; omega)
    · rw [outN, List.take_append_of_le_length (by omega)]; exact take_out q m (by omega)
/-- Each block hangs on its own alone. -/
theorem head_flip {f : List Nat → List Nat} {t b : List Nat} {i v m : Nat} (h : b.length = 16 * m) (hi : i < b.length) : (outN f t b m).take (16 * (i / 16)) = (outN f t (flp b i v) m).take (16 * (i / 16)) := by
  rw [take_out _ m (by omega), take_out _ m (by omega)]
  exact outN_congr _ fun k hk => (pc_flip h hi (by omega) (by omega)).symm
theorem tail_flip {f : List Nat → List Nat} {t b : List Nat} {i v m : Nat} (h : b.length = 16 * m) (hi : i < b.length) : (outN f t b m).drop (16 * (i / 16) + 16) = (outN f t (flp b i v) m).drop (16 * (i / 16) + 16) := by
  have l1 := len_outN (f := f) t b m
  have l2 := len_outN (f := f) t (flp b i v) m
  refine list_ext (n := 16 * m - (16 * (i / 16) + 16)) (by rw [List.length_drop, l1]) (by rw [List.length_drop, l2]) fun j hj => ?_
  have e : ∀ L : List Nat, (L.drop (16 * (i / 16) + 16)).getD j 0 = L.getD (16 * ((16 * (i / 16) + 16 + j) / 16) + (16 * (i / 16) + 16 + j) % 16) 0 := fun L => by
    rw [List.getD_eq_getElem?_getD, List.getElem?_drop, ← List.getD_eq_getElem?_getD, show 16 * ((16 * (i / 16) + 16 + j) / 16) + (16 * (i / 16) + 16 + j) % 16 = 16 * (i / 16) + 16 + j by omega]
  rw [e, e, outN_get _ _ m _ _ (by omega) (by omega), outN_get _ _ m _ _ (by omega) (by omega), pc_flip h hi (by omega) (by omega)]
/-- The first block by itself. -/
theorem first_out {f : List Nat → List Nat} {t b : List Nat} {m : Nat} (h : b.length = 16 * m) (hm : 0 < m) : secL f t (b.take 16) = (outN f t b m).take 16 := by
  have e := take_out (f := f) (t := t) (b := b) 1 m (by omega)
  rw [Nat.mul_one] at e
  rw [e, secL, List.length_take, Nat.min_eq_left (by omega)]
  refine outN_congr 1 fun k hk => ?_
  obtain rfl : k = 0 := by omega
  simp only [pc, Nat.mul_zero, List.drop_zero]
  exact List.take_of_length_le (by rw [List.length_take]; omega)
theorem sec_out {f : List Nat → List Nat} {t b : List Nat} {m : Nat} (h : b.length = 16 * m) : secL f t b = outN f t b m := by rw [secL, h, show 16 * m / 16 = m by omega]
end Go.Proofs.YtdjknmnmacppdaaDoor.Xt
