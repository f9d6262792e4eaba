/-
  Derived keys, as the chapter says them: contexts behind the number of their bytes, what is tagged, the tags one behind the other. No program is named here; no conditions.
-/
import Derived.Test.YtihpjkidoingfaaDoorHmNum
namespace Go.Proofs.YtihpjkidoingfaaDoor.Kd
open Arr Sh Hm

/-- Contexts, each behind the number of its bytes. -/
def ctx (cs : List (List Nat)) : List Nat := (cs.map fun c => bytesOf c.length 8 ++ c).flatten
theorem ctx_nil : ctx [] = [] := rfl
theorem ctx_snoc (cs : List (List Nat)) (t : Nat) (h : t < cs.length) : ctx (cs.take (t + 1)) = ctx (cs.take t) ++ (bytesOf cs[t].length 8 ++ cs[t]) := by
  rw [ctx, List.take_succ_eq_append_getElem h, List.map_append, List.flatten_append]
  simp [ctx]
/-- What is tagged, for the place i. -/
def kt (lab : List Nat) (cs : List (List Nat)) (n i : Nat) : List Nat := i :: (lab ++ (0 :: (ctx cs ++ bytesOf n 2)))
/-- The four tags. -/
def kf (k lab : List Nat) (cs : List (List Nat)) (n : Nat) : List Nat := tag k (kt lab cs n 1) ++ (tag k (kt lab cs n 2) ++ (tag k (kt lab cs n 3) ++ tag k (kt lab cs n 4)))
theorem length_kf (k lab : List Nat) (cs : List (List Nat)) (n : Nat) : (kf k lab cs n).length = 128 := by simp [kf, length_tag]
theorem kf_lt (k lab : List Nat) (cs : List (List Nat)) (n : Nat) : ∀ x, x ∈ kf k lab cs n → x < 256 := by
  intro x hx
  simp only [kf, List.mem_append] at hx
  rcases hx with h | h | h | h <;> exact tag_lt _ _ x h
theorem kf_part (k lab : List Nat) (cs : List (List Nat)) (n i : Nat) (hi : i < 4) : ((kf k lab cs n).drop (32 * i)).take 32 = tag k (kt lab cs n (i + 1)) := by
  unfold kf
  have L1 := length_tag k (kt lab cs n 1)
  have L2 := length_tag k (kt lab cs n 2)
  have L3 := length_tag k (kt lab cs n 3)
  have L4 := length_tag k (kt lab cs n 4)
  match i, hi with
  | 0, _ => show _ = tag k (kt lab cs n 1); rw [Nat.mul_zero, List.drop_zero, List.take_append_of_le_length (by omega), List.take_of_length_le (by omega)]
  | 1, _ => show _ = tag k (kt lab cs n 2); rw [List.drop_left' (by omega), List.take_append_of_le_length (by omega), List.take_of_length_le (by omega)]
  | 2, _ => show _ = tag k (kt lab cs n 3); rw [← List.append_assoc, List.drop_left' (by simp; omega), List.take_append_of_le_length (by omega), List.take_of_length_le (by omega)]
  | 3, _ => show _ = tag k (kt lab cs n 4); rw [← List.append_assoc, ← List.append_assoc, List.drop_left' (by simp; omega), List.take_of_length_le (by omega)]
/-- The derived key. -/
def der (k lab : List Nat) (cs : List (List Nat)) (n : Nat) : List Nat := (kf k lab cs n).take n
theorem length_der (k lab : List Nat) (cs : List (List Nat)) (n : Nat) (h : n ≤ 128) : (der k lab cs n).length = n := by rw [der, List.length_take, length_kf]; omega
theorem der_lt (k lab : List Nat) (cs : List (List Nat)) (n : Nat) : ∀ x, x ∈ der k lab cs n → x < 256 := fun x hx => kf_lt k lab cs n x (List.mem_of_mem_take hx)
/-- The row while it is made: d bytes are there. -/
def st (F : List Nat) (n d : Nat) : List Nat := F.take d ++ zs (n - d)
theorem length_st (F : List Nat) (n d : Nat) (hF : F.length = 128) (hn : n ≤ 128) (hd : d ≤ n) : (st F n d).length = n := by rw [st, List.length_append, List.length_take, length_zs]; omega
theorem st_zero (F : List Nat) (n : Nat) : st F n 0 = zs n := by simp [st]
theorem st_all (F : List Nat) (n : Nat) : st F n n = F.take n := by simp [st, zs]
theorem st_step (F : List Nat) (n d m : Nat) (hF : F.length = 128) (hn : n ≤ 128) (hd : d + m ≤ n) (hm : m ≤ 32) : spl (st F n d) d (((F.drop d).take 32).take m) = st F n (d + m) := by
  have e1 : ((F.drop d).take 32).take m = (F.drop d).take m := by rw [List.take_take, Nat.min_eq_left hm]
  have e2 : ((F.drop d).take m).length = m := by rw [List.length_take, List.length_drop]; omega
  have e3 : (F.take d).length = d := by rw [List.length_take]; omega
  rw [e1, spl, e2]
  unfold st
  rw [List.take_left' e3, List.drop_append, e3, List.drop_of_length_le (l := F.take d) (by omega), List.nil_append, ← List.append_assoc]
  congr 1
  · rw [← List.take_add]
  · rw [zs, List.drop_replicate, zs]; congr 1; omega
end Go.Proofs.YtihpjkidoingfaaDoor.Kd
