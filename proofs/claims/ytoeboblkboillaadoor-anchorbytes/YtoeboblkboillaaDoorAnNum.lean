/-
  A slot's bytes, as numbers: written, and read. Pure: no program's run. No conditions.
-/
import Derived.Test.YtoeboblkboillaaDoorFdNum
import Derived.Test.YtoeboblkboillaaDoorAnMem
namespace Go.Proofs.YtoeboblkboillaaDoor
open Go.RowKit Arr Fld

/-- A slot's bytes: the count, the limit, the key, the sum. -/
def encB (n m : Nat) (k s : List Nat) : List Nat := bytesOf n 8 ++ (bytesOf m 8 ++ (k ++ s))
theorem len_enc (n m : Nat) {k s : List Nat} (h : Two32 k s) : (encB n m k s).length = 80 := by simp [encB, length_bytesOf, h.k, h.s]
theorem enc_byte (n m : Nat) {k s : List Nat} (hk : ∀ x, x ∈ k → x < 256) (hs : ∀ x, x ∈ s → x < 256) : ∀ x, x ∈ encB n m k s → x < 256 := by
  intro x hx
  simp only [encB, List.mem_append] at hx
  rcases hx with hx | hx | hx | hx
  · exact bytesOf_lt _ _ x hx
  · exact bytesOf_lt _ _ x hx
  · exact hk x hx
  · exact hs x hx
theorem num8 {n : Nat} (h : n ≤ 1099511627776) : numF (n : Int) 8 = some (bytesOf n 8) := by
  have h4 : n < 256 ^ 8 := Nat.lt_of_le_of_lt h (by decide)
  have := (putOk_mk (m := n) (k := 8) (by omega) (by omega) (by omega) h4).2
  unfold numF
  rw [show ((8 : Nat) : Int) = 8 from rfl] at this
  rw [if_pos this]; rfl
theorem wput_some (bs x : List Nat) : wput (bs, 0) (some x) = (bs ++ x, 0) := rfl

/-- The count and the limit that bytes say. -/
def cntN (bs : List Nat) : Nat := num (bs.take 8)
def limN (bs : List Nat) : Nat := num ((bs.drop 8).take 8)
def aS1 (bs : List Nat) : List Nat × Nat := numS (bs, 0) 8 1099511627776
def aA1 (bs : List Nat) : Nat := numA (bs, 0) 8 1099511627776
def aS2 (bs : List Nat) : List Nat × Nat := numS (aS1 bs) 8 1099511627776
def aA2 (bs : List Nat) : Nat := numA (aS1 bs) 8 1099511627776
def aS3 (bs : List Nat) : List Nat × Nat := fixS (aS2 bs) 32
def aA3 (bs : List Nat) : List Nat := fixA (aS2 bs) 32
def aS4 (bs : List Nat) : List Nat × Nat := fixS (aS3 bs) 32
def aA4 (bs : List Nat) : List Nat := fixA (aS3 bs) 32
def keyB (bs : List Nat) : List Nat := (bs.drop 16).take 32
def sumB (bs : List Nat) : List Nat := (bs.drop 48).take 32
theorem numE8 {r : List Nat} (h : 8 ≤ r.length) : numE r 8 1099511627776 = if num (r.take 8) ≤ 1099511627776 then 0 else 11 := by
  unfold numE
  rw [show (8 : Int).toNat = 8 from rfl, if_neg (by omega), if_neg (by omega)]
  have hl : (r.take 8).length = 8 := by rw [List.length_take]; omega
  by_cases h1 : num (r.take 8) ≤ 1099511627776
  · have hg : getE (r.take 8) = 0 := by unfold getE; rw [hl, if_neg (by omega), if_neg (by omega), if_neg (by omega)]
    rw [if_pos h1, hg, if_neg (by omega)]
  · rw [if_neg h1, if_pos (.inr (by omega))]
theorem num_good {r : List Nat} (h : 8 ≤ r.length) (h1 : num (r.take 8) ≤ 1099511627776) : numS (r, 0) 8 1099511627776 = (r.drop 8, 0) ∧ numA (r, 0) 8 1099511627776 = num (r.take 8) := by
  have he := numE8 h
  rw [if_pos h1] at he
  constructor
  · simp [numS, onw, he]
  · simp [numA, numV, he]
theorem num_bad {r : List Nat} (h : 8 ≤ r.length) (h1 : ¬ num (r.take 8) ≤ 1099511627776) : (numS (r, 0) 8 1099511627776).2 = 11 := by
  have he := numE8 h
  rw [if_neg h1] at he
  simp [numS, onw, he]
theorem fix_good {r : List Nat} (h : 32 ≤ r.length) : fixS (r, 0) 32 = (r.drop 32, 0) ∧ fixA (r, 0) 32 = r.take 32 := by
  have he : fixE r 32 = 0 := by unfold fixE; rw [if_neg (by omega), if_neg (by omega)]
  constructor
  · simp [fixS, onw, he]
  · simp [fixA, fixV, he]
theorem rd_good {bs : List Nat} (hl : bs.length = 80) (h1 : cntN bs ≤ 1099511627776) (h2 : limN bs ≤ 1099511627776) :
    aA1 bs = cntN bs ∧ aA2 bs = limN bs ∧ aA3 bs = keyB bs ∧ aA4 bs = sumB bs ∧ doneE (aS4 bs) = 0 := by
  have e1 : aS1 bs = (bs.drop 8, 0) := (num_good (by omega) h1).1
  have l1 : (bs.drop 8).length = 72 := by rw [List.length_drop]; omega
  have e2 : aS2 bs = (bs.drop 16, 0) := by unfold aS2; rw [e1, (num_good (by omega) h2).1, List.drop_drop]
  have l2 : (bs.drop 16).length = 64 := by rw [List.length_drop]; omega
  have e3 : aS3 bs = (bs.drop 48, 0) := by unfold aS3; rw [e2, (fix_good (by omega)).1, List.drop_drop]
  have l3 : (bs.drop 48).length = 32 := by rw [List.length_drop]; omega
  have e4 : aS4 bs = (bs.drop 80, 0) := by unfold aS4; rw [e3, (fix_good (by omega)).1, List.drop_drop]
  refine ⟨(num_good (by omega) h1).2, ?_, ?_, ?_, ?_⟩
  · unfold aA2; rw [e1]; exact (num_good (by omega) h2).2
  · unfold aA3; rw [e2]; exact (fix_good (by omega)).2
  · unfold aA4; rw [e3]; exact (fix_good (by omega)).2
  · rw [e4]; unfold doneE; simp [hl]
theorem numS_bad {s : List Nat × Nat} (h : s.2 ≠ 0) (a b : Int) : numS s a b = s := by unfold numS; rw [if_neg h]
theorem fixS_bad {s : List Nat × Nat} (h : s.2 ≠ 0) (a : Int) : fixS s a = s := by unfold fixS; rw [if_neg h]
theorem rd_bad {bs : List Nat} (hl : bs.length = 80) (h : ¬ (cntN bs ≤ 1099511627776 ∧ limN bs ≤ 1099511627776)) : doneE (aS4 bs) ≠ 0 := by
  have h2 : (aS2 bs).2 ≠ 0 := by
    by_cases h1 : cntN bs ≤ 1099511627776
    · have e1 : aS1 bs = (bs.drop 8, 0) := (num_good (by omega) h1).1
      unfold aS2
      rw [e1, num_bad (by rw [List.length_drop]; omega) (fun h3 => h ⟨h1, h3⟩)]
      decide
    · have e1 : (aS1 bs).2 = 11 := num_bad (by omega) h1
      unfold aS2
      rw [numS_bad (by rw [e1]; decide), e1]
      decide
  have e3 : aS3 bs = aS2 bs := fixS_bad h2 _
  have e4 : aS4 bs = aS2 bs := by unfold aS4; rw [e3]; exact fixS_bad h2 _
  unfold doneE
  rw [e4, if_neg h2]
  exact h2
theorem two_bs {bs : List Nat} (hl : bs.length = 80) : Two32 (keyB bs) (sumB bs) := ⟨by unfold keyB; rw [List.length_take, List.length_drop]; omega, by unfold sumB; rw [List.length_take, List.length_drop]; omega⟩
/-- There and back. -/
theorem enc_back {bs : List Nat} (hl : bs.length = 80) (hb : ∀ x, x ∈ bs → x < 256) : encB (cntN bs) (limN bs) (keyB bs) (sumB bs) = bs := by
  have e1 : bytesOf (cntN bs) 8 = bs.take 8 := by
    have := bytesOf_num (bs.take 8) (take_mem hb 8)
    rwa [show (bs.take 8).length = 8 by rw [List.length_take]; omega] at this
  have e2 : bytesOf (limN bs) 8 = (bs.drop 8).take 8 := by
    have := bytesOf_num ((bs.drop 8).take 8) (fun x hx => hb x (List.mem_of_mem_drop (List.mem_of_mem_take hx)))
    rwa [show ((bs.drop 8).take 8).length = 8 by rw [List.length_take, List.length_drop]; omega] at this
  have e4 : sumB bs = bs.drop 48 := by unfold sumB; rw [List.take_of_length_le (by rw [List.length_drop]; omega)]
  have e3 : keyB bs ++ bs.drop 48 = bs.drop 16 := by
    unfold keyB
    have := List.take_append_drop 32 (bs.drop 16)
    rwa [List.drop_drop] at this
  unfold encB
  rw [e1, e2, e4, e3]
  have e5 : (bs.drop 8).take 8 ++ bs.drop 16 = bs.drop 8 := by
    have := List.take_append_drop 8 (bs.drop 8)
    rwa [List.drop_drop] at this
  rw [e5, List.take_append_drop]
end Go.Proofs.YtoeboblkboillaaDoor
