/-
  Own plain lemmas on bits that are turned to the right, in numbers of 32 bits. No program is named here.
-/
namespace Go.Proofs.YtoeboblkboillaaDoor

/-- x turned right by t places, t from 0 to 32. -/
def rot (x t : Nat) : Nat := x / 2 ^ t + x % 2 ^ t * 2 ^ (32 - t)
/-- One place. -/
def right (x : Nat) : Nat := x / 2 + x % 2 * 2147483648

theorem rot_zero (x : Nat) : rot x 0 = x := by simp [rot, Nat.mod_one]
theorem rot_succ (x t : Nat) (h : t < 32) : rot x (t + 1) = right (rot x t) := by
  obtain ⟨s, hs⟩ : ∃ s, 32 - t = s + 1 := ⟨31 - t, by omega⟩
  have h1 : 32 - (t + 1) = s := by omega
  have hst : s + t = 31 := by omega
  have e1 : x / 2 ^ (t + 1) = x / 2 ^ t / 2 := by rw [Nat.pow_succ, Nat.div_div_eq_div_mul]
  have e2 : x % 2 ^ (t + 1) = x % 2 ^ t + 2 ^ t * (x / 2 ^ t % 2) := by rw [Nat.pow_succ, Nat.mod_mul]
  unfold rot right
  rw [h1, hs, e1, e2, Nat.add_mul]
  generalize x / 2 ^ t = q
  generalize x % 2 ^ t = r
  have e3 : 2 ^ t * (q % 2) * 2 ^ s = q % 2 * 2147483648 := by
    rw [Nat.mul_comm (2 ^ t), Nat.mul_assoc, ← Nat.pow_add, Nat.add_comm t s, hst]
  have e4 : r * 2 ^ (s + 1) = 2 * (r * 2 ^ s) := by rw [Nat.pow_succ, ← Nat.mul_assoc, Nat.mul_comm]
  rw [e3, e4]
  generalize r * 2 ^ s = y
  omega
theorem rot_lt (x t : Nat) (hx : x < 4294967296) (h : t ≤ 32) : rot x t < 4294967296 := by
  have e : (2 : Nat) ^ t * 2 ^ (32 - t) = 4294967296 := by rw [← Nat.pow_add, show t + (32 - t) = 32 by omega]
  have hp : 0 < (2 : Nat) ^ t := Nat.two_pow_pos t
  have h1 : x / 2 ^ t < 2 ^ (32 - t) := by rw [Nat.div_lt_iff_lt_mul hp, Nat.mul_comm, e]; exact hx
  have h2 : x % 2 ^ t + 1 ≤ 2 ^ t := Nat.mod_lt _ hp
  have h3 : (x % 2 ^ t + 1) * 2 ^ (32 - t) ≤ 2 ^ t * 2 ^ (32 - t) := Nat.mul_le_mul_right _ h2
  rw [e, Nat.add_mul, Nat.one_mul] at h3
  unfold rot
  omega
theorem rot_back (x t : Nat) (hx : x < 4294967296) (h : t < 32) : rot (rot x t) ((32 - t) % 32) = x := by
  rcases Nat.eq_zero_or_pos t with h0 | h0
  · subst h0; rw [rot_zero]; exact rot_zero x
  · have e : (32 - t) % 32 = 32 - t := Nat.mod_eq_of_lt (by omega)
    have hp : 0 < (2 : Nat) ^ (32 - t) := Nat.two_pow_pos _
    have e1 : (2 : Nat) ^ t * 2 ^ (32 - t) = 4294967296 := by rw [← Nat.pow_add, show t + (32 - t) = 32 by omega]
    have h1 : x / 2 ^ t < 2 ^ (32 - t) := by rw [Nat.div_lt_iff_lt_mul (Nat.two_pow_pos t), Nat.mul_comm, e1]; exact hx
    have e2 : 32 - (32 - t) = t := by omega
    rw [e]
    unfold rot
    rw [e2, Nat.add_mul_div_right _ _ hp, Nat.add_mul_mod_self_right, Nat.div_eq_of_lt h1, Nat.mod_eq_of_lt h1, Nat.zero_add, Nat.mul_comm, Nat.add_comm]
    exact Nat.div_add_mod x (2 ^ t)
end Go.Proofs.YtoeboblkboillaaDoor
