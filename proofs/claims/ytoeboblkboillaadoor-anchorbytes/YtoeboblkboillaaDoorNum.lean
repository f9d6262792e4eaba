/-
  Own plain lemmas: a list of bytes as a number, the highest first, and back. No program is named here.
-/
namespace Go.Proofs.YtoeboblkboillaaDoor

/-- The number of the bytes, the highest first. -/
def num : List Nat → Nat
  | [] => 0
  | c :: r => c * 256 ^ r.length + num r

/-- The lowest s bytes of x, the highest first. -/
def bytesOf (x : Nat) : Nat → List Nat
  | 0 => []
  | s + 1 => (x / 256 ^ s % 256) :: bytesOf x s

theorem num_snoc (bs : List Nat) (c : Nat) : num (bs ++ [c]) = 256 * num bs + c := by
  induction bs with
  | nil => simp [num]
  | cons a r ih =>
    simp only [List.cons_append, num, ih, List.length_append, List.length_cons, List.length_nil, Nat.zero_add, Nat.pow_succ]
    rw [Nat.mul_add, ← Nat.mul_assoc, Nat.mul_comm (a * 256 ^ r.length) 256, Nat.add_assoc]

theorem num_lt (bs : List Nat) (h : ∀ x, x ∈ bs → x < 256) : num bs < 256 ^ bs.length := by
  induction bs with
  | nil => simp [num]
  | cons a r ih =>
    have h1 := ih (fun x hx => h x (by simp [hx]))
    have h2 : a + 1 ≤ 256 := h a (by simp)
    have h3 : (a + 1) * 256 ^ r.length ≤ 256 * 256 ^ r.length := Nat.mul_le_mul_right _ h2
    simp only [num, List.length_cons, Nat.pow_succ]
    rw [Nat.mul_comm (256 ^ r.length) 256]
    rw [Nat.add_mul, Nat.one_mul] at h3
    omega

theorem length_bytesOf (x s : Nat) : (bytesOf x s).length = s := by
  induction s with
  | zero => rfl
  | succ s ih => simp [bytesOf, ih]

theorem bytesOf_lt (x s : Nat) : ∀ c, c ∈ bytesOf x s → c < 256 := by
  induction s with
  | zero => simp [bytesOf]
  | succ s ih =>
    intro c hc
    simp only [bytesOf, List.mem_cons] at hc
    rcases hc with rfl | hc
    · exact Nat.mod_lt _ (by omega)
    · exact ih c hc

theorem getD_bytesOf (x s i : Nat) (h : i < s) : (bytesOf x s).getD i 0 = x / 256 ^ (s - 1 - i) % 256 := by
  induction s generalizing i with
  | zero => omega
  | succ s ih =>
    cases i with
    | zero => simp [bytesOf]
    | succ i =>
      have := ih i (by omega)
      have e : s + 1 - 1 - (i + 1) = s - 1 - i := by omega
      rw [e, ← this]
      simp [bytesOf]

theorem num_bytesOf (x s : Nat) : num (bytesOf x s) = x % 256 ^ s := by
  induction s with
  | zero => simp [bytesOf, num, Nat.mod_one]
  | succ s ih =>
    simp only [bytesOf, num, ih, length_bytesOf]
    rw [Nat.pow_succ, Nat.mod_mul, Nat.mul_comm, Nat.add_comm]

theorem bytesOf_add_mul (a q s : Nat) : bytesOf (q * 256 ^ s + a) s = bytesOf a s := by
  induction s generalizing q with
  | zero => rfl
  | succ s ih =>
    simp only [bytesOf]
    have e : q * 256 ^ (s + 1) + a = (q * 256) * 256 ^ s + a := by rw [Nat.pow_succ, Nat.mul_assoc, Nat.mul_comm 256 (256 ^ s)]
    rw [e, ih]
    congr 1
    have h1 : ((q * 256) * 256 ^ s + a) / 256 ^ s = q * 256 + a / 256 ^ s := by
      rw [Nat.add_comm, Nat.add_mul_div_right _ _ (Nat.pow_pos (by omega)), Nat.add_comm]
    rw [h1]
    omega

theorem bytesOf_num (bs : List Nat) (h : ∀ x, x ∈ bs → x < 256) : bytesOf (num bs) bs.length = bs := by
  induction bs with
  | nil => rfl
  | cons a r ih =>
    have h1 := num_lt r (fun x hx => h x (by simp [hx]))
    have h2 : a < 256 := h a (by simp)
    have h3 := ih (fun x hx => h x (by simp [hx]))
    simp only [num, List.length_cons, bytesOf]
    rw [bytesOf_add_mul, h3]
    congr 1
    have : (a * 256 ^ r.length + num r) / 256 ^ r.length = a := by
      rw [Nat.add_comm, Nat.add_mul_div_right _ _ (Nat.pow_pos (by omega)), Nat.div_eq_of_lt h1]; omega
    rw [this]; omega

theorem take_snoc (bs : List Nat) (k : Nat) (h : k < bs.length) : bs.take (k + 1) = bs.take k ++ [bs.getD k 0] := by
  rw [List.take_succ_eq_append_getElem h]
  simp [h]

theorem take_mem {bs : List Nat} (h : ∀ x, x ∈ bs → x < 256) (k : Nat) : ∀ x, x ∈ bs.take k → x < 256 := fun x hx => h x (List.mem_of_mem_take hx)

/-- What gather has after k of n bytes. -/
def gath (bs : List Nat) (n k : Nat) : Nat := num (bs.take k) * 256 ^ (n - k)

theorem gath_zero (bs : List Nat) (n : Nat) : gath bs n 0 = 0 := by simp [gath, num]
theorem gath_all (bs : List Nat) : gath bs bs.length bs.length = num bs := by simp [gath]
theorem gath_succ (bs : List Nat) (k : Nat) (h : k < bs.length) :
    gath bs bs.length (k + 1) = gath bs bs.length k + bs.getD k 0 * 256 ^ (bs.length - 1 - k) := by
  have e1 : bs.length - k = (bs.length - 1 - k) + 1 := by omega
  have e2 : bs.length - (k + 1) = bs.length - 1 - k := by omega
  unfold gath
  rw [take_snoc bs k h, num_snoc, e1, e2, Nat.pow_succ, Nat.add_mul]
  congr 1
  rw [Nat.mul_comm 256 (num _), Nat.mul_assoc, Nat.mul_comm 256]
theorem gath_lt (bs : List Nat) (hb : ∀ x, x ∈ bs → x < 256) (k : Nat) (h : k ≤ bs.length) : gath bs bs.length k < 256 ^ bs.length := by
  have h1 := num_lt (bs.take k) (take_mem hb k)
  have e : (bs.take k).length = k := by simp; omega
  rw [e] at h1
  have h2 : 256 ^ bs.length = 256 ^ k * 256 ^ (bs.length - k) := by rw [← Nat.pow_add]; congr 1; omega
  unfold gath
  rw [h2]
  exact Nat.mul_lt_mul_of_lt_of_le h1 (Nat.le_refl _) (Nat.pow_pos (by omega))
theorem two_pow8 (n : Nat) : 2 ^ (8 * n) = 256 ^ n := by rw [Nat.pow_mul]
theorem pow_le8 {n : Nat} (h : n ≤ 8) : 256 ^ n ≤ 18446744073709551616 := by
  have : 256 ^ n ≤ 256 ^ 8 := Nat.pow_le_pow_right (by omega) h
  simpa using this
end Go.Proofs.YtoeboblkboillaaDoor
