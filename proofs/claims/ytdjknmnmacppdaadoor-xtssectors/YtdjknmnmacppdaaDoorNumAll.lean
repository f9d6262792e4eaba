/-
  Own plain lemmas on bytes as elements of the field: products, powers, inverses. No program is named here.
  Own plain lemmas on the box of bytes. No program is named here.
  Own plain lemmas on lists of 256 bytes, turned the other way. No program is named here.
  The cipher over lists of numbers: states, rounds, there and back. Plain mathematics: no program is named here, no conditions.
  Own plain lemmas: a list of bytes as a number, the highest first, and back. No program is named here.
-/
namespace Go.Proofs.YtdjknmnmacppdaaDoor.Gf

/-- Times x. -/
def xt (a : Nat) : Nat := (a <<< 1) ^^^ (a >>> 7 * 283)
/-- The product with the lowest k bits of b. -/
def mulN : Nat → Nat → Nat → Nat
  | 0, _, _ => 0
  | k + 1, a, b => (b % 2 * a) ^^^ mulN k (xt a) (b >>> 1)
def T (a b : Nat) : Nat := mulN 8 a b

def Lin (f : Nat → Nat) : Prop := ∀ a c, a < 256 → c < 256 → f (a ^^^ c) = f a ^^^ f c

theorem xor_lt {a c : Nat} (ha : a < 256) (hc : c < 256) : a ^^^ c < 256 := Nat.xor_lt_two_pow (n := 8) ha hc
theorem xor4 (a b c d : Nat) : (a ^^^ b) ^^^ (c ^^^ d) = (a ^^^ c) ^^^ (b ^^^ d) := by
  rw [Nat.xor_assoc, Nat.xor_assoc, ← Nat.xor_assoc b, Nat.xor_comm b c, Nat.xor_assoc c]

theorem bit_mul (x y m : Nat) (hx : x < 2) (hy : y < 2) : (x ^^^ y) * m = x * m ^^^ y * m := by
  match x, y, hx, hy with
  | 0, 0, _, _ => simp
  | 0, 1, _, _ => simp
  | 1, 0, _, _ => simp
  | 1, 1, _, _ => simp
theorem xor_mod2 (b c : Nat) : (b ^^^ c) % 2 = b % 2 ^^^ c % 2 := by
  have := Nat.xor_mod_two_pow (a := b) (b := c) (n := 1)
  simpa using this

theorem xt_xor (a c : Nat) (ha : a < 256) (hc : c < 256) : xt (a ^^^ c) = xt a ^^^ xt c := by
  unfold xt
  have e1 : (a ^^^ c) <<< 1 = a <<< 1 ^^^ c <<< 1 := Nat.shiftLeft_xor_distrib
  have e2 : (a ^^^ c) >>> 7 = a >>> 7 ^^^ c >>> 7 := Nat.shiftRight_xor_distrib
  have h1 : a >>> 7 < 2 := by rw [Nat.shiftRight_eq_div_pow]; omega
  have h2 : c >>> 7 < 2 := by rw [Nat.shiftRight_eq_div_pow]; omega
  rw [e1, e2, bit_mul _ _ _ h1 h2, xor4]

theorem xt_lt (a : Nat) (ha : a < 256) : xt a < 256 := by
  have : ∀ a, a < 256 → xt a < 256 := by decide +kernel
  exact this a ha

theorem mulN_lt (k a b : Nat) (ha : a < 256) : mulN k a b < 256 := by
  induction k generalizing a b with
  | zero => simp [mulN]
  | succ k ih =>
    refine xor_lt ?_ (ih _ _ (xt_lt a ha))
    rcases Nat.mod_two_eq_zero_or_one b with h | h <;> simp [h, ha]

theorem mulN_zero (k a : Nat) : mulN k a 0 = 0 := by
  induction k generalizing a with
  | zero => rfl
  | succ k ih => simp [mulN, ih]

theorem mulN_right (k a b c : Nat) : mulN k a (b ^^^ c) = mulN k a b ^^^ mulN k a c := by
  induction k generalizing a b c with
  | zero => simp [mulN]
  | succ k ih =>
    have e2 : (b ^^^ c) >>> 1 = b >>> 1 ^^^ c >>> 1 := Nat.shiftRight_xor_distrib
    simp only [mulN]
    rw [e2, ih, xor_mod2, bit_mul _ _ _ (Nat.mod_lt _ (by omega)) (Nat.mod_lt _ (by omega)), xor4]

theorem mulN_left (k a c b : Nat) (ha : a < 256) (hc : c < 256) : mulN k (a ^^^ c) b = mulN k a b ^^^ mulN k c b := by
  induction k generalizing a b c with
  | zero => simp [mulN]
  | succ k ih =>
    simp only [mulN]
    rw [xt_xor a c ha hc, ih _ _ _ (xt_lt a ha) (xt_lt c hc)]
    rw [xor4]
    congr 1
    rcases Nat.mod_two_eq_zero_or_one b with h | h <;> simp [h]

theorem T_lt (a b : Nat) (ha : a < 256) : T a b < 256 := mulN_lt 8 a b ha
theorem T_right (a b c : Nat) : T a (b ^^^ c) = T a b ^^^ T a c := mulN_right 8 a b c
theorem T_left (a c b : Nat) (ha : a < 256) (hc : c < 256) : T (a ^^^ c) b = T a b ^^^ T c b := mulN_left 8 a c b ha hc
theorem T_zero (a : Nat) : T a 0 = 0 := mulN_zero 8 a

theorem pow_xor : ∀ k, k < 8 → ∀ x, x < 2 ^ k → 2 ^ k ^^^ x = 2 ^ k + x := by decide +kernel

theorem lin_ext {f g : Nat → Nat} (hf : Lin f) (hg : Lin g) (h : ∀ k, k < 8 → f (2 ^ k) = g (2 ^ k)) (a : Nat) (ha : a < 256) : f a = g a := by
  have z : ∀ {f : Nat → Nat}, Lin f → f 0 = 0 := fun {f} hf => by
    have := hf 0 0 (by omega) (by omega)
    simpa using this
  have key : ∀ k, k ≤ 8 → ∀ a, a < 2 ^ k → f a = g a := by
    intro k
    induction k with
    | zero => intro _ a ha; obtain rfl : a = 0 := by simpa using ha
              rw [z hf, z hg]
    | succ k ih =>
      intro hk a ha
      by_cases hl : a < 2 ^ k
      · exact ih (by omega) a hl
      · have hx : a - 2 ^ k < 2 ^ k := by rw [Nat.pow_succ] at ha; omega
        have e := pow_xor k (by omega) _ hx
        have e' : a = 2 ^ k ^^^ (a - 2 ^ k) := by rw [e]; omega
        have h8 : 2 ^ k ≤ 2 ^ 7 := Nat.pow_le_pow_right (by omega) (by omega)
        rw [e', hf _ _ (by omega) (by omega), hg _ _ (by omega) (by omega), h k (by omega), ih (by omega) _ hx]
  exact key 8 (by omega) a ha

theorem T_comm (a b : Nat) (ha : a < 256) (hb : b < 256) : T a b = T b a := by
  refine lin_ext (f := fun a => T a b) (g := fun a => T b a) (fun x y hx hy => T_left x y b hx hy) (fun x y _ _ => T_right b x y) (fun k hk => ?_) a ha
  have hk' : 2 ^ k < 256 := by have : 2 ^ k ≤ 2 ^ 7 := Nat.pow_le_pow_right (by omega) (by omega); omega
  refine lin_ext (f := fun b => T (2 ^ k) b) (g := fun b => T b (2 ^ k)) (fun x y _ _ => T_right _ x y) (fun x y hx hy => T_left x y _ hx hy) ?_ b hb
  have : ∀ k, k < 8 → ∀ j, j < 8 → T (2 ^ k) (2 ^ j) = T (2 ^ j) (2 ^ k) := by decide +kernel
  exact this k hk

theorem pow_lt {k : Nat} (hk : k < 8) : 2 ^ k < 256 := by have : 2 ^ k ≤ 2 ^ 7 := Nat.pow_le_pow_right (by omega) (by omega); omega

theorem T_assoc (a b c : Nat) (ha : a < 256) (hb : b < 256) (hc : c < 256) : T (T a b) c = T a (T b c) := by
  refine lin_ext (f := fun a => T (T a b) c) (g := fun a => T a (T b c)) (fun x y hx hy => ?_) (fun x y hx hy => T_left x y _ hx hy) (fun i hi => ?_) a ha
  · show T (T (x ^^^ y) b) c = _
    rw [T_left x y b hx hy, T_left _ _ c (T_lt _ _ hx) (T_lt _ _ hy)]
  refine lin_ext (f := fun b => T (T (2 ^ i) b) c) (g := fun b => T (2 ^ i) (T b c)) (fun x y hx hy => ?_) (fun x y hx hy => ?_) (fun j hj => ?_) b hb
  · show T (T (2 ^ i) (x ^^^ y)) c = _
    rw [T_right, T_left _ _ c (T_lt _ _ (pow_lt hi)) (T_lt _ _ (pow_lt hi))]
  · show T (2 ^ i) (T (x ^^^ y) c) = _
    rw [T_left x y c hx hy, T_right]
  refine lin_ext (f := fun c => T (T (2 ^ i) (2 ^ j)) c) (g := fun c => T (2 ^ i) (T (2 ^ j) c)) (fun x y hx hy => T_right _ x y) (fun x y hx hy => ?_) (fun k hk => ?_) c hc
  · show T (2 ^ i) (T (2 ^ j) (x ^^^ y)) = _
    rw [T_right, T_right]
  have : ∀ i, i < 8 → ∀ j, j < 8 → ∀ k, k < 8 → T (T (2 ^ i) (2 ^ j)) (2 ^ k) = T (2 ^ i) (T (2 ^ j) (2 ^ k)) := by decide +kernel
  exact this i hi j hj k hk

theorem T_one (a : Nat) (ha : a < 256) : T a 1 = a := by
  have : ∀ a, a < 256 → T a 1 = a := by decide +kernel
  exact this a ha
theorem one_T (a : Nat) (ha : a < 256) : T 1 a = a := by rw [T_comm 1 a (by omega) ha, T_one a ha]
theorem zero_T (a : Nat) (ha : a < 256) : T 0 a = 0 := by rw [T_comm 0 a (by omega) ha, T_zero]

/-- Powers. -/
def pw (a : Nat) : Nat → Nat
  | 0 => 1
  | n + 1 => T (pw a n) a

theorem pw_lt (a n : Nat) (_ha : a < 256) : pw a n < 256 := by
  cases n with
  | zero => simp [pw]
  | succ n =>
    have : ∀ n, pw a n < 256 := fun n => by
      induction n with
      | zero => simp [pw]
      | succ n ih => exact T_lt _ _ ih
    exact this _
theorem pw_one (a : Nat) (ha : a < 256) : pw a 1 = a := one_T a ha
theorem pw_add (a m n : Nat) (ha : a < 256) : pw a (m + n) = T (pw a m) (pw a n) := by
  induction n with
  | zero => exact (T_one _ (pw_lt a m ha)).symm
  | succ n ih => rw [← Nat.add_assoc]; simp only [pw]; rw [ih, T_assoc _ _ _ (pw_lt a m ha) (pw_lt a n ha) ha]
theorem pw_mul (a m k : Nat) (ha : a < 256) : pw (pw a m) k = pw a (m * k) := by
  induction k with
  | zero => rfl
  | succ k ih => rw [Nat.mul_succ, pw_add a _ _ ha, ← ih]; rfl
theorem pw_two (a : Nat) (ha : a < 256) : pw a 2 = T a a := by
  show T (pw a 1) a = _
  rw [pw_one a ha]
theorem pw_sq (a n : Nat) (ha : a < 256) : pw (T a a) n = pw a (2 * n) := by rw [← pw_two a ha, pw_mul a 2 n ha]
theorem pw_of_one (n : Nat) : pw 1 n = 1 := by
  induction n with
  | zero => rfl
  | succ n ih => simp only [pw]; rw [ih]; rfl
theorem pw_of_zero (n : Nat) (h : 0 < n) : pw 0 n = 0 := by
  obtain ⟨m, rfl⟩ : ∃ m, n = m + 1 := ⟨n - 1, by omega⟩
  exact T_zero _

/-- a to 255, by squares. -/
def p255 (a : Nat) : Nat :=
  let a2 := T a a; let a4 := T a2 a2; let a8 := T a4 a4; let a16 := T a8 a8; let a32 := T a16 a16; let a64 := T a32 a32; let a128 := T a64 a64
  T a128 (T a64 (T a32 (T a16 (T a8 (T a4 (T a2 a))))))
theorem p255_eq (a : Nat) (ha : a < 256) : p255 a = pw a 255 := by
  have h1 := pw_one a ha
  have s : ∀ m, T (pw a m) (pw a m) = pw a (m + m) := fun m => (pw_add a m m ha).symm
  have h2 : T a a = pw a 2 := (pw_two a ha).symm
  have j : ∀ m n, T (pw a m) (pw a n) = pw a (m + n) := fun m n => (pw_add a m n ha).symm
  have j1 : T (pw a 2) a = pw a 3 := rfl
  simp only [p255, h2, s, j1, j]
theorem pw_255 (a : Nat) (ha : a < 256) (h : a ≠ 0) : pw a 255 = 1 := by
  have : ∀ a, a < 256 → a ≠ 0 → p255 a = 1 := by decide +kernel
  rw [← p255_eq a ha]
  exact this a ha h
theorem pw_mod (a n : Nat) (ha : a < 256) (h : a ≠ 0) : pw a n = pw a (n % 255) := by
  have e : n = 255 * (n / 255) + n % 255 := (Nat.div_add_mod n 255).symm
  conv => lhs; rw [e]
  rw [pw_add a _ _ ha, ← pw_mul a _ _ ha, pw_255 a ha h, pw_of_one, one_T _ (pw_lt a _ ha)]

/-- The inverse. -/
def inv (a : Nat) : Nat := pw a 254
theorem inv_lt (a : Nat) (ha : a < 256) : inv a < 256 := pw_lt a 254 ha
theorem inv_zero : inv 0 = 0 := pw_of_zero 254 (by omega)
theorem T_inv (a : Nat) (ha : a < 256) (h : a ≠ 0) : T a (inv a) = 1 := by
  rw [T_comm _ _ ha (inv_lt a ha)]
  exact pw_255 a ha h
theorem inv_ne (a : Nat) (ha : a < 256) (h : a ≠ 0) : inv a ≠ 0 := by
  intro e
  have := T_inv a ha h
  rw [e, T_zero] at this
  omega
theorem inv_only (a b : Nat) (ha : a < 256) (hb : b < 256) (h : T a b = 1) : b = inv a := by
  by_cases h0 : a = 0
  · subst h0; rw [zero_T b hb] at h; omega
  · have h1 := T_inv a ha h0
    have h2 : T (inv a) (T a b) = inv a := by rw [h, T_one _ (inv_lt a ha)]
    rw [← T_assoc _ _ _ (inv_lt a ha) ha hb, T_comm _ _ (inv_lt a ha) ha, h1, one_T b hb] at h2
    exact h2
theorem inv_inv (a : Nat) (ha : a < 256) (h : a ≠ 0) : inv (inv a) = a := by
  unfold inv
  rw [pw_mul a _ _ ha, pw_mod a _ ha h]
  exact pw_one a ha
theorem pw_inv (a k : Nat) (ha : a < 256) (h : a ≠ 0) (hk : 0 < k) (hk' : k < 255) : pw (inv a) k = pw a (255 - k) := by
  unfold inv
  rw [pw_mul a _ _ ha, pw_mod a _ ha h]
  congr 1
  omega

/-! the document's own product -/
def cl (a b : Nat) : Nat → Nat
  | 0 => 0
  | i + 1 => cl a b i ^^^ (b / 2 ^ i % 2 * (a * 2 ^ i))
def red : Nat → Nat → Nat
  | 0, n => n
  | k + 1, n => red k (n ^^^ (n / 2 ^ (8 + k) % 2 * (283 * 2 ^ k)))
def R (a b : Nat) : Nat := red 7 (cl a b 8)

theorem xor_bit (b c i : Nat) : (b ^^^ c) / 2 ^ i % 2 = b / 2 ^ i % 2 ^^^ c / 2 ^ i % 2 := by
  have e : (b ^^^ c) / 2 ^ i = b / 2 ^ i ^^^ c / 2 ^ i := by
    rw [← Nat.shiftRight_eq_div_pow, ← Nat.shiftRight_eq_div_pow, ← Nat.shiftRight_eq_div_pow]
    exact Nat.shiftRight_xor_distrib
  rw [e, xor_mod2]
theorem m2 (x : Nat) : x % 2 < 2 := Nat.mod_lt _ (by omega)
theorem cl_right (a b c k : Nat) : cl a (b ^^^ c) k = cl a b k ^^^ cl a c k := by
  induction k with
  | zero => simp [cl]
  | succ k ih => simp only [cl]; rw [ih, xor_bit, bit_mul _ _ _ (m2 _) (m2 _), xor4]
theorem shl_xor (a c k : Nat) : (a ^^^ c) * 2 ^ k = a * 2 ^ k ^^^ c * 2 ^ k := by
  rw [← Nat.shiftLeft_eq, ← Nat.shiftLeft_eq, ← Nat.shiftLeft_eq]
  exact Nat.shiftLeft_xor_distrib
theorem cl_left (a c b k : Nat) : cl (a ^^^ c) b k = cl a b k ^^^ cl c b k := by
  induction k with
  | zero => simp [cl]
  | succ k ih =>
    simp only [cl]
    rw [ih, shl_xor]
    rcases Nat.mod_two_eq_zero_or_one (b / 2 ^ k) with h | h
    · simp [h]
    · simp only [h, Nat.one_mul]; rw [xor4]
theorem red_xor (k m n : Nat) : red k (m ^^^ n) = red k m ^^^ red k n := by
  induction k generalizing m n with
  | zero => rfl
  | succ k ih => simp only [red]; rw [xor_bit, bit_mul _ _ _ (m2 _) (m2 _), xor4, ih]
theorem R_eq (a b : Nat) (ha : a < 256) (hb : b < 256) : R a b = T a b := by
  refine lin_ext (f := fun a => R a b) (g := fun a => T a b) (fun x y _ _ => ?_) (fun x y hx hy => T_left x y b hx hy) (fun i hi => ?_) a ha
  · show R (x ^^^ y) b = _
    unfold R; rw [cl_left, red_xor]
  refine lin_ext (f := fun b => R (2 ^ i) b) (g := fun b => T (2 ^ i) b) (fun x y _ _ => ?_) (fun x y hx hy => T_right _ x y) (fun j hj => ?_) b hb
  · show R _ (x ^^^ y) = _
    unfold R; rw [cl_right, red_xor]
  have : ∀ i, i < 8 → ∀ j, j < 8 → R (2 ^ i) (2 ^ j) = T (2 ^ i) (2 ^ j) := by decide +kernel
  exact this i hi j hj
theorem cl_lt (a b k : Nat) (ha : a < 256) (hk : k ≤ 8) : cl a b k < 32768 := by
  induction k with
  | zero => simp [cl]
  | succ k ih =>
    have h1 : 2 ^ k ≤ 2 ^ 7 := Nat.pow_le_pow_right (by omega) (by omega)
    have h2 : a * 2 ^ k ≤ 255 * 2 ^ 7 := Nat.mul_le_mul (by omega) h1
    refine Nat.xor_lt_two_pow (n := 15) (ih (by omega)) ?_
    rcases Nat.mod_two_eq_zero_or_one (b / 2 ^ k) with h | h <;> simp only [h] <;> omega
end Go.Proofs.YtdjknmnmacppdaaDoor.Gf
namespace Go.Proofs.YtdjknmnmacppdaaDoor.Sb
open Gf

/-- A byte turned to the left by t places, t from 1 to 7. -/
def rot8 (x t : Nat) : Nat := (x * 2 ^ t % 256) ||| (x / 2 ^ (8 - t))
/-- The first n turns, put together. -/
def tn (v : Nat) : Nat → Nat
  | 0 => v ^^^ 99
  | n + 1 => tn v n ^^^ rot8 v (n + 1)
/-- An inverse, turned. -/
def tb (v : Nat) : Nat := tn v 4
/-- The box. -/
def B (a : Nat) : Nat := tb (inv a)

theorem rot8_lt (x t : Nat) (hx : x < 256) (_ht : t < 5) : rot8 x t < 256 := by
  refine Nat.or_lt_two_pow (n := 8) (Nat.mod_lt _ (by omega)) ?_
  exact Nat.lt_of_le_of_lt (Nat.div_le_self _ _) hx
theorem tn_lt (v n : Nat) (hv : v < 256) (hn : n < 5) : tn v n < 256 := by
  induction n with
  | zero => exact xor_lt hv (by omega)
  | succ n ih => exact xor_lt (ih (by omega)) (rot8_lt v _ hv hn)
theorem tb_lt (v : Nat) (hv : v < 256) : tb v < 256 := tn_lt v 4 hv (by omega)
theorem B_lt (a : Nat) (ha : a < 256) : B a < 256 := tb_lt _ (inv_lt a ha)

/-- a to 254, by squares. -/
def p254 (a : Nat) : Nat :=
  let a2 := T a a; let a4 := T a2 a2; let a8 := T a4 a4; let a16 := T a8 a8; let a32 := T a16 a16; let a64 := T a32 a32; let a128 := T a64 a64
  T a128 (T a64 (T a32 (T a16 (T a8 (T a4 a2)))))
theorem p254_eq (a : Nat) (ha : a < 256) : p254 a = inv a := by
  have s : ∀ m, T (pw a m) (pw a m) = pw a (m + m) := fun m => (pw_add a m m ha).symm
  have h2 : T a a = pw a 2 := (pw_two a ha).symm
  have j : ∀ m n, T (pw a m) (pw a n) = pw a (m + n) := fun m n => (pw_add a m n ha).symm
  simp only [p254, h2, s, j]
  rfl
theorem B_eq (a : Nat) (ha : a < 256) : B a = tb (p254 a) := by rw [p254_eq a ha]; rfl

/-- The box, as a list. -/
def boxL : List Nat := [99, 124, 119, 123, 242, 107, 111, 197, 48, 1, 103, 43, 254, 215, 171, 118, 202, 130, 201, 125, 250, 89, 71, 240, 173, 212, 162, 175, 156, 164, 114, 192, 183, 253, 147, 38, 54, 63, 247, 204, 52, 165, 229, 241, 113, 216, 49, 21, 4, 199, 35, 195, 24, 150, 5, 154, 7, 18, 128, 226, 235, 39, 178, 117, 9, 131, 44, 26, 27, 110, 90, 160, 82, 59, 214, 179, 41, 227, 47, 132, 83, 209, 0, 237, 32, 252, 177, 91, 106, 203, 190, 57, 74, 76, 88, 207, 208, 239, 170, 251, 67, 77, 51, 133, 69, 249, 2, 127, 80, 60, 159, 168, 81, 163, 64, 143, 146, 157, 56, 245, 188, 182, 218, 33, 16, 255, 243, 210, 205, 12, 19, 236, 95, 151, 68, 23, 196, 167, 126, 61, 100, 93, 25, 115, 96, 129, 79, 220, 34, 42, 144, 136, 70, 238, 184, 20, 222, 94, 11, 219, 224, 50, 58, 10, 73, 6, 36, 92, 194, 211, 172, 98, 145, 149, 228, 121, 231, 200, 55, 109, 141, 213, 78, 169, 108, 86, 244, 234, 101, 122, 174, 8, 186, 120, 37, 46, 28, 166, 180, 198, 232, 221, 116, 31, 75, 189, 139, 138, 112, 62, 181, 102, 72, 3, 246, 14, 97, 53, 87, 185, 134, 193, 29, 158, 225, 248, 152, 17, 105, 217, 142, 148, 155, 30, 135, 233, 206, 85, 40, 223, 140, 161, 137, 13, 191, 230, 66, 104, 65, 153, 45, 15, 176, 84, 187, 22]
theorem boxL_len : boxL.length = 256 := by decide +kernel
theorem boxL_lt (i : Nat) : boxL.getD i 0 < 256 := by
  by_cases h : i < 256
  · have : ∀ i, i < 256 → boxL.getD i 0 < 256 := by decide +kernel
    exact this i h
  · rw [List.getD_eq_getElem?_getD, List.getElem?_eq_none (by rw [boxL_len]; omega)]; decide
theorem boxL_get (a : Nat) (ha : a < 256) : boxL.getD a 0 = B a := by
  have : ∀ a, a < 256 → boxL.getD a 0 = tb (p254 a) := by decide +kernel
  rw [B_eq a ha]; exact this a ha
theorem boxL_nodup : boxL.Nodup := by decide +kernel

theorem B_inj (a b : Nat) (ha : a < 256) (hb : b < 256) (h : B a = B b) : a = b := by
  have : ∀ a, a < 256 → boxL.idxOf (boxL.getD a 0) = a := by decide +kernel
  rw [← boxL_get a ha, ← boxL_get b hb] at h
  rw [← this a ha, ← this b hb, h]
theorem B_ne (a : Nat) (ha : a < 256) : B a ≠ a := by
  have : ∀ a, a < 256 → boxL.getD a 0 ≠ a := by decide +kernel
  rw [← boxL_get a ha]; exact this a ha
theorem B_opp (a : Nat) (ha : a < 256) : B a ≠ 255 - a := by
  have : ∀ a, a < 256 → boxL.getD a 0 ≠ 255 - a := by decide +kernel
  rw [← boxL_get a ha]; exact this a ha
end Go.Proofs.YtdjknmnmacppdaaDoor.Sb
namespace Go.Proofs.YtdjknmnmacppdaaDoor.Sw

/-- All are bytes. -/
def Bytes (l : List Nat) : Prop := ∀ i, l.getD i 0 < 256

theorem rep_get {α : Type} (n i : Nat) (c : α) (h : i < n) : (List.replicate n c)[i]? = some c := by simp [h]
theorem rep_len {α : Type} (n : Nat) (c : α) : (List.replicate n c).length = n := by simp
theorem rep_getD (n i : Nat) : (List.replicate n 0).getD i 0 = 0 := by
  by_cases h : i < n <;> simp [h]

/-- The places of those among the first k. -/
def pl (l : List Nat) (k : Nat) : List Nat := (List.range 256).map fun b => if b ∈ l.take k then l.idxOf b else 0
/-- The first k are met. -/
def met (l : List Nat) (k : Nat) : List Bool := (List.range 256).map fun b => decide (b ∈ l.take k)

theorem length_pl (l : List Nat) (k : Nat) : (pl l k).length = 256 := by simp [pl]
theorem length_met (l : List Nat) (k : Nat) : (met l k).length = 256 := by simp [met]
theorem pl_get (l : List Nat) (k b : Nat) (hb : b < 256) : (pl l k)[b]? = some (if b ∈ l.take k then l.idxOf b else 0) := by simp [pl, hb]
theorem pl_getD (l : List Nat) (k b : Nat) (hb : b < 256) : (pl l k).getD b 0 = if b ∈ l.take k then l.idxOf b else 0 := by
  rw [List.getD_eq_getElem?_getD, pl_get l k b hb]; rfl
theorem met_get (l : List Nat) (k b : Nat) (hb : b < 256) : (met l k)[b]? = some (decide (b ∈ l.take k)) := by simp [met, hb]
theorem pl_none (l : List Nat) : pl l 0 = List.replicate 256 0 := by
  apply List.ext_getElem?
  intro i
  by_cases hi : i < 256
  · rw [pl_get l 0 i hi, rep_get _ _ _ hi]; simp only [List.take_zero, List.not_mem_nil, if_false]
  · rw [List.getElem?_eq_none (by rw [length_pl]; omega), List.getElem?_eq_none (by rw [rep_len]; omega)]
theorem met_none (l : List Nat) : met l 0 = List.replicate 256 false := by
  apply List.ext_getElem?
  intro i
  by_cases hi : i < 256
  · rw [met_get l 0 i hi, rep_get _ _ _ hi]; simp only [List.take_zero, List.not_mem_nil, decide_false]
  · rw [List.getElem?_eq_none (by rw [length_met]; omega), List.getElem?_eq_none (by rw [rep_len]; omega)]

theorem take_more (l : List Nat) (k : Nat) (hk : k < l.length) : l.take (k + 1) = l.take k ++ [l.getD k 0] := by
  rw [List.take_add_one, List.getElem?_eq_getElem hk, List.getD_eq_getElem?_getD, List.getElem?_eq_getElem hk]; rfl
theorem mem_more (l : List Nat) (k b : Nat) (hk : k < l.length) : b ∈ l.take (k + 1) ↔ b ∈ l.take k ∨ b = l.getD k 0 := by
  rw [take_more l k hk]; simp
theorem idx_first (l : List Nat) (k : Nat) (hk : k < l.length) (h : l.getD k 0 ∉ l.take k) : l.idxOf (l.getD k 0) = k := by
  have e : l = l.take k ++ l.getD k 0 :: l.drop (k + 1) := by
    rw [List.getD_eq_getElem?_getD, List.getElem?_eq_getElem hk]
    simp
  generalize l.getD k 0 = c at *
  rw [e, List.idxOf_append, if_neg h]
  simp
  omega
theorem met_more (l : List Nat) (k : Nat) (hk : k < l.length) : met l (k + 1) = (met l k).set (l.getD k 0) true := by
  apply List.ext_getElem?
  intro i
  by_cases hi : i < 256
  · by_cases e : i = l.getD k 0
    · subst e
      rw [met_get l _ _ hi, List.getElem?_set_self (by rw [length_met]; exact hi)]
      simp only [mem_more l k _ hk, or_true, decide_true]
    · rw [met_get l _ _ hi, List.getElem?_set_ne (fun x => e x.symm), met_get l _ _ hi]
      simp only [mem_more l k _ hk, e, or_false]
  · rw [List.getElem?_eq_none (by rw [length_met]; omega), List.getElem?_eq_none (by rw [List.length_set, length_met]; omega)]
theorem pl_more (l : List Nat) (k : Nat) (hk : k < l.length) (h : l.getD k 0 ∉ l.take k) : pl l (k + 1) = (pl l k).set (l.getD k 0) k := by
  apply List.ext_getElem?
  intro i
  by_cases hi : i < 256
  · by_cases e : i = l.getD k 0
    · subst e
      rw [pl_get l _ _ hi, List.getElem?_set_self (by rw [length_pl]; exact hi), if_pos ((mem_more l k _ hk).2 (.inr rfl)), idx_first l k hk h]
    · rw [pl_get l _ _ hi, List.getElem?_set_ne (fun x => e x.symm), pl_get l _ _ hi]
      simp only [mem_more l k _ hk, e, or_false]
  · rw [List.getElem?_eq_none (by rw [length_pl]; omega), List.getElem?_eq_none (by rw [List.length_set, length_pl]; omega)]
theorem nodup_more (l : List Nat) (k : Nat) (hk : k < l.length) (hn : (l.take k).Nodup) (h : l.getD k 0 ∉ l.take k) : (l.take (k + 1)).Nodup := by
  rw [take_more l k hk, List.nodup_append]
  refine ⟨hn, by simp, ?_⟩
  intro a ha b hb
  simp only [List.mem_singleton] at hb
  subst hb
  exact fun e => h (e ▸ ha)
theorem not_nodup (l : List Nat) (k : Nat) (hk : k < l.length) (h : l.getD k 0 ∈ l.take k) : ¬ l.Nodup := by
  intro hn
  have : (l.take (k + 1)).Nodup := hn.sublist (List.take_sublist _ _)
  rw [take_more l k hk, List.nodup_append] at this
  exact this.2.2 _ h _ (by simp) rfl

/-- Bytes that differ are no more than there are. -/
theorem nodup_len : ∀ (n : Nat) (l : List Nat), l.Nodup → (∀ x ∈ l, x < n) → l.length ≤ n
  | 0, l, _, h => by
    cases l with
    | nil => simp
    | cons a l => exact absurd (h a (by simp)) (by omega)
  | n + 1, l, hn, h => by
    have h1 := nodup_len n (l.erase n) (hn.erase n) (fun x hx => by
      have h2 := (hn.mem_erase_iff).1 hx
      have := h x h2.2
      have := h2.1
      omega)
    have h3 : l.length - 1 ≤ (l.erase n).length := by rw [List.length_erase]; split <;> omega
    omega
theorem bytes_mem {l : List Nat} (hb : Bytes l) : ∀ x ∈ l, x < 256 := by
  intro x hx
  obtain ⟨i, hi, rfl⟩ := List.getElem_of_mem hx
  have := hb i
  rw [List.getD_eq_getElem?_getD, List.getElem?_eq_getElem hi] at this
  exact this
theorem all_in {l : List Nat} (hl : l.length = 256) (hb : Bytes l) (hn : l.Nodup) (b : Nat) (hb' : b < 256) : b ∈ l := by
  apply Classical.byContradiction
  intro h
  have := nodup_len 256 (b :: l) (List.nodup_cons.2 ⟨h, hn⟩) (by
    intro x hx
    rcases List.mem_cons.1 hx with rfl | hx
    · exact hb'
    · exact bytes_mem hb x hx)
  rw [List.length_cons, hl] at this
  omega

/-- The list turned the other way. -/
def sw (l : List Nat) : List Nat := pl l 256
theorem length_sw (l : List Nat) : (sw l).length = 256 := length_pl l 256
theorem sw_get {l : List Nat} (hl : l.length = 256) (hb : Bytes l) (hn : l.Nodup) (b : Nat) (hb' : b < 256) : (sw l).getD b 0 = l.idxOf b := by
  unfold sw
  rw [pl_getD l _ b hb', List.take_of_length_le (by omega), if_pos (all_in hl hb hn b hb')]
theorem idx_lt {l : List Nat} (hl : l.length = 256) (hb : Bytes l) (hn : l.Nodup) (b : Nat) (hb' : b < 256) : l.idxOf b < 256 := by
  rw [← hl]; exact List.idxOf_lt_length_iff.2 (all_in hl hb hn b hb')
theorem sw_bytes {l : List Nat} (hl : l.length = 256) (hb : Bytes l) (hn : l.Nodup) : Bytes (sw l) := by
  intro i
  by_cases hi : i < 256
  · rw [sw_get hl hb hn i hi]; exact idx_lt hl hb hn i hi
  · rw [List.getD_eq_getElem?_getD, List.getElem?_eq_none (by rw [length_sw]; omega)]; decide
theorem at_idx {l : List Nat} (hl : l.length = 256) (hb : Bytes l) (hn : l.Nodup) (b : Nat) (hb' : b < 256) : l.getD (l.idxOf b) 0 = b := by
  have h := List.idxOf_lt_length_iff.2 (all_in hl hb hn b hb')
  rw [List.getD_eq_getElem?_getD, List.getElem?_eq_getElem h]
  exact List.getElem_idxOf h
theorem not_take {l : List Nat} (hl : l.length = 256) (hn : l.Nodup) (i : Nat) (hi : i < 256) : l.getD i 0 ∉ l.take i := fun h => not_nodup l i (by omega) h hn
theorem idx_at {l : List Nat} (hl : l.length = 256) (hn : l.Nodup) (i : Nat) (hi : i < 256) : l.idxOf (l.getD i 0) = i := idx_first l i (by omega) (not_take hl hn i hi)
/-- Where the list has it. -/
theorem sw_at {l : List Nat} (hl : l.length = 256) (hb : Bytes l) (hn : l.Nodup) (i : Nat) (hi : i < 256) : (sw l).getD (l.getD i 0) 0 = i := by
  rw [sw_get hl hb hn _ (hb i), idx_at hl hn i hi]
theorem at_sw {l : List Nat} (hl : l.length = 256) (hb : Bytes l) (hn : l.Nodup) (b : Nat) (hb' : b < 256) : l.getD ((sw l).getD b 0) 0 = b := by
  rw [sw_get hl hb hn b hb', at_idx hl hb hn b hb']
theorem getD_inj_nodup {l : List Nat} (h : ∀ i j, i < l.length → j < l.length → l.getD i 0 = l.getD j 0 → i = j) : l.Nodup := by
  rw [List.Nodup, List.pairwise_iff_getElem]
  intro i j hi hj hij e
  have := h i j hi hj (by
    rw [List.getD_eq_getElem?_getD, List.getElem?_eq_getElem hi, List.getD_eq_getElem?_getD, List.getElem?_eq_getElem hj]
    exact e)
  omega
theorem sw_nodup {l : List Nat} (hl : l.length = 256) (hb : Bytes l) (hn : l.Nodup) : (sw l).Nodup := by
  apply getD_inj_nodup
  intro i j hi hj e
  rw [length_sw] at hi hj
  have h1 := at_sw hl hb hn i hi
  have h2 := at_sw hl hb hn j hj
  rw [e, h2] at h1
  exact h1.symm
theorem ext256 {l m : List Nat} (h1 : l.length = 256) (h2 : m.length = 256) (h : ∀ i, i < 256 → l.getD i 0 = m.getD i 0) : l = m := by
  apply List.ext_getElem (by omega)
  intro i a b
  have := h i (by omega)
  simpa [a, b] using this
/-- Twice the other way is the same. -/
theorem sw_sw {l : List Nat} (hl : l.length = 256) (hb : Bytes l) (hn : l.Nodup) : sw (sw l) = l := by
  refine ext256 (length_sw _) hl fun i hi => ?_
  have hb' := sw_bytes hl hb hn
  have hn' := sw_nodup hl hb hn
  have e := sw_at (length_sw l) hb' hn' (l.getD i 0) (hb i)
  rw [sw_at hl hb hn i hi] at e
  exact e

/-! how often -/
def cnt (l : List Nat) (k : Nat) : List Nat := (List.range 256).map fun b => (l.take k).count b
theorem length_cnt (l : List Nat) (k : Nat) : (cnt l k).length = 256 := by simp [cnt]
theorem cnt_get (l : List Nat) (k b : Nat) (hb : b < 256) : (cnt l k).getD b 0 = (l.take k).count b := by simp [cnt, hb]
theorem cnt_none (l : List Nat) : cnt l 0 = List.replicate 256 0 := by
  refine ext256 (length_cnt _ _) (rep_len _ _) fun i hi => ?_
  rw [cnt_get l 0 i hi, rep_getD]; rfl
theorem cnt_le (l : List Nat) (k b : Nat) : (cnt l k).getD b 0 ≤ k := by
  by_cases hb : b < 256
  · rw [cnt_get l k b hb]
    exact Nat.le_trans (List.count_le_length) (by simp; omega)
  · rw [List.getD_eq_getElem?_getD, List.getElem?_eq_none (by rw [length_cnt]; omega)]; simp
theorem getD_set (l : List Nat) (k c i : Nat) (hk : k < l.length) : (l.set k c).getD i 0 = if i = k then c else l.getD i 0 := by
  by_cases h : i = k
  · subst h; simp [hk]
  · simp [h, List.getElem?_set_ne (fun e => h e.symm)]
theorem cnt_more (l : List Nat) (k : Nat) (hk : k < l.length) (hc : l.getD k 0 < 256) : cnt l (k + 1) = (cnt l k).set (l.getD k 0) ((cnt l k).getD (l.getD k 0) 0 + 1) := by
  refine ext256 (length_cnt _ _) (by rw [List.length_set, length_cnt]) fun i hi => ?_
  rw [getD_set _ _ _ _ (by rw [length_cnt]; exact hc), cnt_get l _ i hi, cnt_get l k _ hc, cnt_get l k i hi, take_more l k hk, List.count_append, List.count_singleton]
  by_cases e : i = l.getD k 0
  · subst e; simp
  · rw [if_neg e, if_neg (by simpa using fun x => e x.symm)]; omega
/-- The first k are there once. -/
def once (c : List Nat) (k : Nat) : Bool := (List.range k).all fun i => c.getD i 0 == 1
theorem once_more (c : List Nat) (k : Nat) : once c (k + 1) = (once c k && (c.getD k 0 == 1)) := by
  simp [once, List.range_succ]
theorem once_nodup {l : List Nat} (hl : l.length = 256) (hb : Bytes l) : once (cnt l 256) 256 = decide l.Nodup := by
  have e : l.take 256 = l := List.take_of_length_le (by omega)
  rw [Bool.eq_iff_iff]
  simp only [once, List.all_eq_true, List.mem_range, beq_iff_eq, decide_eq_true_eq]
  constructor
  · intro h
    rw [List.nodup_iff_count]
    intro a
    by_cases ha : a < 256
    · have := h a ha
      rw [cnt_get l _ a ha, e] at this
      omega
    · rw [List.count_eq_zero_of_not_mem (fun hm => ha (bytes_mem hb a hm))]; omega
  · intro h i hi
    rw [cnt_get l _ i hi, e]
    have h1 := List.count_pos_iff.2 (all_in hl hb h i hi)
    have h2 := List.nodup_iff_count.1 h i
    omega
end Go.Proofs.YtdjknmnmacppdaaDoor.Sw
namespace Go.Proofs.YtdjknmnmacppdaaDoor.Ae
open Gf Sb

/-! lists that are filled from the front -/
/-- The first k of n places are f's, the others are old's. -/
def upto (f old : Nat → Nat) (n k : Nat) : List Nat := (List.range n).map fun i => if i < k then f i else old i
theorem length_upto (f old : Nat → Nat) (n k : Nat) : (upto f old n k).length = n := by simp [upto]
theorem upto_get (f old : Nat → Nat) (n k i : Nat) (hi : i < n) : (upto f old n k).getD i 0 = if i < k then f i else old i := by simp [upto, hi]
theorem list_ext {n : Nat} {l m : List Nat} (h1 : l.length = n) (h2 : m.length = n) (h : ∀ i, i < n → l.getD i 0 = m.getD i 0) : l = m := by
  apply List.ext_getElem (by omega)
  intro i a b
  have := h i (by omega)
  simpa [a, b] using this
theorem upto_succ (f old : Nat → Nat) (n k : Nat) (hk : k < n) : upto f old n (k + 1) = (upto f old n k).set k (f k) := by
  refine list_ext (length_upto ..) (by rw [List.length_set, length_upto]) fun i hi => ?_
  rw [Sw.getD_set _ _ _ _ (by rw [length_upto]; exact hk), upto_get _ _ _ _ _ hi, upto_get _ _ _ _ _ hi]
  by_cases h : i = k
  · subst h; rw [if_pos (by omega), if_pos rfl]
  · rw [if_neg h]
    by_cases h2 : i < k
    · rw [if_pos (by omega), if_pos h2]
    · rw [if_neg (by omega), if_neg h2]
theorem upto_zero (f : Nat → Nat) (l : List Nat) (n : Nat) (hl : l.length = n) : upto f (fun i => l.getD i 0) n 0 = l :=
  list_ext (length_upto ..) hl fun i hi => by rw [upto_get _ _ _ _ _ hi, if_neg (by omega)]
theorem upto_noughts (f : Nat → Nat) (n : Nat) : upto f (fun _ => 0) n 0 = List.replicate n 0 :=
  list_ext (length_upto ..) (by simp) fun i hi => by rw [upto_get _ _ _ _ _ hi, if_neg (by omega), Sw.rep_getD]
theorem upto_all (f old : Nat → Nat) (n : Nat) : upto f old n n = (List.range n).map f :=
  list_ext (length_upto ..) (by simp) fun i hi => by rw [upto_get _ _ _ _ _ hi, if_pos hi]; simp [hi]
theorem map_get (f : Nat → Nat) (n i : Nat) (hi : i < n) : ((List.range n).map f).getD i 0 = f i := by simp [hi]
theorem getD_out (l : List Nat) (i : Nat) (h : l.length ≤ i) : l.getD i 0 = 0 := by simp [List.getElem?_eq_none h]

/-! states -/
/-- A state: 16 bytes. -/
def St (b : List Nat) : Prop := b.length = 16 ∧ ∀ i, b.getD i 0 < 256
theorem st_map (f : Nat → Nat) (h : ∀ i, i < 16 → f i < 256) : St ((List.range 16).map f) := by
  refine ⟨by simp, fun i => ?_⟩
  by_cases hi : i < 16
  · rw [map_get f 16 i hi]; exact h i hi
  · rw [getD_out _ _ (by simp; omega)]; omega
theorem st_ext {b c : List Nat} (hb : St b) (hc : St c) (h : ∀ i, i < 16 → b.getD i 0 = c.getD i 0) : b = c := list_ext hb.1 hc.1 h

/-- 2 times. -/
def D (a : Nat) : Nat := T 2 a
theorem D_xor (a b : Nat) : D (a ^^^ b) = D a ^^^ D b := T_right 2 a b
theorem D_lt (a : Nat) : D a < 256 := T_lt 2 a (by omega)
theorem D_eq (a : Nat) (ha : a < 256) : T a 2 = D a := T_comm a 2 ha (by omega)
/-- The products with 2. -/
def twL : List Nat := (List.range 256).map D
theorem twL_len : twL.length = 256 := by simp [twL]
theorem twL_get (a : Nat) (ha : a < 256) : twL.getD a 0 = D a := map_get D 256 a ha

/-- Each byte by the box t. -/
def subL (t b : List Nat) : List Nat := (List.range 16).map fun i => t.getD (b.getD i 0) 0
/-- Put together. -/
def xorL (a b : List Nat) : List Nat := (List.range 16).map fun i => a.getD i 0 ^^^ b.getD i 0
/-- Where byte i comes from. -/
def from' (p i : Nat) : Nat := (i + 4 * p * (i % 4)) % 16
/-- Row r goes r times p places to the left. -/
def turnL (p : Nat) (b : List Nat) : List Nat := (List.range 16).map fun i => b.getD (from' p i) 0
/-- Byte i, its column mixed. -/
def mixAt (b : List Nat) (i : Nat) : Nat :=
  (b.getD i 0 ^^^ (b.getD (i / 4 * 4) 0 ^^^ b.getD (i / 4 * 4 + 1) 0 ^^^ b.getD (i / 4 * 4 + 2) 0 ^^^ b.getD (i / 4 * 4 + 3) 0)) ^^^ D (b.getD i 0 ^^^ b.getD (i / 4 * 4 + (i % 4 + 1) % 4) 0)
def mixL (b : List Nat) : List Nat := (List.range 16).map (mixAt b)
/-- Byte i, and 4 times what it and the one two rows on are together. -/
def preAt (b : List Nat) (i : Nat) : Nat := b.getD i 0 ^^^ D (D (b.getD (i / 4 * 4 + i % 2) 0 ^^^ b.getD (i / 4 * 4 + i % 2 + 2) 0))
def preL (b : List Nat) : List Nat := (List.range 16).map (preAt b)
def unmixL (b : List Nat) : List Nat := mixL (preL b)

theorem st_sub {t b : List Nat} (ht : Sw.Bytes t) : St (subL t b) := st_map _ fun _ _ => ht _
theorem st_xor {a b : List Nat} (ha : St a) (hb : St b) : St (xorL a b) := st_map _ fun i _ => xor_lt (ha.2 i) (hb.2 i)
theorem st_turn {p : Nat} {b : List Nat} (hb : St b) : St (turnL p b) := st_map _ fun _ _ => hb.2 _
theorem st_mix {b : List Nat} (hb : St b) : St (mixL b) := st_map _ fun _ _ =>
  xor_lt (xor_lt (hb.2 _) (xor_lt (xor_lt (xor_lt (hb.2 _) (hb.2 _)) (hb.2 _)) (hb.2 _))) (D_lt _)
theorem st_pre {b : List Nat} (hb : St b) : St (preL b) := st_map _ fun _ _ => xor_lt (hb.2 _) (D_lt _)
theorem st_unmix {b : List Nat} (hb : St b) : St (unmixL b) := st_mix (st_pre hb)

theorem sub_sub {t u b : List Nat} (hb : St b) (hu : Sw.Bytes u) (h : ∀ a, a < 256 → u.getD (t.getD a 0) 0 = a) : subL u (subL t b) = b := by
  refine st_ext (st_sub hu) hb fun i hi => ?_
  rw [subL, map_get _ _ _ hi, subL, map_get _ _ _ hi, h _ (hb.2 i)]
theorem xor_xor {a b : List Nat} (ha : St a) (hb : St b) : xorL (xorL a b) b = a := by
  refine st_ext (st_xor (st_xor ha hb) hb) ha fun i hi => ?_
  rw [xorL, map_get _ _ _ hi, xorL, map_get _ _ _ hi, Nat.xor_assoc, Nat.xor_self, Nat.xor_zero]
theorem from_lt (p i : Nat) : from' p i < 16 := Nat.mod_lt _ (by omega)
theorem turn_turn {p q : Nat} {b : List Nat} (hb : St b) (h : ∀ i, i < 16 → from' p (from' q i) = i) : turnL q (turnL p b) = b := by
  refine st_ext (st_turn (st_turn hb)) hb fun i hi => ?_
  rw [turnL, map_get _ _ _ hi, turnL, map_get _ _ _ (from_lt q i), h i hi]
theorem turn_13 {b : List Nat} (hb : St b) : turnL 3 (turnL 1 b) = b := turn_turn hb (by decide)
theorem turn_31 {b : List Nat} (hb : St b) : turnL 1 (turnL 3 b) = b := turn_turn hb (by decide)

theorem xor_can (a b : Nat) : a ^^^ (a ^^^ b) = b := by rw [← Nat.xor_assoc, Nat.xor_self, Nat.zero_xor]
theorem xor_left (a b c : Nat) : a ^^^ (b ^^^ c) = b ^^^ (a ^^^ c) := by rw [← Nat.xor_assoc, Nat.xor_comm a b, Nat.xor_assoc]
theorem mixL_get (b : List Nat) (i : Nat) (hi : i < 16) : (mixL b).getD i 0 = mixAt b i := map_get _ _ _ hi
theorem preL_get (b : List Nat) (i : Nat) (hi : i < 16) : (preL b).getD i 0 = preAt b i := map_get _ _ _ hi
theorem mixAt_col (b : List Nat) (c j : Nat) (hj : j < 4) : mixAt b (4 * c + j) = (b.getD (4 * c + j) 0 ^^^ (b.getD (4 * c) 0 ^^^ b.getD (4 * c + 1) 0 ^^^ b.getD (4 * c + 2) 0 ^^^ b.getD (4 * c + 3) 0)) ^^^ D (b.getD (4 * c + j) 0 ^^^ b.getD (4 * c + (j + 1) % 4) 0) := by
  have e1 : (4 * c + j) / 4 * 4 = 4 * c := by omega
  have e2 : (4 * c + j) % 4 = j := by omega
  rw [mixAt, e1, e2]
theorem preAt_col (b : List Nat) (c j : Nat) (hj : j < 4) : preAt b (4 * c + j) = b.getD (4 * c + j) 0 ^^^ D (D (b.getD (4 * c + j % 2) 0 ^^^ b.getD (4 * c + j % 2 + 2) 0)) := by
  have e1 : (4 * c + j) / 4 * 4 = 4 * c := by omega
  have e2 : (4 * c + j) % 2 = j % 2 := by omega
  rw [preAt, e1, e2]
theorem col_of (i : Nat) (hi : i < 16) : ∃ c j, c < 4 ∧ j < 4 ∧ i = 4 * c + j := ⟨i / 4, i % 4, by omega, by omega, by omega⟩
theorem mix_mix (b : List Nat) : mixL (mixL b) = preL b := by
  refine list_ext (n := 16) (by simp [mixL]) (by simp [preL]) fun i hi => ?_
  rw [mixL_get _ _ hi, preL_get _ _ hi]
  obtain ⟨c, j, hc, hj, rfl⟩ := col_of i hi
  have e : ∀ r, r < 4 → (mixL b).getD (4 * c + r) 0 = (b.getD (4 * c + r) 0 ^^^ (b.getD (4 * c) 0 ^^^ b.getD (4 * c + 1) 0 ^^^ b.getD (4 * c + 2) 0 ^^^ b.getD (4 * c + 3) 0)) ^^^ D (b.getD (4 * c + r) 0 ^^^ b.getD (4 * c + (r + 1) % 4) 0) :=
    fun r hr => by rw [mixL_get b _ (by omega), mixAt_col b c r hr]
  have e0 := e 0 (by omega)
  have e1 := e 1 (by omega)
  have e2 := e 2 (by omega)
  have e3 := e 3 (by omega)
  clear e
  rw [mixAt_col _ _ _ hj, preAt_col _ _ _ hj]
  have hj' : j = 0 ∨ j = 1 ∨ j = 2 ∨ j = 3 := by omega
  rcases hj' with rfl | rfl | rfl | rfl
  all_goals
    simp only [Nat.add_zero, Nat.zero_add, Nat.reduceAdd, Nat.reduceMod, Nat.add_assoc] at e0 e1 e2 e3 ⊢
    rw [e0, e1, e2, e3]
    generalize b.getD (4 * c) 0 = p
    generalize b.getD (4 * c + 1) 0 = q
    generalize b.getD (4 * c + 2) 0 = s
    generalize b.getD (4 * c + 3) 0 = t
    simp only [D_xor]
    simp only [Nat.xor_assoc, xor_left, Nat.xor_comm, Nat.xor_self, Nat.xor_zero, Nat.zero_xor, xor_can]
theorem pre_pre {b : List Nat} (hb : St b) : preL (preL b) = b := by
  refine st_ext (st_pre (st_pre hb)) hb fun i hi => ?_
  rw [preL_get _ _ hi]
  obtain ⟨c, j, hc, hj, rfl⟩ := col_of i hi
  have e : ∀ r, r < 4 → (preL b).getD (4 * c + r) 0 = b.getD (4 * c + r) 0 ^^^ D (D (b.getD (4 * c + r % 2) 0 ^^^ b.getD (4 * c + r % 2 + 2) 0)) :=
    fun r hr => by rw [preL_get b _ (by omega), preAt_col b c r hr]
  have e0 := e 0 (by omega)
  have e1 := e 1 (by omega)
  have e2 := e 2 (by omega)
  have e3 := e 3 (by omega)
  clear e
  rw [preAt_col _ _ _ hj]
  have hj' : j = 0 ∨ j = 1 ∨ j = 2 ∨ j = 3 := by omega
  rcases hj' with rfl | rfl | rfl | rfl
  all_goals
    simp only [Nat.add_zero, Nat.reduceAdd, Nat.reduceMod, Nat.add_assoc] at e0 e1 e2 e3 ⊢
    simp only [e0, e1, e2, e3]
    generalize b.getD (4 * c) 0 = p
    generalize b.getD (4 * c + 1) 0 = q
    generalize b.getD (4 * c + 2) 0 = s
    generalize b.getD (4 * c + 3) 0 = t
    simp only [D_xor]
    simp only [Nat.xor_assoc, xor_left, Nat.xor_comm, Nat.xor_self, Nat.xor_zero]
theorem unmix_mix {b : List Nat} (hb : St b) : unmixL (mixL b) = b := by
  rw [unmixL, ← mix_mix (mixL b), mix_mix b, mix_mix (preL b), pre_pre hb]
theorem mix_unmix {b : List Nat} (hb : St b) : mixL (unmixL b) = b := by rw [unmixL, mix_mix, pre_pre hb]

/-! rounds -/
/-- The box back. -/
def bk : List Nat := Sw.sw boxL
theorem boxL_by : Sw.Bytes boxL := boxL_lt
theorem bk_by : Sw.Bytes bk := Sw.sw_bytes boxL_len boxL_by boxL_nodup
theorem bk_box {b : List Nat} (hb : St b) : subL bk (subL boxL b) = b := sub_sub hb bk_by fun a ha => Sw.sw_at boxL_len boxL_by boxL_nodup a ha
theorem box_bk {b : List Nat} (hb : St b) : subL boxL (subL bk b) = b := sub_sub hb boxL_by fun a ha => Sw.at_sw boxL_len boxL_by boxL_nodup a ha
/-- Round j's key. -/
def ek (K : List Nat) (j : Nat) : List Nat := (K.drop (16 * j)).take 16
theorem st_ek {K : List Nat} (hK : ∀ i, K.getD i 0 < 256) (j : Nat) (hj : 16 * j + 16 ≤ K.length) : St (ek K j) := by
  refine ⟨by simp [ek]; omega, fun i => ?_⟩
  by_cases hi : i < 16
  · have : (ek K j).getD i 0 = K.getD (16 * j + i) 0 := by simp [ek, hi]
    rw [this]; exact hK _
  · rw [getD_out _ _ (by simp [ek]; omega)]; omega
/-- One round there. -/
def E (r : Nat) (K : List Nat) (j : Nat) (b : List Nat) : List Nat := xorL (if j < r then mixL (turnL 1 (subL boxL b)) else turnL 1 (subL boxL b)) (ek K j)
/-- One round back. -/
def Dc (r : Nat) (K : List Nat) (j : Nat) (b : List Nat) : List Nat := subL bk (turnL 3 (if j < r then unmixL (xorL b (ek K j)) else xorL b (ek K j)))
/-- The keys of r rounds. -/
def Keys (r : Nat) (K : List Nat) : Prop := ∀ j, j ≤ r → St (ek K j)
theorem st_E {r j : Nat} {K b : List Nat} (hk : St (ek K j)) : St (E r K j b) := by
  unfold E
  refine st_xor ?_ hk
  split
  · exact st_mix (st_turn (st_sub boxL_by))
  · exact st_turn (st_sub boxL_by)
theorem st_Dc {r j : Nat} {K b : List Nat} : St (Dc r K j b) := st_sub bk_by
theorem Dc_E {r j : Nat} {K b : List Nat} (hk : St (ek K j)) (hb : St b) : Dc r K j (E r K j b) = b := by
  have h1 : St (turnL 1 (subL boxL b)) := st_turn (st_sub boxL_by)
  unfold Dc E
  split
  · rw [xor_xor (st_mix h1) hk, unmix_mix h1, turn_13 (st_sub boxL_by), bk_box hb]
  · rw [xor_xor h1 hk, turn_13 (st_sub boxL_by), bk_box hb]
theorem E_Dc {r j : Nat} {K b : List Nat} (hk : St (ek K j)) (hb : St b) : E r K j (Dc r K j b) = b := by
  have h1 : St (xorL b (ek K j)) := st_xor hb hk
  unfold Dc E
  split
  · rw [box_bk (st_turn (st_unmix h1)), turn_31 (st_unmix h1), mix_unmix h1, xor_xor hb hk]
  · rw [box_bk (st_turn h1), turn_31 h1, xor_xor hb hk]
/-- Rounds 1 to j there. -/
def encS (r : Nat) (K : List Nat) : Nat → List Nat → List Nat
  | 0, b => b
  | j + 1, b => E r K (j + 1) (encS r K j b)
/-- Rounds j to 1 back. -/
def decG (r : Nat) (K : List Nat) : Nat → List Nat → List Nat
  | 0, b => b
  | j + 1, b => decG r K j (Dc r K (j + 1) b)
theorem st_encS {r : Nat} {K b : List Nat} (hk : Keys r K) (hb : St b) : ∀ j, j ≤ r → St (encS r K j b)
  | 0, _ => hb
  | _ + 1, h => st_E (hk _ h)
theorem st_decG {r : Nat} {K : List Nat} : ∀ (j : Nat) (b : List Nat), St b → St (decG r K j b)
  | 0, _, h => h
  | j + 1, _, _ => st_decG j _ st_Dc
theorem decG_encS {r : Nat} {K b : List Nat} (hk : Keys r K) (hb : St b) : ∀ j, j ≤ r → decG r K j (encS r K j b) = b
  | 0, _ => rfl
  | j + 1, h => by rw [encS, decG, Dc_E (hk _ h) (st_encS hk hb j (by omega)), decG_encS hk hb j (by omega)]
theorem encS_decG {r : Nat} {K : List Nat} (hk : Keys r K) : ∀ j, j ≤ r → ∀ b, St b → encS r K j (decG r K j b) = b
  | 0, _, _, _ => rfl
  | j + 1, h, b, hb => by rw [encS, decG, encS_decG hk j (by omega) _ st_Dc, E_Dc (hk _ h) hb]
/-- Enciphered. -/
def enc (r : Nat) (K b : List Nat) : List Nat := encS r K r (xorL b (ek K 0))
/-- Deciphered. -/
def dec (r : Nat) (K b : List Nat) : List Nat := xorL (decG r K r b) (ek K 0)
theorem st_enc {r : Nat} {K b : List Nat} (hk : Keys r K) (hb : St b) : St (enc r K b) := st_encS hk (st_xor hb (hk 0 (by omega))) r (by omega)
theorem st_dec {r : Nat} {K b : List Nat} (hk : Keys r K) (hb : St b) : St (dec r K b) := st_xor (st_decG r b hb) (hk 0 (by omega))
theorem dec_enc {r : Nat} {K b : List Nat} (hk : Keys r K) (hb : St b) : dec r K (enc r K b) = b := by
  rw [dec, enc, decG_encS hk (st_xor hb (hk 0 (by omega))) r (by omega), xor_xor hb (hk 0 (by omega))]
theorem enc_dec {r : Nat} {K b : List Nat} (hk : Keys r K) (hb : St b) : enc r K (dec r K b) = b := by
  rw [enc, dec, xor_xor (st_decG r b hb) (hk 0 (by omega)), encS_decG hk r (by omega) b hb]
theorem enc_eq {r : Nat} {K a b : List Nat} (hk : Keys r K) (ha : St a) (hb : St b) : enc r K a = enc r K b ↔ a = b :=
  ⟨fun h => by rw [← dec_enc hk ha, h, dec_enc hk hb], fun h => by rw [h]⟩
end Go.Proofs.YtdjknmnmacppdaaDoor.Ae
namespace Go.Proofs.YtdjknmnmacppdaaDoor

/-- The number of the bytes, the highest first. -/
def num : List Nat → Nat
  | [] => 0
  | c :: r => c * 256 ^ r.length + num r

/-- The lowest s bytes of x, the highest first. -/
def bytesOf (x : Nat) : Nat → List Nat
  | 0 => []
  | s + 1 => (x / 256 ^ s % 256) :: bytesOf x s

theorem num_snoc (bs : List Nat) (c : Nat) : num (bs ++ [c]) = 256 * num bs + c := by
  induction bs with
  | nil => simp [num]
  | cons a r ih =>
    simp only [List.cons_append, num, ih, List.length_append, List.length_cons, List.length_nil, Nat.zero_add, Nat.pow_succ]
    rw [Nat.mul_add, ← Nat.mul_assoc, Nat.mul_comm (a * 256 ^ r.length) 256, Nat.add_assoc]

theorem num_lt (bs : List Nat) (h : ∀ x, x ∈ bs → x < 256) : num bs < 256 ^ bs.length := by
  induction bs with
  | nil => simp [num]
  | cons a r ih =>
    have h1 := ih (fun x hx => h x (by simp [hx]))
    have h2 : a + 1 ≤ 256 := h a (by simp)
    have h3 : (a + 1) * 256 ^ r.length ≤ 256 * 256 ^ r.length := Nat.mul_le_mul_right _ h2
    simp only [num, List.length_cons, Nat.pow_succ]
    rw [Nat.mul_comm (256 ^ r.length) 256]
    rw [Nat.add_mul, Nat.one_mul] at h3
    omega

theorem length_bytesOf (x s : Nat) : (bytesOf x s).length = s := by
  induction s with
  | zero => rfl
  | succ s ih => simp [bytesOf, ih]

theorem bytesOf_lt (x s : Nat) : ∀ c, c ∈ bytesOf x s → c < 256 := by
  induction s with
  | zero => simp [bytesOf]
  | succ s ih =>
    intro c hc
    simp only [bytesOf, List.mem_cons] at hc
    rcases hc with rfl | hc
    · exact Nat.mod_lt _ (by omega)
    · exact ih c hc

theorem getD_bytesOf (x s i : Nat) (h : i < s) : (bytesOf x s).getD i 0 = x / 256 ^ (s - 1 - i) % 256 := by
  induction s generalizing i with
  | zero => omega
  | succ s ih =>
    cases i with
    | zero => simp [bytesOf]
    | succ i =>
      have := ih i (by omega)
      have e : s + 1 - 1 - (i + 1) = s - 1 - i := by omega
      rw [e, ← this]
      simp [bytesOf]

theorem num_bytesOf (x s : Nat) : num (bytesOf x s) = x % 256 ^ s := by
  induction s with
  | zero => simp [bytesOf, num, Nat.mod_one]
  | succ s ih =>
    simp only [bytesOf, num, ih, length_bytesOf]
    rw [Nat.pow_succ, Nat.mod_mul, Nat.mul_comm, Nat.add_comm]

theorem bytesOf_add_mul (a q s : Nat) : bytesOf (q * 256 ^ s + a) s = bytesOf a s := by
  induction s generalizing q with
  | zero => rfl
  | succ s ih =>
    simp only [bytesOf]
    have e : q * 256 ^ (s + 1) + a = (q * 256) * 256 ^ s + a := by rw [Nat.pow_succ, Nat.mul_assoc, Nat.mul_comm 256 (256 ^ s)]
    rw [e, ih]
    congr 1
    have h1 : ((q * 256) * 256 ^ s + a) / 256 ^ s = q * 256 + a / 256 ^ s := by
      rw [Nat.add_comm, Nat.add_mul_div_right _ _ (Nat.pow_pos (by omega)), Nat.add_comm]
    rw [h1]
    omega

theorem bytesOf_num (bs : List Nat) (h : ∀ x, x ∈ bs → x < 256) : bytesOf (num bs) bs.length = bs := by
  induction bs with
  | nil => rfl
  | cons a r ih =>
    have h1 := num_lt r (fun x hx => h x (by simp [hx]))
    have h2 : a < 256 := h a (by simp)
    have h3 := ih (fun x hx => h x (by simp [hx]))
    simp only [num, List.length_cons, bytesOf]
    rw [bytesOf_add_mul, h3]
    congr 1
    have : (a * 256 ^ r.length + num r) / 256 ^ r.length = a := by
      rw [Nat.add_comm, Nat.add_mul_div_right _ _ (Nat.pow_pos (by omega)), Nat.div_eq_of_lt h1]; omega
    rw [this]; omega

theorem take_snoc (bs : List Nat) (k : Nat) (h : k < bs.length) : bs.take (k + 1) = bs.take k ++ [bs.getD k 0] := by
  rw [List.take_succ_eq_append_getElem h]
  simp [h]

theorem take_mem {bs : List Nat} (h : ∀ x, x ∈ bs → x < 256) (k : Nat) : ∀ x, x ∈ bs.take k → x < 256 := fun x hx => h x (List.mem_of_mem_take hx)

/-- What gather has after k of n bytes. -/
def gath (bs : List Nat) (n k : Nat) : Nat := num (bs.take k) * 256 ^ (n - k)

theorem gath_zero (bs : List Nat) (n : Nat) : gath bs n 0 = 0 := by simp [gath, num]
theorem gath_all (bs : List Nat) : gath bs bs.length bs.length = num bs := by simp [gath]
theorem gath_succ (bs : List Nat) (k : Nat) (h : k < bs.length) :
    gath bs bs.length (k + 1) = gath bs bs.length k + bs.getD k 0 * 256 ^ (bs.length - 1 - k) := by
  have e1 : bs.length - k = (bs.length - 1 - k) + 1 := by omega
  have e2 : bs.length - (k + 1) = bs.length - 1 - k := by omega
  unfold gath
  rw [take_snoc bs k h, num_snoc, e1, e2, Nat.pow_succ, Nat.add_mul]
  congr 1
  rw [Nat.mul_comm 256 (num _), Nat.mul_assoc, Nat.mul_comm 256]
theorem gath_lt (bs : List Nat) (hb : ∀ x, x ∈ bs → x < 256) (k : Nat) (h : k ≤ bs.length) : gath bs bs.length k < 256 ^ bs.length := by
  have h1 := num_lt (bs.take k) (take_mem hb k)
  have e : (bs.take k).length = k := by simp; omega
  rw [e] at h1
  have h2 : 256 ^ bs.length = 256 ^ k * 256 ^ (bs.length - k) := by rw [← Nat.pow_add]; congr 1; omega
  unfold gath
  rw [h2]
  exact Nat.mul_lt_mul_of_lt_of_le h1 (Nat.le_refl _) (Nat.pow_pos (by omega))
theorem two_pow8 (n : Nat) : 2 ^ (8 * n) = 256 ^ n := by rw [Nat.pow_mul]
theorem pow_le8 {n : Nat} (h : n ≤ 8) : 256 ^ n ≤ 18446744073709551616 := by
  have : 256 ^ n ≤ 256 ^ 8 := Nat.pow_le_pow_right (by omega) h
  simpa using this
end Go.Proofs.YtdjknmnmacppdaaDoor
