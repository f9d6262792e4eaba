/-
  Own plain lemmas on bytes as elements of the field: products, powers, inverses. No program is named here.
-/
namespace Go.Proofs.YtonoidhlbnbhcaaDoor.Gf

/-- Times x. -/
def xt (a : Nat) : Nat := (a <<< 1) ^^^ (a >>> 7 * 283)
/-- The product with the lowest k bits of b. -/
def mulN : Nat → Nat → Nat → Nat
  | 0, _, _ => 0
  | k + 1, a, b => (b % 2 * a) ^^^ mulN k (xt a) (b >>> 1)
def T (a b : Nat) : Nat := mulN 8 a b

def Lin (f : Nat → Nat) : Prop := ∀ a c, a < 256 → c < 256 → f (a ^^^ c) = f a ^^^ f c

theorem xor_lt {a c : Nat} (ha : a < 256) (hc : c < 256) : a ^^^ c < 256 := Nat.xor_lt_two_pow (n := 8) ha hc
theorem xor4 (a b c d : Nat) : (a ^^^ b) ^^^ (c ^^^ d) = (a ^^^ c) ^^^ (b ^^^ d) := by
  rw [Nat.xor_assoc, Nat.xor_assoc, ← Nat.xor_assoc b, Nat.xor_comm b c, Nat.xor_assoc c]

theorem bit_mul (x y m : Nat) (hx : x < 2) (hy : y < 2) : (x ^^^ y) * m = x * m ^^^ y * m := by
  match x, y, hx, hy with
  | 0, 0, _, _ => simp
  | 0, 1, _, _ => simp
  | 1, 0, _, _ => simp
  | 1, 1, _, _ => simp
theorem xor_mod2 (b c : Nat) : (b ^^^ c) % 2 = b % 2 ^^^ c % 2 := by
  have := Nat.xor_mod_two_pow (a := b) (b := c) (n := 1)
  simpa using this

theorem xt_xor (a c : Nat) (ha : a < 256) (hc : c < 256) : xt (a ^^^ c) = xt a ^^^ xt c := by
  unfold xt
  have e1 : (a ^^^ c) <<< 1 = a <<< 1 ^^^ c <<< 1 := Nat.shiftLeft_xor_distrib
  have e2 : (a ^^^ c) >>> 7 = a >>> 7 ^^^ c >>> 7 := Nat.shiftRight_xor_distrib
  have h1 : a >>> 7 < 2 := by rw [Nat.shiftRight_eq_div_pow]; omega
  have h2 : c >>> 7 < 2 := by rw [Nat.shiftRight_eq_div_pow]; omega
  rw [e1, e2, bit_mul _ _ _ h1 h2, xor4]

theorem xt_lt (a : Nat) (ha : a < 256) : xt a < 256 := by
  have : ∀ a, a < 256 → xt a < 256 := by decide +kernel
  exact this a ha

theorem mulN_lt (k a b : Nat) (ha : a < 256) : mulN k a b < 256 := by
  induction k generalizing a b with
  | zero => simp [mulN]
  | succ k ih =>
    refine xor_lt ?_ (ih _ _ (xt_lt a ha))
    rcases Nat.mod_two_eq_zero_or_one b with h | h <;> simp [h, ha]

theorem mulN_zero (k a : Nat) : mulN k a 0 = 0 := by
  induction k generalizing a with
  | zero => rfl
  | succ k ih => simp [mulN, ih]

theorem mulN_right (k a b c : Nat) : mulN k a (b ^^^ c) = mulN k a b ^^^ mulN k a c := by
  induction k generalizing a b c with
  | zero => simp [mulN]
  | succ k ih =>
    have e2 : (b ^^^ c) >>> 1 = b >>> 1 ^^^ c >>> 1 := Nat.shiftRight_xor_distrib
    simp only [mulN]
    rw [e2, ih, xor_mod2, bit_mul _ _ _ (Nat.mod_lt _ (by omega)) (Nat.mod_lt _ (by omega)), xor4]

theorem mulN_left (k a c b : Nat) (ha : a < 256) (hc : c < 256) : mulN k (a ^^^ c) b = mulN k a b ^^^ mulN k c b := by
  induction k generalizing a b c with
  | zero => simp [mulN]
  | succ k ih =>
    simp only [mulN]
    rw [xt_xor a c ha hc, ih _ _ _ (xt_lt a ha) (xt_lt c hc)]
    rw [xor4]
    congr 1
    rcases Nat.mod_two_eq_zero_or_one b with h | h <;> simp [h]

theorem T_lt (a b : Nat) (ha : a < 256) : T a b < 256 := mulN_lt 8 a b ha
theorem T_right (a b c : Nat) : T a (b ^^^ c) = T a b ^^^ T a c := mulN_right 8 a b c
theorem T_left (a c b : Nat) (ha : a < 256) (hc : c < 256) : T (a ^^^ c) b = T a b ^^^ T c b := mulN_left 8 a c b ha hc
theorem T_zero (a : Nat) : T a 0 = 0 := mulN_zero 8 a

theorem pow_xor : ∀ k, k < 8 → ∀ x, x < 2 ^ k → 2 ^ k ^^^ x = 2 ^ k + x := by decide +kernel

theorem lin_ext {f g : Nat → Nat} (hf : Lin f) (hg : Lin g) (h : ∀ k, k < 8 → f (2 ^ k) = g (2 ^ k)) (a : Nat) (ha : a < 256) : f a = g a := by
  have z : ∀ {f : Nat → Nat}, Lin f → f 0 = 0 := fun {f} hf => by
    have := hf 0 0 (by omega) (by omega)
    simpa using this
  have key : ∀ k, k ≤ 8 → ∀ a, a < 2 ^ k → f a = g a := by
    intro k
    induction k with
    | zero => intro _ a ha; obtain rfl : a = 0 := by simpa using ha
              rw [z hf, z hg]
    | succ k ih =>
      intro hk a ha
      by_cases hl : a < 2 ^ k
      · exact ih (by omega) a hl
      · have hx : a - 2 ^ k < 2 ^ k := by rw [Nat.pow_succ] at ha; omega
        have e := pow_xor k (by omega) _ hx
        have e' : a = 2 ^ k ^^^ (a - 2 ^ k) := by rw [e]; omega
        have h8 : 2 ^ k ≤ 2 ^ 7 := Nat.pow_le_pow_right (by omega) (by omega)
        rw [e', hf _ _ (by omega) (by omega), hg _ _ (by omega) (by omega), h k (by omega), ih (by omega) _ hx]
  exact key 8 (by omega) a ha

theorem T_comm (a b : Nat) (ha : a < 256) (hb : b < 256) : T a b = T b a := by
  refine lin_ext (f := fun a => T a b) (g := fun a => T b a) (fun x y hx hy => T_left x y b hx hy) (fun x y _ _ => T_right b x y) (fun k hk => ?_) a ha
  have hk' : 2 ^ k < 256 := by have : 2 ^ k ≤ 2 ^ 7 := Nat.pow_le_pow_right (by omega) (by omega); omega
  refine lin_ext (f := fun b => T (2 ^ k) b) (g := fun b => T b (2 ^ k)) (fun x y _ _ => T_right _ x y) (fun x y hx hy => T_left x y _ hx hy) ?_ b hb
  have : ∀ k, k < 8 → ∀ j, j < 8 → T (2 ^ k) (2 ^ j) = T (2 ^ j) (2 ^ k) := by decide +kernel
  exact this k hk

theorem pow_lt {k : Nat} (hk : k < 8) : 2 ^ k < 256 := by have : 2 ^ k ≤ 2 ^ 7 := Nat.pow_le_pow_right (by omega) (by omega); omega

theorem T_assoc (a b c : Nat) (ha : a < 256) (hb : b < 256) (hc : c < 256) : T (T a b) c = T a (T b c) := by
  refine lin_ext (f := fun a => T (T a b) c) (g := fun a => T a (T b c)) (fun x y hx hy => ?_) (fun x y hx hy => T_left x y _ hx hy) (fun i hi => ?_) a ha
  · show T (T (x ^^^ y) b) c = _
    rw [T_left x y b hx hy, T_left _ _ c (T_lt _ _ hx) (T_lt _ _ hy)]
  refine lin_ext (f := fun b => T (T (2 ^ i) b) c) (g := fun b => T (2 ^ i) (T b c)) (fun x y hx hy => ?_) (fun x y hx hy => ?_) (fun j hj => ?_) b hb
  · show T (T (2 ^ i) (x ^^^ y)) c = _
    rw [T_right, T_left _ _ c (T_lt _ _ (pow_lt hi)) (T_lt _ _ (pow_lt hi))]
  · show T (2 ^ i) (T (x ^^^ y) c) = _
    rw [T_left x y c hx hy, T_right]
  refine lin_ext (f := fun c => T (T (2 ^ i) (2 ^ j)) c) (g := fun c => T (2 ^ i) (T (2 ^ j) c)) (fun x y hx hy => T_right _ x y) (fun x y hx hy => ?_) (fun k hk => ?_) c hc
  · show T (2 ^ i) (T (2 ^ j) (x ^^^ y)) = _
    rw [T_right, T_right]
  have : ∀ i, i < 8 → ∀ j, j < 8 → ∀ k, k < 8 → T (T (2 ^ i) (2 ^ j)) (2 ^ k) = T (2 ^ i) (T (2 ^ j) (2 ^ k)) := by decide +kernel
  exact this i hi j hj k hk

theorem T_one (a : Nat) (ha : a < 256) : T a 1 = a := by
  have : ∀ a, a < 256 → T a 1 = a := by decide +kernel
  exact this a ha
theorem one_T (a : Nat) (ha : a < 256) : T 1 a = a := by rw [T_comm 1 a (by omega) ha, T_one a ha]
theorem zero_T (a : Nat) (ha : a < 256) : T 0 a = 0 := by rw [T_comm 0 a (by omega) ha, T_zero]

/-- Powers. -/
def pw (a : Nat) : Nat → Nat
  | 0 => 1
  | n + 1 => T (pw a n) a

theorem pw_lt (a n : Nat) (_ha : a < 256) : pw a n < 256 := by
  cases n with
  | zero => simp [pw]
  | succ n =>
    have : ∀ n, pw a n < 256 := fun n => by
      induction n with
      | zero => simp [pw]
      | succ n ih => exact T_lt _ _ ih
    exact this _
theorem pw_one (a : Nat) (ha : a < 256) : pw a 1 = a := one_T a ha
theorem pw_add (a m n : Nat) (ha : a < 256) : pw a (m + n) = T (pw a m) (pw a n) := by
  induction n with
  | zero => exact (T_one _ (pw_lt a m ha)).symm
  | succ n ih => rw [← Nat.add_assoc]; simp only [pw]; rw [ih, T_assoc _ _ _ (pw_lt a m ha) (pw_lt a n ha) ha]
theorem pw_mul (a m k : Nat) (ha : a < 256) : pw (pw a m) k = pw a (m * k) := by
  induction k with
  | zero => rfl
  | succ k ih => rw [Nat.mul_succ, pw_add a _ _ ha, ← ih]; rfl
theorem pw_two (a : Nat) (ha : a < 256) : pw a 2 = T a a := by
  show T (pw a 1) a = _
  rw [pw_one a ha]
theorem pw_sq (a n : Nat) (ha : a < 256) : pw (T a a) n = pw a (2 * n) := by rw [← pw_two a ha, pw_mul a 2 n ha]
theorem pw_of_one (n : Nat) : pw 1 n = 1 := by
  induction n with
  | zero => rfl
  | succ n ih => simp only [pw]; rw [ih]; rfl
theorem pw_of_zero (n : Nat) (h : 0 < n) : pw 0 n = 0 := by
  obtain ⟨m, rfl⟩ : ∃ m, n = m + 1 := ⟨n - 1, by omega⟩
  exact T_zero _

/-- a to 255, by squares. -/
def p255 (a : Nat) : Nat :=
  let a2 := T a a; let a4 := T a2 a2; let a8 := T a4 a4; let a16 := T a8 a8; let a32 := T a16 a16; let a64 := T a32 a32; let a128 := T a64 a64
  T a128 (T a64 (T a32 (T a16 (T a8 (T a4 (T a2 a))))))
theorem p255_eq (a : Nat) (ha : a < 256) : p255 a = pw a 255 := by
  have h1 := pw_one a ha
  have s : ∀ m, T (pw a m) (pw a m) = pw a (m + m) := fun m => (pw_add a m m ha).symm
  have h2 : T a a = pw a 2 := (pw_two a ha).symm
  have j : ∀ m n, T (pw a m) (pw a n) = pw a (m + n) := fun m n => (pw_add a m n ha).symm
  have j1 : T (pw a 2) a = pw a 3 := rfl
  simp only [p255, h2, s, j1, j]
theorem pw_255 (a : Nat) (ha : a < 256) (h : a ≠ 0) : pw a 255 = 1 := by
  have : ∀ a, a < 256 → a ≠ 0 → p255 a = 1 := by decide +kernel
  rw [← p255_eq a ha]
  exact this a ha h
theorem pw_mod (a n : Nat) (ha : a < 256) (h : a ≠ 0) : pw a n = pw a (n % 255) := by
  have e : n = 255 * (n / 255) + n % 255 := (Nat.div_add_mod n 255).symm
  conv => lhs; rw [e]
  rw [pw_add a _ _ ha, ← pw_mul a _ _ ha, pw_255 a ha h, pw_of_one, one_T _ (pw_lt a _ ha)]

/-- The inverse. -/
def inv (a : Nat) : Nat := pw a 254
theorem inv_lt (a : Nat) (ha : a < 256) : inv a < 256 := pw_lt a 254 ha
theorem inv_zero : inv 0 = 0 := pw_of_zero 254 (by omega)
theorem T_inv (a : Nat) (ha : a < 256) (h : a ≠ 0) : T a (inv a) = 1 := by
  rw [T_comm _ _ ha (inv_lt a ha)]
  exact pw_255 a ha h
theorem inv_ne (a : Nat) (ha : a < 256) (h : a ≠ 0) : inv a ≠ 0 := by
  intro e
  have := T_inv a ha h
  rw [e, T_zero] at this
  omega
theorem inv_only (a b : Nat) (ha : a < 256) (hb : b < 256) (h : T a b = 1) : b = inv a := by
  by_cases h0 : a = 0
  · subst h0; rw [zero_T b hb] at h; omega
  · have h1 := T_inv a ha h0
    have h2 : T (inv a) (T a b) = inv a := by rw [h, T_one _ (inv_lt a ha)]
    rw [← T_assoc _ _ _ (inv_lt a ha) ha hb, T_comm _ _ (inv_lt a ha) ha, h1, one_T b hb] at h2
    exact h2
theorem inv_inv (a : Nat) (ha : a < 256) (h : a ≠ 0) : inv (inv a) = a := by
  unfold inv
  rw [pw_mul a _ _ ha, pw_mod a _ ha h]
  exact pw_one a ha
theorem pw_inv (a k : Nat) (ha : a < 256) (h : a ≠ 0) (hk : 0 < k) (hk' : k < 255) : pw (inv a) k = pw a (255 - k) := by
  unfold inv
  rw [pw_mul a _ _ ha, pw_mod a _ ha h]
  congr 1
  omega

/-! the document's own product -/
def cl (a b : Nat) : Nat → Nat
  | 0 => 0
  | i + 1 => cl a b i ^^^ (b / 2 ^ i % 2 * (a * 2 ^ i))
def red : Nat → Nat → Nat
  | 0, n => n
  | k + 1, n => red k (n ^^^ (n / 2 ^ (8 + k) % 2 * (283 * 2 ^ k)))
def R (a b : Nat) : Nat := red 7 (cl a b 8)

theorem xor_bit (b c i : Nat) : (b ^^^ c) / 2 ^ i % 2 = b / 2 ^ i % 2 ^^^ c / 2 ^ i % 2 := by
  have e : (b ^^^ c) / 2 ^ i = b / 2 ^ i ^^^ c / 2 ^ i := by
    rw [← Nat.shiftRight_eq_div_pow, ← Nat.shiftRight_eq_div_pow, ← Nat.shiftRight_eq_div_pow]
    exact Nat.shiftRight_xor_distrib
  rw [e, xor_mod2]
theorem m2 (x : Nat) : x % 2 < 2 := Nat.mod_lt _ (by omega)
theorem cl_right (a b c k : Nat) : cl a (b ^^^ c) k = cl a b k ^^^ cl a c k := by
  induction k with
  | zero => simp [cl]
  | succ k ih => simp only [cl]; rw [ih, xor_bit, bit_mul _ _ _ (m2 _) (m2 _), xor4]
theorem shl_xor (a c k : Nat) : (a ^^^ c) * 2 ^ k = a * 2 ^ k ^^^ c * 2 ^ k := by
  rw [← Nat.shiftLeft_eq, ← Nat.shiftLeft_eq, ← Nat.shiftLeft_eq]
  exact Nat.shiftLeft_xor_distrib
theorem cl_left (a c b k : Nat) : cl (a ^^^ c) b k = cl a b k ^^^ cl c b k := by
  induction k with
  | zero => simp [cl]
  | succ k ih =>
    simp only [cl]
    rw [ih, shl_xor]
    rcases Nat.mod_two_eq_zero_or_one (b / 2 ^ k) with h | h
    · simp [h]
    · simp only [h, Nat.one_mul]; rw [xor4]
theorem red_xor (k m n : Nat) : red k (m ^^^ n) = red k m ^^^ red k n := by
  induction k generalizing m n with
  | zero => rfl
  | succ k ih => simp only [red]; rw [xor_bit, bit_mul _ _ _ (m2 _) (m2 _), xor4, ih]
theorem R_eq (a b : Nat) (ha : a < 256) (hb : b < 256) : R a b = T a b := by
  refine lin_ext (f := fun a => R a b) (g := fun a => T a b) (fun x y _ _ => ?_) (fun x y hx hy => T_left x y b hx hy) (fun i hi => ?_) a ha
  · show R (x ^^^ y) b = _
    unfold R; rw [cl_left, red_xor]
  refine lin_ext (f := fun b => R (2 ^ i) b) (g := fun b => T (2 ^ i) b) (fun x y _ _ => ?_) (fun x y hx hy => T_right _ x y) (fun j hj => ?_) b hb
  · show R _ (x ^^^ y) = _
    unfold R; rw [cl_right, red_xor]
  have : ∀ i, i < 8 → ∀ j, j < 8 → R (2 ^ i) (2 ^ j) = T (2 ^ i) (2 ^ j) := by decide +kernel
  exact this i hi j hj
theorem cl_lt (a b k : Nat) (ha : a < 256) (hk : k ≤ 8) : cl a b k < 32768 := by
  induction k with
  | zero => simp [cl]
  | succ k ih =>
    have h1 : 2 ^ k ≤ 2 ^ 7 := Nat.pow_le_pow_right (by omega) (by omega)
    have h2 : a * 2 ^ k ≤ 255 * 2 ^ 7 := Nat.mul_le_mul (by omega) h1
    refine Nat.xor_lt_two_pow (n := 15) (ih (by omega)) ?_
    rcases Nat.mod_two_eq_zero_or_one (b / 2 ^ k) with h | h <;> simp only [h] <;> omega
end Go.Proofs.YtonoidhlbnbhcaaDoor.Gf
