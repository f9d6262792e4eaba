/-
  Own plain definitions and lemmas: products of numbers of digits of base 65536, which is above, roots. No program is named here.
-/
import Derived.Test.YtjcpnephgbehmaaDoorShaNum
import Derived.Test.YtjcpnephgbehmaaDoorArr
namespace Go.Proofs.YtjcpnephgbehmaaDoor.Ro
open Arr

/-- One row of a product, from digit k on: the digits so far, and what is carried. -/
def inn (a i : Nat) : List Nat → Nat → List Nat → Nat → List Nat × Nat
  | [], _, o, c => (o, c)
  | b :: bs, k, o, c => inn a i bs (k + 1) (o.set (i + k) ((o.getD (i + k) 0 + a * b + c) % 65536)) ((o.getD (i + k) 0 + a * b + c) / 65536)
/-- What a row's end makes of the digits. -/
def fin (i lb : Nat) (r : List Nat × Nat) : List Nat := r.1.set (i + lb) (r.1.getD (i + lb) 0 + r.2)
def outL (b : List Nat) : List Nat → Nat → List Nat → List Nat
  | [], _, o => o
  | a :: as, i, o => outL b as (i + 1) (fin i b.length (inn a i b 0 o 0))
def timesL (a b : List Nat) : List Nat := outL b a 0 (zs (a.length + b.length))
def aboveL (a : List Nat) (p e : Nat) : Bool :=
  (a.drop (e + 1)).any (0 < ·) || (decide (e < a.length) && !decide (a.getD e 0 < p) && (decide (p < a.getD e 0) || (a.take e).any (0 < ·)))
def dig (m : Nat) : List Nat := [m % 65536, m / 65536 % 65536, m / 4294967296]
def powL (d : List Nat) : Nat → List Nat
  | 0 => d
  | j + 1 => timesL (powL d j) d
def rootGo (p k : Nat) : Nat → Nat → Nat
  | 0, n => n
  | j + 1, n => rootGo p k j (if aboveL (powL (dig (n + 2 ^ j)) (k - 1)) p (2 * k) = true then n else n + 2 ^ j)
def root (p k : Nat) : Nat := rootGo p k 37 0 % 4294967296

/-- Digits. -/
def Dg (l : List Nat) : Prop := ∀ i, l.getD i 0 < 65536
theorem getD_set (l : List Nat) (i j x : Nat) : (l.set i x).getD j 0 = if i = j ∧ i < l.length then x else l.getD j 0 := by
  simp only [List.getD_eq_getElem?_getD, List.getElem?_set]
  by_cases h : i = j
  · subst h
    by_cases h2 : i < l.length
    · simp [h2]
    · simp [h2]
  · simp [h]
theorem Dg.set {l : List Nat} (h : Dg l) (i x : Nat) (hx : x < 65536) : Dg (l.set i x) := fun j => by
  rw [getD_set]; split
  · exact hx
  · exact h j
theorem Dg.zs (n : Nat) : Dg (zs n) := fun i => by rw [zs_get]; omega
theorem mul_lt (x y : Nat) (hx : x < 65536) (hy : y < 65536) : x * y ≤ 4294836225 := Nat.mul_le_mul (show x ≤ 65535 by omega) (show y ≤ 65535 by omega)
/-- A row keeps digits digits, what lies behind it noughts, and carries less than 65536. -/
theorem inn_ok (a i : Nat) (ha : a < 65536) : ∀ (bs : List Nat) (k : Nat) (o : List Nat) (c : Nat), Dg o → (∀ x, x ∈ bs → x < 65536) → c < 65536 → (∀ j, i + k + bs.length ≤ j → o.getD j 0 = 0) →
    Dg (inn a i bs k o c).1 ∧ (inn a i bs k o c).2 < 65536 ∧ (inn a i bs k o c).1.length = o.length ∧ ∀ j, i + k + bs.length ≤ j → (inn a i bs k o c).1.getD j 0 = 0
  | [], _, o, c, ho, _, hc, hz => ⟨ho, hc, rfl, hz⟩
  | b :: bs, k, o, c, ho, hb, hc, hz => by
    have h1 := mul_lt a b ha (hb b (by simp))
    have h2 := ho (i + k)
    have r := inn_ok a i ha bs (k + 1) (o.set (i + k) ((o.getD (i + k) 0 + a * b + c) % 65536)) ((o.getD (i + k) 0 + a * b + c) / 65536) (ho.set _ _ (Nat.mod_lt _ (by omega))) (fun x hx => hb x (by simp [hx])) (by omega) (fun j hj => by
      rw [getD_set, if_neg (by omega)]
      exact hz j (by simp only [List.length_cons]; omega))
    refine ⟨r.1, r.2.1, by rw [inn, r.2.2.1, List.length_set], fun j hj => r.2.2.2 j ?_⟩
    simp only [List.length_cons] at hj; omega
theorem fin_ok (a i : Nat) (ha : a < 65536) (b o : List Nat) (ho : Dg o) (hb : ∀ x, x ∈ b → x < 65536) (hz : ∀ j, i + b.length ≤ j → o.getD j 0 = 0) :
    Dg (fin i b.length (inn a i b 0 o 0)) ∧ (fin i b.length (inn a i b 0 o 0)).length = o.length ∧ ∀ j, i + 1 + b.length ≤ j → (fin i b.length (inn a i b 0 o 0)).getD j 0 = 0 := by
  obtain ⟨h1, h2, h3, h4⟩ := inn_ok a i ha b 0 o 0 ho hb (by omega) (fun j hj => hz j (by omega))
  have h5 := h4 (i + b.length) (by omega)
  refine ⟨h1.set _ _ (by rw [h5]; omega), by rw [fin, List.length_set, h3], fun j hj => ?_⟩
  rw [fin, getD_set, if_neg (by omega)]
  exact h4 j (by omega)
theorem outL_ok (b : List Nat) (hb : ∀ x, x ∈ b → x < 65536) : ∀ (as : List Nat) (i : Nat) (o : List Nat), (∀ x, x ∈ as → x < 65536) → Dg o → (∀ j, i + b.length ≤ j → o.getD j 0 = 0) → Dg (outL b as i o) ∧ (outL b as i o).length = o.length
  | [], _, _, _, ho, _ => ⟨ho, rfl⟩
  | a :: as, i, o, ha, ho, hz => by
    obtain ⟨h1, h2, h3⟩ := fin_ok a i (ha a (by simp)) b o ho hb hz
    have := outL_ok b hb as (i + 1) _ (fun x hx => ha x (by simp [hx])) h1 h3
    exact ⟨this.1, this.2.trans h2⟩
theorem Dg.mem {l : List Nat} (h : Dg l) : ∀ x, x ∈ l → x < 65536 := fun x hx => by
  obtain ⟨i, hi, rfl⟩ := List.getElem_of_mem hx
  have := h i
  simpa [hi] using this
theorem timesL_ok (a b : List Nat) (ha : Dg a) (hb : Dg b) : Dg (timesL a b) ∧ (timesL a b).length = a.length + b.length := by
  have := outL_ok b hb.mem a 0 (zs (a.length + b.length)) ha.mem (Dg.zs _) (fun j _ => zs_get _ _)
  exact ⟨this.1, by rw [timesL, this.2, length_zs]⟩
theorem dig_ok (m : Nat) (hm : m < 281474976710656) : Dg (dig m) := by
  intro i
  match i with
  | 0 => exact Nat.mod_lt _ (by omega)
  | 1 => exact Nat.mod_lt _ (by omega)
  | 2 => show m / 4294967296 < 65536; omega
  | i + 3 => simp [dig]
theorem powL_ok (m : Nat) (hm : m < 281474976710656) : ∀ j, Dg (powL (dig m) j) ∧ (powL (dig m) j).length = 3 * (j + 1)
  | 0 => ⟨dig_ok m hm, rfl⟩
  | j + 1 => by
    have h := powL_ok m hm j
    have := timesL_ok (powL (dig m) j) (dig m) h.1 (dig_ok m hm)
    exact ⟨this.1, by rw [powL, this.2, h.2]; show 3 * (j + 1) + 3 = _; omega⟩
/-- The search stays below. -/
theorem rootGo_lt (p k : Nat) : ∀ (j n : Nat), n + 2 ^ j ≤ 137438953472 → rootGo p k j n < 137438953472
  | 0, n, h => by simp at h; simp [rootGo]; omega
  | j + 1, n, h => by
    rw [rootGo]
    have h2 : 2 ^ (j + 1) = 2 ^ j + 2 ^ j := by rw [Nat.pow_succ]; omega
    have h3 := Nat.two_pow_pos j
    split
    · exact rootGo_lt p k j n (by omega)
    · exact rootGo_lt p k j (n + 2 ^ j) (by omega)

/-! primes -/
def isP (p : Nat) (o : List Nat) : Bool := o.all fun x => !(p % x == 0)
/-- So many more numbers are looked at. -/
def pgo : Nat → Nat → List Nat → Nat → List Nat
  | 0, _, o, _ => o
  | f + 1, p, o, n => if o.length < n then pgo f (p + 1) (if isP p o = true then o ++ [p] else o) n else o
def P64 : List Nat := [2, 3, 5, 7, 11, 13, 17, 19, 23, 29, 31, 37, 41, 43, 47, 53, 59, 61, 67, 71, 73, 79, 83, 89, 97, 101, 103, 107, 109, 113, 127, 131, 137, 139, 149, 151, 157, 163, 167, 173, 179, 181, 191, 193, 197, 199, 211, 223, 227, 229, 233, 239, 241, 251, 257, 263, 269, 271, 277, 281, 283, 293, 307, 311]
def P8 : List Nat := [2, 3, 5, 7, 11, 13, 17, 19]
theorem pgo64 : pgo 400 2 [] 64 = P64 := by decide +kernel
theorem pgo8 : pgo 400 2 [] 8 = P8 := by decide +kernel
theorem isP_snoc (p : Nat) (o : List Nat) (i : Nat) (h : i < o.length) : isP p (o.take (i + 1)) = (isP p (o.take i) && !(p % o.getD i 0 == 0)) := by
  rw [take_snoc o i h]
  simp [isP]
end Go.Proofs.YtjcpnephgbehmaaDoor.Ro
