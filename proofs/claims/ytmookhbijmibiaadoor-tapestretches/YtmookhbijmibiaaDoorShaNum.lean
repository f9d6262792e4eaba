/-
  Own plain definitions and lemmas: the sum of bytes, by numbers: words, steps, pieces, what stands behind. No program is named here.
-/
import Derived.Test.YtmookhbijmibiaaDoorNum
import Derived.Test.YtmookhbijmibiaaDoorRot
namespace Go.Proofs.YtmookhbijmibiaaDoor.Sh

theorem and32 {a b : Nat} (ha : a < 4294967296) : a &&& b < 4294967296 := Nat.lt_of_le_of_lt Nat.and_le_left ha
theorem or32 {a b : Nat} (ha : a < 4294967296) (hb : b < 4294967296) : a ||| b < 4294967296 := Nat.or_lt_two_pow (n := 32) ha hb
theorem xor32 {a b : Nat} (ha : a < 4294967296) (hb : b < 4294967296) : a ^^^ b < 4294967296 := Nat.xor_lt_two_pow (n := 32) ha hb

/-- Three turns put together. -/
def tri (x i j k : Nat) : Nat := rot x i ^^^ rot x j ^^^ rot x k
/-- Two turns and a shift put together. -/
def duo (x i j k : Nat) : Nat := rot x i ^^^ rot x j ^^^ x / 2 ^ k
def ch (e f g : Nat) : Nat := (e &&& f) ||| ((4294967295 - e) &&& g)
def maj (a b c : Nat) : Nat := ((a &&& b) ||| (a &&& c)) ||| (b &&& c)
theorem tri_lt (x i j k : Nat) (hx : x < 4294967296) (hi : i ≤ 32) (hj : j ≤ 32) (hk : k ≤ 32) : tri x i j k < 4294967296 := xor32 (xor32 (rot_lt x i hx hi) (rot_lt x j hx hj)) (rot_lt x k hx hk)
theorem duo_lt (x i j k : Nat) (hx : x < 4294967296) (hi : i ≤ 32) (hj : j ≤ 32) : duo x i j k < 4294967296 := xor32 (xor32 (rot_lt x i hx hi) (rot_lt x j hx hj)) (Nat.lt_of_le_of_lt (Nat.div_le_self _ _) hx)
theorem ch_lt (e f g : Nat) (he : e < 4294967296) : ch e f g < 4294967296 := or32 (and32 he) (and32 (by omega))
theorem maj_lt (a b c : Nat) (ha : a < 4294967296) (hb : b < 4294967296) : maj a b c < 4294967296 := or32 (or32 (and32 ha) (and32 ha)) (and32 hb)
theorem ch_xor (e f g : Nat) (he : e < 4294967296) : (e &&& f) ^^^ ((4294967295 - e) &&& g) = ch e f g := by
  unfold ch
  apply Nat.eq_of_testBit_eq
  intro i
  have h : (4294967295 - e).testBit i = (decide (i < 32) && !e.testBit i) := by
    have := Nat.testBit_two_pow_sub_succ (x := e) (n := 32) he i
    rw [← this]; congr 1; omega
  simp only [Nat.testBit_xor, Nat.testBit_or, Nat.testBit_and, h]
  cases e.testBit i <;> cases f.testBit i <;> cases g.testBit i <;> cases decide (i < 32) <;> rfl
theorem maj_xor (a b c : Nat) : (a &&& b) ^^^ (a &&& c) ^^^ (b &&& c) = maj a b c := by
  unfold maj
  apply Nat.eq_of_testBit_eq
  intro i
  simp only [Nat.testBit_xor, Nat.testBit_or, Nat.testBit_and]
  cases a.testBit i <;> cases b.testBit i <;> cases c.testBit i <;> rfl

/-- All of 32 bits. -/
def Ws (l : List Nat) : Prop := ∀ i, l.getD i 0 < 4294967296
theorem Ws.snoc {l : List Nat} (h : Ws l) {x : Nat} (hx : x < 4294967296) : Ws (l ++ [x]) := by
  intro i
  rcases Nat.lt_trichotomy i l.length with h1 | h1 | h1
  · have := h i
    simpa [List.getElem?_append_left h1] using this
  · subst h1; simpa using hx
  · rw [List.getD_eq_getElem?_getD, List.getElem?_eq_none (by simp; omega)]; simp

/-! words -/
def w16 (p : List Nat) (t : Nat) : Nat := num ((p.drop (4 * t)).take 4)
def firsts (p : List Nat) (t : Nat) : List Nat := (List.range t).map (w16 p)
def nxt (l : List Nat) : Nat := (((l.getD (l.length - 16) 0 + duo (l.getD (l.length - 15) 0) 7 18 3) % 4294967296 + l.getD (l.length - 7) 0) % 4294967296 + duo (l.getD (l.length - 2) 0) 17 19 10) % 4294967296
def ext : Nat → List Nat → List Nat
  | 0, l => l
  | n + 1, l => ext n (l ++ [nxt l])
def ws (p : List Nat) : List Nat := ext 48 (firsts p 16)
theorem length_firsts (p : List Nat) (t : Nat) : (firsts p t).length = t := by simp [firsts]
theorem firsts_snoc (p : List Nat) (t : Nat) : firsts p (t + 1) = firsts p t ++ [w16 p t] := by simp [firsts, List.range_succ]
theorem length_ext (n : Nat) (l : List Nat) : (ext n l).length = l.length + n := by
  induction n generalizing l with
  | zero => rfl
  | succ n ih => rw [ext, ih]; simp; omega
theorem length_ws (p : List Nat) : (ws p).length = 64 := by rw [ws, length_ext, length_firsts]
theorem w16_lt (p : List Nat) (hp : ∀ x, x ∈ p → x < 256) (t : Nat) : w16 p t < 4294967296 := by
  have h := num_lt ((p.drop (4 * t)).take 4) (fun x hx => hp x (List.mem_of_mem_drop (List.mem_of_mem_take hx)))
  have : 256 ^ ((p.drop (4 * t)).take 4).length ≤ 256 ^ 4 := Nat.pow_le_pow_right (by omega) (by simp; omega)
  exact Nat.lt_of_lt_of_le h this
theorem ws_firsts (p : List Nat) (hp : ∀ x, x ∈ p → x < 256) : ∀ t, Ws (firsts p t)
  | 0 => fun i => by simp [firsts]
  | t + 1 => by rw [firsts_snoc]; exact (ws_firsts p hp t).snoc (w16_lt p hp t)
theorem nxt_lt (l : List Nat) : nxt l < 4294967296 := Nat.mod_lt _ (by omega)
theorem ws_ext : ∀ (n : Nat) (l : List Nat), Ws l → Ws (ext n l)
  | 0, _, h => h
  | n + 1, l, h => ws_ext n _ (h.snoc (nxt_lt l))
theorem ws_ws (p : List Nat) (hp : ∀ x, x ∈ p → x < 256) : Ws (ws p) := ws_ext _ _ (ws_firsts p hp 16)

/-! steps -/
structure St where
  a : Nat
  b : Nat
  c : Nat
  d : Nat
  e : Nat
  f : Nat
  g : Nat
  h : Nat
def St.l (s : St) : List Nat := [s.a, s.b, s.c, s.d, s.e, s.f, s.g, s.h]
structure St.Ok (s : St) : Prop where
  a : s.a < 4294967296
  b : s.b < 4294967296
  c : s.c < 4294967296
  d : s.d < 4294967296
  e : s.e < 4294967296
  f : s.f < 4294967296
  g : s.g < 4294967296
  h : s.h < 4294967296
def K : List Nat := [0x428a2f98, 0x71374491, 0xb5c0fbcf, 0xe9b5dba5, 0x3956c25b, 0x59f111f1, 0x923f82a4, 0xab1c5ed5,
  0xd807aa98, 0x12835b01, 0x243185be, 0x550c7dc3, 0x72be5d74, 0x80deb1fe, 0x9bdc06a7, 0xc19bf174,
  0xe49b69c1, 0xefbe4786, 0x0fc19dc6, 0x240ca1cc, 0x2de92c6f, 0x4a7484aa, 0x5cb0a9dc, 0x76f988da,
  0x983e5152, 0xa831c66d, 0xb00327c8, 0xbf597fc7, 0xc6e00bf3, 0xd5a79147, 0x06ca6351, 0x14292967,
  0x27b70a85, 0x2e1b2138, 0x4d2c6dfc, 0x53380d13, 0x650a7354, 0x766a0abb, 0x81c2c92e, 0x92722c85,
  0xa2bfe8a1, 0xa81a664b, 0xc24b8b70, 0xc76c51a3, 0xd192e819, 0xd6990624, 0xf40e3585, 0x106aa070,
  0x19a4c116, 0x1e376c08, 0x2748774c, 0x34b0bcb5, 0x391c0cb3, 0x4ed8aa4a, 0x5b9cca4f, 0x682e6ff3,
  0x748f82ee, 0x78a5636f, 0x84c87814, 0x8cc70208, 0x90befffa, 0xa4506ceb, 0xbef9a3f7, 0xc67178f2]
def H0 : St := ⟨0x6a09e667, 0xbb67ae85, 0x3c6ef372, 0xa54ff53a, 0x510e527f, 0x9b05688c, 0x1f83d9ab, 0x5be0cd19⟩
theorem length_K : K.length = 64 := by decide
theorem K_lt : Ws K := by
  intro i
  by_cases h : i < 64
  · have : ∀ i, i < 64 → K.getD i 0 < 4294967296 := by decide
    exact this i h
  · rw [List.getD_eq_getElem?_getD, List.getElem?_eq_none (by rw [length_K]; omega)]; simp
theorem H0_ok : H0.Ok := ⟨by decide, by decide, by decide, by decide, by decide, by decide, by decide, by decide⟩
/-- What is added in a step. -/
def one (k w : Nat) (s : St) : Nat := ((((s.h + tri s.e 6 11 25) % 4294967296 + ch s.e s.f s.g) % 4294967296 + k) % 4294967296 + w) % 4294967296
def two (s : St) : Nat := (tri s.a 2 13 22 + maj s.a s.b s.c) % 4294967296
def step (k w : Nat) (s : St) : St := ⟨(one k w s + two s) % 4294967296, s.a, s.b, s.c, (s.d + one k w s) % 4294967296, s.e, s.f, s.g⟩
def run (l : List Nat) : Nat → St → St
  | 0, s => s
  | t + 1, s => step (K.getD t 0) (l.getD t 0) (run l t s)
theorem one_lt (k w : Nat) (s : St) : one k w s < 4294967296 := Nat.mod_lt _ (by omega)
theorem two_lt (s : St) : two s < 4294967296 := Nat.mod_lt _ (by omega)
theorem step_ok (k w : Nat) {s : St} (h : s.Ok) : (step k w s).Ok := ⟨Nat.mod_lt _ (by omega), h.a, h.b, h.c, Nat.mod_lt _ (by omega), h.e, h.f, h.g⟩
theorem run_ok (l : List Nat) {s : St} (h : s.Ok) : ∀ t, (run l t s).Ok
  | 0 => h
  | t + 1 => step_ok _ _ (run_ok l h t)
def plus (s t : St) : St := ⟨(s.a + t.a) % 4294967296, (s.b + t.b) % 4294967296, (s.c + t.c) % 4294967296, (s.d + t.d) % 4294967296, (s.e + t.e) % 4294967296, (s.f + t.f) % 4294967296, (s.g + t.g) % 4294967296, (s.h + t.h) % 4294967296⟩
/-- A piece is worked in. -/
def comp (p : List Nat) (s : St) : St := plus s (run (ws p) 64 s)
theorem plus_ok (s t : St) : (plus s t).Ok := ⟨Nat.mod_lt _ (by omega), Nat.mod_lt _ (by omega), Nat.mod_lt _ (by omega), Nat.mod_lt _ (by omega), Nat.mod_lt _ (by omega), Nat.mod_lt _ (by omega), Nat.mod_lt _ (by omega), Nat.mod_lt _ (by omega)⟩
theorem comp_ok (p : List Nat) (s : St) : (comp p s).Ok := plus_ok _ _
theorem length_l (s : St) : s.l.length = 8 := rfl
theorem ws_l {s : St} (h : s.Ok) : Ws s.l := by
  intro i
  match i with
  | 0 => exact h.a
  | 1 => exact h.b
  | 2 => exact h.c
  | 3 => exact h.d
  | 4 => exact h.e
  | 5 => exact h.f
  | 6 => exact h.g
  | 7 => exact h.h
  | i + 8 => simp [St.l]

/-! pieces -/
def feed : Nat → St → List Nat → St
  | 0, s, _ => s
  | n + 1, s, m => feed n (comp (m.take 64) s) (m.drop 64)
theorem feed_ok : ∀ (n : Nat) {s : St} (m : List Nat), s.Ok → (feed n s m).Ok
  | 0, _, _, h => h
  | n + 1, _, _, _ => feed_ok n _ (comp_ok _ _)
theorem feed_snoc : ∀ (n : Nat) (s : St) (m : List Nat), feed (n + 1) s m = comp ((m.drop (64 * n)).take 64) (feed n s m)
  | 0, s, m => by simp [feed]
  | n + 1, s, m => by
    rw [feed, feed_snoc n, feed, List.drop_drop]
    congr 2
    rw [show 64 + 64 * n = 64 * (n + 1) by omega]
theorem feed_app : ∀ (n : Nat) (s : St) (m x : List Nat), 64 * n ≤ m.length → feed n s (m ++ x) = feed n s m
  | 0, _, _, _, _ => rfl
  | n + 1, s, m, x, h => by
    rw [feed, feed, List.take_append_of_le_length (by omega), List.drop_append_of_le_length (by omega), feed_app n _ _ _ (by simp; omega)]

/-! what stands behind -/
def size (n : Nat) : Nat := if n % 64 < 56 then 64 - n % 64 else 128 - n % 64
def pad (n : Nat) : List Nat := 128 :: (List.replicate (size n - 9) 0 ++ bytesOf (8 * n) 8)
theorem size_ge (n : Nat) : 9 ≤ size n ∧ size n ≤ 72 := by
  have := Nat.mod_lt n (show 0 < 64 by omega)
  unfold size; split <;> omega
theorem size_mod (n : Nat) : (n + size n) % 64 = 0 := by unfold size; split <;> omega
theorem length_pad (n : Nat) : (pad n).length = size n := by
  have := size_ge n
  simp [pad, length_bytesOf]; omega
theorem pad_byte (n : Nat) : ∀ x, x ∈ pad n → x < 256 := by
  intro x hx
  simp only [pad, List.mem_cons, List.mem_append] at hx
  rcases hx with rfl | hx | hx
  · omega
  · have := List.eq_of_mem_replicate hx; omega
  · exact bytesOf_lt _ _ x hx
/-- The bytes and what stands behind. -/
def tot (m : List Nat) : List Nat := m ++ pad m.length
def out (s : St) : List Nat := bytesOf s.a 4 ++ (bytesOf s.b 4 ++ (bytesOf s.c 4 ++ (bytesOf s.d 4 ++ (bytesOf s.e 4 ++ (bytesOf s.f 4 ++ (bytesOf s.g 4 ++ bytesOf s.h 4))))))
/-- The sum. -/
def sum (m : List Nat) : List Nat := out (feed ((tot m).length / 64) H0 (tot m))
theorem length_tot (m : List Nat) : (tot m).length = m.length + size m.length := by simp [tot, length_pad]
theorem length_out (s : St) : (out s).length = 32 := by simp [out, length_bytesOf]
theorem length_sum (m : List Nat) : (sum m).length = 32 := length_out _
theorem out_lt (s : St) : ∀ x, x ∈ out s → x < 256 := by
  intro x hx
  simp only [out, List.mem_append] at hx
  rcases hx with h | h | h | h | h | h | h | h <;> exact bytesOf_lt _ _ x h
theorem sum_lt (m : List Nat) : ∀ x, x ∈ sum m → x < 256 := out_lt _
/-- The chapter's example. -/
theorem sum_abc : (sum [97, 98, 99]).take 4 = [0xba, 0x78, 0x16, 0xbf] := by decide +kernel
end Go.Proofs.YtmookhbijmibiaaDoor.Sh
