/-
  The cipher over lists of numbers: states, rounds, there and back. Plain mathematics: no program is named here, no conditions.
-/
import Derived.Test.YtonoidhlbnbhcaaDoorSboxNum
import Derived.Test.YtonoidhlbnbhcaaDoorSwapNum
namespace Go.Proofs.YtonoidhlbnbhcaaDoor.Ae
open Gf Sb

/-! lists that are filled from the front -/
/-- The first k of n places are f's, the others are old's. -/
def upto (f old : Nat → Nat) (n k : Nat) : List Nat := (List.range n).map fun i => if i < k then f i else old i
theorem length_upto (f old : Nat → Nat) (n k : Nat) : (upto f old n k).length = n := by simp [upto]
theorem upto_get (f old : Nat → Nat) (n k i : Nat) (hi : i < n) : (upto f old n k).getD i 0 = if i < k then f i else old i := by simp [upto, hi]
theorem list_ext {n : Nat} {l m : List Nat} (h1 : l.length = n) (h2 : m.length = n) (h : ∀ i, i < n → l.getD i 0 = m.getD i 0) : l = m := by
  apply List.ext_getElem (by omega)
  intro i a b
  have := h i (by omega)
  simpa [a, b] using this
theorem upto_succ (f old : Nat → Nat) (n k : Nat) (hk : k < n) : upto f old n (k + 1) = (upto f old n k).set k (f k) := by
  refine list_ext (length_upto ..) (by rw [List.length_set, length_upto]) fun i hi => ?_
  rw [Sw.getD_set _ _ _ _ (by rw [length_upto]; exact hk), upto_get _ _ _ _ _ hi, upto_get _ _ _ _ _ hi]
  by_cases h : i = k
  · subst h; rw [if_pos (by omega), if_pos rfl]
  · rw [if_neg h]
    by_cases h2 : i < k
    · rw [if_pos (by omega), if_pos h2]
    · rw [if_neg (by omega), if_neg h2]
theorem upto_zero (f : Nat → Nat) (l : List Nat) (n : Nat) (hl : l.length = n) : upto f (fun i => l.getD i 0) n 0 = l :=
  list_ext (length_upto ..) hl fun i hi => by rw [upto_get _ _ _ _ _ hi, if_neg (by omega)]
theorem upto_noughts (f : Nat → Nat) (n : Nat) : upto f (fun _ => 0) n 0 = List.replicate n 0 :=
  list_ext (length_upto ..) (by simp) fun i hi => by rw [upto_get _ _ _ _ _ hi, if_neg (by omega), Sw.rep_getD]
theorem upto_all (f old : Nat → Nat) (n : Nat) : upto f old n n = (List.range n).map f :=
  list_ext (length_upto ..) (by simp) fun i hi => by rw [upto_get _ _ _ _ _ hi, if_pos hi]; simp [hi]
theorem map_get (f : Nat → Nat) (n i : Nat) (hi : i < n) : ((List.range n).map f).getD i 0 = f i := by simp [hi]
theorem getD_out (l : List Nat) (i : Nat) (h : l.length ≤ i) : l.getD i 0 = 0 := by simp [List.getElem?_eq_none h]

/-! states -/
/-- A state: 16 bytes. -/
def St (b : List Nat) : Prop := b.length = 16 ∧ ∀ i, b.getD i 0 < 256
theorem st_map (f : Nat → Nat) (h : ∀ i, i < 16 → f i < 256) : St ((List.range 16).map f) := by
  refine ⟨by simp, fun i => ?_⟩
  by_cases hi : i < 16
  · rw [map_get f 16 i hi]; exact h i hi
  · rw [getD_out _ _ (by simp; omega)]; omega
theorem st_ext {b c : List Nat} (hb : St b) (hc : St c) (h : ∀ i, i < 16 → b.getD i 0 = c.getD i 0) : b = c := list_ext hb.1 hc.1 h

/-- 2 times. -/
def D (a : Nat) : Nat := T 2 a
theorem D_xor (a b : Nat) : D (a ^^^ b) = D a ^^^ D b := T_right 2 a b
theorem D_lt (a : Nat) : D a < 256 := T_lt 2 a (by omega)
theorem D_eq (a : Nat) (ha : a < 256) : T a 2 = D a := T_comm a 2 ha (by omega)
/-- The products with 2. -/
def twL : List Nat := (List.range 256).map D
theorem twL_len : twL.length = 256 := by simp [twL]
theorem twL_get (a : Nat) (ha : a < 256) : twL.getD a 0 = D a := map_get D 256 a ha

/-- Each byte by the box t. -/
def subL (t b : List Nat) : List Nat := (List.range 16).map fun i => t.getD (b.getD i 0) 0
/-- Put together. -/
def xorL (a b : List Nat) : List Nat := (List.range 16).map fun i => a.getD i 0 ^^^ b.getD i 0
/-- Where byte i comes from. -/
def from' (p i : Nat) : Nat := (i + 4 * p * (i % 4)) % 16
/-- Row r goes r times p places to the left. -/
def turnL (p : Nat) (b : List Nat) : List Nat := (List.range 16).map fun i => b.getD (from' p i) 0
/-- Byte i, its column mixed. -/
def mixAt (b : List Nat) (i : Nat) : Nat :=
  (b.getD i 0 ^^^ (b.getD (i / 4 * 4) 0 ^^^ b.getD (i / 4 * 4 + 1) 0 ^^^ b.getD (i / 4 * 4 + 2) 0 ^^^ b.getD (i / 4 * 4 + 3) 0)) ^^^ D (b.getD i 0 ^^^ b.getD (i / 4 * 4 + (i % 4 + 1) % 4) 0)
def mixL (b : List Nat) : List Nat := (List.range 16).map (mixAt b)
/-- Byte i, and 4 times what it and the one two rows on are together. -/
def preAt (b : List Nat) (i : Nat) : Nat := b.getD i 0 ^^^ D (D (b.getD (i / 4 * 4 + i % 2) 0 ^^^ b.getD (i / 4 * 4 + i % 2 + 2) 0))
def preL (b : List Nat) : List Nat := (List.range 16).map (preAt b)
def unmixL (b : List Nat) : List Nat := mixL (preL b)

theorem st_sub {t b : List Nat} (ht : Sw.Bytes t) : St (subL t b) := st_map _ fun _ _ => ht _
theorem st_xor {a b : List Nat} (ha : St a) (hb : St b) : St (xorL a b) := st_map _ fun i _ => xor_lt (ha.2 i) (hb.2 i)
theorem st_turn {p : Nat} {b : List Nat} (hb : St b) : St (turnL p b) := st_map _ fun _ _ => hb.2 _
theorem st_mix {b : List Nat} (hb : St b) : St (mixL b) := st_map _ fun _ _ =>
  xor_lt (xor_lt (hb.2 _) (xor_lt (xor_lt (xor_lt (hb.2 _) (hb.2 _)) (hb.2 _)) (hb.2 _))) (D_lt _)
theorem st_pre {b : List Nat} (hb : St b) : St (preL b) := st_map _ fun _ _ => xor_lt (hb.2 _) (D_lt _)
theorem st_unmix {b : List Nat} (hb : St b) : St (unmixL b) := st_mix (st_pre hb)

theorem sub_sub {t u b : List Nat} (hb : St b) (hu : Sw.Bytes u) (h : ∀ a, a < 256 → u.getD (t.getD a 0) 0 = a) : subL u (subL t b) = b := by
  refine st_ext (st_sub hu) hb fun i hi => ?_
  rw [subL, map_get _ _ _ hi, subL, map_get _ _ _ hi, h _ (hb.2 i)]
theorem xor_xor {a b : List Nat} (ha : St a) (hb : St b) : xorL (xorL a b) b = a := by
  refine st_ext (st_xor (st_xor ha hb) hb) ha fun i hi => ?_
  rw [xorL, map_get _ _ _ hi, xorL, map_get _ _ _ hi, Nat.xor_assoc, Nat.xor_self, Nat.xor_zero]
theorem from_lt (p i : Nat) : from' p i < 16 := Nat.mod_lt _ (by omega)
theorem turn_turn {p q : Nat} {b : List Nat} (hb : St b) (h : ∀ i, i < 16 → from' p (from' q i) = i) : turnL q (turnL p b) = b := by
  refine st_ext (st_turn (st_turn hb)) hb fun i hi => ?_
  rw [turnL, map_get _ _ _ hi, turnL, map_get _ _ _ (from_lt q i), h i hi]
theorem turn_13 {b : List Nat} (hb : St b) : turnL 3 (turnL 1 b) = b := turn_turn hb (by decide)
theorem turn_31 {b : List Nat} (hb : St b) : turnL 1 (turnL 3 b) = b := turn_turn hb (by decide)

theorem xor_can (a b : Nat) : a ^^^ (a ^^^ b) = b := by rw [← Nat.xor_assoc, Nat.xor_self, Nat.zero_xor]
theorem xor_left (a b c : Nat) : a ^^^ (b ^^^ c) = b ^^^ (a ^^^ c) := by rw [← Nat.xor_assoc, Nat.xor_comm a b, Nat.xor_assoc]
theorem mixL_get (b : List Nat) (i : Nat) (hi : i < 16) : (mixL b).getD i 0 = mixAt b i := map_get _ _ _ hi
theorem preL_get (b : List Nat) (i : Nat) (hi : i < 16) : (preL b).getD i 0 = preAt b i := map_get _ _ _ hi
theorem mixAt_col (b : List Nat) (c j : Nat) (hj : j < 4) : mixAt b (4 * c + j) = (b.getD (4 * c + j) 0 ^^^ (b.getD (4 * c) 0 ^^^ b.getD (4 * c + 1) 0 ^^^ b.getD (4 * c + 2) 0 ^^^ b.getD (4 * c + 3) 0)) ^^^ D (b.getD (4 * c + j) 0 ^^^ b.getD (4 * c + (j + 1) % 4) 0) := by
  have e1 : (4 * c + j) / 4 * 4 = 4 * c := by omega
  have e2 : (4 * c + j) % 4 = j := by omega
  rw [mixAt, e1, e2]
theorem preAt_col (b : List Nat) (c j : Nat) (hj : j < 4) : preAt b (4 * c + j) = b.getD (4 * c + j) 0 ^^^ D (D (b.getD (4 * c + j % 2) 0 ^^^ b.getD (4 * c + j % 2 + 2) 0)) := by
  have e1 : (4 * c + j) / 4 * 4 = 4 * c := by omega
  have e2 : (4 * c + j) % 2 = j % 2 := by omega
  rw [preAt, e1, e2]
theorem col_of (i : Nat) (hi : i < 16) : ∃ c j, c < 4 ∧ j < 4 ∧ i = 4 * c + j := ⟨i / 4, i % 4, by omega, by omega, by omega⟩
theorem mix_mix (b : List Nat) : mixL (mixL b) = preL b := by
  refine list_ext (n := 16) (by simp [mixL]) (by simp [preL]) fun i hi => ?_
  rw [mixL_get _ _ hi, preL_get _ _ hi]
  obtain ⟨c, j, hc, hj, rfl⟩ := col_of i hi
  have e : ∀ r, r < 4 → (mixL b).getD (4 * c + r) 0 = (b.getD (4 * c + r) 0 ^^^ (b.getD (4 * c) 0 ^^^ b.getD (4 * c + 1) 0 ^^^ b.getD (4 * c + 2) 0 ^^^ b.getD (4 * c + 3) 0)) ^^^ D (b.getD (4 * c + r) 0 ^^^ b.getD (4 * c + (r + 1) % 4) 0) :=
    fun r hr => by rw [mixL_get b _ (by omega), mixAt_col b c r hr]
  have e0 := e 0 (by omega)
  have e1 := e 1 (by omega)
  have e2 := e 2 (by omega)
  have e3 := e 3 (by omega)
  clear e
  rw [mixAt_col _ _ _ hj, preAt_col _ _ _ hj]
  have hj' : j = 0 ∨ j = 1 ∨ j = 2 ∨ j = 3 := by omega
  rcases hj' with rfl | rfl | rfl | rfl
  all_goals
    simp only [Nat.add_zero, Nat.zero_add, Nat.reduceAdd, Nat.reduceMod, Nat.add_assoc] at e0 e1 e2 e3 ⊢
    rw [e0, e1, e2, e3]
    generalize b.getD (4 * c) 0 = p
    generalize b.getD (4 * c + 1) 0 = q
    generalize b.getD (4 * c + 2) 0 = s
    generalize b.getD (4 * c + 3) 0 = t
    simp only [D_xor]
    simp only [Nat.xor_assoc, xor_left, Nat.xor_comm, Nat.xor_self, Nat.xor_zero, Nat.zero_xor, xor_can]
theorem pre_pre {b : List Nat} (hb : St b) : preL (preL b) = b := by
  refine st_ext (st_pre (st_pre hb)) hb fun i hi => ?_
  rw [preL_get _ _ hi]
  obtain ⟨c, j, hc, hj, rfl⟩ := col_of i hi
  have e : ∀ r, r < 4 → (preL b).getD (4 * c + r) 0 = b.getD (4 * c + r) 0 ^^^ D (D (b.getD (4 * c + r % 2) 0 ^^^ b.getD (4 * c + r % 2 + 2) 0)) :=
    fun r hr => by rw [preL_get b _ (by omega), preAt_col b c r hr]
  have e0 := e 0 (by omega)
  have e1 := e 1 (by omega)
  have e2 := e 2 (by omega)
  have e3 := e 3 (by omega)
  clear e
  rw [preAt_col _ _ _ hj]
  have hj' : j = 0 ∨ j = 1 ∨ j = 2 ∨ j = 3 := by omega
  rcases hj' with rfl | rfl | rfl | rfl
  all_goals
    simp only [Nat.add_zero, Nat.reduceAdd, Nat.reduceMod, Nat.add_assoc] at e0 e1 e2 e3 ⊢
    simp only [e0, e1, e2, e3]
    generalize b.getD (4 * c) 0 = p
    generalize b.getD (4 * c + 1) 0 = q
    generalize b.getD (4 * c + 2) 0 = s
    generalize b.getD (4 * c + 3) 0 = t
    simp only [D_xor]
    simp only [Nat.xor_assoc, xor_left, Nat.xor_comm, Nat.xor_self, Nat.xor_zero]
theorem unmix_mix {b : List Nat} (hb : St b) : unmixL (mixL b) = b := by
  rw [unmixL, ← mix_mix (mixL b), mix_mix b, mix_mix (preL b), pre_pre hb]
theorem mix_unmix {b : List Nat} (hb : St b) : mixL (unmixL b) = b := by rw [unmixL, mix_mix, pre_pre hb]

/-! rounds -/
/-- The box back. -/
def bk : List Nat := Sw.sw boxL
theorem boxL_by : Sw.Bytes boxL := boxL_lt
theorem bk_by : Sw.Bytes bk := Sw.sw_bytes boxL_len boxL_by boxL_nodup
theorem bk_box {b : List Nat} (hb : St b) : subL bk (subL boxL b) = b := sub_sub hb bk_by fun a ha => Sw.sw_at boxL_len boxL_by boxL_nodup a ha
theorem box_bk {b : List Nat} (hb : St b) : subL boxL (subL bk b) = b := sub_sub hb boxL_by fun a ha => Sw.at_sw boxL_len boxL_by boxL_nodup a ha
/-- Round j's key. -/
def ek (K : List Nat) (j : Nat) : List Nat := (K.drop (16 * j)).take 16
theorem st_ek {K : List Nat} (hK : ∀ i, K.getD i 0 < 256) (j : Nat) (hj : 16 * j + 16 ≤ K.length) : St (ek K j) := by
  refine ⟨by simp [ek]; omega, fun i => ?_⟩
  by_cases hi : i < 16
  · have : (ek K j).getD i 0 = K.getD (16 * j + i) 0 := by simp [ek, hi]
    rw [this]; exact hK _
  · rw [getD_out _ _ (by simp [ek]; omega)]; omega
/-- One round there. -/
def E (r : Nat) (K : List Nat) (j : Nat) (b : List Nat) : List Nat := xorL (if j < r then mixL (turnL 1 (subL boxL b)) else turnL 1 (subL boxL b)) (ek K j)
/-- One round back. -/
def Dc (r : Nat) (K : List Nat) (j : Nat) (b : List Nat) : List Nat := subL bk (turnL 3 (if j < r then unmixL (xorL b (ek K j)) else xorL b (ek K j)))
/-- The keys of r rounds. -/
def Keys (r : Nat) (K : List Nat) : Prop := ∀ j, j ≤ r → St (ek K j)
theorem st_E {r j : Nat} {K b : List Nat} (hk : St (ek K j)) : St (E r K j b) := by
  unfold E
  refine st_xor ?_ hk
  split
  · exact st_mix (st_turn (st_sub boxL_by))
  · exact st_turn (st_sub boxL_by)
theorem st_Dc {r j : Nat} {K b : List Nat} : St (Dc r K j b) := st_sub bk_by
theorem Dc_E {r j : Nat} {K b : List Nat} (hk : St (ek K j)) (hb : St b) : Dc r K j (E r K j b) = b := by
  have h1 : St (turnL 1 (subL boxL b)) := st_turn (st_sub boxL_by)
  unfold Dc E
  split
  · rw [xor_xor (st_mix h1) hk, unmix_mix h1, turn_13 (st_sub boxL_by), bk_box hb]
  · rw [xor_xor h1 hk, turn_13 (st_sub boxL_by), bk_box hb]
theorem E_Dc {r j : Nat} {K b : List Nat} (hk : St (ek K j)) (hb : St b) : E r K j (Dc r K j b) = b := by
  have h1 : St (xorL b (ek K j)) := st_xor hb hk
  unfold Dc E
  split
  · rw [box_bk (st_turn (st_unmix h1)), turn_31 (st_unmix h1), mix_unmix h1, xor_xor hb hk]
  · rw [box_bk (st_turn h1), turn_31 h1, xor_xor hb hk]
/-- Rounds 1 to j there. -/
def encS (r : Nat) (K : List Nat) : Nat → List Nat → List Nat
  | 0, b => b
  | j + 1, b => E r K (j + 1) (encS r K j b)
/-- Rounds j to 1 back. -/
def decG (r : Nat) (K : List Nat) : Nat → List Nat → List Nat
  | 0, b => b
  | j + 1, b => decG r K j (Dc r K (j + 1) b)
theorem st_encS {r : Nat} {K b : List Nat} (hk : Keys r K) (hb : St b) : ∀ j, j ≤ r → St (encS r K j b)
  | 0, _ => hb
  | _ + 1, h => st_E (hk _ h)
theorem st_decG {r : Nat} {K : List Nat} : ∀ (j : Nat) (b : List Nat), St b → St (decG r K j b)
  | 0, _, h => h
  | j + 1, _, _ => st_decG j _ st_Dc
theorem decG_encS {r : Nat} {K b : List Nat} (hk : Keys r K) (hb : St b) : ∀ j, j ≤ r → decG r K j (encS r K j b) = b
  | 0, _ => rfl
  | j + 1, h => by rw [encS, decG, Dc_E (hk _ h) (st_encS hk hb j (by omega)), decG_encS hk hb j (by omega)]
theorem encS_decG {r : Nat} {K : List Nat} (hk : Keys r K) : ∀ j, j ≤ r → ∀ b, St b → encS r K j (decG r K j b) = b
  | 0, _, _, _ => rfl
  | j + 1, h, b, hb => by rw [encS, decG, encS_decG hk j (by omega) _ st_Dc, E_Dc (hk _ h) hb]
/-- Enciphered. -/
def enc (r : Nat) (K b : List Nat) : List Nat := encS r K r (xorL b (ek K 0))
/-- Deciphered. -/
def dec (r : Nat) (K b : List Nat) : List Nat := xorL (decG r K r b) (ek K 0)
theorem st_enc {r : Nat} {K b : List Nat} (hk : Keys r K) (hb : St b) : St (enc r K b) := st_encS hk (st_xor hb (hk 0 (by omega))) r (by omega)
theorem st_dec {r : Nat} {K b : List Nat} (hk : Keys r K) (hb : St b) : St (dec r K b) := st_xor (st_decG r b hb) (hk 0 (by omega))
theorem dec_enc {r : Nat} {K b : List Nat} (hk : Keys r K) (hb : St b) : dec r K (enc r K b) = b := by
  rw [dec, enc, decG_encS hk (st_xor hb (hk 0 (by omega))) r (by omega), xor_xor hb (hk 0 (by omega))]
theorem enc_dec {r : Nat} {K b : List Nat} (hk : Keys r K) (hb : St b) : enc r K (dec r K b) = b := by
  rw [enc, dec, xor_xor (st_decG r b hb) (hk 0 (by omega)), encS_decG hk r (by omega) b hb]
theorem enc_eq {r : Nat} {K a b : List Nat} (hk : Keys r K) (ha : St a) (hb : St b) : enc r K a = enc r K b ↔ a = b :=
  ⟨fun h => by rw [← dec_enc hk ha, h, dec_enc hk hb], fun h => by rw [h]⟩
end Go.Proofs.YtonoidhlbnbhcaaDoor.Ae
