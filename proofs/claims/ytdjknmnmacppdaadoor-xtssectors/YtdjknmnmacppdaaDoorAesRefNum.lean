/-
  The reference's key bytes and rounds, over numbers, are those of the cipher. Plain mathematics: no program is named here, no conditions.
-/
import Derived.Test.YtdjknmnmacppdaaDoorAesWordNum
namespace Go.Proofs.YtdjknmnmacppdaaDoor.Ae
open Gf Sb

/-- Byte t of a word. -/
def byt (x t : Nat) : Nat := x / 256 ^ (3 - t) % 256
theorem byt_lt (x t : Nat) : byt x t < 256 := Nat.mod_lt _ (by omega)
theorem byt_shift (x t : Nat) : byt x t = (x >>> (8 * (3 - t))) % 2 ^ 8 := by
  rw [byt, Nat.shiftRight_eq_div_pow, two_pow8]
theorem byt_xor (x y t : Nat) : byt (x ^^^ y) t = byt x t ^^^ byt y t := by
  rw [byt_shift, byt_shift, byt_shift, Nat.shiftRight_xor_distrib, Nat.xor_mod_two_pow]
theorem byt_top (p t : Nat) (hp : p < 256) (ht : t < 4) : byt (p * 16777216) t = if t = 0 then p else 0 := by
  have h : t = 0 ∨ t = 1 ∨ t = 2 ∨ t = 3 := by omega
  rcases h with rfl | rfl | rfl | rfl <;> simp [byt] <;> omega
theorem rot_24 (x : Nat) : rot x 24 = x / 16777216 + x % 16777216 * 256 := by
  simp [rot]
theorem byt_of (a b c d : Nat) (ha : a < 256) (hb : b < 256) (hc : c < 256) (hd : d < 256) :
    byt (16777216 * a + 65536 * b + 256 * c + d) 0 = a ∧ byt (16777216 * a + 65536 * b + 256 * c + d) 1 = b ∧ byt (16777216 * a + 65536 * b + 256 * c + d) 2 = c ∧ byt (16777216 * a + 65536 * b + 256 * c + d) 3 = d := by
  refine ⟨?_, ?_, ?_, ?_⟩ <;> simp only [byt] <;> omega
theorem byt_num (x : Nat) (hx : x < 4294967296) : x = 16777216 * byt x 0 + 65536 * byt x 1 + 256 * byt x 2 + byt x 3 := by
  simp only [byt]; omega
theorem byt_rot (x t : Nat) (hx : x < 4294967296) (ht : t < 4) : byt (rot x 24) t = byt x ((t + 1) % 4) := by
  have ha := byt_lt x 0
  have hb := byt_lt x 1
  have hc := byt_lt x 2
  have hd := byt_lt x 3
  have e := byt_num x hx
  generalize byt x 0 = a at *
  generalize byt x 1 = b at *
  generalize byt x 2 = c at *
  generalize byt x 3 = d at *
  subst e
  have er : rot (16777216 * a + 65536 * b + 256 * c + d) 24 = 16777216 * b + 65536 * c + 256 * d + a := by rw [rot_24]; omega
  obtain ⟨x0, x1, x2, x3⟩ := byt_of a b c d ha hb hc hd
  obtain ⟨y0, y1, y2, y3⟩ := byt_of b c d a hb hc hd ha
  rw [er]
  have h : t = 0 ∨ t = 1 ∨ t = 2 ∨ t = 3 := by omega
  rcases h with rfl | rfl | rfl | rfl
  · rw [y0]; exact x1.symm
  · rw [y1]; exact x2.symm
  · rw [y2]; exact x3.symm
  · rw [y3]; exact x0.symm
theorem subW_sum (x : Nat) : subW x = boxL.getD (x % 256) 0 + boxL.getD (x / 256 % 256) 0 * 256 + boxL.getD (x / 65536 % 256) 0 * 65536 + boxL.getD (x / 16777216 % 256) 0 * 16777216 := by
  rw [subW, subLow_add, subLow_add, subLow_add, subLow_add, subLow]
  simp
theorem byt_sub (x t : Nat) (ht : t < 4) : byt (subW x) t = boxL.getD (byt x t) 0 := by
  rw [subW_sum]
  have a := boxL_lt (x % 256)
  have b := boxL_lt (x / 256 % 256)
  have c := boxL_lt (x / 65536 % 256)
  have d := boxL_lt (x / 16777216 % 256)
  have h : t = 0 ∨ t = 1 ∨ t = 2 ∨ t = 3 := by omega
  rcases h with rfl | rfl | rfl | rfl
  · rw [show byt x 0 = x / 16777216 % 256 from rfl]
    generalize boxL.getD (x % 256) 0 = p at *
    generalize boxL.getD (x / 256 % 256) 0 = q at *
    generalize boxL.getD (x / 65536 % 256) 0 = r at *
    generalize boxL.getD (x / 16777216 % 256) 0 = s at *
    simp only [byt]; omega
  · rw [show byt x 1 = x / 65536 % 256 from rfl]
    generalize boxL.getD (x % 256) 0 = p at *
    generalize boxL.getD (x / 256 % 256) 0 = q at *
    generalize boxL.getD (x / 65536 % 256) 0 = r at *
    generalize boxL.getD (x / 16777216 % 256) 0 = s at *
    simp only [byt]; omega
  · rw [show byt x 2 = x / 256 % 256 from rfl]
    generalize boxL.getD (x % 256) 0 = p at *
    generalize boxL.getD (x / 256 % 256) 0 = q at *
    generalize boxL.getD (x / 65536 % 256) 0 = r at *
    generalize boxL.getD (x / 16777216 % 256) 0 = s at *
    simp only [byt]; omega
  · rw [show byt x 3 = x % 256 by simp [byt]]
    generalize boxL.getD (x % 256) 0 = p at *
    generalize boxL.getD (x / 256 % 256) 0 = q at *
    generalize boxL.getD (x / 65536 % 256) 0 = r at *
    generalize boxL.getD (x / 16777216 % 256) 0 = s at *
    simp only [byt]; omega
theorem wb_byt (ws : List Nat) (i t : Nat) (ht : t < 4) : wb ws (4 * i + t) = byt (ws.getD i 0) t := by
  rw [wb, byt, show (4 * i + t) / 4 = i by omega, show (4 * i + t) % 4 = t by omega]

/-- The four numbers that word i is made of. -/
def rw4 (k i p : Nat) (l : List Nat) (t : Nat) : Nat :=
  if i % k = 0 then boxL.getD (l.getD (4 * i - 4 + (t + 1) % 4) 0) 0 ^^^ (if t = 0 then p else 0) else if k = 8 ∧ i % 8 = 4 then boxL.getD (l.getD (4 * i - 4 + t) 0) 0 else l.getD (4 * i - 4 + t) 0
/-- Byte t of word i. -/
def rby (k i p : Nat) (l : List Nat) (t : Nat) : Nat := l.getD (4 * (i - k) + t) 0 ^^^ rw4 k i p l t
def rstep (k i p : Nat) (l : List Nat) : List Nat := l ++ [rby k i p l 0, rby k i p l 1, rby k i p l 2, rby k i p l 3]
def rplus (k i p : Nat) : Nat := if i % k = 0 then T p 2 else p
/-- m words more. -/
def rfill (k : Nat) : Nat → Nat → Nat → List Nat → List Nat
  | 0, _, _, l => l
  | m + 1, i, p, l => rfill k m (i + 1) (rplus k i p) (rstep k i p l)
/-- All bytes of words. -/
def allB (ws : List Nat) (n : Nat) : List Nat := (List.range (4 * n)).map (wb ws)
theorem length_allB (ws : List Nat) (n : Nat) : (allB ws n).length = 4 * n := by simp [allB]
theorem allB_get (ws : List Nat) (n j : Nat) (hj : j < 4 * n) : (allB ws n).getD j 0 = wb ws j := map_get _ _ _ hj
theorem allB_succ (ws : List Nat) (n : Nat) : allB ws (n + 1) = allB ws n ++ [byt (ws.getD n 0) 0, byt (ws.getD n 0) 1, byt (ws.getD n 0) 2, byt (ws.getD n 0) 3] := by
  rw [allB, show 4 * (n + 1) = 4 * n + 1 + 1 + 1 + 1 by omega, List.range_succ, List.range_succ, List.range_succ, List.range_succ]
  simp only [List.map_append, List.map_cons, List.map_nil, List.append_assoc, List.cons_append, List.nil_append]
  rw [← wb_byt ws n 0 (by omega), ← wb_byt ws n 1 (by omega), ← wb_byt ws n 2 (by omega), ← wb_byt ws n 3 (by omega)]
  rfl
theorem allB_set (ws : List Nat) (n i c : Nat) (hi : n ≤ i) : allB (ws.set i c) n = allB ws n := by
  refine list_ext (length_allB ..) (length_allB ..) fun j hj => ?_
  rw [allB_get _ _ _ hj, allB_get _ _ _ hj, wb, wb, set_get, if_neg (fun h => by omega)]

/-- The power at word i. -/
def pwAt (k i : Nat) : Nat := pw 2 ((i + k - 1) / k - 1)
theorem pwAt_step (k i : Nat) (hk : k = 4 ∨ k = 8) (hi : k ≤ i) : rplus k i (pwAt k i) = pwAt k (i + 1) := by
  unfold rplus pwAt
  split
  · next h =>
    have e : (i + 1 + k - 1) / k - 1 = ((i + k - 1) / k - 1) + 1 := by rcases hk with rfl | rfl <;> omega
    rw [e]; rfl
  · next h =>
    congr 1
    rcases hk with rfl | rfl <;> omega
theorem pwAt_mul (k i : Nat) (hk : k = 4 ∨ k = 8) (h : i % k = 0) : pwAt k i = pw 2 (i / k - 1) := by
  unfold pwAt; congr 1; rcases hk with rfl | rfl <;> omega
theorem byt_nxt (k i : Nat) (hk : k = 4 ∨ k = 8) (ws : List Nat) (hw : Ws ws) (hi : k ≤ i) (t : Nat) (ht : t < 4) :
    byt (nxt k i (ws.getD (i - 1) 0)) t = rw4 k i (pwAt k i) (allB ws i) t := by
  have hg : ∀ s, s < 4 → (allB ws i).getD (4 * i - 4 + s) 0 = byt (ws.getD (i - 1) 0) s := fun s hs => by
    rw [allB_get _ _ _ (by omega), show 4 * i - 4 + s = 4 * (i - 1) + s by omega, wb_byt _ _ _ hs]
  unfold nxt rw4
  split
  · next h => rw [byt_xor, byt_sub _ _ ht, byt_rot _ _ (hw _) ht, byt_top _ _ (pw_lt 2 _ (by omega)) ht, hg _ (by omega), pwAt_mul k i hk h]
  · split
    · rw [byt_sub _ _ ht, hg _ ht]
    · rw [hg _ ht]
theorem fill_same (k : Nat) (hk : k = 4 ∨ k = 8) : ∀ (m i : Nat) (ws : List Nat), k ≤ i → i + m = ws.length → Ws ws → rfill k m i (pwAt k i) (allB ws i) = allB (fw k m i ws) (i + m)
  | 0, _, _, _, _, _ => rfl
  | m + 1, i, ws, hi, hl, hw => by
    have ih := fill_same k hk m (i + 1) (ws.set i (ws.getD (i - k) 0 ^^^ nxt k i (ws.getD (i - 1) 0))) (by omega) (by rw [List.length_set]; omega) (ws_step hw)
    have hb : ∀ t, t < 4 → rby k i (pwAt k i) (allB ws i) t = byt (ws.getD (i - k) 0 ^^^ nxt k i (ws.getD (i - 1) 0)) t := fun t ht => by
      rw [rby, byt_xor, byt_nxt k i hk ws hw hi t ht, allB_get _ _ _ (by rcases hk with rfl | rfl <;> omega), wb_byt _ _ _ ht]
    rw [rfill, fw, pwAt_step k i hk hi, show i + (m + 1) = i + 1 + m by omega, ← ih]
    congr 1
    rw [allB_succ, allB_set _ _ _ _ (Nat.le_refl _), rstep, hb 0 (by omega), hb 1 (by omega), hb 2 (by omega), hb 3 (by omega)]
    rw [Sw.getD_set _ _ _ _ (by omega), if_pos rfl]
/-- The key's own bytes. -/
theorem key_bytes (bs : List Nat) (hb : ∀ x, x ∈ bs → x < 256) (k n : Nat) (hl : bs.length = 4 * k) (hn : k ≤ n) : allB (upto (kw bs) (fun _ => 0) n k) k = bs := by
  refine list_ext (length_allB ..) hl fun j hj => ?_
  rw [allB_get _ _ _ hj, wb, upto_get _ _ _ _ _ (by omega), if_pos (by omega), kw]
  have hlen : ((bs.drop (4 * (j / 4))).take 4).length = 4 := by simp; omega
  have hbb : ∀ x, x ∈ (bs.drop (4 * (j / 4))).take 4 → x < 256 := fun x hx => hb x (List.mem_of_mem_drop (List.mem_of_mem_take hx))
  have h1 := bytesOf_num _ hbb
  rw [hlen] at h1
  have h2 := getD_bytesOf (num ((bs.drop (4 * (j / 4))).take 4)) 4 (j % 4) (by omega)
  rw [h1] at h2
  rw [show (3 : Nat) - j % 4 = 4 - 1 - j % 4 by omega, ← h2]
  have h4 : j % 4 < 4 := by omega
  simp [h4, show 4 * (j / 4) + j % 4 = j by omega]
/-- The reference's bytes are those of the words. -/
theorem make_same (bs : List Nat) (hb : ∀ x, x ∈ bs → x < 256) (k : Nat) (hk : k = 4 ∨ k = 8) (hl : bs.length = 4 * k) : rfill k (4 * (k + 7) - k) k 1 bs = allB (words bs k) (4 * (k + 7)) := by
  have h := fill_same k hk (4 * (k + 7) - k) k (upto (kw bs) (fun _ => 0) (4 * (k + 7)) k) (Nat.le_refl _) (by rw [length_upto]; omega) (ws_key hb _ _)
  rw [key_bytes bs hb k _ hl (by omega), show k + (4 * (k + 7) - k) = 4 * (k + 7) by omega] at h
  have e : pwAt k k = 1 := by rcases hk with rfl | rfl <;> rfl
  rw [e] at h
  exact h
end Go.Proofs.YtdjknmnmacppdaaDoor.Ae
