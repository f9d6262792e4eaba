/-
  Wrapping over lists of numbers: A and the pieces, steps on and back. Plain mathematics: no program is named here, no conditions.
-/
import Derived.Test.YtonoidhlbnbhcaaDoorNumAll
import Derived.Test.YtonoidhlbnbhcaaDoorArrAll
namespace Go.Proofs.YtonoidhlbnbhcaaDoor.Wr
open Gf Sb Ae Arr

/-- A, and the piece at o. -/
def jn (l : List Nat) (o : Nat) : List Nat := (List.range 16).map fun i => if i < 8 then l.getD i 0 else l.getD (o + (i - 8)) 0
/-- The first k bytes of b put together with c's. -/
def ctk (b c : List Nat) (k : Nat) : List Nat := upto (fun i => b.getD i 0 ^^^ c.getD i 0) (fun i => b.getD i 0) 16 k
/-- A put together with the number t. -/
def ct (b : List Nat) (t : Nat) : List Nat := ctk b (bytesOf t 8) 8
/-- A, and the piece at o, laid back. -/
def ly (l : List Nat) (o : Nat) (b : List Nat) : List Nat := spl (spl l 0 (b.take 8)) o (b.drop 8)
/-- Where step t's piece begins. -/
def pl (n t : Nat) : Nat := ((t - 1) % n + 1) * 8
/-- A step on. -/
def stp (f : List Nat → List Nat) (n : Nat) (l : List Nat) (t : Nat) : List Nat := ly l (pl n t) (ct (f (jn l (pl n t))) t)
/-- A step back. -/
def bck (g : List Nat → List Nat) (n : Nat) (l : List Nat) (t : Nat) : List Nat := ly l (pl n t) (g (ct (jn l (pl n t)) t))
/-- The first k steps. -/
def wrp (f : List Nat → List Nat) (n : Nat) (l : List Nat) : Nat → List Nat
  | 0 => l
  | k + 1 => stp f n (wrp f n l k) (k + 1)
/-- Steps k to 1 back. -/
def ubk (g : List Nat → List Nat) (n : Nat) : List Nat → Nat → List Nat
  | l, 0 => l
  | l, k + 1 => ubk g n (bck g n l (k + 1)) k
/-- A text of A and n pieces. -/
def Tx (n : Nat) (l : List Nat) : Prop := l.length = 8 * (n + 1) ∧ ∀ i, l.getD i 0 < 256
/-- A ahead of all steps. -/
def mk : List Nat := [166, 166, 166, 166, 166, 166, 166, 166]
theorem mk_bytes : bytesOf 12008468691120727718 8 = mk := by decide

theorem jn_get (l : List Nat) (o i : Nat) (hi : i < 16) : (jn l o).getD i 0 = if i < 8 then l.getD i 0 else l.getD (o + (i - 8)) 0 := map_get _ 16 i hi
theorem length_jn (l : List Nat) (o : Nat) : (jn l o).length = 16 := by simp [jn]
theorem st_jn {l : List Nat} (h : ∀ i, l.getD i 0 < 256) (o : Nat) : St (jn l o) := st_map _ fun i _ => by split <;> exact h _
theorem length_ctk (b c : List Nat) (k : Nat) : (ctk b c k).length = 16 := length_upto ..
theorem bytes_get_lt (t i : Nat) : (bytesOf t 8).getD i 0 < 256 := by
  by_cases h : i < 8
  · rw [getD_bytesOf t 8 i h]; omega
  · rw [getD_out _ _ (by rw [length_bytesOf]; omega)]; omega
theorem st_ct {b : List Nat} (hb : St b) (t : Nat) : St (ct b t) := by
  refine ⟨length_ctk .., fun i => ?_⟩
  by_cases hi : i < 16
  · rw [ct, ctk, upto_get _ _ _ _ _ hi]
    split
    · exact Gf.xor_lt (hb.2 i) (bytes_get_lt t i)
    · exact hb.2 i
  · rw [getD_out _ _ (by rw [ct, length_ctk]; omega)]; omega
theorem ct_get (b : List Nat) (t i : Nat) (hi : i < 16) : (ct b t).getD i 0 = if i < 8 then b.getD i 0 ^^^ (bytesOf t 8).getD i 0 else b.getD i 0 := upto_get _ _ _ _ _ hi
theorem ct_ct {b : List Nat} (hb : b.length = 16) (t : Nat) : ct (ct b t) t = b := by
  refine list_ext (n := 16) (length_ctk ..) hb fun i hi => ?_
  rw [ct_get _ _ _ hi, ct_get _ _ _ hi]
  split
  · rw [Nat.xor_assoc, Nat.xor_self, Nat.xor_zero]
  · rfl
theorem length_ly {l b : List Nat} {o : Nat} (ho : o + 8 ≤ l.length) (hb : b.length = 16) : (ly l o b).length = l.length := by
  have h1 : (spl l 0 (b.take 8)).length = l.length := length_spl _ _ _ (by simp; omega)
  rw [ly, length_spl _ _ _ (by rw [h1]; simp; omega), h1]
theorem ly_get {l b : List Nat} {o : Nat} (ho8 : 8 ≤ o) (ho : o + 8 ≤ l.length) (hb : b.length = 16) (j : Nat) :
    (ly l o b).getD j 0 = if o ≤ j ∧ j < o + 8 then b.getD (j - o + 8) 0 else if j < 8 then b.getD j 0 else l.getD j 0 := by
  have h1 : (spl l 0 (b.take 8)).length = l.length := length_spl _ _ _ (by simp; omega)
  have e1 : (b.drop 8).length = 8 := by simp; omega
  have e2 : (b.take 8).length = 8 := by simp; omega
  rw [ly, spl_get _ _ _ (by rw [h1, e1]; exact ho), spl_get _ _ _ (by rw [e2]; omega), e1, e2]
  by_cases c1 : o ≤ j ∧ j < o + 8
  · rw [if_pos c1, if_pos c1]
    simp only [List.getD_eq_getElem?_getD, List.getElem?_drop]
    congr 2; omega
  · rw [if_neg c1, if_neg c1]
    by_cases c2 : j < 8
    · rw [if_pos (by omega), if_pos c2]
      simp only [List.getD_eq_getElem?_getD, List.getElem?_take]
      rw [if_pos (by omega)]; rfl
    · rw [if_neg (by omega), if_neg c2]
theorem tx_ly {n : Nat} {l b : List Nat} {o : Nat} (hl : Tx n l) (ho8 : 8 ≤ o) (ho : o + 8 ≤ 8 * (n + 1)) (hb : St b) : Tx n (ly l o b) := by
  have h1 := hl.1
  refine ⟨by rw [length_ly (by omega) hb.1, h1], fun i => ?_⟩
  rw [ly_get ho8 (by omega) hb.1]
  split
  · exact hb.2 _
  · split
    · exact hb.2 _
    · exact hl.2 _
theorem jn_ly {n : Nat} {l b : List Nat} {o : Nat} (hl : Tx n l) (ho8 : 8 ≤ o) (ho : o + 8 ≤ 8 * (n + 1)) (hb : St b) : jn (ly l o b) o = b := by
  have h1 := hl.1
  refine list_ext (n := 16) (length_jn ..) hb.1 fun i hi => ?_
  rw [jn_get _ _ _ hi]
  by_cases h : i < 8
  · rw [if_pos h, ly_get ho8 (by omega) hb.1, if_neg (by omega), if_pos h]
  · rw [if_neg h, ly_get ho8 (by omega) hb.1, if_pos (by omega)]
    congr 1; omega
theorem ly_ly {n : Nat} {l b c : List Nat} {o : Nat} (hl : Tx n l) (ho8 : 8 ≤ o) (ho : o + 8 ≤ 8 * (n + 1)) (hb : St b) (hc : St c) : ly (ly l o b) o c = ly l o c := by
  have h1 := hl.1
  have h2 : (ly l o b).length = l.length := length_ly (by omega) hb.1
  refine list_ext (n := l.length) (by rw [length_ly (by omega) hc.1, h2]) (length_ly (by omega) hc.1) fun i hi => ?_
  rw [ly_get ho8 (by omega) hc.1, ly_get ho8 (by omega) hb.1, ly_get ho8 (by omega) hc.1]
  split
  · rfl
  · split <;> rfl
theorem ly_jn {n : Nat} {l : List Nat} {o : Nat} (hl : Tx n l) (ho8 : 8 ≤ o) (ho : o + 8 ≤ 8 * (n + 1)) : ly l o (jn l o) = l := by
  have h1 := hl.1
  refine list_ext (n := l.length) (length_ly (by omega) (length_jn ..)) rfl fun i hi => ?_
  rw [ly_get ho8 (by omega) (length_jn ..)]
  split
  · rw [jn_get _ _ _ (by omega), if_neg (by omega)]; congr 1; omega
  · split
    · rw [jn_get _ _ _ (by omega), if_pos (by assumption)]
    · rfl
theorem pl_ge (n t : Nat) : 8 ≤ pl n t := by unfold pl; omega
theorem pl_le {n : Nat} (t : Nat) (hn : 0 < n) : pl n t + 8 ≤ 8 * (n + 1) := by
  have := Nat.mod_lt (t - 1) hn
  unfold pl; omega
section
variable {f g : List Nat → List Nat} {n : Nat} {l : List Nat}
theorem tx_stp (hf : ∀ b, St b → St (f b)) (hn : 0 < n) (hl : Tx n l) (t : Nat) : Tx n (stp f n l t) := tx_ly hl (pl_ge n t) (pl_le t hn) (st_ct (hf _ (st_jn hl.2 _)) t)
theorem tx_bck (hg : ∀ b, St b → St (g b)) (hn : 0 < n) (hl : Tx n l) (t : Nat) : Tx n (bck g n l t) := tx_ly hl (pl_ge n t) (pl_le t hn) (hg _ (st_ct (st_jn hl.2 _) t))
theorem bck_stp (hf : ∀ b, St b → St (f b)) (h : ∀ b, St b → g (f b) = b) (hn : 0 < n) (hl : Tx n l) (t : Nat) : bck g n (stp f n l t) t = l := by
  have s1 := hf _ (st_jn hl.2 (pl n t))
  have s2 := st_ct s1 t
  rw [bck, stp, jn_ly hl (pl_ge n t) (pl_le t hn) s2, ct_ct s1.1, h _ (st_jn hl.2 _), ly_ly hl (pl_ge n t) (pl_le t hn) s2 (st_jn hl.2 _), ly_jn hl (pl_ge n t) (pl_le t hn)]
theorem stp_bck (hg : ∀ b, St b → St (g b)) (h : ∀ b, St b → f (g b) = b) (hn : 0 < n) (hl : Tx n l) (t : Nat) : stp f n (bck g n l t) t = l := by
  have s0 := st_jn hl.2 (pl n t)
  have s1 := st_ct s0 t
  have s2 := hg _ s1
  rw [stp, bck, jn_ly hl (pl_ge n t) (pl_le t hn) s2, h _ s1, ct_ct s0.1, ly_ly hl (pl_ge n t) (pl_le t hn) s2 s0, ly_jn hl (pl_ge n t) (pl_le t hn)]
theorem tx_wrp (hf : ∀ b, St b → St (f b)) (hn : 0 < n) (hl : Tx n l) : ∀ k, Tx n (wrp f n l k)
  | 0 => hl
  | k + 1 => tx_stp hf hn (tx_wrp hf hn hl k) _
theorem ubk_wrp (hf : ∀ b, St b → St (f b)) (h : ∀ b, St b → g (f b) = b) (hn : 0 < n) (hl : Tx n l) : ∀ k, ubk g n (wrp f n l k) k = l
  | 0 => rfl
  | k + 1 => by rw [wrp, ubk, bck_stp hf h hn (tx_wrp hf hn hl k), ubk_wrp hf h hn hl k]
theorem tx_ubk (hg : ∀ b, St b → St (g b)) (hn : 0 < n) : ∀ (k : Nat) (l : List Nat), Tx n l → Tx n (ubk g n l k)
  | 0, _, hl => hl
  | k + 1, _, hl => tx_ubk hg hn k _ (tx_bck hg hn hl _)
theorem wrp_ubk (hg : ∀ b, St b → St (g b)) (h : ∀ b, St b → f (g b) = b) (hn : 0 < n) : ∀ (k : Nat) (l : List Nat), Tx n l → wrp f n (ubk g n l k) k = l
  | 0, _, _ => rfl
  | k + 1, l, hl => by rw [ubk, wrp, wrp_ubk hg h hn k _ (tx_bck hg hn hl _), stp_bck hg h hn hl]
end
/-- The wrapped key. -/
def wrapL (r : Nat) (K key : List Nat) : List Nat := wrp (enc r K) (key.length / 8) (mk ++ key) (6 * (key.length / 8))
/-- What comes out, A with it. -/
def outL (r : Nat) (K b : List Nat) : List Nat := ubk (dec r K) (b.length / 8 - 1) b (6 * (b.length / 8 - 1))
theorem tx_of {b : List Nat} (n : Nat) (hl : b.length = 8 * (n + 1)) (hb : ∀ x, x ∈ b → x < 256) : Tx n b := by
  refine ⟨hl, fun i => ?_⟩
  by_cases hi : i < b.length
  · have e : b.getD i 0 = b[i] := by simp [List.getD_eq_getElem?_getD, hi]
    rw [e]; exact hb _ (List.getElem_mem hi)
  · rw [getD_out _ _ (by omega)]; omega
theorem tx_key {key : List Nat} (n : Nat) (hl : key.length = 8 * n) (hb : ∀ x, x ∈ key → x < 256) : Tx n (mk ++ key) := by
  refine tx_of n (by simp [mk, hl]; omega) fun x hx => ?_
  rcases List.mem_append.1 hx with h | h
  · simp only [mk, List.mem_cons, List.not_mem_nil, or_false, or_self] at h; omega
  · exact hb _ h
theorem Tx.mem {n : Nat} {l : List Nat} (h : Tx n l) : ∀ x, x ∈ l → x < 256 := by
  intro x hx
  obtain ⟨i, hi, rfl⟩ := List.getElem_of_mem hx
  have := h.2 i
  rwa [List.getD_eq_getElem?_getD, List.getElem?_eq_getElem hi] at this
section
variable {r : Nat} {K : List Nat}
theorem tx_wrapL (hK : Keys r K) (n : Nat) (hn : 0 < n) {key : List Nat} (hl : key.length = 8 * n) (hb : ∀ x, x ∈ key → x < 256) : Tx n (wrapL r K key) := by
  have e : key.length / 8 = n := by omega
  rw [wrapL, e]
  exact tx_wrp (fun b hb => st_enc hK hb) hn (tx_key n hl hb) _
theorem tx_outL (hK : Keys r K) (n : Nat) (hn : 0 < n) {b : List Nat} (hl : b.length = 8 * (n + 1)) (hb : ∀ x, x ∈ b → x < 256) : Tx n (outL r K b) := by
  have e : b.length / 8 - 1 = n := by omega
  rw [outL, e]
  exact tx_ubk (fun b hb => st_dec hK hb) hn _ _ (tx_of n hl hb)
/-- What is wrapped is unwrapped. -/
theorem out_wrap (hK : Keys r K) (n : Nat) (hn : 0 < n) {key : List Nat} (hl : key.length = 8 * n) (hb : ∀ x, x ∈ key → x < 256) : outL r K (wrapL r K key) = mk ++ key := by
  have e : key.length / 8 = n := by omega
  have h := (tx_wrapL hK n hn hl hb).1
  rw [outL, show (wrapL r K key).length / 8 - 1 = n by omega, wrapL, e]
  exact ubk_wrp (fun b hb => st_enc hK hb) (fun b hb => dec_enc hK hb) hn (tx_key n hl hb) _
/-- What is unwrapped is wrapped so. -/
theorem wrap_out (hK : Keys r K) (n : Nat) (hn : 0 < n) {b : List Nat} (hl : b.length = 8 * (n + 1)) (hb : ∀ x, x ∈ b → x < 256) (hm : (outL r K b).take 8 = mk) : wrapL r K ((outL r K b).drop 8) = b := by
  have e : b.length / 8 - 1 = n := by omega
  have h := (tx_outL hK n hn hl hb).1
  have h2 : ((outL r K b).drop 8).length / 8 = n := by rw [List.length_drop]; omega
  rw [wrapL, h2, ← hm, List.take_append_drop, outL, e]
  exact wrp_ubk (fun b hb => st_dec hK hb) (fun b hb => enc_dec hK hb) hn _ _ (tx_of n hl hb)
end
end Go.Proofs.YtonoidhlbnbhcaaDoor.Wr
