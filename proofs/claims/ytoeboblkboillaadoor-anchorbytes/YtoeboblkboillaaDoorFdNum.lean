/-
  Fields as bytes, and bytes as fields: what the writer holds, and what the reader makes of it. Pure; no conditions.
-/
import Derived.Test.YtoeboblkboillaaDoorWGet
namespace Go.Proofs.YtoeboblkboillaaDoor.Fld
open Go.Proofs.YtoeboblkboillaaDoor Go.RowKit

/-- A field that came in. -/
structure It where
  kind : Int
  n : Int
  size : Int
  bs : List Nat
  A : Option Addr
  c : Nat

/-- The bytes of a number, if there are. -/
def numF (n size : Int) : Option (List Nat) := if putOk n size then some (bytesOf n.toNat size.toNat) else none
/-- Bytes, and ahead of them how many there are, if that can be said. -/
def bysF (bs : List Nat) : Option (List Nat) := if bs.length ≤ 65535 then some (bytesOf bs.length 2 ++ bs) else none
/-- The bytes of a field, if there are. -/
def fieldOf (it : It) : Option (List Nat) := if it.kind = 1 then numF it.n it.size else if it.kind = 2 then bysF it.bs else if it.kind = 3 then some it.bs else some []
/-- A field more: what was written, and what went wrong first. -/
def wput (s : List Nat × Nat) (f : Option (List Nat)) : List Nat × Nat := if s.2 = 0 then (match f with | some x => (s.1 ++ x, 0) | none => (s.1, 2)) else s
/-- All fields. -/
def wAll (its : List It) : List Nat × Nat := its.foldl (fun s it => wput s (fieldOf it)) ([], 0)
theorem wAll_succ (its : List It) (k : Nat) (h : k < its.length) : wAll (its.take (k + 1)) = wput (wAll (its.take k)) (fieldOf its[k]) := by
  unfold wAll
  rw [List.take_succ_eq_append_getElem h, List.foldl_append]
  rfl

theorem numF_lt {n size : Int} {x : List Nat} (h : numF n size = some x) : ∀ y, y ∈ x → y < 256 := by
  unfold numF at h
  split at h
  · simp only [Option.some.injEq] at h; subst h; exact bytesOf_lt _ _
  · cases h
theorem numF_len {n size : Int} {x : List Nat} (h : numF n size = some x) : x.length ≤ 8 := by
  unfold numF at h
  split at h
  · rename_i hp
    obtain ⟨m, k, rfl, rfl, h1, h2, _⟩ := putOk_parts hp
    simp only [Option.some.injEq] at h; subst h
    rw [length_bytesOf]; simpa using h2
  · cases h
theorem bysF_few {bs : List Nat} (h : bs.length ≤ 65535) : bysF bs = some (bytesOf bs.length 2 ++ bs) := if_pos h
theorem bysF_many {bs : List Nat} (h : 65535 < bs.length) : bysF bs = none := if_neg (by omega)
theorem putOk_len {n : Nat} (h : n ≤ 65535) : putOk (n : Int) 2 = true := (putOk_mk (m := n) (k := 2) (by omega) (by omega) (by omega) (by show n < 65536; omega)).2
theorem putOk_over {n : Nat} (h : 65535 < n) : putOk (n : Int) 2 = false := by
  cases hp : putOk (n : Int) 2 with
  | false => rfl
  | true =>
    obtain ⟨m, k, h1, h2, _, _, _, h3⟩ := putOk_parts hp
    obtain rfl : k = 2 := by omega
    have : m < 65536 := h3
    omega
theorem numF_len2 {n : Nat} (h : n ≤ 65535) : numF (n : Int) 2 = some (bytesOf n 2) := by unfold numF; rw [if_pos (putOk_len h)]; rfl
/-- A number and the bytes behind it are the bytes' field. -/
theorem wput_bys (s : List Nat × Nat) (bs : List Nat) : wput (wput s (numF (bs.length : Int) 2)) (some bs) = wput s (bysF bs) := by
  by_cases h : bs.length ≤ 65535
  · rw [numF_len2 h, bysF_few h]
    unfold wput
    by_cases h0 : s.2 = 0
    · simp [h0]
    · simp [h0]
  · have hn : numF (bs.length : Int) 2 = none := by unfold numF; rw [putOk_over (by omega)]; rfl
    rw [hn, bysF_many (by omega)]
    unfold wput
    by_cases h0 : s.2 = 0
    · simp [h0]
    · simp [h0]
theorem wput_bad {s : List Nat × Nat} (h : s.2 ≠ 0) (f : Option (List Nat)) : wput s f = s := by unfold wput; rw [if_neg h]
theorem wput_nil (s : List Nat × Nat) : wput s (some []) = s := by
  unfold wput
  by_cases h : s.2 = 0
  · obtain ⟨a, b⟩ := s; simp at h; subst h; simp
  · simp [h]

/-- What is at most written of few fields. -/
def Few (its : List It) : Prop := its.length ≤ 30 ∧ ∀ i (h : i < its.length), its[i].bs.length ≤ 100
theorem field_len {it : It} {x : List Nat} (h : fieldOf it = some x) (hb : it.bs.length ≤ 100) : x.length ≤ 102 := by
  unfold fieldOf at h
  split at h
  · have := numF_len h; omega
  · split at h
    · rw [bysF_few (by omega)] at h
      simp only [Option.some.injEq] at h; subst h
      rw [List.length_append, length_bytesOf]; omega
    · split at h
      · simp only [Option.some.injEq] at h; subst h; omega
      · simp only [Option.some.injEq] at h; subst h; simp
theorem wAll_len {its : List It} (h : Few its) : ∀ k, k ≤ its.length → (wAll (its.take k)).1.length ≤ 102 * k
  | 0, _ => by simp [wAll]
  | k + 1, hk => by
    have hi := wAll_len h k (by omega)
    rw [wAll_succ its k (by omega)]
    unfold wput
    split
    · cases hf : fieldOf its[k] with
      | some x => have := field_len hf (h.2 k (by omega)); simp; omega
      | none => simp; omega
    · omega
theorem wAll_all {its : List It} (h : Few its) : (wAll its).1.length ≤ 3060 := by
  have h1 := wAll_len h its.length (Nat.le_refl _)
  have h2 := h.1
  rw [List.take_length] at h1
  omega

/-- What the reader's number answers: the error, and the number. -/
def numE (bs : List Nat) (size most : Int) : Nat := if (bs.length : Int) < size then 10 else if size < 1 ∨ 8 < size then 2 else if getE (bs.take size.toNat) ≠ 0 ∨ most < (num (bs.take size.toNat) : Int) then 11 else 0
def numV (bs : List Nat) (size most : Int) : Nat := if numE bs size most = 0 then num (bs.take size.toNat) else 0
/-- What its bytes answer that are counted. -/
def cntE (bs : List Nat) (most : Int) : Nat := if numE bs 2 65535 ≠ 0 then numE bs 2 65535 else if bs.length - 2 < num (bs.take 2) then 10 else if most < (num (bs.take 2) : Int) then 11 else 0
def cntV (bs : List Nat) (most : Int) : List Nat := if cntE bs most = 0 then (bs.drop 2).take (num (bs.take 2)) else []
/-- What its bytes answer as they are. -/
def fixE (bs : List Nat) (n : Int) : Nat := if (bs.length : Int) < n then 10 else if n < 0 then 2 else 0
def fixV (bs : List Nat) (n : Int) : List Nat := if fixE bs n = 0 then bs.take n.toNat else []
/-- The reader goes behind n bytes, or keeps what went wrong. -/
def onw (rest : List Nat) (n e : Nat) : List Nat × Nat := if e = 0 then (rest.drop n, 0) else (rest, e)
def numS (s : List Nat × Nat) (size most : Int) : List Nat × Nat := if s.2 = 0 then onw s.1 size.toNat (numE s.1 size most) else s
def numA (s : List Nat × Nat) (size most : Int) : Nat := if s.2 = 0 then numV s.1 size most else 0
def cntS (s : List Nat × Nat) (most : Int) : List Nat × Nat := if s.2 = 0 then onw s.1 (2 + (cntV s.1 most).length) (cntE s.1 most) else s
def cntA (s : List Nat × Nat) (most : Int) : List Nat := if s.2 = 0 then cntV s.1 most else []
def fixS (s : List Nat × Nat) (n : Int) : List Nat × Nat := if s.2 = 0 then onw s.1 n.toNat (fixE s.1 n) else s
def fixA (s : List Nat × Nat) (n : Int) : List Nat := if s.2 = 0 then fixV s.1 n else []
/-- What Done answers. -/
def doneE (s : List Nat × Nat) : Nat := if s.2 = 0 then (if 0 < s.1.length then 13 else 0) else s.2

/-- A field is read: what is left then. -/
def rput (s : List Nat × Nat) (it : It) : List Nat × Nat := if it.kind = 1 then numS s it.size it.n else if it.kind = 2 then cntS s (it.bs.length : Int) else if it.kind = 3 then fixS s (it.bs.length : Int) else s
/-- Whether it is what was written. -/
def rgood (s : List Nat × Nat) (it : It) : Bool := if it.kind = 1 then decide ((numA s it.size it.n : Int) = it.n) else if it.kind = 2 then decide (cntA s (it.bs.length : Int) = it.bs) else if it.kind = 3 then decide (fixA s (it.bs.length : Int) = it.bs) else true
/-- All fields are read. -/
def rAll (its : List It) (s : List Nat × Nat) : (List Nat × Nat) × Bool := its.foldl (fun s it => (rput s.1 it, rgood s.1 it && s.2)) (s, true)
theorem rAll_succ (its : List It) (s : List Nat × Nat) (k : Nat) (h : k < its.length) : rAll (its.take (k + 1)) s = (rput (rAll (its.take k) s).1 its[k], rgood (rAll (its.take k) s).1 its[k] && (rAll (its.take k) s).2) := by
  unfold rAll
  rw [List.take_succ_eq_append_getElem h, List.foldl_append]
  rfl

/-- One field, read back: with whatever is behind it. -/
theorem read_one {it : It} {x : List Nat} (h : fieldOf it = some x) (r : List Nat) : rput (x ++ r, 0) it = (r, 0) ∧ rgood (x ++ r, 0) it = true := by
  unfold fieldOf at h
  unfold rput rgood
  by_cases k1 : it.kind = 1
  · rw [if_pos k1] at h
    rw [if_pos k1, if_pos k1]
    unfold numF at h
    by_cases hp : putOk it.n it.size = true
    · rw [if_pos hp] at h
      obtain ⟨m, s, h1, h2, h3, h4, h5, h6⟩ := putOk_parts hp
      rw [h1, h2] at h ⊢
      simp only [Option.some.injEq, Int.toNat_natCast] at h
      subst h
      have ht : (bytesOf m s ++ r).take s = bytesOf m s := by rw [List.take_append_of_le_length (by rw [length_bytesOf]; omega), List.take_of_length_le (by rw [length_bytesOf]; omega)]
      have hd : (bytesOf m s ++ r).drop s = r := by rw [List.drop_append_of_le_length (by rw [length_bytesOf]; omega), List.drop_of_length_le (by rw [length_bytesOf]; omega)]; rfl
      have hn : num (bytesOf m s) = m := by rw [num_bytesOf, Nat.mod_eq_of_lt h6]
      have hg : getE (bytesOf m s) = 0 := by unfold getE; rw [length_bytesOf, hn, if_neg (by omega), if_neg (by omega), if_neg (by omega)]
      have he : numE (bytesOf m s ++ r) (s : Int) (m : Int) = 0 := by
        unfold numE
        rw [Int.toNat_natCast, ht, hg, hn, List.length_append, length_bytesOf, if_neg (by omega), if_neg (by omega), if_neg (by omega)]
      refine ⟨?_, ?_⟩
      · simp [numS, onw, he, hd]
      · simp [numA, numV, he, ht, hn]
    · rw [if_neg hp] at h; cases h
  · rw [if_neg k1] at h
    rw [if_neg k1, if_neg k1]
    by_cases k2 : it.kind = 2
    · rw [if_pos k2] at h
      rw [if_pos k2, if_pos k2]
      by_cases hl : it.bs.length ≤ 65535
      · rw [bysF_few hl] at h
        simp only [Option.some.injEq] at h
        subst h
        have hb2 := length_bytesOf it.bs.length 2
        have ht : (bytesOf it.bs.length 2 ++ it.bs ++ r).take 2 = bytesOf it.bs.length 2 := by rw [List.append_assoc, List.take_append_of_le_length (by omega), List.take_of_length_le (by omega)]
        have hd : (bytesOf it.bs.length 2 ++ it.bs ++ r).drop 2 = it.bs ++ r := by rw [List.append_assoc, List.drop_append_of_le_length (by omega), List.drop_of_length_le (by omega)]; rfl
        have hn : num (bytesOf it.bs.length 2) = it.bs.length := by rw [num_bytesOf, Nat.mod_eq_of_lt (by show _ < 65536; omega)]
        have hg : getE (bytesOf it.bs.length 2) = 0 := by unfold getE; rw [hb2, hn, if_neg (by omega), if_neg (by omega), if_neg (by omega)]
        have hlen : (bytesOf it.bs.length 2 ++ it.bs ++ r).length = 2 + it.bs.length + r.length := by rw [List.length_append, List.length_append, hb2]
        have he : numE (bytesOf it.bs.length 2 ++ it.bs ++ r) 2 65535 = 0 := by
          unfold numE
          rw [show (2 : Int).toNat = 2 from rfl, ht, hg, hn, hlen, if_neg (by omega), if_neg (by omega), if_neg (by omega)]
        have hc : cntE (bytesOf it.bs.length 2 ++ it.bs ++ r) (it.bs.length : Int) = 0 := by
          unfold cntE
          rw [he, ht, hn, hlen, if_neg (by omega), if_neg (by omega), if_neg (by omega)]
        have hv : cntV (bytesOf it.bs.length 2 ++ it.bs ++ r) (it.bs.length : Int) = it.bs := by
          unfold cntV
          rw [if_pos hc, hd, ht, hn, List.take_append_of_le_length (by omega), List.take_of_length_le (by omega)]
        have hdd : (bytesOf it.bs.length 2 ++ it.bs ++ r).drop (2 + it.bs.length) = r := by
          rw [← List.drop_drop, hd, List.drop_append_of_le_length (by omega), List.drop_of_length_le (by omega)]; rfl
        refine ⟨?_, ?_⟩
        · simp only [cntS, onw, hc, hv, hdd, if_true]
        · simp only [cntA, hv, if_true, decide_true]
      · rw [bysF_many (by omega)] at h; cases h
    · rw [if_neg k2] at h
      rw [if_neg k2, if_neg k2]
      by_cases k3 : it.kind = 3
      · rw [if_pos k3] at h
        rw [if_pos k3, if_pos k3]
        simp only [Option.some.injEq] at h
        subst h
        have he : fixE (it.bs ++ r) (it.bs.length : Int) = 0 := by unfold fixE; rw [List.length_append, if_neg (by omega), if_neg (by omega)]
        refine ⟨?_, ?_⟩
        · simp [fixS, onw, he]
        · simp [fixA, fixV, he]
      · rw [if_neg k3] at h
        rw [if_neg k3, if_neg k3]
        simp only [Option.some.injEq] at h
        subst h
        exact ⟨rfl, rfl⟩
/-- One field with its last byte cut off. -/
theorem read_cut {it : It} {x : List Nat} (h : fieldOf it = some x) (hx : 0 < x.length) : (rput (x.dropLast, 0) it).2 = 10 := by
  unfold fieldOf at h
  unfold rput
  by_cases k1 : it.kind = 1
  · rw [if_pos k1] at h
    rw [if_pos k1]
    unfold numF at h
    by_cases hp : putOk it.n it.size = true
    · rw [if_pos hp] at h
      obtain ⟨m, s, h1, h2, h3, h4, h5, h6⟩ := putOk_parts hp
      rw [h1, h2] at h ⊢
      simp only [Option.some.injEq, Int.toNat_natCast] at h
      subst h
      have he : numE (bytesOf m s).dropLast (s : Int) (m : Int) = 10 := by
        unfold numE
        rw [if_pos (by rw [List.length_dropLast, length_bytesOf]; omega)]
      simp [numS, onw, he]
    · rw [if_neg hp] at h; cases h
  · rw [if_neg k1] at h
    rw [if_neg k1]
    by_cases k2 : it.kind = 2
    · rw [if_pos k2] at h
      rw [if_pos k2]
      by_cases hl : it.bs.length ≤ 65535
      · rw [bysF_few hl] at h
        simp only [Option.some.injEq] at h
        subst h
        have hb2 := length_bytesOf it.bs.length 2
        have hn : num (bytesOf it.bs.length 2) = it.bs.length := by rw [num_bytesOf, Nat.mod_eq_of_lt (by show _ < 65536; omega)]
        have hlen : (bytesOf it.bs.length 2 ++ it.bs).dropLast.length = 1 + it.bs.length := by rw [List.length_dropLast, List.length_append, hb2]; omega
        have hc : cntE (bytesOf it.bs.length 2 ++ it.bs).dropLast (it.bs.length : Int) = 10 := by
          by_cases h0 : it.bs.length = 0
          · have he : numE (bytesOf it.bs.length 2 ++ it.bs).dropLast 2 65535 = 10 := by unfold numE; rw [if_pos (by rw [hlen]; omega)]
            unfold cntE
            rw [he, if_pos (by decide)]
          · have hdl : (bytesOf it.bs.length 2 ++ it.bs).dropLast = bytesOf it.bs.length 2 ++ it.bs.dropLast := by
              rw [List.dropLast_append_of_ne_nil (fun e => h0 (by rw [e]; rfl))]
            have ht : (bytesOf it.bs.length 2 ++ it.bs).dropLast.take 2 = bytesOf it.bs.length 2 := by rw [hdl, List.take_append_of_le_length (by omega), List.take_of_length_le (by omega)]
            have hg : getE (bytesOf it.bs.length 2) = 0 := by unfold getE; rw [hb2, hn, if_neg (by omega), if_neg (by omega), if_neg (by omega)]
            have he : numE (bytesOf it.bs.length 2 ++ it.bs).dropLast 2 65535 = 0 := by
              unfold numE
              rw [show (2 : Int).toNat = 2 from rfl, ht, hg, hn, hlen, if_neg (by omega), if_neg (by omega), if_neg (by omega)]
            unfold cntE
            rw [he, ht, hn, hlen, if_neg (by omega), if_pos (by omega)]
        simp [cntS, onw, hc]
      · rw [bysF_many (by omega)] at h; cases h
    · rw [if_neg k2] at h
      rw [if_neg k2]
      by_cases k3 : it.kind = 3
      · rw [if_pos k3] at h
        rw [if_pos k3]
        simp only [Option.some.injEq] at h
        subst h
        have he : fixE it.bs.dropLast (it.bs.length : Int) = 10 := by unfold fixE; rw [if_pos (by rw [List.length_dropLast]; omega)]
        simp [fixS, onw, he]
      · rw [if_neg k3] at h
        simp only [Option.some.injEq] at h
        subst h
        simp at hx
/-- Once something is wrong nothing changes. -/
theorem rput_bad {s : List Nat × Nat} (h : s.2 ≠ 0) (it : It) : rput s it = s := by
  unfold rput
  split
  · unfold numS; rw [if_neg h]
  · split
    · unfold cntS; rw [if_neg h]
    · split
      · unfold fixS; rw [if_neg h]
      · rfl

/-- The bytes of the fields from k on. -/
def tailE (its : List It) (k : Nat) : List Nat := ((its.drop k).map fun it => (fieldOf it).getD []).flatten
theorem tailE_step (its : List It) (k : Nat) (h : k < its.length) : tailE its k = (fieldOf its[k]).getD [] ++ tailE its (k + 1) := by
  unfold tailE
  rw [List.drop_eq_getElem_cons h]
  rfl
theorem tailE_end (its : List It) : tailE its its.length = [] := by unfold tailE; simp
/-- Where nothing went wrong each field has its bytes. -/
theorem wAll_ok {its : List It} (h : (wAll its).2 = 0) : ∀ k, k ≤ its.length → (wAll (its.take k)).2 = 0 ∧ (wAll (its.take k)).1 ++ tailE its k = (wAll its).1 := by
  have down : ∀ d k, k + d = its.length → (wAll (its.take k)).2 = 0 := by
    intro d
    induction d with
    | zero => intro k hk; rw [List.take_of_length_le (by omega)]; exact h
    | succ d ih =>
      intro k hk
      have h1 := ih (k + 1) (by omega)
      rw [wAll_succ its k (by omega)] at h1
      unfold wput at h1
      by_cases h0 : (wAll (its.take k)).2 = 0
      · exact h0
      · rw [if_neg h0] at h1; exact absurd h1 h0
  have ok : ∀ k (hk : k < its.length), ∃ x, fieldOf its[k] = some x := by
    intro k hk
    have h1 := down (its.length - (k + 1)) (k + 1) (by omega)
    rw [wAll_succ its k hk] at h1
    unfold wput at h1
    rw [if_pos (down (its.length - k) k (by omega))] at h1
    cases hf : fieldOf its[k] with
    | some x => exact ⟨x, rfl⟩
    | none => rw [hf] at h1; simp at h1
  have down2 : ∀ d k, k + d = its.length → (wAll (its.take k)).1 ++ tailE its k = (wAll its).1 := by
    intro d
    induction d with
    | zero =>
      intro k hk
      obtain rfl : k = its.length := by omega
      rw [List.take_length, tailE_end, List.append_nil]
    | succ d ih =>
      intro k hk
      rw [← ih (k + 1) (by omega), wAll_succ its k (by omega), tailE_step its k (by omega)]
      unfold wput
      rw [if_pos (down (d + 1) k hk)]
      obtain ⟨x, hx⟩ := ok k (by omega)
      rw [hx]
      simp
  exact fun k hk => ⟨down (its.length - k) k (by omega), down2 (its.length - k) k (by omega)⟩
theorem field_ok {its : List It} (h : (wAll its).2 = 0) (k : Nat) (hk : k < its.length) : ∃ x, fieldOf its[k] = some x := by
  have h1 := (wAll_ok h (k + 1) (by omega)).1
  rw [wAll_succ its k hk] at h1
  unfold wput at h1
  rw [if_pos (wAll_ok h k (by omega)).1] at h1
  cases hf : fieldOf its[k] with
  | some x => exact ⟨x, rfl⟩
  | none => rw [hf] at h1; simp at h1
theorem wAll_tail {its : List It} (h : (wAll its).2 = 0) : tailE its 0 = (wAll its).1 := by
  have := (wAll_ok h 0 (Nat.zero_le _)).2
  simpa [wAll] using this
/-- All fields, read back, with something behind them. -/
theorem read_all {its : List It} (h : (wAll its).2 = 0) (r : List Nat) : ∀ k, k ≤ its.length → rAll (its.take k) ((wAll its).1 ++ r, 0) = ((tailE its k ++ r, 0), true)
  | 0, _ => by rw [← wAll_tail h]; simp [rAll]
  | k + 1, hk => by
    obtain ⟨x, hx⟩ := field_ok h k (by omega)
    rw [rAll_succ its _ k (by omega), read_all h r k (by omega), tailE_step its k (by omega), hx]
    simp only [Option.getD_some, List.append_assoc]
    obtain ⟨h1, h2⟩ := read_one hx (tailE its (k + 1) ++ r)
    rw [h1, h2]; rfl
theorem read_back {its : List It} (h : (wAll its).2 = 0) (r : List Nat) : rAll its ((wAll its).1 ++ r, 0) = ((r, 0), true) := by
  have := read_all h r its.length (Nat.le_refl _)
  rw [List.take_length, tailE_end] at this
  simpa using this
/-- All fields with the last byte cut off. -/
theorem read_short {its : List It} (h : (wAll its).2 = 0) (hl : 0 < (wAll its).1.length) : ∀ k, k ≤ its.length →
    ((rAll (its.take k) ((wAll its).1.dropLast, 0)).1 = ((tailE its k).dropLast, 0) ∧ 0 < (tailE its k).length) ∨ (rAll (its.take k) ((wAll its).1.dropLast, 0)).1.2 = 10
  | 0, _ => by left; rw [wAll_tail h]; exact ⟨by simp [rAll], hl⟩
  | k + 1, hk => by
    obtain ⟨x, hx⟩ := field_ok h k (by omega)
    rw [rAll_succ its _ k (by omega)]
    rcases read_short h hl k (by omega) with ⟨h1, h2⟩ | h1
    · rw [h1]
      rw [tailE_step its k (by omega), hx] at h2 ⊢
      simp only [Option.getD_some] at h2 ⊢
      by_cases h3 : 0 < (tailE its (k + 1)).length
      · left
        rw [List.dropLast_append_of_ne_nil (fun e => by rw [e] at h3; simp at h3)]
        exact ⟨(read_one hx _).1, h3⟩
      · right
        have h0 : tailE its (k + 1) = [] := List.eq_nil_of_length_eq_zero (by omega)
        rw [h0, List.append_nil]
        rw [h0] at h2
        exact read_cut hx (by simpa using h2)
    · right
      rw [rput_bad (by rw [h1]; decide)]
      exact h1
theorem read_lack {its : List It} (h : (wAll its).2 = 0) (hl : 0 < (wAll its).1.length) : doneE (rAll its ((wAll its).1.dropLast, 0)).1 = 10 := by
  have := read_short h hl its.length (Nat.le_refl _)
  rw [List.take_length, tailE_end] at this
  rcases this with ⟨_, h2⟩ | h1
  · simp at h2
  · unfold doneE; rw [h1]; rfl
end Go.Proofs.YtoeboblkboillaaDoor.Fld
