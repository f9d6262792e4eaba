/-
  The contract of the reference's Get: for all bytes it answers what word.Get is to answer, and touches nothing. No conditions but that the slice holds the bytes.
-/
import Derived.Test.YtoeboblkboillaaDoorWGet
namespace Go.Proofs.YtoeboblkboillaaDoor
open Go.RowKit

theorem num_take_succ (bs : List Nat) (k : Nat) (h : k < bs.length) : num (bs.take (k + 1)) = 256 * num (bs.take k) + bs.getD k 0 := by
  rw [take_snoc bs k h, num_snoc]
theorem num_take_lt (bs : List Nat) (hb : ∀ x, x ∈ bs → x < 256) (k : Nat) : num (bs.take k) < 256 ^ k := by
  have h1 := num_lt (bs.take k) (take_mem hb k)
  have h2 : 256 ^ (bs.take k).length ≤ 256 ^ k := Nat.pow_le_pow_right (by omega) (by simp; omega)
  omega
/-- Only the eighth byte can lead beyond. -/
theorem over_at (bs : List Nat) (hb : ∀ x, x ∈ bs → x < 256) (k : Nat) (hk : k < bs.length) (h8 : bs.length ≤ 8)
    (h : 18014398509481984 < num (bs.take k) ∨ num (bs.take k) = 18014398509481984 ∧ 0 < bs.getD k 0) : getE bs = 11 ∧ getN bs = 0 := by
  have h1 := num_take_lt bs hb k
  have hk7 : k = 7 := by
    rcases Nat.lt_or_ge k 7 with h7 | h7
    · exfalso
      have : 256 ^ k ≤ 256 ^ 6 := Nat.pow_le_pow_right (by omega) (by omega)
      have e : (256 : Nat) ^ 6 = 281474976710656 := by decide
      omega
    · omega
  have hl : bs.length = 8 := by omega
  have e1 : num bs = 256 * num (bs.take k) + bs.getD k 0 := by
    rw [← num_take_succ bs k hk, hk7, List.take_of_length_le (by omega)]
  have e : getE bs = 11 := by
    unfold getE
    rw [if_neg (by omega), if_neg (by omega), if_pos (by omega)]
  exact ⟨e, by unfold getN; rw [if_neg (by omega)]⟩

theorem rget_end (A : Option Addr) (c : Nat) (w : World) : Calls Tryd.prog 11 #[.slice A 0 c] w (GetPost 0 10 w) := by
  go_enter Tryd.func11, Tryd.ntmps11
  go_wp2
  go_ret2
  exact ⟨rfl, rfl⟩
theorem rget_extra (A : Option Addr) (n c : Nat) (hn : 8 < n) (w : World) : Calls Tryd.prog 11 #[.slice A n c] w (GetPost 0 13 w) := by
  have h1 : ((n : Int) == 0) = false := by simp; omega
  have h2 : decide (8 < (n : Int)) = true := by simp; omega
  go_enter Tryd.func11, Tryd.ntmps11
  go_wp2
  go_ret2
  exact ⟨rfl, rfl⟩

theorem getPost_eq {n e n' e' : Nat} {w : World} {en : Ending} {w' : World} (h1 : n' = n) (h2 : e' = e) (h : GetPost n e w en w') : GetPost n' e' w en w' := by rw [h1, h2]; exact h

set_option maxHeartbeats 1000000 in
theorem rget_some (A : Option Addr) (n c : Nat) (bs : List Nat) (hl : bs.length = n) (hn1 : 1 ≤ n) (hn : n ≤ 8) (w : World) (B : Nat) (hb : Bys w B A bs) :
    Calls Tryd.prog 11 #[.slice A n c] w (GetPost (getN bs) (getE bs) w) := by
  have h1 : ((n : Int) == 0) = false := by simp; omega
  have h2 : decide (8 < (n : Int)) = false := by simp; omega
  have HL := Lib.hid hl; clear hl
  have HB := Lib.hid hb; clear hb
  go_enter Tryd.func11, Tryd.ntmps11
  go_wp2
  go_loop [4, 5] (fun x i => ∃ k : Nat, k ≤ n ∧ i = .int .i64 k ∧ x = .int .i64 (num (bs.take k) : Nat) ∧ num (bs.take k) ≤ 4611686018427387904) (fun _ i => n - (intOf i).toNat)
  case atStart => exact ⟨0, Nat.zero_le _, rfl, rfl, by simp [num]⟩
  case round =>
    obtain ⟨k, hk, rfl, rfl, hX⟩ := hrel
    by_cases hlt : k < n
    · obtain ⟨b, off, rfl, _, h3⟩ := HB.out.2 (by have := HL.out; omega)
      have hc1 := h3 k (by have := HL.out; omega)
      have hcv := HB.out.lt k
      clear h3
      have HS := Lib.hid (num_take_succ bs k (by have := HL.out; omega))
      have HO := Lib.hid (over_at bs HB.out.1 k (by have := HL.out; omega) (by have := HL.out; omega))
      generalize bs.getD k 0 = cv at *
      generalize num (bs.take k) = X at *
      rcases Nat.lt_trichotomy X 18014398509481984 with hx | hx | hx
      · have t1 : decide ((18014398509481984 : Int) < (X : Int)) = false := by simp; omega
        have t2 : ((X : Int) == 18014398509481984) = false := by simp; omega
        go_wp2
        go_round
        case rel => exact ⟨k + 1, by omega, by go_num, by rw [HS.out]; go_num, by rw [HS.out]; omega⟩
        case measure => simp [intOf]; omega
      · subst hx
        by_cases hc0 : cv = 0
        · subst hc0
          go_wp2
          go_round
          case rel => exact ⟨k + 1, by omega, by go_num, by rw [HS.out]; go_num, by rw [HS.out]; omega⟩
          case measure => simp [intOf]; omega
        · have t3 : decide ((0 : Int) < (cv : Int)) = true := by simp; omega
          have HF := Lib.hid (HO.out (.inr ⟨rfl, by omega⟩))
          go_wp2
          go_ret2
          exact getPost_eq HF.out.2 HF.out.1 ⟨rfl, rfl⟩
      · have t1 : decide ((18014398509481984 : Int) < (X : Int)) = true := by simp; omega
        have HF := Lib.hid (HO.out (.inl hx))
        go_wp2
        go_ret2
        exact getPost_eq HF.out.2 HF.out.1 ⟨rfl, rfl⟩
    · obtain rfl : k = n := by omega
      have e : bs.take k = bs := by rw [List.take_of_length_le (by have := HL.out; omega)]
      rw [e] at hX
      have hE : getE bs = 0 := by
        unfold getE
        rw [if_neg (by have := HL.out; omega), if_neg (by have := HL.out; omega), if_neg (by omega)]
      have HF := Lib.hid (show getN bs = num (bs.take k) ∧ getE bs = 0 from ⟨by rw [e]; unfold getN; rw [if_pos hE], hE⟩)
      clear hE e
      go_wp2
      go_ret2
      exact getPost_eq HF.out.1 HF.out.2 ⟨rfl, rfl⟩
/-- The reference's GET. -/
theorem rget_any (A : Option Addr) (n c : Nat) (bs : List Nat) (hl : bs.length = n) (w : World) (B : Nat) (hb : Bys w B A bs) :
    Calls Tryd.prog 11 #[.slice A n c] w (GetPost (getN bs) (getE bs) w) := by
  by_cases h0 : n = 0
  · subst h0
    have e : getE bs = 10 := by simp [getE, hl]
    have f : getN bs = 0 := by simp [getN, e]
    rw [e, f]; exact rget_end A c w
  · by_cases h8 : 8 < n
    · have e : getE bs = 13 := by simp [getE, hl, h0, h8]
      have f : getN bs = 0 := by simp [getN, e]
      rw [e, f]; exact rget_extra A n c h8 w
    · exact rget_some A n c bs hl (by omega) (by omega) w B hb
end Go.Proofs.YtoeboblkboillaaDoor
