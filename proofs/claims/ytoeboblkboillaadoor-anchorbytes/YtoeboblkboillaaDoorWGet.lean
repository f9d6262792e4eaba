/-
  Contracts of word.Put and word.Get for every number, every size and all bytes, for seats with W32 and WPut. Condition: the table of widths stands in its variable.
-/
import Derived.Test.YtoeboblkboillaaDoorWPut
namespace Go.Proofs.YtoeboblkboillaaDoor
open Go.RowKit

/-- Has n a text of s bytes? -/
def putOk (n s : Int) : Bool := decide (1 ≤ s) && decide (s ≤ 8) && fitsB n s.toNat

theorem put_low (n s : Int) (hs : s < 1) (w : World) : Calls Tryd.prog 23 #[.int .i64 n, .int .i64 s] w (PutNone w) := by
  have h1 : decide (s < 1) = true := by simp; omega
  go_enter Tryd.func23, Tryd.ntmps23
  go_wp2
  go_ret2
  exact ⟨rfl, rfl⟩
theorem put_high (n s : Int) (hs : 8 < s) (w : World) : Calls Tryd.prog 23 #[.int .i64 n, .int .i64 s] w (PutNone w) := by
  have h1 : decide (s < 1) = false := by simp; omega
  have h2 : decide (8 < s) = true := by simp; omega
  go_enter Tryd.func23, Tryd.ntmps23
  go_wp2
  go_ret2
  exact ⟨rfl, rfl⟩
/-- PUT, where there is no text. -/
theorem put_none (n s : Int) (h : putOk n s = false) (w : World) (ht : Tab w 0) : Calls Tryd.prog 23 #[.int .i64 n, .int .i64 s] w (PutNone w) := by
  by_cases h1 : s < 1
  · exact put_low n s h1 w
  · by_cases h2 : 8 < s
    · exact put_high n s h2 w
    · obtain ⟨m, rfl⟩ := Int.eq_ofNat_of_zero_le (show 0 ≤ s by omega)
      refine put_misfit n m (by omega) (by omega) ?_ w ht
      unfold putOk at h
      rw [Int.toNat_natCast] at h
      have a : decide (1 ≤ (m : Int)) = true := by simp; omega
      have b : decide ((m : Int) ≤ 8) = true := by simp; omega
      simpa [a, b] using h

theorem putOk_parts {n s : Int} (h : putOk n s = true) : ∃ m k : Nat, n = m ∧ s = k ∧ 1 ≤ k ∧ k ≤ 8 ∧ m ≤ 4611686018427387904 ∧ m < 256 ^ k := by
  unfold putOk at h
  simp only [Bool.and_eq_true, decide_eq_true_eq] at h
  obtain ⟨⟨h1, h2⟩, h3⟩ := h
  obtain ⟨f1, f2, f3⟩ := fitsB_le h3
  obtain ⟨m, rfl⟩ := Int.eq_ofNat_of_zero_le f1
  obtain ⟨k, rfl⟩ := Int.eq_ofNat_of_zero_le (show 0 ≤ s by omega)
  exact ⟨m, k, rfl, rfl, by omega, by omega, by omega, by simpa using f3⟩
theorem putOk_mk {m k : Nat} (h1 : 1 ≤ k) (h2 : k ≤ 8) (h3 : m ≤ 4611686018427387904) (h4 : m < 256 ^ k) : fitsB (m : Int) k = true ∧ putOk (m : Int) (k : Int) = true := by
  have f : fitsB (m : Int) k = true := by unfold fitsB; exact decide_eq_true ⟨by omega, by omega, by simpa using h4⟩
  refine ⟨f, ?_⟩
  unfold putOk
  rw [Int.toNat_natCast, f]
  simp; omega

/-- What Get answers: the number, and the error. -/
def getE (bs : List Nat) : Nat := if bs.length = 0 then 10 else if 8 < bs.length then 13 else if 4611686018427387904 < num bs then 11 else 0
def getN (bs : List Nat) : Nat := if getE bs = 0 then num bs else 0

def GetPost (n e : Nat) (w : World) (en : Ending) (w' : World) : Prop := en = .returned (.tuple #[.int .i64 (n : Int), .int .i64 (e : Int)]) ∧ w = w'

theorem get_end (A : Option Addr) (c : Nat) (w : World) : Calls Tryd.prog 35 #[.slice A 0 c] w (GetPost 0 10 w) := by
  go_enter Tryd.func35, Tryd.ntmps35
  go_wp2
  go_ret2
  exact ⟨rfl, rfl⟩
theorem get_extra (A : Option Addr) (n c : Nat) (hn : 8 < n) (w : World) : Calls Tryd.prog 35 #[.slice A n c] w (GetPost 0 13 w) := by
  have h1 : ((n : Int) == 0) = false := by simp; omega
  have h2 : decide (8 < (n : Int)) = true := by simp; omega
  go_enter Tryd.func35, Tryd.ntmps35
  go_wp2
  go_ret2
  exact ⟨rfl, rfl⟩
theorem get_form (A : Option Addr) (n c : Nat) (bs : List Nat) (hl : bs.length = n) (hn1 : 1 ≤ n) (hn : n ≤ 8) (hg : 4611686018427387904 < num bs) (w : World) (B : Nat) (hb : Bys w B A bs) (ht : Tab w 0) :
    Calls Tryd.prog 35 #[.slice A n c] w (GetPost 0 11 w) := by
  have h1 : ((n : Int) == 0) = false := by simp; omega
  have h2 : decide (8 < (n : Int)) = false := by simp; omega
  have HG := Lib.hid (gather_any bs A c n w hl hn B hb ht)
  have HT := Lib.hid ht; clear ht
  have HB := Lib.hid hb; clear hb hl
  generalize num bs = x at *
  have h3 : decide ((4611686018427387904 : Int) < (x : Int)) = true := by simp; omega
  go_enter Tryd.func35, Tryd.ntmps35
  go_wp2_with (go_at_call 36; refine HG.out.mono ?_; rintro e w' ⟨rfl, rfl⟩)
  go_ret2
  exact ⟨rfl, rfl⟩
theorem get_ok (A : Option Addr) (n c : Nat) (bs : List Nat) (hl : bs.length = n) (hn1 : 1 ≤ n) (hn : n ≤ 8) (hg : num bs ≤ 4611686018427387904) (w : World) (B : Nat) (hb : Bys w B A bs) (ht : Tab w 0) :
    Calls Tryd.prog 35 #[.slice A n c] w (GetPost (num bs) 0 w) := by
  have h1 : ((n : Int) == 0) = false := by simp; omega
  have h2 : decide (8 < (n : Int)) = false := by simp; omega
  have HG := Lib.hid (gather_any bs A c n w hl hn B hb ht)
  have HT := Lib.hid ht; clear ht
  have HB := Lib.hid hb; clear hb hl
  generalize num bs = x at *
  have h3 : decide ((4611686018427387904 : Int) < (x : Int)) = false := by simp; omega
  go_enter Tryd.func35, Tryd.ntmps35
  go_wp2_with (go_at_call 36; refine HG.out.mono ?_; rintro e w' ⟨rfl, rfl⟩)
  go_ret2
  exact ⟨rfl, rfl⟩
/-- GET. -/
theorem get_any (A : Option Addr) (n c : Nat) (bs : List Nat) (hl : bs.length = n) (w : World) (B : Nat) (hb : Bys w B A bs) (ht : Tab w 0) :
    Calls Tryd.prog 35 #[.slice A n c] w (GetPost (getN bs) (getE bs) w) := by
  by_cases h0 : n = 0
  · subst h0
    have e : getE bs = 10 := by simp [getE, hl]
    have f : getN bs = 0 := by simp [getN, e]
    rw [e, f]; exact get_end A c w
  · by_cases h8 : 8 < n
    · have e : getE bs = 13 := by simp [getE, hl, h0, h8]
      have f : getN bs = 0 := by simp [getN, e]
      rw [e, f]; exact get_extra A n c h8 w
    · by_cases hg : 4611686018427387904 < num bs
      · have e : getE bs = 11 := by simp [getE, hl, h0, h8, hg]
        have f : getN bs = 0 := by simp [getN, e]
        rw [e, f]; exact get_form A n c bs hl (by omega) (by omega) hg w B hb ht
      · have e : getE bs = 0 := by simp [getE, hl, h0, h8, hg]
        have f : getN bs = num bs := by simp [getN, e]
        rw [e, f]; exact get_ok A n c bs hl (by omega) (by omega) (by omega) w B hb ht
end Go.Proofs.YtoeboblkboillaaDoor
