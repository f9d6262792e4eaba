/-
  Contracts of word.fits and word.Put, for seats with W32. Conditions: the table of widths stands in its variable, the size is from 1 to 8.
-/
import Derived.Test.YtoeboblkboillaaDoorW32
import Derived.Outline
namespace Go.Proofs.YtoeboblkboillaaDoor
open Go.RowKit

theorem fits_eq (n s : Nat) : (((n : Int) / 2 ^ (8 * s)) == 0) = decide (n < 256 ^ s) := by
  rw [shr_bytes, Bool.eq_iff_iff]
  simp only [beq_iff_eq, decide_eq_true_eq]
  have hp : 0 < 256 ^ s := Nat.pow_pos (by omega)
  constructor
  · intro h
    have h0 : n / 256 ^ s = 0 := by omega
    rcases Nat.div_eq_zero_iff.1 h0 with h1 | h1
    · omega
    · exact h1
  · intro h
    rw [Nat.div_eq_of_lt h]; rfl

/-- Is n a number of s bytes? -/
def fitsB (n : Int) (s : Nat) : Bool := decide (0 ≤ n ∧ n ≤ 4611686018427387904 ∧ n.toNat < 256 ^ s)

theorem fits_low (n : Nat) (s : Nat) (hs1 : 1 ≤ s) (hs : s < 8) (w : World) (ht : Tab w 0) :
    Calls Tryd.prog 33 #[.int .i64 (n : Int), .int .i64 (s : Int)] w fun e w' => e = .returned (.bool (decide (n < 256 ^ s))) ∧ w = w' := by
  have hc := ht s hs
  clear ht
  have h1 : ((s : Int) == 8) = false := by simp; omega
  go_enter Tryd.func33, Tryd.ntmps33
  go_wp2
  go_ret
  exact ⟨ret_bool (fits_eq n s), rfl⟩
theorem fits_full (n : Nat) (w : World) :
    Calls Tryd.prog 33 #[.int .i64 (n : Int), .int .i64 8] w fun e w' => e = .returned (.bool (decide ((n : Int) ≤ 4611686018427387904))) ∧ w = w' := by
  go_enter Tryd.func33, Tryd.ntmps33
  go_wp2
  go_ret
  exact ⟨rfl, rfl⟩
theorem fits_neg (n : Int) (hn : n < 0) (s : Nat) (w : World) :
    Calls Tryd.prog 33 #[.int .i64 n, .int .i64 (s : Int)] w fun e w' => e = .returned (.bool false) ∧ w = w' := by
  go_enter Tryd.func33, Tryd.ntmps33
  go_wp2
  go_ret
  exact ⟨rfl, rfl⟩
theorem fits_any (n : Int) (s : Nat) (hs1 : 1 ≤ s) (hs : s ≤ 8) (w : World) (ht : Tab w 0) :
    Calls Tryd.prog 33 #[.int .i64 n, .int .i64 (s : Int)] w fun e w' => e = .returned (.bool (fitsB n s)) ∧ w = w' := by
  by_cases h : n < 0
  · have e : fitsB n s = false := by unfold fitsB; exact decide_eq_false (fun h' => by omega)
    rw [e]; exact fits_neg n h s w
  · obtain ⟨m, rfl⟩ := Int.eq_ofNat_of_zero_le (show 0 ≤ n by omega)
    rcases Nat.lt_or_ge s 8 with h8 | h8
    · have hp : 256 ^ s ≤ 72057594037927936 := by
        have : 256 ^ s ≤ 256 ^ 7 := Nat.pow_le_pow_right (by omega) (by omega)
        simpa using this
      have e : fitsB (m : Int) s = decide (m < 256 ^ s) := by
        unfold fitsB
        rw [Bool.eq_iff_iff]
        simp only [decide_eq_true_eq, Int.toNat_natCast]
        constructor
        · exact fun h => h.2.2
        · exact fun h => ⟨by omega, by omega, h⟩
      rw [e]; exact fits_low m s hs1 h8 w ht
    · obtain rfl : s = 8 := by omega
      have e : fitsB (m : Int) 8 = decide ((m : Int) ≤ 4611686018427387904) := by
        unfold fitsB
        rw [Bool.eq_iff_iff]
        simp only [decide_eq_true_eq, Int.toNat_natCast]
        constructor
        · exact fun h => h.2.1
        · intro h
          refine ⟨by omega, h, ?_⟩
          have : (256 : Nat) ^ 8 = 18446744073709551616 := by decide
          rw [this]; omega
      rw [e]; exact fits_full m w

/-- What Put leaves where there is none. -/
def PutNone (w : World) (e : Ending) (w' : World) : Prop := e = .returned (.tuple #[.slice none 0 0, .int .i64 2]) ∧ w = w'
/-- What Put leaves where there is one: a new block. -/
def PutSome (n : Nat) (s : Nat) (w : World) (e : Ending) (w' : World) : Prop :=
  ∃ arr, Laid n s s arr ∧ e = .returned (.tuple #[.slice (some ⟨w.heap.size, 0, none⟩) s s, .int .i64 0]) ∧ w' = w.alloc (.cells arr 5)

theorem put_misfit (n : Int) (s : Nat) (hs1 : 1 ≤ s) (hs : s ≤ 8) (hf : fitsB n s = false) (w : World) (ht : Tab w 0) :
    Calls Tryd.prog 23 #[.int .i64 n, .int .i64 (s : Int)] w (PutNone w) := by
  have h1 : decide ((s : Int) < 1) = false := by simp; omega
  have h2 : decide (8 < (s : Int)) = false := by simp; omega
  have hc := fits_any n s hs1 hs w ht
  rw [hf] at hc
  have HC := Lib.hid hc; clear hc hf
  have HT := Lib.hid ht; clear ht
  go_enter Tryd.func23, Tryd.ntmps23
  go_wp2_with (go_at_call 33; refine HC.out.mono ?_; rintro e w' ⟨rfl, rfl⟩)
  go_ret2
  exact ⟨rfl, rfl⟩
theorem put_fits (n : Nat) (s : Nat) (hs1 : 1 ≤ s) (hs : s ≤ 8) (hn : n ≤ 4611686018427387904) (hf : fitsB (n : Int) s = true) (w : World) (ht : Tab w 0) :
    Calls Tryd.prog 23 #[.int .i64 (n : Int), .int .i64 (s : Int)] w (PutSome n s w) := by
  have h1 : decide ((s : Int) < 1) = false := by simp; omega
  have h2 : decide (8 < (s : Int)) = false := by simp; omega
  have hc := fits_any n s hs1 hs w ht
  rw [hf] at hc
  have HC := Lib.hid hc; clear hc hf
  have HS := Lib.hid (spread_any n s hs1 hs w ht)
  have HT := Lib.hid ht; clear ht
  go_enter Tryd.func23, Tryd.ntmps23
  go_wp2_with (go_at_call 33; refine HC.out.mono ?_; rintro e w' ⟨rfl, rfl⟩)
  refine HS.out.mono ?_
  rintro e w' ⟨arr, hla, rfl, rfl⟩
  have HLA := Lib.hid hla; clear hla
  go_wp2
  go_ret2
  exact ⟨arr, HLA.out, rfl, rfl⟩

theorem fitsB_le {n : Int} {s : Nat} (h : fitsB n s = true) : 0 ≤ n ∧ n ≤ 4611686018427387904 ∧ n.toNat < 256 ^ s := by
  unfold fitsB at h; exact of_decide_eq_true h

theorem fitsB_mk {m k : Nat} (h3 : m ≤ 4611686018427387904) (h4 : m < 256 ^ k) : fitsB (m : Int) k = true := by
  unfold fitsB; exact decide_eq_true ⟨by omega, by omega, by simpa using h4⟩
/-- PUT, where there is one. -/
theorem put_some (m k : Nat) (h1 : 1 ≤ k) (h2 : k ≤ 8) (h3 : m ≤ 4611686018427387904) (h4 : m < 256 ^ k) (w : World) (ht : Tab w 0) :
    Calls Tryd.prog 23 #[.int .i64 (m : Int), .int .i64 (k : Int)] w (PutSome m k w) :=
  put_fits m k h1 h2 h3 (fitsB_mk h3 h4) w ht
/-- The block of a text that was put reads as its bytes. -/
theorem Laid.bys {x s : Nat} {arr : Array Value} (h : Laid x s s arr) (w : World) : Bys (w.alloc (.cells arr 5)) (w.heap.size + 1) (some ⟨w.heap.size, 0, none⟩) (bytesOf x s) := by
  refine ⟨bytesOf_lt x s, fun _ => ⟨w.heap.size, 0, rfl, by omega, fun i hi => ?_⟩⟩
  rw [length_bytesOf] at hi
  rw [Nat.zero_add, World.cell?_alloc_new]
  exact h.2 i hi

end Go.Proofs.YtoeboblkboillaaDoor
