/-
  Contract of the reference's Overwrite, at every input. Conditions: the disk lies in memory as its calls leave it; few writes wait; the bytes lie below what is its own.
-/
import Derived.Test.YtfjaiolgbcindaaDkRefOver
namespace Go.Proofs.Ytfjaiolgbcindaa
open Go.RowKit Arr Dsk
set_option linter.unusedSimpArgs false
section
variable {w : World} {g B : Nat} {ρ : Nat → Nat} {r : St}
theorem rover_bad (h : Rdk w g B ρ r) (i : Int) (A : Option Addr) (n c : Nat) (hf : r.fits i n ≠ 0) :
    Calls Try.prog 28 #[.pointer (some ⟨g, 0, none⟩), .int .i64 i, .slice A n c] w (RdkP g B ρ r (.int .i64 (r.fits i n : Int)) w) := by
  have HD := Lib.hid h
  obtain ⟨vk, va, vb, ps, qs, KA, kc, h⟩ := h
  obtain ⟨kb, ck, AA, ca, AB, cb, rfl, rfl, rfl, hp1, hq1⟩ := h.form
  have c0 := h.c0
  have c1 := h.c1
  rw [hp1] at c0
  by_cases hh : r.has i = true
  · obtain ⟨h0, h1⟩ := (has_iff r i).1 hh
    obtain ⟨si, rfl⟩ : ∃ si : Nat, i = (si : Int) := ⟨i.toNat, by omega⟩
    have hi' : (si : Int) < (r.n : Int) := h1
    have t1 : decide ((si : Int) < 0) = false := by simp
    by_cases hz : n = r.sz
    · unfold St.fits at hf
      rw [if_pos hh, if_pos hz] at hf
      exact absurd rfl hf
    · have e1 : r.fits (si : Int) n = 2 := by unfold St.fits; rw [if_pos hh, if_neg hz]
      rw [e1]
      have t2 : ((n : Int) == (r.sz : Int)) = false := by simp; omega
      have t3 : ((n : Int) != (r.sz : Int)) = true := by simp; omega
      clear h hp1 hq1 hh hf e1
      generalize r.sz = z at *
      generalize r.n = rn at *
      go_enter Try.func28, Try.ntmps28
      go_wp2
      go_ret
      exact RdkP.same HD.out _
  · have e1 : r.fits i n = 41 := by unfold St.fits; rw [if_neg hh]
    rw [e1]
    have hh' : ¬ (0 ≤ i ∧ i < (r.n : Int)) := fun e => hh ((has_iff r i).2 e)
    clear h hp1 hq1 hh hf e1
    generalize r.n = rn at *
    by_cases hneg : i < 0
    · have t1 : decide (i < 0) = true := by simp; exact hneg
      go_enter Try.func28, Try.ntmps28
      go_wp2
      go_ret
      exact RdkP.same HD.out _
    · have t1 : decide (i < 0) = false := by simp; omega
      have t2 : decide (i ≥ (rn : Int)) = true := by simp; omega
      have hge : ¬ i < (rn : Int) := by omega
      clear hh'
      go_enter Try.func28, Try.ntmps28
      go_wp2
      go_ret
      exact RdkP.same HD.out _
theorem rover_any (h : Rdk w g B ρ r) (hB : B ≤ w.heap.size) (hm : r.waits.length ≤ 4294967295) (i : Int) (A : Option Addr) (n c : Nat) (b : List Nat) (hl : b.length = n) (hc : n ≤ c) (hA : A = none → c = 0) (hb : ByL w (fun k => k < B) A b) :
    Calls Try.prog 28 #[.pointer (some ⟨g, 0, none⟩), .int .i64 i, .slice A n c] w (RdkP g B ρ (r.overwrite i b).1 (.int .i64 ((r.overwrite i b).2 : Int)) w) := by
  by_cases hf : r.fits i n = 0
  · obtain ⟨hh, hz⟩ : r.has i = true ∧ n = r.sz := by
      unfold St.fits at hf
      by_cases h1 : r.has i = true
      · rw [if_pos h1] at hf
        by_cases h2 : n = r.sz
        · exact ⟨h1, h2⟩
        · rw [if_neg h2] at hf; omega
      · rw [if_neg h1] at hf; omega
    obtain ⟨h1, h2⟩ := (has_iff r i).1 hh
    obtain ⟨si, rfl⟩ : ∃ si : Nat, i = (si : Int) := ⟨i.toNat, by omega⟩
    have e1 : r.overwrite (si : Int) b = (r.over si b, 0) := by unfold St.overwrite; rw [hl, if_neg (by omega), Int.toNat_natCast]
    rw [e1]
    exact rover_ok h hB hm si A n c b hl hc hA hb (by omega) hz
  · have e1 : r.overwrite i b = (r, r.fits i n) := by unfold St.overwrite; rw [hl, if_pos hf]
    rw [e1]
    exact rover_bad h i A n c hf
end
end Go.Proofs.Ytfjaiolgbcindaa
