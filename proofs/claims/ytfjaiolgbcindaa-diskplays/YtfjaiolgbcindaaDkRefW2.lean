/-
  Contract of the reference's Write, at every input. Conditions: the disk lies in memory as its calls leave it; its steps are fewer than 2^32; the bytes lie below what is its own.
-/
import Derived.Test.YtfjaiolgbcindaaDkRefWrite
namespace Go.Proofs.Ytfjaiolgbcindaa
open Go.RowKit Arr Dsk
set_option linter.unusedSimpArgs false
section
variable {w : World} {g B : Nat} {ρ : Nat → Nat} {r : St}
theorem rwrite_bad (h : Rdk w g B ρ r) (hon : r.on = true) (i : Int) (A : Option Addr) (n c : Nat) (hf : r.fits i n ≠ 0) :
    Calls Try.prog 24 #[.pointer (some ⟨g, 0, none⟩), .int .i64 i, .slice A n c] w (RdkP g B ρ r (.int .i64 (r.fits i n : Int)) w) := by
  have HD := Lib.hid h
  obtain ⟨vk, va, vb, ps, qs, KA, kc, h⟩ := h
  obtain ⟨kb, ck, AA, ca, AB, cb, rfl, rfl, rfl, hp1, hq1⟩ := h.form
  have c4 := h.c4
  rw [hon] at c4
  have c4' : w.cell? ⟨g, 4, none⟩ = some (.bool false) := c4
  have c0 := h.c0
  have c1 := h.c1
  rw [hp1] at c0
  by_cases hh : r.has i = true
  · obtain ⟨h0, h1⟩ := (has_iff r i).1 hh
    obtain ⟨si, rfl⟩ : ∃ si : Nat, i = (si : Int) := ⟨i.toNat, by omega⟩
    have hi' : (si : Int) < (r.n : Int) := h1
    have t1 : decide ((si : Int) < 0) = false := by simp
    by_cases hz : n = r.sz
    · unfold St.fits at hf
      rw [if_pos hh, if_pos hz] at hf
      exact absurd rfl hf
    · have e1 : r.fits (si : Int) n = 2 := by unfold St.fits; rw [if_pos hh, if_neg hz]
      rw [e1]
      have t2 : ((n : Int) == (r.sz : Int)) = false := by simp; omega
      have t3 : ((n : Int) != (r.sz : Int)) = true := by simp; omega
      clear h c4 hp1 hq1 hh hf e1 hon
      generalize r.sz = z at *
      generalize r.n = rn at *
      go_enter Try.func24, Try.ntmps24
      go_wp2
      go_ret
      exact RdkP.same HD.out _
  · have e1 : r.fits i n = 41 := by unfold St.fits; rw [if_neg hh]
    rw [e1]
    have hh' : ¬ (0 ≤ i ∧ i < (r.n : Int)) := fun e => hh ((has_iff r i).2 e)
    clear h c4 hp1 hq1 hh hf e1 hon
    generalize r.n = rn at *
    by_cases hneg : i < 0
    · have t1 : decide (i < 0) = true := by simp; exact hneg
      go_enter Try.func24, Try.ntmps24
      go_wp2
      go_ret
      exact RdkP.same HD.out _
    · have t1 : decide (i < 0) = false := by simp; omega
      have t2 : decide (i ≥ (rn : Int)) = true := by simp; omega
      have hge : ¬ i < (rn : Int) := by omega
      clear hh'
      go_enter Try.func24, Try.ntmps24
      go_wp2
      go_ret
      exact RdkP.same HD.out _
theorem rwrite_burn (h : Rdk w g B ρ r) (hon : r.on = true) (h0 : r.left = 0) (hm : r.steps ≤ 4294967294) (i : Nat) (A : Option Addr) (n c : Nat) (hi : i < r.n) (hz : n = r.sz) :
    Calls Try.prog 24 #[.pointer (some ⟨g, 0, none⟩), .int .i64 (i : Int), .slice A n c] w (RdkP g B ρ (r.gone r.keep) (.int .i64 40) w) := by
  have CB := Lib.hid (burnt_any h hon hm)
  rw [if_pos h0, decide_eq_true h0] at CB
  obtain ⟨vk, va, vb, ps, qs, KA, kc, h⟩ := h
  obtain ⟨kb, ck, AA, ca, AB, cb, rfl, rfl, rfl, hp1, hq1⟩ := h.form
  have c4 := h.c4
  rw [hon] at c4
  have c4' : w.cell? ⟨g, 4, none⟩ = some (.bool false) := c4
  have c0 := h.c0
  have c1 := h.c1
  rw [hp1] at c0
  have t1 : decide ((i : Int) < 0) = false := by simp
  have hi' : (i : Int) < (r.n : Int) := by omega
  subst hz
  have t3 : ((r.sz : Int) == (r.sz : Int)) = true := by simp
  have t4 : ((r.sz : Int) != (r.sz : Int)) = false := by simp
  clear h c4 hi hp1 hq1 hon h0 hm
  generalize r.sz = n at *
  generalize r.n = rn at *
  generalize r.gone r.keep = r2 at *
  go_enter Try.func24, Try.ntmps24
  go_wp2_with fail
  refine CB.out.mono ?_
  rintro en w1 ⟨rfl, hp⟩
  have HP := Lib.hid hp
  clear hp
  go_wp2
  go_ret
  exact ⟨rfl, HP.out⟩
theorem rwrite_off (h : Rdk w g B ρ r) (hon : r.on = false) (v u : Value) : Calls Try.prog 24 #[.pointer (some ⟨g, 0, none⟩), v, u] w (RdkP g B ρ r (.int .i64 40) w) := by
  have HD := Lib.hid h
  obtain ⟨vk, va, vb, ps, qs, KA, kc, h⟩ := h
  have c4 := h.c4
  rw [hon] at c4
  have c4' : w.cell? ⟨g, 4, none⟩ = some (.bool true) := c4
  clear h c4
  go_enter Try.func24, Try.ntmps24
  go_wp2
  go_ret
  exact RdkP.same HD.out _
theorem rwrite_any (h : Rdk w g B ρ r) (hB : B ≤ w.heap.size) (hm : r.steps ≤ 4294967294) (i : Int) (A : Option Addr) (n c : Nat) (b : List Nat) (hl : b.length = n) (hc : n ≤ c) (hA : A = none → c = 0) (hb : ByL w (fun k => k < B) A b) :
    Calls Try.prog 24 #[.pointer (some ⟨g, 0, none⟩), .int .i64 i, .slice A n c] w (RdkP g B ρ (r.rwrite i b).1 (.int .i64 ((r.rwrite i b).2 : Int)) w) := by
  by_cases hon : r.on = true
  · have hr : r.ready = 0 := by unfold St.ready; rw [if_pos hon]
    by_cases hf : r.fits i n = 0
    · obtain ⟨hh, hz⟩ : r.has i = true ∧ n = r.sz := by
        unfold St.fits at hf
        by_cases h1 : r.has i = true
        · rw [if_pos h1] at hf
          by_cases h2 : n = r.sz
          · exact ⟨h1, h2⟩
          · rw [if_neg h2] at hf; omega
        · rw [if_neg h1] at hf; omega
      obtain ⟨h1, h2⟩ := (has_iff r i).1 hh
      obtain ⟨si, rfl⟩ : ∃ si : Nat, i = (si : Int) := ⟨i.toNat, by omega⟩
      by_cases h0 : r.left = 0
      · have e1 : r.rwrite (si : Int) b = (r.gone r.keep, 40) := by unfold St.rwrite; rw [hl, if_neg (by omega), if_neg (by omega), if_pos h0]
        rw [e1]
        exact rwrite_burn h hon h0 hm si A n c (by omega) hz
      · have e1 : r.rwrite (si : Int) b = (r.count.add si b, 0) := by unfold St.rwrite; rw [hl, if_neg (by omega), if_neg (by omega), if_neg h0, Int.toNat_natCast]
        rw [e1]
        exact rwrite_ok h hB hon h0 hm si A n c b hl hc hA hb (by omega) hz
    · have e1 : r.rwrite i b = (r, r.fits i n) := by unfold St.rwrite; rw [hl, if_neg (by omega), if_pos hf]
      rw [e1]
      exact rwrite_bad h hon i A n c hf
  · have hr : r.ready = 40 := by unfold St.ready; rw [if_neg hon]
    have e1 : r.rwrite i b = (r, 40) := by unfold St.rwrite; rw [if_pos (by omega), hr]
    rw [e1]
    exact rwrite_off h (by simpa using hon) _ _
end
end Go.Proofs.Ytfjaiolgbcindaa
