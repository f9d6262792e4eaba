/-
  Contracts of the disk's small functions: none, Sectors, Size, On, Steps, has, ready, fits, at, Power; and what calls of a disk that is none answer. Conditions: the disk lies in memory as its methods leave it (or is none).
-/
import Derived.Test.YtfjaiolgbcindaaChecked
import Derived.Test.YtfjaiolgbcindaaDkMem
import Derived.Test.YtfjaiolgbcindaaCut
import Derived.Test.YtfjaiolgbcindaaAesStill
import Derived.Deep.QuietTactic
import Derived.BigQuiet
namespace Go.Proofs.Ytfjaiolgbcindaa
open Go.RowKit Arr Dsk
section
variable {w : World} {g : Nat} {κ : Nat → Nat} {s : St}
theorem none_nil (w : World) : Calls Try.prog 23 #[.pointer none] w fun en w' => en = .returned (.bool true) ∧ w = w' := by
  go_enter Try.func23, Try.ntmps23
  go_wp2
  go_ret
  exact ⟨rfl, rfl⟩
theorem none_cell {z : Nat} (h : w.cell? ⟨g, 0, none⟩ = some (.int .i64 (z : Int))) (hz : z ≠ 0) : Calls Try.prog 23 #[.pointer (some ⟨g, 0, none⟩)] w fun en w' => en = .returned (.bool false) ∧ w = w' := by
  have t1 : ((z : Int) == 0) = false := by simp; omega
  go_enter Try.func23, Try.ntmps23
  go_wp2
  go_ret
  exact ⟨rfl, rfl⟩
theorem none_any (h : Dsk w g κ s) : Calls Try.prog 23 #[.pointer (some ⟨g, 0, none⟩)] w fun en w' => en = .returned (.bool false) ∧ w = w' := by
  obtain ⟨kb, kc, v, ws, A5, c5, h⟩ := h
  exact none_cell h.c0 (by have := h.wf.z0; omega)
theorem sectors_nil (w : World) : Calls Try.prog 9 #[.pointer none] w fun en w' => en = .returned (.int .i64 0) ∧ w = w' := by
  have C := Lib.hid (none_nil w)
  go_enter Try.func9, Try.ntmps9
  go_wp2_with fail
  refine C.out.mono ?_
  rintro en w' ⟨rfl, rfl⟩
  go_wp2
  go_ret
  exact ⟨rfl, rfl⟩
theorem sectors_any (h : Dsk w g κ s) : Calls Try.prog 9 #[.pointer (some ⟨g, 0, none⟩)] w fun en w' => en = .returned (.int .i64 (s.n : Int)) ∧ ∃ n, w' = w.drewN n := by
  have C := Lib.hid (none_any h)
  obtain ⟨kb, kc, v, ws, A5, c5, h⟩ := h
  have c0 := h.c0
  have c1 := h.c1
  have z0 := h.wf.z0
  have z1 := h.wf.z1
  have n1 := h.wf.n1
  have e1 : Int.tdiv (((s.n * s.sz : Nat)) : Int) (s.sz : Int) = (s.n : Int) := by
    rw [Int.natCast_mul]; exact Int.mul_tdiv_cancel _ (by omega)
  have e2 : ((s.n : Int)) = ((s.n : Nat) : Int) := rfl
  have t1 : ((s.sz : Int) == 0) = false := by simp; omega
  have hw : IntKind.i64.wrap (s.n : Int) = (s.n : Int) := by rw [IntKind.wrap_i64]; omega
  clear h
  generalize s.n * s.sz = m at *
  generalize s.n = n at *
  generalize s.sz = z at *
  go_enter Try.func9, Try.ntmps9
  go_wp2_with fail
  refine C.out.mono ?_
  rintro en w' ⟨rfl, rfl⟩
  go_wp2
  go_quiet (fail)
  go_wp2
  go_ret
  exact ⟨rfl, _, rfl⟩
theorem size_nil (w : World) : Calls Try.prog 10 #[.pointer none] w fun en w' => en = .returned (.int .i64 0) ∧ w = w' := by
  have C := Lib.hid (none_nil w)
  go_enter Try.func10, Try.ntmps10
  go_wp2_with fail
  refine C.out.mono ?_
  rintro en w' ⟨rfl, rfl⟩
  go_wp2
  go_ret
  exact ⟨rfl, rfl⟩
theorem size_any (h : Dsk w g κ s) : Calls Try.prog 10 #[.pointer (some ⟨g, 0, none⟩)] w fun en w' => en = .returned (.int .i64 (s.sz : Int)) ∧ w = w' := by
  have C := Lib.hid (none_any h)
  obtain ⟨kb, kc, v, ws, A5, c5, h⟩ := h
  have c0 := h.c0
  clear h
  go_enter Try.func10, Try.ntmps10
  go_wp2_with fail
  refine C.out.mono ?_
  rintro en w' ⟨rfl, rfl⟩
  go_wp2
  go_ret
  exact ⟨rfl, rfl⟩
theorem steps_nil (w : World) : Calls Try.prog 13 #[.pointer none] w fun en w' => en = .returned (.int .i64 0) ∧ w = w' := by
  have C := Lib.hid (none_nil w)
  go_enter Try.func13, Try.ntmps13
  go_wp2_with fail
  refine C.out.mono ?_
  rintro en w' ⟨rfl, rfl⟩
  go_wp2
  go_ret
  exact ⟨rfl, rfl⟩
theorem steps_any (h : Dsk w g κ s) : Calls Try.prog 13 #[.pointer (some ⟨g, 0, none⟩)] w fun en w' => en = .returned (.int .i64 (s.steps : Int)) ∧ w = w' := by
  have C := Lib.hid (none_any h)
  obtain ⟨kb, kc, v, ws, A5, c5, h⟩ := h
  have c6 := h.c6
  clear h
  go_enter Try.func13, Try.ntmps13
  go_wp2_with fail
  refine C.out.mono ?_
  rintro en w' ⟨rfl, rfl⟩
  go_wp2
  go_ret
  exact ⟨rfl, rfl⟩
theorem on_nil (w : World) : Calls Try.prog 12 #[.pointer none] w fun en w' => en = .returned (.bool false) ∧ w = w' := by
  have C := Lib.hid (none_nil w)
  go_enter Try.func12, Try.ntmps12
  go_wp2_with fail
  refine C.out.mono ?_
  rintro en w' ⟨rfl, rfl⟩
  go_wp2
  go_ret
  exact ⟨rfl, rfl⟩
theorem on_any (h : Dsk w g κ s) : Calls Try.prog 12 #[.pointer (some ⟨g, 0, none⟩)] w fun en w' => en = .returned (.bool s.on) ∧ w = w' := by
  have C := Lib.hid (none_any h)
  obtain ⟨kb, kc, v, ws, A5, c5, h⟩ := h
  have c3 := h.c3
  clear h
  go_enter Try.func12, Try.ntmps12
  go_wp2_with fail
  refine C.out.mono ?_
  rintro en w' ⟨rfl, rfl⟩
  go_wp2
  go_ret
  exact ⟨rfl, rfl⟩
theorem ready_nil (w : World) : Calls Try.prog 32 #[.pointer none] w fun en w' => en = .returned (.int .i64 1) ∧ w = w' := by
  have C := Lib.hid (none_nil w)
  go_enter Try.func32, Try.ntmps32
  go_wp2_with fail
  refine C.out.mono ?_
  rintro en w' ⟨rfl, rfl⟩
  go_wp2
  go_ret
  exact ⟨rfl, rfl⟩
theorem ready_any (h : Dsk w g κ s) : Calls Try.prog 32 #[.pointer (some ⟨g, 0, none⟩)] w fun en w' => en = .returned (.int .i64 (s.ready : Int)) ∧ w = w' := by
  have C := Lib.hid (none_any h)
  obtain ⟨kb, kc, v, ws, A5, c5, h⟩ := h
  have c3 := h.c3
  clear h
  have HR : Go.RowKit.Hid (s.ready = if s.on then 0 else 40) := Lib.hid rfl
  generalize s.ready = r at *
  generalize s.on = o at *
  cases o with
  | true =>
    obtain rfl : r = 0 := HR.out
    go_enter Try.func32, Try.ntmps32
    go_wp2_with fail
    refine C.out.mono ?_
    rintro en w' ⟨rfl, rfl⟩
    go_wp2
    go_ret
    exact ⟨rfl, rfl⟩
  | false =>
    obtain rfl : r = 40 := HR.out
    go_enter Try.func32, Try.ntmps32
    go_wp2_with fail
    refine C.out.mono ?_
    rintro en w' ⟨rfl, rfl⟩
    go_wp2
    go_ret
    exact ⟨rfl, rfl⟩
theorem has_any (h : Dsk w g κ s) (i : Int) : Calls Try.prog 33 #[.pointer (some ⟨g, 0, none⟩), .int .i64 i] w fun en w' => en = .returned (.bool (s.has i)) ∧ ∃ n, w' = w.drewN n := by
  have C := Lib.hid (sectors_any h)
  have HR : Go.RowKit.Hid (s.has i = decide (0 ≤ i ∧ i < (s.n : Int))) := Lib.hid rfl
  clear h
  generalize s.has i = r at *
  generalize s.n = n at *
  by_cases h0 : 0 ≤ i
  · have t0 : decide (i ≥ 0) = true := by simp; exact h0
    have HE := Lib.hid (show r = decide (i < (n : Int)) from by rw [HR.out]; simp [h0])
    clear HR
    go_enter Try.func33, Try.ntmps33
    go_wp2_with fail
    refine C.out.mono ?_
    rintro en w' ⟨rfl, m, rfl⟩
    go_wp2
    go_ret
    rw [HE.out]
    exact ⟨rfl, m, rfl⟩
  · have t0 : decide (i ≥ 0) = false := by simp; omega
    obtain rfl : r = false := by rw [HR.out]; simp [h0]
    clear HR
    go_enter Try.func33, Try.ntmps33
    go_wp2
    go_ret
    exact ⟨rfl, 0, rfl⟩
theorem fits_any (h : Dsk w g κ s) (i : Int) (A : Option Addr) (n c : Nat) : Calls Try.prog 35 #[.pointer (some ⟨g, 0, none⟩), .int .i64 i, .slice A n c] w fun en w' => en = .returned (.int .i64 (s.fits i n : Int)) ∧ ∃ n, w' = w.drewN n := by
  have C := Lib.hid (has_any h i)
  have HR : Go.RowKit.Hid (s.fits i n = if s.has i then (if n = s.sz then 0 else 2) else 41) := Lib.hid rfl
  obtain ⟨kb, kc, v, ws, A5, c5, h⟩ := h
  have c0 := h.c0
  clear h
  generalize s.fits i n = r at *
  generalize s.has i = o at *
  generalize s.sz = z at *
  cases o with
  | false =>
    obtain rfl : r = 41 := HR.out
    go_enter Try.func35, Try.ntmps35
    go_wp2_with fail
    refine C.out.mono ?_
    rintro en w' ⟨rfl, m, rfl⟩
    go_wp2
    go_ret
    exact ⟨rfl, m, rfl⟩
  | true =>
    by_cases hz : n = z
    · subst hz
      obtain rfl : r = 0 := by rw [HR.out]; simp
      have t1 : ((n : Int) == (n : Int)) = true := by simp
      have t2 : ((n : Int) != (n : Int)) = false := by simp
      go_enter Try.func35, Try.ntmps35
      go_wp2_with fail
      refine C.out.mono ?_
      rintro en w' ⟨rfl, m, rfl⟩
      go_wp2
      go_ret
      exact ⟨rfl, m, rfl⟩
    · obtain rfl : r = 2 := by rw [HR.out]; simp [hz]
      have t1 : ((n : Int) == (z : Int)) = false := by simp; omega
      have t2 : ((n : Int) != (z : Int)) = true := by simp; omega
      go_enter Try.func35, Try.ntmps35
      go_wp2_with fail
      refine C.out.mono ?_
      rintro en w' ⟨rfl, m, rfl⟩
      go_wp2
      go_ret
      exact ⟨rfl, m, rfl⟩
/-- What at leaves: a sector's place. -/
theorem at_any {kb kc : Nat} {v : Value} {ws : List Wt} {A5 : Option Addr} {c5 : Nat} (h : DskV w g κ s kb kc v ws A5 c5) (i : Nat) (hi : i < s.n) :
    Calls Try.prog 37 #[.pointer (some ⟨g, 0, none⟩), .int .i64 (i : Int)] w fun en w' => en = .returned (.slice (some ⟨kb, i * s.sz, none⟩) s.sz (kc - i * s.sz)) ∧ ∃ n, w' = w.drewN n := by
  have c0 := h.c0
  have c1 := h.c1
  have hr := h.room
  have n1 := h.wf.n1
  have z0 := h.wf.z0
  have z1 := h.wf.z1
  clear h
  generalize s.n = n at *
  generalize s.sz = z at *
  have e1 : i * z + z ≤ n * z := by rw [← Nat.succ_mul]; exact Nat.mul_le_mul_right _ hi
  have e2 : n * z ≤ 1048576 * 256 := Nat.mul_le_mul n1 z1
  have hm : IntKind.i64.wrap ((i : Int) * (z : Int)) = ((i * z : Nat) : Int) := by rw [← Int.natCast_mul, IntKind.wrap_i64]; omega
  have hs1 := run_cut_l (some ⟨kb, 0, none⟩) (n * z) kc (i * z) (by omega)
  have ec : cutA (some ⟨kb, 0, none⟩) kc (i * z) = some ⟨kb, i * z, none⟩ := by rw [cutA, if_neg (by omega), Option.map_some, add_nat, Nat.zero_add]
  rw [ec] at hs1
  have hs2 := run_cut_h (some ⟨kb, i * z, none⟩) (n * z - i * z) (kc - i * z) z (by omega)
  have ec2 : cutA (some ⟨kb, i * z, none⟩) (kc - i * z) 0 = some ⟨kb, i * z, none⟩ := by
    unfold cutA
    split
    · rfl
    · rw [Option.map_some, add_nat]; rfl
  rw [ec2] at hs2
  clear ec ec2
  generalize i * z = o at *
  generalize n * z = m at *
  go_enter Try.func37, Try.ntmps37
  go_wp2
  go_quiet (fail)
  go_wp2
  go_ret
  exact ⟨rfl, _, rfl⟩
end
end Go.Proofs.Ytfjaiolgbcindaa
