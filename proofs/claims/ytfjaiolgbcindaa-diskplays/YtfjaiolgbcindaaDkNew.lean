/-
  Contract of the disk's New: a disk whose sectors are noughts, or none. No conditions.
-/
import Derived.Test.YtfjaiolgbcindaaDkWrite
import Derived.Deep.OwnRows
namespace Go.Proofs.Ytfjaiolgbcindaa
open Go.RowKit Arr Dsk

theorem made_bytes (s : Nat) : madeCells #[.int .u8 0] s = na .u8 (zs s) := by
  apply Array.ext_getElem?
  intro i
  by_cases hi : i < s
  · rw [na_get _ _ _ (by rw [length_zs]; exact hi), zs_get]
    simp [madeCells, hi, Nat.mod_one]
  · rw [Array.getElem?_eq_none (by rw [size_madeCells]; omega), Array.getElem?_eq_none (by rw [size_na, length_zs]; omega)]
/-- Bytes that are made. -/
theorem mk_bytes (n : Nat) (hn : n ≤ 1099511627776) (W : World) : (Instr.makeSlice 32 (.int .i64 (n : Int)) (.int .i64 (n : Int))).run Try.prog W = .ok (.slice (some ⟨W.heap.size, 0, none⟩) n n) (W.alloc (.cells (na .u8 (zs n)) 5)) := by
  rw [← made_bytes]
  exact run_make_row' (P := Try.prog) 32 5 (.int .u8 0) 1 Try.underlying32 info_byte rfl .i64 .i64 n (by omega) (by omega) W
theorem flat_zeros (n z : Nat) : (List.replicate n (List.replicate z 0)).flatten = zs (n * z) := by
  unfold zs
  induction n with
  | zero => simp
  | succ n ih => rw [List.replicate_succ, List.flatten_cons, ih, Nat.succ_mul, Nat.add_comm, List.replicate_append_replicate]

/-- A new disk, in memory. -/
theorem DskV.new (w : World) (n z : Nat) (h0 : 0 < n) (h1 : n ≤ 1048576) (h2 : 32 ≤ z) (h3 : z ≤ 256) :
    DskV ((w.alloc (.cells (na .u8 (zs (n * z))) 5)).alloc (.cells #[.int .i64 (z : Int), .slice (some ⟨w.heap.size, 0, none⟩) (n * z) (n * z), .slice none 0 0, .bool true, .int .i64 (-1), .slice none 0 0, .int .i64 0] 56)) (w.heap.size + 1) (fun k => if k = w.heap.size + 1 then 1 else if k = w.heap.size then 2 else 0) (St.new n z) w.heap.size (n * z) (.slice none 0 0) [] none 0 := by
  have hK := Holds.new w 5 .u8 (zs (n * z))
  have hlast := heap_alloc_last (w.alloc (.cells (na .u8 (zs (n * z))) 5)) (.cells #[.int .i64 (z : Int), .slice (some ⟨w.heap.size, 0, none⟩) (n * z) (n * z), .slice none 0 0, .bool true, .int .i64 (-1), .slice none 0 0, .int .i64 0] 56)
  rw [World.size_alloc] at hlast
  refine ⟨by simp, fun k hk => ?_, fun k hk => ?_, by simp, ?_, ?_, ?_, ?_, ?_, ?_, ?_, fun j => frozen_of_row _ _ _ _ _ hlast, Nat.le_refl _, ?_, World.ownsRow_nil _ _ _ _, fun b hb => (by cases hb), rfl, fun x hx => (by cases hx), Bls.nil _ _ _, Wf.new n z h0 h1 h2 h3⟩
  · split at hk
    · assumption
    · split at hk <;> omega
  · simp only [World.size_alloc]
    split at hk
    · omega
    · split at hk <;> omega
  · rw [cell_of_row _ _ _ _ _ _ hlast]; rfl
  · rw [cell_of_row _ _ _ _ _ _ hlast]; rfl
  · rw [cell_of_row _ _ _ _ _ _ hlast]; rfl
  · rw [cell_of_row _ _ _ _ _ _ hlast]; rfl
  · rw [cell_of_row _ _ _ _ _ _ hlast]; rfl
  · rw [cell_of_row _ _ _ _ _ _ hlast]; rfl
  · rw [cell_of_row _ _ _ _ _ _ hlast]; rfl
  · show Holds _ w.heap.size .u8 (List.replicate n (List.replicate z 0)).flatten
    rw [flat_zeros]
    exact hK.alloc _
/-- What New leaves. -/
def NewP (n z : Nat) (w : World) (en : Ending) (w' : World) : Prop := ∃ g κ, en = .returned (.tuple #[.pointer (some ⟨g, 0, none⟩), .int .i64 0]) ∧ Dsk w' g κ (St.new n z) ∧ (∀ k, κ k ≠ 0 → w.heap.size ≤ k) ∧ Below w.heap.size w w'
def okNew (n z : Int) : Prop := 1 ≤ n ∧ n ≤ 1048576 ∧ 32 ≤ z ∧ z ≤ 256 ∧ z % 16 = 0
set_option maxRecDepth 10000 in
set_option maxHeartbeats 1000000 in
theorem new_ok (w : World) (n z : Nat) (h0 : 0 < n) (h1 : n ≤ 1048576) (h2 : 32 ≤ z) (h3 : z ≤ 256) (h4 : z % 16 = 0) : Calls Try.prog 6 #[.int .i64 (n : Int), .int .i64 (z : Int)] w (NewP n z w) := by
  have hm : n * z ≤ 1048576 * 256 := Nat.mul_le_mul h1 h3
  have t1 : decide ((n : Int) < 1) = false := by simp; omega
  have t2 : decide ((n : Int) > 1048576) = false := by simp; omega
  have t3 : decide ((z : Int) < 32) = false := by simp; omega
  have t4 : decide ((z : Int) > 256) = false := by simp; omega
  have er : Int.tmod (z : Int) 16 = 0 := by rw [Int.tmod_eq_emod_of_nonneg (by omega)]; omega
  have er2 : IntKind.i64.wrap 0 = 0 := by decide
  have t5 : ((0 : Int) == 0) = true := rfl
  have t6 : ((0 : Int) != 0) = false := rfl
  have wm : IntKind.i64.wrap ((n : Int) * (z : Int)) = ((n * z : Nat) : Int) := by rw [← Int.natCast_mul, IntKind.wrap_i64]; omega
  have mk := mk_bytes (n * z) (by omega)
  have FX := Lib.hid (show NewP n z w (.returned (.tuple #[.pointer (some ⟨w.heap.size + 1, 0, none⟩), .int .i64 0])) ((w.alloc (.cells (na .u8 (zs (n * z))) 5)).alloc (.cells #[.int .i64 (z : Int), .slice (some ⟨w.heap.size, 0, none⟩) (n * z) (n * z), .slice none 0 0, .bool true, .int .i64 (-1), .slice none 0 0, .int .i64 0] 56)) from
    ⟨_, _, rfl, ⟨_, _, _, _, _, _, DskV.new w n z h0 h1 h2 h3⟩, fun k (hk : (if k = w.heap.size + 1 then 1 else if k = w.heap.size then 2 else 0) ≠ 0) => by
      split at hk
      · omega
      · split at hk <;> omega, ((Below.refl _ w).alloc (Nat.le_refl _) _).alloc (by simp) _⟩)
  clear h0 h1 h2 h3 h4 hm
  generalize n * z = m at *
  go_enter Try.func6, Try.ntmps6
  go_wp2
  go_ret2
  exact FX.out
set_option maxHeartbeats 1000000 in
theorem new_bad (w : World) (n z : Int) (hz : -9223372036854775808 ≤ z ∧ z ≤ 9223372036854775807) (h : ¬ okNew n z) : Calls Try.prog 6 #[.int .i64 n, .int .i64 z] w fun en w' => en = .returned (.tuple #[.pointer none, .int .i64 2]) ∧ w = w' := by
  unfold okNew at h
  by_cases h1 : n < 1
  · have t1 : decide (n < 1) = true := by simp; omega
    clear h hz
    go_enter Try.func6, Try.ntmps6
    go_wp2
    go_ret2
    exact ⟨rfl, rfl⟩
  · have t1 : decide (n < 1) = false := by simp; omega
    by_cases h2 : n > 1048576
    · have t2 : decide (n > 1048576) = true := by simp; omega
      clear h hz
      go_enter Try.func6, Try.ntmps6
      go_wp2
      go_ret2
      exact ⟨rfl, rfl⟩
    · have t2 : decide (n > 1048576) = false := by simp; omega
      by_cases h3 : z < 32
      · have t3 : decide (z < 32) = true := by simp; omega
        clear h hz
        go_enter Try.func6, Try.ntmps6
        go_wp2
        go_ret2
        exact ⟨rfl, rfl⟩
      · have t3 : decide (z < 32) = false := by simp; omega
        by_cases h4 : z > 256
        · have t4 : decide (z > 256) = true := by simp; omega
          clear h hz
          go_enter Try.func6, Try.ntmps6
          go_wp2
          go_ret2
          exact ⟨rfl, rfl⟩
        · have t4 : decide (z > 256) = false := by simp; omega
          obtain ⟨r, hr⟩ : ∃ r, r = Int.tmod z 16 := ⟨_, rfl⟩
          have hr2 : r ≠ 0 := by rw [hr, Int.tmod_eq_emod_of_nonneg (by omega)]; omega
          have hr3 : 0 ≤ r ∧ r < 16 := by rw [hr, Int.tmod_eq_emod_of_nonneg (by omega)]; omega
          have er : Int.tmod z 16 = r := hr.symm
          have er2 : IntKind.i64.wrap r = r := by rw [IntKind.wrap_i64]; omega
          have t5 : (r == 0) = false := by simp; omega
          have t6 : (r != 0) = true := by simp; omega
          clear h hz hr
          go_enter Try.func6, Try.ntmps6
          go_wp2
          go_ret2
          exact ⟨rfl, rfl⟩
end Go.Proofs.Ytfjaiolgbcindaa
