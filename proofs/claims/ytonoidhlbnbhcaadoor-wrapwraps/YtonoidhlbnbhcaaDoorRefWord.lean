/-
  Contracts of the reference's Get64, Put64 and Right. No conditions.
-/
import Derived.Test.YtonoidhlbnbhcaaDoorWordAll
import Derived.Test.YtonoidhlbnbhcaaDoorOwnAll
namespace Go.Proofs.YtonoidhlbnbhcaaDoor
open Go.RowKit

theorem num_take_succ (bs : List Nat) (k : Nat) (h : k < bs.length) : num (bs.take (k + 1)) = 256 * num (bs.take k) + bs.getD k 0 := by
  rw [take_snoc bs k h, num_snoc]
theorem num_take_lt (bs : List Nat) (hb : ∀ x, x ∈ bs → x < 256) (k : Nat) : num (bs.take k) < 256 ^ k := by
  have h1 := num_lt (bs.take k) (take_mem hb k)
  have h2 : 256 ^ (bs.take k).length ≤ 256 ^ k := Nat.pow_le_pow_right (by omega) (by simp; omega)
  omega

/-- What a call leaves that hands new bytes back. -/
def MadeBytes (bs : List Nat) (w : World) (e : Ending) (w' : World) : Prop :=
  ∃ A c, e = .returned (.slice A bs.length c) ∧ Bys w' w'.heap.size A bs ∧ Below w.heap.size w w'


theorem scale_step (k : Nat) (h : k < 8) : 256 ^ (7 - k) / 256 = if k < 7 then 256 ^ (7 - (k + 1)) else 0 := by
  match k, h with
  | 0, _ => decide
  | 1, _ => decide
  | 2, _ => decide
  | 3, _ => decide
  | 4, _ => decide
  | 5, _ => decide
  | 6, _ => decide
  | 7, _ => decide
  | k + 8, h => omega

/-- The scale ahead of round k. -/
def scale (k : Nat) : Nat := if k < 8 then 256 ^ (7 - k) else 0
theorem scale_succ (k : Nat) (h : k < 8) : scale (k + 1) = scale k / 256 := by
  unfold scale
  rw [if_pos h, scale_step k h]
  by_cases h7 : k < 7
  · rw [if_pos (by omega), if_pos h7]
  · rw [if_neg (by omega), if_neg h7]

theorem quo_byte (x C : Nat) (hx : x < 18446744073709551616) : (IntKind.u64.wrap ((x : Int) / (C : Int))).tmod 256 % 256 = ((x / C % 256 : Nat) : Int) := by
  have h1 : x / C ≤ x := Nat.div_le_self _ _
  have e : ((x : Int) / (C : Int)) = ((x / C : Nat) : Int) := by simp
  rw [e]
  generalize x / C = y at *
  have h2 : IntKind.u64.wrap (y : Int) = y := by rw [IntKind.wrap_u64]; omega
  rw [h2, Int.tmod_eq_emod_of_nonneg (by omega)]
  omega

set_option maxHeartbeats 1000000 in
theorem rput64_any (x : Nat) (hx : x < 18446744073709551616) (w : World) : Calls Tryd.prog 19 #[.int .u64 (x : Int)] w (MadeBytes (bytesOf x 8) w) := by
  go_enter Tryd.func19, Tryd.ntmps19
  go_wp2
  go_loopw [3, 4, 5] (fun out sc i wr => ∃ k : Nat, k ≤ 8 ∧ i = .int .i64 k ∧ sc = .int .u64 (scale k : Nat) ∧ wr.ownsRow w.heap.size 5 1 out k (vals .u8 ((bytesOf x 8).take k)) ∧ Below w.heap.size w wr) (fun _ _ i _ => 8 - (intOf i).toNat)
  case atStart => exact ⟨0, Nat.zero_le _, rfl, rfl, World.ownsRow_nil w w.heap.size 5 1, Below.refl _ _⟩
  case round =>
    obtain ⟨k, hk, rfl, rfl, hown, hbel⟩ := hrel
    have HO := Lib.hid hown; clear hown
    have HB := Lib.hid hbel; clear hbel
    have hsz := HB.out.size
    by_cases hlt : k < 8
    · have HSC := Lib.hid (scale_succ k hlt)
      have HTK := Lib.hid (take_snoc (bytesOf x 8) k (by rw [length_bytesOf]; exact hlt))
      have hbv : (bytesOf x 8).getD k 0 = x / scale k % 256 := by
        rw [getD_bytesOf x 8 k hlt]; unfold scale; rw [if_pos hlt]
      rw [hbv] at HTK
      have hpos : 0 < scale k := by unfold scale; rw [if_pos hlt]; exact Nat.pow_pos (by omega)
      have hle : scale k ≤ 72057594037927936 := by
        unfold scale; rw [if_pos hlt]
        have : 256 ^ (7 - k) ≤ 256 ^ 7 := Nat.pow_le_pow_right (by omega) (by omega)
        simpa using this
      clear hbv
      generalize scale k = C at *
      go_wp2_with (at_builtin; refine append_one rfl (.tmp 10) (.tmp 16) 22 rfl w.heap.size 5 (.int .u8 0) 1 Tryd.underlying22 info_u8 rfl _ k _ (.int .u8 ((IntKind.u64.wrap ((x : Int) / (C : Int))).tmod 256 % 256)) rfl HO.out rfl rfl (by omega) (by omega) hsz ?_; intro v' w1 hown1 hbel1)
      rw [quo_byte x C hx] at hown1
      go_roundw
      case rel => exact ⟨k + 1, by omega, by go_num, by rw [HSC.out]; go_num, by rw [HTK.out, vals_snoc]; exact hown1, HB.out.trans hbel1⟩
      case measure => simp [intOf]; omega
    · obtain rfl : k = 8 := by omega
      have hfull : (bytesOf x 8).take 8 = bytesOf x 8 := by rw [List.take_of_length_le (by rw [length_bytesOf]; omega)]
      have HF := Lib.hid (bys_of_owns (hfull ▸ HO.out) (bytesOf_lt x 8))
      clear hfull
      obtain ⟨A, c2, rfl, _, hbys⟩ := HF.out
      have HY := Lib.hid hbys; clear hbys
      go_wp2
      go_ret
      exact ⟨A, c2, congrArg (fun n => Ending.returned (Value.slice A n c2)) (length_bytesOf x 8).symm, HY.out, HB.out⟩
end Go.Proofs.YtonoidhlbnbhcaaDoor
