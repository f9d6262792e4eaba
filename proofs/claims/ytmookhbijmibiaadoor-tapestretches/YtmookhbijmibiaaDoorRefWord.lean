/-
  Contracts of the reference's Get64, Put64 and Right. No conditions.
-/
import Derived.Test.YtmookhbijmibiaaDoorW32
import Derived.Test.YtmookhbijmibiaaDoorOwn
namespace Go.Proofs.YtmookhbijmibiaaDoor
open Go.RowKit

theorem num_take_succ (bs : List Nat) (k : Nat) (h : k < bs.length) : num (bs.take (k + 1)) = 256 * num (bs.take k) + bs.getD k 0 := by
  rw [take_snoc bs k h, num_snoc]
theorem num_take_lt (bs : List Nat) (hb : ∀ x, x ∈ bs → x < 256) (k : Nat) : num (bs.take k) < 256 ^ k := by
  have h1 := num_lt (bs.take k) (take_mem hb k)
  have h2 : 256 ^ (bs.take k).length ≤ 256 ^ k := Nat.pow_le_pow_right (by omega) (by simp; omega)
  omega

/-- What a call leaves that hands new bytes back. -/
def MadeBytes (bs : List Nat) (w : World) (e : Ending) (w' : World) : Prop :=
  ∃ A c, e = .returned (.slice A bs.length c) ∧ Bys w' w'.heap.size A bs ∧ Below w.heap.size w w'

set_option maxHeartbeats 1000000 in
theorem rget64_any (A : Option Addr) (n c : Nat) (bs : List Nat) (hl : bs.length = n) (hn : n ≤ 8) (w : World) (B : Nat) (hb : Bys w B A bs) :
    Calls Tryd.prog 24 #[.slice A n c] w fun e w' => e = .returned (.int .u64 (num bs : Nat)) ∧ w = w' := by
  have HL := Lib.hid hl; clear hl
  have HB := Lib.hid hb; clear hb
  go_enter Tryd.func24, Tryd.ntmps24
  go_wp2
  go_loop [3, 4] (fun x i => ∃ k : Nat, k ≤ n ∧ i = .int .i64 k ∧ x = .int .u64 (num (bs.take k) : Nat)) (fun _ i => n - (intOf i).toNat)
  case atStart => exact ⟨0, Nat.zero_le _, rfl, rfl⟩
  case round =>
    obtain ⟨k, hk, rfl, rfl⟩ := hrel
    by_cases hlt : k < n
    · obtain ⟨b, off, rfl, _, h3⟩ := HB.out.2 (by have := HL.out; omega)
      have hc1 := h3 k (by have := HL.out; omega)
      have hcv := HB.out.lt k
      clear h3
      have hs := num_take_succ bs k (by have := HL.out; omega)
      have h4 := num_take_lt bs HB.out.1 (k + 1)
      have hp := pow_le8 (show k + 1 ≤ 8 by omega)
      have h5 : 256 * num (bs.take k) + bs.getD k 0 < 18446744073709551616 := by omega
      have HS := Lib.hid hs
      clear hs h4 hp
      generalize bs.getD k 0 = cv at *
      generalize num (bs.take k) = X at *
      go_wp2
      go_round
      case rel => exact ⟨k + 1, by omega, by go_num, by rw [HS.out]; go_num⟩
      case measure => simp [intOf]; omega
    · obtain rfl : k = n := by omega
      have hfin : num (bs.take k) = num bs := by rw [List.take_of_length_le (by have := HL.out; omega)]
      have HF := Lib.hid hfin; clear hfin
      go_wp2
      go_ret
      exact ⟨ret_int (by rw [HF.out]), rfl⟩

theorem scale_step (k : Nat) (h : k < 8) : 256 ^ (7 - k) / 256 = if k < 7 then 256 ^ (7 - (k + 1)) else 0 := by
  match k, h with
  | 0, _ => decide
  | 1, _ => decide
  | 2, _ => decide
  | 3, _ => decide
  | 4, _ => decide
  | 5, _ => decide
  | 6, _ => decide
  | 7, _ => decide
  | k + 8, h => omega

/-- The scale ahead of round k. -/
def scale (k : Nat) : Nat := if k < 8 then 256 ^ (7 - k) else 0
theorem scale_succ (k : Nat) (h : k < 8) : scale (k + 1) = scale k / 256 := by
  unfold scale
  rw [if_pos h, scale_step k h]
  by_cases h7 : k < 7
  · rw [if_pos (by omega), if_pos h7]
  · rw [if_neg (by omega), if_neg h7]

theorem quo_byte (x C : Nat) (hx : x < 18446744073709551616) : (IntKind.u64.wrap ((x : Int) / (C : Int))).tmod 256 % 256 = ((x / C % 256 : Nat) : Int) := by
  have h1 : x / C ≤ x := Nat.div_le_self _ _
  have e : ((x : Int) / (C : Int)) = ((x / C : Nat) : Int) := by simp
  rw [e]
  generalize x / C = y at *
  have h2 : IntKind.u64.wrap (y : Int) = y := by rw [IntKind.wrap_u64]; omega
  rw [h2, Int.tmod_eq_emod_of_nonneg (by omega)]
  omega

set_option maxHeartbeats 1000000 in
theorem rput64_any (x : Nat) (hx : x < 18446744073709551616) (w : World) : Calls Tryd.prog 7 #[.int .u64 (x : Int)] w (MadeBytes (bytesOf x 8) w) := by
  go_enter Tryd.func7, Tryd.ntmps7
  go_wp2
  go_loopw [3, 4, 5] (fun out sc i wr => ∃ k : Nat, k ≤ 8 ∧ i = .int .i64 k ∧ sc = .int .u64 (scale k : Nat) ∧ wr.ownsRow w.heap.size 5 1 out k (vals .u8 ((bytesOf x 8).take k)) ∧ Below w.heap.size w wr) (fun _ _ i _ => 8 - (intOf i).toNat)
  case atStart => exact ⟨0, Nat.zero_le _, rfl, rfl, World.ownsRow_nil w w.heap.size 5 1, Below.refl _ _⟩
  case round =>
    obtain ⟨k, hk, rfl, rfl, hown, hbel⟩ := hrel
    have HO := Lib.hid hown; clear hown
    have HB := Lib.hid hbel; clear hbel
    have hsz := HB.out.size
    by_cases hlt : k < 8
    · have HSC := Lib.hid (scale_succ k hlt)
      have HTK := Lib.hid (take_snoc (bytesOf x 8) k (by rw [length_bytesOf]; exact hlt))
      have hbv : (bytesOf x 8).getD k 0 = x / scale k % 256 := by
        rw [getD_bytesOf x 8 k hlt]; unfold scale; rw [if_pos hlt]
      rw [hbv] at HTK
      have hpos : 0 < scale k := by unfold scale; rw [if_pos hlt]; exact Nat.pow_pos (by omega)
      have hle : scale k ≤ 72057594037927936 := by
        unfold scale; rw [if_pos hlt]
        have : 256 ^ (7 - k) ≤ 256 ^ 7 := Nat.pow_le_pow_right (by omega) (by omega)
        simpa using this
      clear hbv
      generalize scale k = C at *
      go_wp2_with (at_builtin; refine append_one rfl (.tmp 10) (.tmp 16) 22 rfl w.heap.size 5 (.int .u8 0) 1 Tryd.underlying22 info_u8 rfl _ k _ (.int .u8 ((IntKind.u64.wrap ((x : Int) / (C : Int))).tmod 256 % 256)) rfl HO.out rfl rfl (by omega) (by omega) hsz ?_; intro v' w1 hown1 hbel1)
      rw [quo_byte x C hx] at hown1
      go_roundw
      case rel => exact ⟨k + 1, by omega, by go_num, by rw [HSC.out]; go_num, by rw [HTK.out, vals_snoc]; exact hown1, HB.out.trans hbel1⟩
      case measure => simp [intOf]; omega
    · obtain rfl : k = 8 := by omega
      have hfull : (bytesOf x 8).take 8 = bytesOf x 8 := by rw [List.take_of_length_le (by rw [length_bytesOf]; omega)]
      have HF := Lib.hid (bys_of_owns (hfull ▸ HO.out) (bytesOf_lt x 8))
      clear hfull
      obtain ⟨A, c2, rfl, _, hbys⟩ := HF.out
      have HY := Lib.hid hbys; clear hbys
      go_wp2
      go_ret
      exact ⟨A, c2, congrArg (fun n => Ending.returned (Value.slice A n c2)) (length_bytesOf x 8).symm, HY.out, HB.out⟩
theorem right_any (x : Nat) (hx : x < 4294967296) (w : World) : Calls Tryd.prog 32 #[.int .u32 (x : Int)] w fun e w' => e = .returned (.int .u32 (right x : Nat)) ∧ w = w' := by
  rcases Nat.mod_two_eq_zero_or_one x with h | h
  · have h1 : ((x : Int) % 2 == 1) = false := by simp; omega
    have HR := Lib.hid (show right x = x / 2 by unfold right; omega)
    clear h
    go_enter Tryd.func32, Tryd.ntmps32
    go_wp2
    go_ret
    exact ⟨ret_int (by rw [HR.out]; simp), rfl⟩
  · have h1 : ((x : Int) % 2 == 1) = true := by simp; omega
    have HR := Lib.hid (show right x = x / 2 + 2147483648 by unfold right; omega)
    clear h
    go_enter Tryd.func32, Tryd.ntmps32
    go_wp2
    go_ret
    exact ⟨ret_int (by rw [HR.out]; simp), rfl⟩
end Go.Proofs.YtmookhbijmibiaaDoor
