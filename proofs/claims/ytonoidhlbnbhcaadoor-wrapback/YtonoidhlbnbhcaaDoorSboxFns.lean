/-
  Contracts of sbox's functions on bytes. No conditions.
-/
import Derived.Test.YtonoidhlbnbhcaaDoorSboxNum
import Derived.Test.YtonoidhlbnbhcaaDoorGfFns
namespace Go.Proofs.YtonoidhlbnbhcaaDoor
open Go.RowKit Gf Sb

theorem rot_is (x t : Nat) (hx : x < 256) (ht : t < 5) (h0 : 0 < t) (w : World) : Calls Tryd.prog 63 #[.int .u8 (x : Int), .int .i64 (t : Int)] w (Byte (rot8 x t) w) := by
  have h1 : bits .or .u8 ((x * 2 ^ t % 256 : Nat) : Int) ((x / 2 ^ (8 - t) : Nat) : Int) = (rot8 x t : Nat) := by
    rw [u8_or_nat _ _ (Nat.mod_lt _ (by omega)) (Nat.lt_of_le_of_lt (Nat.div_le_self _ _) hx)]; rfl
  have HR := Lib.hid h1; clear h1
  rcases (show t = 1 ∨ t = 2 ∨ t = 3 ∨ t = 4 by omega) with rfl | rfl | rfl | rfl
  all_goals
    have hb1 : bits .and .u64 1 7 = 1 := by decide
    have hb2 : bits .and .u64 2 7 = 2 := by decide
    have hb3 : bits .and .u64 3 7 = 3 := by decide
    have hb4 : bits .and .u64 4 7 = 4 := by decide
    go_enter Tryd.func63, Tryd.ntmps63
    go_wp2
    go_ret
    exact ⟨ret_int' (by rw [← HR.out]; simp), rfl⟩

theorem turned_any (v : Nat) (hv : v < 256) (w : World) : Calls Tryd.prog 48 #[.int .u8 (v : Int)] w (Byte (tb v) w) := by
  have H0 := Lib.hid (show bits .xor .u8 (v : Int) 99 = ((tn v 0 : Nat) : Int) from u8_xor_nat v 99 hv (by omega))
  go_enter Tryd.func48, Tryd.ntmps48
  go_wp2
  go_loop [3, 4] (fun u p => ∃ k : Nat, k ≤ 4 ∧ u = .int .u8 (tn v k : Nat) ∧ p = .int .i64 ((k : Int) + 1)) (fun _ p => (5 - intOf p).toNat)
  case atStart => exact ⟨0, by omega, by rw [← H0.out], rfl⟩
  case round =>
    obtain ⟨k, hk, rfl, rfl⟩ := hrel
    by_cases h4 : k = 4
    · subst h4
      have ht : decide (((4 : Nat) : Int) + 1 ≤ 4) = false := by decide
      go_wp2
      go_ret
      exact ⟨rfl, rfl⟩
    · have ht : decide ((k : Int) + 1 ≤ 4) = true := by simp; omega
      have hx := u8_xor_nat (tn v k) (rot8 v (k + 1)) (tn_lt v k hv (by omega)) (rot8_lt v _ hv (by omega))
      have HC := rot_is v (k + 1) hv (by omega) (by omega) w
      rw [show (((k + 1 : Nat)) : Int) = (k : Int) + 1 from rfl] at HC
      have HR := Lib.hid HC; clear HC
      go_wp2_with fail
      refine HR.out.mono ?_
      rintro e w' ⟨rfl, rfl⟩
      go_wp2
      go_round
      case rel => exact ⟨k + 1, by omega, rfl, by go_num⟩
      case measure => simp [intOf]; omega

end Go.Proofs.YtonoidhlbnbhcaaDoor
