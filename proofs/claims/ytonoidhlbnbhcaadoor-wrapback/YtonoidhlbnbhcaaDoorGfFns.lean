/-
  Contracts of gf's functions on bytes. No conditions.
-/
import Derived.Test.YtonoidhlbnbhcaaDoorGfNum
import Derived.Test.YtonoidhlbnbhcaaDoorRows
import Derived.WalkKit
import Derived.Lib.Hide
import Derived.Laws.BitsAllLaws
namespace Go.Proofs.YtonoidhlbnbhcaaDoor
open Go.RowKit Gf

theorem ret_int' {k : IntKind} {x y : Int} (h : x = y) : Ending.returned (.int k x) = .returned (.int k y) := by rw [h]

theorem xt_low (a : Nat) (ha : a < 256) (h : a / 128 = 0) : xt a = a * 2 % 256 := by
  have : ∀ a, a < 256 → a / 128 = 0 → xt a = a * 2 % 256 := by decide +kernel
  exact this a ha h
theorem xt_high (a : Nat) (ha : a < 256) (h : a / 128 = 1) : xt a = (a * 2 % 256) ^^^ 27 := by
  have : ∀ a, a < 256 → a / 128 = 1 → xt a = (a * 2 % 256) ^^^ 27 := by decide +kernel
  exact this a ha h

theorem timesX_any (a : Nat) (ha : a < 256) (w : World) : Calls Tryd.prog 49 #[.int .u8 (a : Int)] w fun e w' => e = .returned (.int .u8 (xt a : Nat)) ∧ w = w' := by
  rcases (show a / 128 = 0 ∨ a / 128 = 1 by omega) with h | h
  · have h1 : ((a : Int) / 128 == 1) = false := by simp; omega
    have HR := Lib.hid (xt_low a ha h)
    clear h
    go_enter Tryd.func49, Tryd.ntmps49
    go_wp2
    go_ret
    exact ⟨ret_int' (by rw [HR.out]; simp), rfl⟩
  · have h1 : ((a : Int) / 128 == 1) = true := by simp; omega
    have HR := Lib.hid (xt_high a ha h)
    clear h
    go_enter Tryd.func49, Tryd.ntmps49
    go_wp2
    go_ret
    exact ⟨ret_int' (by rw [HR.out, ← u8_xor_nat _ _ (Nat.mod_lt _ (by omega)) (by omega)]; simp), rfl⟩

theorem and_one (y : Nat) (hy : y < 256) : bits .and .u8 (y : Int) 1 = ((y % 2 : Nat) : Int) := by
  have := u8_and_nat y 1 hy (by omega)
  rw [Nat.and_one_is_mod] at this
  exact this

/-- One round of the product. -/
theorem mul_round {k x y z t : Nat} (h : z ^^^ mulN (k + 1) x y = t) : (z ^^^ (y % 2 * x)) ^^^ mulN k (xt x) (y / 2) = t := by
  rw [← h, Nat.xor_assoc]
  rfl

theorem times_any (a b : Nat) (ha : a < 256) (hb : b < 256) (w : World) : Calls Tryd.prog 27 #[.int .u8 (a : Int), .int .u8 (b : Int)] w fun e w' => e = .returned (.int .u8 (T a b : Nat)) ∧ w = w' := by
  have H0 := Lib.hid (show (0 : Nat) ^^^ mulN 8 a b = T a b by simp [T])
  generalize T a b = t at *
  go_enter Tryd.func27, Tryd.ntmps27
  go_wp2
  go_loop [0, 1, 5] (fun u v p => ∃ k x y z : Nat, k ≤ 8 ∧ y < 2 ^ k ∧ x < 256 ∧ z < 256 ∧ u = .int .u8 x ∧ v = .int .u8 y ∧ p = .int .u8 z ∧ z ^^^ mulN k x y = t) (fun _ v _ => (intOf v).toNat)
  case atStart => exact ⟨8, a, b, 0, Nat.le_refl _, hb, ha, by omega, rfl, rfl, rfl, H0.out⟩
  case round =>
    obtain ⟨k, x, y, z, hk, hy, hx, hz, rfl, rfl, rfl, hm⟩ := hrel
    by_cases hy0 : y = 0
    · subst hy0
      rw [mulN_zero, Nat.xor_zero] at hm
      have HM := Lib.hid hm; clear hm H0
      go_wp2
      go_ret
      exact ⟨ret_int' (by rw [HM.out]), rfl⟩
    · obtain ⟨j, rfl⟩ : ∃ j, k = j + 1 := ⟨k - 1, by
        have : k ≠ 0 := fun e => by subst e; simp at hy; exact hy0 hy
        omega⟩
      have h0 : ((y : Int) == 0) = false := by simp; omega
      have hy8 : y < 256 := by have : 2 ^ (j + 1) ≤ 2 ^ 8 := Nat.pow_le_pow_right (by omega) hk; omega
      have hy' : y / 2 < 2 ^ j := by rw [Nat.pow_succ] at hy; omega
      have HM := Lib.hid (mul_round hm); clear hm H0
      have HX := Lib.hid (timesX_any x hx w)
      have hb1 := and_one y hy8
      rcases Nat.mod_two_eq_zero_or_one y with h2 | h2
      · rw [h2] at hb1
        have H2 := Lib.hid h2; clear h2
        go_wp2_with fail
        refine HX.out.mono ?_
        rintro e w' ⟨rfl, rfl⟩
        go_wp2
        go_round
        case rel => exact ⟨j, xt x, y / 2, z, by omega, hy', xt_lt x hx, hz, by go_num, by go_num, rfl, by have := HM.out; rw [H2.out, Nat.zero_mul, Nat.xor_zero] at this; exact this⟩
        case measure => simp [intOf]; omega
      · rw [h2] at hb1
        have H2 := Lib.hid h2; clear h2
        go_wp2_with fail
        refine HX.out.mono ?_
        rintro e w' ⟨rfl, rfl⟩
        go_wp2
        go_round
        case rel => exact ⟨j, xt x, y / 2, z ^^^ x, by omega, hy', xt_lt x hx, xor_lt hz hx, by go_num, by go_num, by rw [u8_xor_nat z x hz hx], by have := HM.out; rw [H2.out, Nat.one_mul] at this; exact this⟩
        case measure => simp [intOf]; omega

theorem and_one64 (n : Int) : bits .and .i64 n 1 = n % 2 := by
  show IntKind.i64.wrap ((BitVec.ofInt 64 n &&& BitVec.ofInt 64 1).toNat : Int) = _
  have e : (BitVec.ofInt 64 (1 : Int)).toNat = 2 ^ 1 - 1 := by decide
  rw [BitVec.toNat_and, e, Nat.and_two_pow_sub_one_eq_mod, BitVec.toNat_ofInt, IntKind.wrap_i64]
  omega

theorem pow_even {p x y t : Nat} (hx : x < 256) (h2 : y % 2 = 0) (h : T p (pw x y) = t) : T p (pw (T x x) (y / 2)) = t := by
  rw [pw_sq x _ hx, show 2 * (y / 2) = y by omega, h]
theorem pow_odd {p x y t : Nat} (hp : p < 256) (hx : x < 256) (h2 : y % 2 = 1) (h : T p (pw x y) = t) : T (T p x) (pw (T x x) (y / 2)) = t := by
  rw [pw_sq x _ hx, T_assoc _ _ _ hp hx (pw_lt x _ hx), T_comm x _ hx (pw_lt x _ hx), ← h]
  congr 1
  conv => rhs; rw [show y = 2 * (y / 2) + 1 by omega]
  rfl

theorem turn_of (n : Int) : (wrap64 (n.tmod 255 + 255)).tmod 255 = n % 255 := by
  have e : n.tmod 255 = n % 255 ∨ n.tmod 255 = n % 255 - 255 := by
    rw [Int.tmod_eq_emod]
    split <;> simp
  have e1 : wrap64 (n.tmod 255 + 255) = n.tmod 255 + 255 := by simp only [wrap64]; omega
  rw [e1, Int.tmod_eq_emod_of_nonneg (by omega)]
  omega

/-- What Power is to answer. -/
def powr (a : Nat) (n : Int) : Nat := if n = 0 then 1 else if a = 0 then 0 else pw a (n % 255).toNat

def Byte (x : Nat) (w : World) (e : Ending) (w' : World) : Prop := e = .returned (.int .u8 (x : Int)) ∧ w = w'

theorem power_none (a : Nat) (w : World) : Calls Tryd.prog 53 #[.int .u8 (a : Int), .int .i64 0] w (Byte 1 w) := by
  go_enter Tryd.func53, Tryd.ntmps53
  go_wp2
  go_ret
  exact ⟨rfl, rfl⟩
theorem power_zero (n : Int) (hn : n ≠ 0) (w : World) : Calls Tryd.prog 53 #[.int .u8 0, .int .i64 n] w (Byte 0 w) := by
  have h1 : (n == 0) = false := by simpa using hn
  go_enter Tryd.func53, Tryd.ntmps53
  go_wp2
  go_ret
  exact ⟨rfl, rfl⟩
theorem power_some (a : Nat) (ha : a < 256) (h0 : a ≠ 0) (n : Int) (hn : n ≠ 0) (w : World) : Calls Tryd.prog 53 #[.int .u8 (a : Int), .int .i64 n] w (Byte (pw a (n % 255).toNat) w) := by
  have h1 : (n == 0) = false := by simpa using hn
  have h2 : ((a : Int) == 0) = false := by simp; omega
  obtain ⟨m, hm⟩ : ∃ m : Nat, m = (n % 255).toNat := ⟨_, rfl⟩
  have H0 := Lib.hid (show T 1 (pw a m) = pw a (n % 255).toNat by rw [one_T _ (pw_lt a _ ha), hm])
  have ht : (wrap64 (n.tmod 255 + 255)).tmod 255 = (m : Int) := by rw [turn_of]; omega
  have hm' : m < 255 := by omega
  clear hm
  generalize pw a (n % 255).toNat = t at *
  go_enter Tryd.func53, Tryd.ntmps53
  go_wp2
  go_loop [0, 5, 6] (fun u v p => ∃ x y z : Nat, y < 255 ∧ x < 256 ∧ z < 256 ∧ u = .int .u8 x ∧ v = .int .i64 y ∧ p = .int .u8 z ∧ T z (pw x y) = t) (fun _ v _ => (intOf v).toNat)
  case atStart => exact ⟨a, m, 1, hm', ha, by omega, rfl, by go_num, rfl, H0.out⟩
  case round =>
    obtain ⟨x, y, z, hy, hx, hz, rfl, rfl, rfl, hq⟩ := hrel
    by_cases hy0 : y = 0
    · subst hy0
      have HM := Lib.hid hq; clear hq H0
      go_wp2
      go_ret
      exact ⟨ret_int' (by rw [← HM.out]; show _ = ((T z 1 : Nat) : Int); rw [T_one z hz]), rfl⟩
    · have h0 : decide (0 < (y : Int)) = true := by simp; omega
      have hb1 := and_one64 (y : Int)
      have HX := Lib.hid (times_any x x hx hx w)
      have HZ := Lib.hid (times_any z x hz hx w)
      have HQ := Lib.hid hq; clear hq H0
      rcases Nat.mod_two_eq_zero_or_one y with h2 | h2
      · have e2 : (y : Int) % 2 = 0 := by omega
        rw [e2] at hb1; clear e2
        have H2 := Lib.hid h2; clear h2
        go_wp2_with fail
        refine HX.out.mono ?_
        rintro e w' ⟨rfl, rfl⟩
        go_wp2
        go_round
        case rel => exact ⟨T x x, y / 2, z, by omega, T_lt _ _ hx, hz, rfl, by go_num, rfl, pow_even hx H2.out HQ.out⟩
        case measure => simp [intOf]; omega
      · have e2 : (y : Int) % 2 = 1 := by omega
        rw [e2] at hb1; clear e2
        have H2 := Lib.hid h2; clear h2
        go_wp2_with fail
        refine HZ.out.mono ?_
        rintro e w' ⟨rfl, rfl⟩
        go_wp2_with fail
        refine HX.out.mono ?_
        rintro e w' ⟨rfl, rfl⟩
        go_wp2
        go_round
        case rel => exact ⟨T x x, y / 2, T z x, by omega, T_lt _ _ hx, T_lt _ _ hz, rfl, by go_num, rfl, pow_odd hz hx H2.out HQ.out⟩
        case measure => simp [intOf]; omega
/-- POWER. -/
theorem power_any (a : Nat) (ha : a < 256) (n : Int) (w : World) : Calls Tryd.prog 53 #[.int .u8 (a : Int), .int .i64 n] w (Byte (powr a n) w) := by
  unfold powr
  split
  · next h => subst h; exact power_none a w
  · split
    · next h h0 => subst h0; exact power_zero n h w
    · next h h0 => exact power_some a ha h0 n h w

theorem powr_254 (a : Nat) : powr a 254 = inv a := by
  unfold powr
  rw [if_neg (by omega)]
  split
  · next h => subst h; exact inv_zero.symm
  · rfl

theorem inverse_any (a : Nat) (ha : a < 256) (w : World) : Calls Tryd.prog 47 #[.int .u8 (a : Int)] w (Byte (inv a) w) := by
  have H := power_any a ha 254 w
  rw [powr_254] at H
  have HC := Lib.hid H; clear H
  go_enter Tryd.func47, Tryd.ntmps47
  go_wp2_with fail
  refine HC.out.mono ?_
  rintro e w' ⟨rfl, rfl⟩
  go_wp2
  go_ret
  exact ⟨rfl, rfl⟩

end Go.Proofs.YtonoidhlbnbhcaaDoor
