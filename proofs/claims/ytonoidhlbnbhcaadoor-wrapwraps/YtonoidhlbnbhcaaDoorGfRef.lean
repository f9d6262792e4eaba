/-
  Contracts of the reference's products and inverses, at bytes. No conditions.
-/
import Derived.Test.YtonoidhlbnbhcaaDoorBoxAll
namespace Go.Proofs.YtonoidhlbnbhcaaDoor
open Go.RowKit Gf

def Num (x : Nat) (w : World) (e : Ending) (w' : World) : Prop := e = .returned (.int .i64 (x : Int)) ∧ w = w'

theorem xor64 (a b : Nat) (ha : a < 32768) (hb : b < 32768) : bits .xor .i64 (a : Int) (b : Int) = ((a ^^^ b : Nat) : Int) := by
  have h : a ^^^ b < 32768 := Nat.xor_lt_two_pow (n := 15) ha hb
  show IntKind.i64.wrap ((BitVec.ofInt 64 (a : Int) ^^^ BitVec.ofInt 64 (b : Int)).toNat : Int) = _
  have e1 : (BitVec.ofInt 64 (a : Int)).toNat = a := by simp; omega
  have e2 : (BitVec.ofInt 64 (b : Int)).toNat = b := by simp; omega
  rw [BitVec.toNat_xor, e1, e2, IntKind.wrap_i64]
  omega
theorem rxor_any (a b : Nat) (ha : a < 32768) (hb : b < 32768) (w : World) : Calls Tryd.prog 61 #[.int .i64 (a : Int), .int .i64 (b : Int)] w (Num (a ^^^ b) w) := by
  have e := xor64 a b ha hb
  go_enter Tryd.func61, Tryd.ntmps61
  go_wp2
  go_ret
  exact ⟨rfl, rfl⟩

theorem red_lt {k n : Nat} (hn : n < 32768) (hk : k ≤ 6) : n ^^^ (n / 2 ^ (8 + k) % 2 * (283 * 2 ^ k)) < 32768 := by
  have h1 : 2 ^ k ≤ 2 ^ 6 := Nat.pow_le_pow_right (by omega) hk
  refine Nat.xor_lt_two_pow (n := 15) hn ?_
  rcases Nat.mod_two_eq_zero_or_one (n / 2 ^ (8 + k)) with h | h <;> simp only [h] <;> omega

theorem quo_mod2 (b s : Nat) (hb : b < 32768) : (wrap64 ((b : Int) / (s : Int))).tmod 2 = ((b / s % 2 : Nat) : Int) := by
  have h : b / s ≤ b := Nat.div_le_self b s
  have e : (b : Int) / (s : Int) = ((b / s : Nat) : Int) := by simp
  rw [e]
  generalize b / s = q at *
  have e1 : wrap64 (q : Int) = (q : Int) := by simp only [wrap64]; omega
  rw [e1, Int.tmod_eq_emod_of_nonneg (by omega)]
  omega
theorem half_pow (k : Nat) (h : 0 < k) (c : Nat) : c * 2 ^ k / 2 = c * 2 ^ (k - 1) := by
  obtain ⟨j, rfl⟩ : ∃ j, k = j + 1 := ⟨k - 1, by omega⟩
  rw [Nat.pow_succ, ← Nat.mul_assoc, Nat.mul_div_cancel _ (by omega)]
  rfl

set_option maxHeartbeats 1000000 in
theorem rtimes_any (a b : Nat) (ha : a < 256) (hb : b < 256) (w : World) : Calls Tryd.prog 40 #[.int .i64 (a : Int), .int .i64 (b : Int)] w (Num (T a b) w) := by
  have HT := Lib.hid (show red 7 (cl a b 8) = T a b from R_eq a b ha hb)
  have HL := Lib.hid (cl_lt a b 8 ha (by omega))
  generalize T a b = t at *
  go_enter Tryd.func40, Tryd.ntmps40
  go_wp2
  go_loop [5, 6, 7] (fun n s i => ∃ k : Nat, k ≤ 8 ∧ n = .int .i64 (cl a b k : Nat) ∧ s = .int .i64 (2 ^ k : Nat) ∧ i = .int .i64 (k : Nat)) (fun _ _ i => 8 - (intOf i).toNat)
  case atStart => exact ⟨0, by omega, rfl, rfl, rfl⟩
  case round =>
    obtain ⟨k, hk, rfl, rfl, rfl⟩ := hrel
    by_cases hlt : k < 8
    · have hs : 2 ^ k ≤ 2 ^ 7 := Nat.pow_le_pow_right (by omega) (by omega)
      have hs1 : 0 < 2 ^ k := Nat.two_pow_pos k
      have hS := Lib.hid (show 2 ^ (k + 1) = 2 ^ k * 2 from Nat.pow_succ 2 k)
      have hC := Lib.hid (show cl a b (k + 1) = cl a b k ^^^ (b / 2 ^ k % 2 * (a * 2 ^ k)) from rfl)
      have hc := cl_lt a b k ha (by omega)
      have hm : a * 2 ^ k ≤ 255 * 2 ^ 7 := Nat.mul_le_mul (by omega) hs
      have hq := quo_mod2 b (2 ^ k) (by omega)
      generalize cl a b k = x at *
      generalize 2 ^ k = s at *
      have s0 : ((s : Int) == 0) = false := by simp; omega
      rcases Nat.mod_two_eq_zero_or_one (b / s) with h2 | h2
      · rw [h2] at hq
        have H2 := Lib.hid h2; clear h2
        go_wp2
        go_round
        case rel => exact ⟨k + 1, by omega, by rw [hC.out, H2.out, Nat.zero_mul, Nat.xor_zero], by rw [hS.out]; go_num, by go_num⟩
        case measure => simp [intOf]; omega
      · rw [h2] at hq
        have H2 := Lib.hid h2; clear h2
        have HX := rxor_any x (a * s) hc (by omega) w
        rw [Int.natCast_mul] at HX
        have HX := Lib.hid HX
        go_wp2_with fail
        refine HX.out.mono ?_
        rintro e w' ⟨rfl, rfl⟩
        go_wp2
        go_round
        case rel => exact ⟨k + 1, by omega, by rw [hC.out, H2.out, Nat.one_mul], by rw [hS.out]; go_num, by go_num⟩
        case measure => simp [intOf]; omega
    · obtain rfl : k = 8 := by omega
      generalize cl a b 8 = x0 at *
      go_wp2
      go_loop [5, 8, 9] (fun n y p => ∃ k x : Nat, k ≤ 7 ∧ x < 32768 ∧ red k x = t ∧ n = .int .i64 (x : Nat) ∧ y = .int .i64 (283 * 2 ^ k / 2 : Nat) ∧ p = .int .i64 (128 * 2 ^ k : Nat)) (fun _ _ p => (intOf p).toNat)
      case atStart => exact ⟨7, x0, by omega, HL.out, HT.out, rfl, rfl, rfl⟩
      case round =>
        obtain ⟨k, x, hk, hx, hr, rfl, rfl, rfl⟩ := hrel
        by_cases h0 : k = 0
        · subst h0
          have HR := Lib.hid (show x = t from hr)
          clear hr
          go_wp2
          go_ret
          exact ⟨ret_int' (by rw [HR.out]), rfl⟩
        · obtain ⟨j, rfl⟩ : ∃ j, k = j + 1 := ⟨k - 1, by omega⟩
          have hp1 : 2 ^ j ≤ 2 ^ 6 := Nat.pow_le_pow_right (by omega) (by omega)
          have hp0 : 0 < 2 ^ j := Nat.two_pow_pos j
          have HR := Lib.hid (show red j (x ^^^ (x / 2 ^ (8 + j) % 2 * (283 * 2 ^ j))) = t from hr); clear hr
          have hlt := red_lt (k := j) hx (by omega)
          have e1 : 283 * 2 ^ (j + 1) / 2 = 283 * 2 ^ j := by rw [half_pow _ (by omega)]; rfl
          have e2 : 128 * 2 ^ (j + 1) = 256 * 2 ^ j := by rw [Nat.pow_succ]; omega
          have e3 : 2 ^ (8 + j) = 256 * 2 ^ j := by rw [Nat.pow_add]
          rw [e3] at HR hlt
          have hq := quo_mod2 x (256 * 2 ^ j) hx
          rw [e1, e2]
          clear e1 e2 e3
          generalize hY : 283 * 2 ^ j = Y at *
          generalize hP : 256 * 2 ^ j = P at *
          have y1 : Y ≤ 18112 := by omega
          have p1 : 256 ≤ P := by omega
          have p2 : P ≤ 16384 := by omega
          have t1 : decide (256 ≤ (P : Int)) = true := by simp; omega
          have t2 : ((P : Int) == 0) = false := by simp; omega
          have HY := Lib.hid hY
          have HP := Lib.hid (show 128 * 2 ^ j = P / 2 by omega)
          clear hY hP hp1 hp0
          rcases Nat.mod_two_eq_zero_or_one (x / P) with h2 | h2
          · rw [h2] at hq
            have H2 := Lib.hid h2; clear h2
            go_wp2
            go_round
            case rel => exact ⟨j, x, by omega, hx, by have := HR.out; rw [H2.out, Nat.zero_mul, Nat.xor_zero] at this; exact this, rfl, by rw [HY.out]; go_num, by rw [HP.out]; go_num⟩
            case measure => simp [intOf]; omega
          · rw [h2] at hq hlt
            rw [Nat.one_mul] at hlt
            have H2 := Lib.hid h2; clear h2
            have HX := Lib.hid (rxor_any x Y hx (by omega) w)
            go_wp2_with fail
            refine HX.out.mono ?_
            rintro e w' ⟨rfl, rfl⟩
            go_wp2
            go_round
            case rel => exact ⟨j, x ^^^ Y, by omega, hlt, by have := HR.out; rw [H2.out, Nat.one_mul] at this; exact this, rfl, by rw [HY.out]; go_num, by rw [HP.out]; go_num⟩
            case measure => simp [intOf]; omega

end Go.Proofs.YtonoidhlbnbhcaaDoor
