/-
  Contracts of the reference's functions of layer 3 on numbers: bit, turned, Of. No conditions.
-/
import Derived.Test.YtonoidhlbnbhcaaDoorNumAll
import Derived.Test.YtonoidhlbnbhcaaDoorGfRef
namespace Go.Proofs.YtonoidhlbnbhcaaDoor
open Go.RowKit Gf Sb

theorem half_div (n q : Nat) : n / 2 ^ q / 2 = n / 2 ^ (q + 1) := by rw [Nat.pow_succ, Nat.div_div_eq_div_mul]

theorem rbit_any (n i : Nat) (hn : n < 256) (hi : i < 8) (w : World) : Calls Tryd.prog 65 #[.int .i64 (n : Int), .int .i64 (i : Int)] w (Num (n / 2 ^ i % 2) w) := by
  go_enter Tryd.func65, Tryd.ntmps65
  go_wp2
  go_loop [0, 5] (fun u p => ∃ q : Nat, q ≤ i ∧ u = .int .i64 (n / 2 ^ q : Nat) ∧ p = .int .i64 (q : Nat)) (fun _ p => i - (intOf p).toNat)
  case atStart => exact ⟨0, by omega, by simp, rfl⟩
  case round =>
    obtain ⟨q, hq, rfl, rfl⟩ := hrel
    have hd : n / 2 ^ q ≤ n := Nat.div_le_self _ _
    by_cases hlt : q < i
    · have HD := Lib.hid (half_div n q)
      have tq : decide ((q : Int) < (i : Int)) = true := by simp; omega
      generalize n / 2 ^ q = X at *
      go_wp2
      go_round
      case rel => exact ⟨q + 1, by omega, by rw [← HD.out]; go_num, by go_num⟩
      case measure => simp [intOf]; omega
    · have tq : decide ((q : Int) < (i : Int)) = false := by simp; omega
      have HQ := Lib.hid (show n / 2 ^ q = n / 2 ^ i by rw [show q = i by omega])
      generalize n / 2 ^ i = Y at *
      generalize n / 2 ^ q = X at *
      go_wp2
      go_ret
      exact ⟨ret_int' (by rw [← HQ.out]; go_num), rfl⟩

/-- The sum at bit i, m of the four places in. -/
def rs (v i : Nat) : Nat → Nat
  | 0 => 99 / 2 ^ i % 2
  | m + 1 => rs v i m + v / 2 ^ ((i + (m + 4)) % 8) % 2
/-- The first j bits from above. -/
def rt (v : Nat) : Nat → Nat
  | 0 => 0
  | j + 1 => 2 * rt v j + (rs v (7 - j) 4 + v / 2 ^ (7 - j) % 2) % 2
theorem rs_le (v i m : Nat) : rs v i m ≤ m + 1 := by
  induction m with
  | zero => have : 99 / 2 ^ i % 2 < 2 := Nat.mod_lt _ (by omega)
            show 99 / 2 ^ i % 2 ≤ 1; omega
  | succ m ih => have : v / 2 ^ ((i + (m + 4)) % 8) % 2 < 2 := Nat.mod_lt _ (by omega)
                 show rs v i m + v / 2 ^ ((i + (m + 4)) % 8) % 2 ≤ m + 1 + 1; omega
theorem rt_lt (v j : Nat) (hj : j ≤ 8) : rt v j < 2 ^ j := by
  induction j with
  | zero => show 0 < 1; omega
  | succ j ih =>
    have h1 := ih (by omega)
    have h2 : (rs v (7 - j) 4 + v / 2 ^ (7 - j) % 2) % 2 < 2 := Nat.mod_lt _ (by omega)
    show 2 * rt v j + _ < _
    rw [Nat.pow_succ]; omega
theorem rt_eq (v : Nat) (hv : v < 256) : rt v 8 = tb v := by
  have : ∀ v, v < 256 → rt v 8 = tb v := by decide +kernel
  exact this v hv

set_option maxHeartbeats 2000000 in
theorem rturned_any (v : Nat) (hv : v < 256) (w : World) : Calls Tryd.prog 60 #[.int .i64 (v : Int)] w (Num (tb v) w) := by
  have HB := Lib.hid (rt_eq v hv)
  generalize tb v = t at *
  go_enter Tryd.func60, Tryd.ntmps60
  go_wp2
  go_loop [3, 4, 5, 6] (fun o i _ _ => ∃ j : Nat, j ≤ 8 ∧ o = .int .i64 (rt v j : Nat) ∧ i = .int .i64 (7 - (j : Int))) (fun _ i _ _ => (intOf i + 1).toNat)
  case atStart => exact ⟨0, by omega, rfl, rfl⟩
  case round =>
    obtain ⟨j, hj, rfl, rfl⟩ := hrel
    have h256 := rt_lt v j hj
    have hp : 2 ^ j ≤ 2 ^ 8 := Nat.pow_le_pow_right (by omega) hj
    by_cases hlt : j < 8
    · obtain ⟨i, hi⟩ : ∃ i, i = 7 - j := ⟨_, rfl⟩
      have ei : (7 : Int) - (j : Int) = (i : Int) := by omega
      have HS := Lib.hid (show rt v (j + 1) = 2 * rt v j + (rs v i 4 + v / 2 ^ i % 2) % 2 by rw [hi]; rfl)
      have HJ := Lib.hid (show (i : Int) - 1 = 7 - ((j + 1 : Nat) : Int) by omega)
      rw [ei]
      have HI := Lib.hid (show i < 8 by omega)
      have hi8 : i < 8 := by omega
      have ti : decide (0 ≤ (i : Int)) = true := by simp
      have hrt : rt v j < 256 := by omega
      clear hi ei h256 hp
      generalize rt v j = r at *
      have C1 := Lib.hid (rbit_any 99 i (by omega) hi8 w)
      go_wp2_with fail
      refine C1.out.mono ?_
      rintro e w' ⟨rfl, rfl⟩
      go_wp2
      go_loop [5, 6] (fun n k => ∃ m : Nat, m ≤ 4 ∧ n = .int .i64 (rs v i m : Nat) ∧ k = .int .i64 ((m + 4 : Nat) : Int)) (fun _ k => (8 - intOf k).toNat)
      case atStart => exact ⟨0, by omega, rfl, rfl⟩
      case round =>
        obtain ⟨m, hm, rfl, rfl⟩ := hrel
        have hrs := rs_le v i m
        by_cases hm4 : m < 4
        · have tm : decide (((m + 4 : Nat) : Int) < 8) = true := by simp; omega
          have C2 := rbit_any v ((i + (m + 4)) % 8) hv (Nat.mod_lt _ (by omega)) w
          have em : (((i : Int) + ((m + 4 : Nat) : Int)).tmod 8) = (((i + (m + 4)) % 8 : Nat) : Int) := by
            rw [Int.tmod_eq_emod_of_nonneg (by omega)]; omega
          have HR := Lib.hid (show rs v i (m + 1) = rs v i m + v / 2 ^ ((i + (m + 4)) % 8) % 2 from rfl)
          have hb2 : v / 2 ^ ((i + (m + 4)) % 8) % 2 < 2 := Nat.mod_lt _ (by omega)
          generalize v / 2 ^ ((i + (m + 4)) % 8) % 2 = y at *
          generalize (i + (m + 4)) % 8 = p at *
          generalize hk : m + 4 = k at *
          generalize rs v i m = s at *
          have C2 := Lib.hid C2
          have HK := Lib.hid hk
          have hk7 : k < 8 := by omega
          clear hk hm4
          go_wp2_with fail
          refine C2.out.mono ?_
          rintro e w' ⟨rfl, rfl⟩
          go_wp2
          go_round
          case rel => exact ⟨m + 1, by have := HK.out; omega, by rw [HR.out]; go_num, by have := HK.out; subst this; go_num⟩
          case measure => simp [intOf]; omega
        · have tm : decide (((m + 4 : Nat) : Int) < 8) = false := by simp; omega
          have H4 := Lib.hid (show m = 4 by omega)
          have HS2 := HS.out
          rw [← H4.out] at HS2
          rw [H4.out] at HS2
          have C2 := rbit_any v i hv hi8 w
          have hb2 : v / 2 ^ i % 2 < 2 := Nat.mod_lt _ (by omega)
          have hrs4 := rs_le v i 4
          rw [show rs v i m = rs v i 4 by rw [H4.out]]
          have HS2 := Lib.hid HS2
          clear hrs
          generalize v / 2 ^ i % 2 = y at *
          generalize rs v i 4 = s at *
          have C2 := Lib.hid C2
          go_wp2_with fail
          refine C2.out.mono ?_
          rintro e w' ⟨rfl, rfl⟩
          go_wp2
          go_round
          case rel => exact ⟨j + 1, by omega, by rw [HS2.out]; go_num, by rw [← HJ.out]⟩
          case measure => simp [intOf]
    · obtain rfl : j = 8 := by omega
      rw [HB.out]
      go_wp2
      go_ret
      exact ⟨rfl, rfl⟩

end Go.Proofs.YtonoidhlbnbhcaaDoor
