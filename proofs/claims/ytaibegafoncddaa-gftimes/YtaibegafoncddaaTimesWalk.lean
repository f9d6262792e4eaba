/-
  The walk of the law GfTimes (written by tools/gen_times.py). No conditions.
-/
import Derived.Test.YtaibegafoncddaaLawsWalk
import Derived.Test.YtaibegafoncddaaGfRef
namespace Go.Proofs.Ytaibegafoncddaa
open Go.RowKit Gf

theorem powr_pw (a n : Nat) (ha : a < 256) : powr a (n : Int) = pw a n := by
  by_cases h : a = 0
  · subst h
    unfold powr
    split
    · next h0 => obtain rfl : n = 0 := by omega
                 rfl
    · next h0 => rw [if_pos rfl, pw_of_zero n (by omega)]
  · exact powr_nat a n ha h
theorem neg_turn (n : Int) (hn : n < 0) : ∃ k : Nat, k < 255 ∧ n.tmod 255 = -(k : Int) ∧ (n % 255).toNat = if k = 0 then 0 else 255 - k := by
  have e : n.tmod 255 = if n % 255 = 0 then 0 else n % 255 - 255 := by
    rw [Int.tmod_eq_emod]
    split <;> split <;> first | omega | (simp; omega)
  refine ⟨(-(n.tmod 255)).toNat, ?_, ?_, ?_⟩
  · split at e <;> omega
  · split at e <;> omega
  · split at e <;> split <;> omega

set_option maxHeartbeats 4000000 in
set_option maxRecDepth 20000 in
theorem times_great (a b : Nat) (ha : a < 256) (hb : b < 256) (n : Int) (hn : 300 < n) (w : World) : Calls Try.prog 3 #[.int .u8 (a : Int), .int .u8 (b : Int), .int .i64 n] w (Yes w) := by
  have C0 := Lib.hid (awake_any w)
  have C1 := Lib.hid (times_any a b ha hb w)
  have C2 := Lib.hid (rtimes_any a b ha hb w)
  have C3 := Lib.hid (inverse_any a ha w)
  have C4 := Lib.hid (rinverse_any a ha w)
  have hp := T_lt a b ha
  have hv := inv_lt a ha
  have t1 : decide (n < 0) = false := by simp; omega
  have t2 : decide (300 < n) = true := by simp; omega
  generalize T a b = p at *
  generalize inv a = v at *
  go_enter Try.func3, Try.ntmps3
  go_wp2_with fail
  refine C0.out.mono ?_
  rintro e w' ⟨rfl, rfl⟩
  go_wp2_with fail
  refine C1.out.mono ?_
  rintro e w' ⟨rfl, rfl⟩
  go_wp2_with fail
  refine C2.out.mono ?_
  rintro e w' ⟨rfl, rfl⟩
  go_wp2_with fail
  refine C3.out.mono ?_
  rintro e w' ⟨rfl, rfl⟩
  go_wp2_with fail
  refine C4.out.mono ?_
  rintro e w' ⟨rfl, rfl⟩
  go_wp2
  go_ret
  exact ⟨rfl, rfl⟩

set_option maxHeartbeats 4000000 in
set_option maxRecDepth 20000 in
theorem times_up (a b : Nat) (ha : a < 256) (hb : b < 256) (n : Int) (K : Nat) (hK : n = (K : Int)) (hn : K ≤ 300) (w : World) : Calls Try.prog 3 #[.int .u8 (a : Int), .int .u8 (b : Int), .int .i64 n] w (Yes w) := by
  have C0 := Lib.hid (awake_any w)
  have C1 := Lib.hid (times_any a b ha hb w)
  have C2 := Lib.hid (rtimes_any a b ha hb w)
  have C3 := Lib.hid (inverse_any a ha w)
  have C4 := Lib.hid (rinverse_any a ha w)
  have hp := T_lt a b ha
  have hv := inv_lt a ha
  subst hK
  have t1 : decide ((K : Int) < 0) = false := by simp
  have t2 : decide (300 < (K : Int)) = false := by simp; omega
  have C5 := Lib.hid (power_is a (K : Int) (pw a K) ha (powr_pw a K ha) w)
  generalize T a b = p at *
  generalize inv a = z at *
  go_enter Try.func3, Try.ntmps3
  go_wp2_with fail
  refine C0.out.mono ?_
  rintro e w' ⟨rfl, rfl⟩
  go_wp2_with fail
  refine C1.out.mono ?_
  rintro e w' ⟨rfl, rfl⟩
  go_wp2_with fail
  refine C2.out.mono ?_
  rintro e w' ⟨rfl, rfl⟩
  go_wp2_with fail
  refine C3.out.mono ?_
  rintro e w' ⟨rfl, rfl⟩
  go_wp2_with fail
  refine C4.out.mono ?_
  rintro e w' ⟨rfl, rfl⟩
  go_wp2
  go_loop [9, 61] (fun x i => ∃ j : Nat, j ≤ K ∧ i = .int .i64 (j : Nat) ∧ x = .int .i64 (pw a j : Nat)) (fun _ i => K - (intOf i).toNat)
  case atStart => exact ⟨0, by omega, rfl, rfl⟩
  case round =>
    obtain ⟨j, hj, rfl, rfl⟩ := hrel
    by_cases hlt : j < K
    · have HC := Lib.hid (rtimes_any (pw a j) a (pw_lt a j ha) ha w)
      have HS := Lib.hid (show pw a (j + 1) = T (pw a j) a from rfl)
      generalize T (pw a j) a = y at *
      generalize pw a j = x at *
      go_wp2_with fail
      refine HC.out.mono ?_
      rintro e w' ⟨rfl, rfl⟩
      go_wp2
      go_round
      case rel => exact ⟨j + 1, by omega, by go_num, by rw [HS.out]⟩
      case measure => simp [intOf]; omega
    · obtain rfl : j = K := by omega
      have C5 := C5.out
      have hx := pw_lt a j ha
      generalize pw a j = x at *
      have C5 := Lib.hid C5
      go_wp2_with fail
      refine C5.out.mono ?_
      rintro e w' ⟨rfl, rfl⟩
      go_wp2
      go_ret
      exact ⟨rfl, rfl⟩

set_option maxHeartbeats 4000000 in
set_option maxRecDepth 20000 in
theorem times_zero (a b : Nat) (ha : a < 256) (hb : b < 256) (n : Int) (hn : n < 0) (h0 : a = 0) (K : Nat) (hk1 : K < 255) (hk : n.tmod 255 = -(K : Int)) (w : World) : Calls Try.prog 3 #[.int .u8 (a : Int), .int .u8 (b : Int), .int .i64 n] w (Yes w) := by
  have C0 := Lib.hid (awake_any w)
  have C1 := Lib.hid (times_any a b ha hb w)
  have C2 := Lib.hid (rtimes_any a b ha hb w)
  have C3 := Lib.hid (inverse_any a ha w)
  have C4 := Lib.hid (rinverse_any a ha w)
  have hp := T_lt a b ha
  have hv := inv_lt a ha
  have t1 : decide (n < 0) = true := by simp; omega
  have C5 := Lib.hid (power_is a n 0 ha (by unfold powr; rw [if_neg (by omega), if_pos h0]) w)
  have t3 : ((a : Int) == 0) = true := by simp; omega
  have t6 : ((a : Int) != 0) = false := by simp; omega
  generalize T a b = p at *
  generalize inv a = v at *
  clear h0
  go_enter Try.func3, Try.ntmps3
  go_wp2_with fail
  refine C0.out.mono ?_
  rintro e w' ⟨rfl, rfl⟩
  go_wp2_with fail
  refine C1.out.mono ?_
  rintro e w' ⟨rfl, rfl⟩
  go_wp2_with fail
  refine C2.out.mono ?_
  rintro e w' ⟨rfl, rfl⟩
  go_wp2_with fail
  refine C3.out.mono ?_
  rintro e w' ⟨rfl, rfl⟩
  go_wp2_with fail
  refine C4.out.mono ?_
  rintro e w' ⟨rfl, rfl⟩
  go_wp2_with fail
  refine C4.out.mono ?_
  rintro e w' ⟨rfl, rfl⟩
  go_wp2_with fail
  refine C5.out.mono ?_
  rintro e w' ⟨rfl, rfl⟩
  go_wp2
  go_ret
  exact ⟨rfl, rfl⟩

set_option maxHeartbeats 4000000 in
set_option maxRecDepth 20000 in
theorem times_none (a b : Nat) (ha : a < 256) (hb : b < 256) (n : Int) (hn : n < 0) (h0 : a ≠ 0) (hk : n.tmod 255 = 0) (hm : (n % 255).toNat = 0) (w : World) : Calls Try.prog 3 #[.int .u8 (a : Int), .int .u8 (b : Int), .int .i64 n] w (Yes w) := by
  have C0 := Lib.hid (awake_any w)
  have C1 := Lib.hid (times_any a b ha hb w)
  have C2 := Lib.hid (rtimes_any a b ha hb w)
  have C3 := Lib.hid (inverse_any a ha w)
  have C4 := Lib.hid (rinverse_any a ha w)
  have hp := T_lt a b ha
  have hv := inv_lt a ha
  have t1 : decide (n < 0) = true := by simp; omega
  have C5 := Lib.hid (power_is a n 1 ha (by unfold powr; rw [if_neg (by omega), if_neg h0, hm]; rfl) w)
  have t3 : ((a : Int) == 0) = false := by simp; omega
  have t6 : ((a : Int) != 0) = true := by simp; omega
  generalize T a b = p at *
  generalize inv a = v at *
  clear hm
  go_enter Try.func3, Try.ntmps3
  go_wp2_with fail
  refine C0.out.mono ?_
  rintro e w' ⟨rfl, rfl⟩
  go_wp2_with fail
  refine C1.out.mono ?_
  rintro e w' ⟨rfl, rfl⟩
  go_wp2_with fail
  refine C2.out.mono ?_
  rintro e w' ⟨rfl, rfl⟩
  go_wp2_with fail
  refine C3.out.mono ?_
  rintro e w' ⟨rfl, rfl⟩
  go_wp2_with fail
  refine C4.out.mono ?_
  rintro e w' ⟨rfl, rfl⟩
  go_wp2_with fail
  refine C4.out.mono ?_
  rintro e w' ⟨rfl, rfl⟩
  go_wp2_with fail
  refine C5.out.mono ?_
  rintro e w' ⟨rfl, rfl⟩
  go_wp2
  go_ret
  exact ⟨rfl, rfl⟩

set_option maxHeartbeats 4000000 in
set_option maxRecDepth 20000 in
theorem times_down (a b : Nat) (ha : a < 256) (hb : b < 256) (n : Int) (hn : n < 0) (h0 : a ≠ 0) (K : Nat) (hk0 : K ≠ 0) (hk1 : K < 255) (hk : n.tmod 255 = -(K : Int)) (hm : (n % 255).toNat = 255 - K) (w : World) : Calls Try.prog 3 #[.int .u8 (a : Int), .int .u8 (b : Int), .int .i64 n] w (Yes w) := by
  have C0 := Lib.hid (awake_any w)
  have C1 := Lib.hid (times_any a b ha hb w)
  have C2 := Lib.hid (rtimes_any a b ha hb w)
  have C3 := Lib.hid (inverse_any a ha w)
  have C4 := Lib.hid (rinverse_any a ha w)
  have hp := T_lt a b ha
  have hv := inv_lt a ha
  have t1 : decide (n < 0) = true := by simp; omega
  have C5 := Lib.hid (power_is a n (pw (inv a) K) ha (by unfold powr; rw [if_neg (by omega), if_neg h0, hm, pw_inv a K ha h0 (by omega) hk1]) w)
  have t3 : ((a : Int) == 0) = false := by simp; omega
  have t6 : ((a : Int) != 0) = true := by simp; omega
  have t4 : ((K : Int) == 0) = false := by simp; omega
  have t5 : decide (300 < (K : Int)) = false := by simp; omega
  generalize T a b = p at *
  generalize inv a = v at *
  clear hm
  go_enter Try.func3, Try.ntmps3
  go_wp2_with fail
  refine C0.out.mono ?_
  rintro e w' ⟨rfl, rfl⟩
  go_wp2_with fail
  refine C1.out.mono ?_
  rintro e w' ⟨rfl, rfl⟩
  go_wp2_with fail
  refine C2.out.mono ?_
  rintro e w' ⟨rfl, rfl⟩
  go_wp2_with fail
  refine C3.out.mono ?_
  rintro e w' ⟨rfl, rfl⟩
  go_wp2_with fail
  refine C4.out.mono ?_
  rintro e w' ⟨rfl, rfl⟩
  go_wp2_with fail
  refine C4.out.mono ?_
  rintro e w' ⟨rfl, rfl⟩
  go_wp2
  go_loop [9, 61] (fun x i => ∃ j : Nat, j ≤ K ∧ i = .int .i64 (j : Nat) ∧ x = .int .i64 (pw v j : Nat)) (fun _ i => K - (intOf i).toNat)
  case atStart => exact ⟨0, by omega, rfl, rfl⟩
  case round =>
    obtain ⟨j, hj, rfl, rfl⟩ := hrel
    by_cases hlt : j < K
    · have HC := Lib.hid (rtimes_any (pw v j) v (pw_lt v j hv) hv w)
      have HS := Lib.hid (show pw v (j + 1) = T (pw v j) v from rfl)
      generalize T (pw v j) v = y at *
      generalize pw v j = x at *
      go_wp2_with fail
      refine HC.out.mono ?_
      rintro e w' ⟨rfl, rfl⟩
      go_wp2
      go_round
      case rel => exact ⟨j + 1, by omega, by go_num, by rw [HS.out]⟩
      case measure => simp [intOf]; omega
    · obtain rfl : j = K := by omega
      have C5 := C5.out
      have hx := pw_lt v j hv
      generalize pw v j = x at *
      have C5 := Lib.hid C5
      go_wp2_with fail
      refine C5.out.mono ?_
      rintro e w' ⟨rfl, rfl⟩
      go_wp2
      go_ret
      exact ⟨rfl, rfl⟩

theorem times_walk (a : Nat) (ha : a < 256) (b : Nat) (hb : b < 256) (n : Int) (_ : (Lit.int .i64 n).wf = true) (w : World) :
    Calls Try.prog 3 #[.int .u8 (a : Int), .int .u8 (b : Int), .int .i64 n] w fun e w' => e = .returned (.bool true) ∧ Grown w w' := by
  have key : Calls Try.prog 3 #[.int .u8 (a : Int), .int .u8 (b : Int), .int .i64 n] w (Yes w) := by
    by_cases h1 : 300 < n
    · exact times_great a b ha hb n h1 w
    · by_cases h2 : n < 0
      · obtain ⟨k, hk1, hk, hm⟩ := neg_turn n h2
        by_cases h0 : a = 0
        · exact times_zero a b ha hb n h2 h0 k hk1 hk w
        · by_cases hk0 : k = 0
          · subst hk0; exact times_none a b ha hb n h2 h0 (by simpa using hk) (by simpa using hm) w
          · exact times_down a b ha hb n h2 h0 k hk0 hk1 hk (by rw [if_neg hk0] at hm; exact hm) w
      · exact times_up a b ha hb n n.toNat (by omega) (by omega) w
  exact key.mono fun _ _ h => ⟨h.1, h.2 ▸ Grown.refl _⟩
end Go.Proofs.Ytaibegafoncddaa
