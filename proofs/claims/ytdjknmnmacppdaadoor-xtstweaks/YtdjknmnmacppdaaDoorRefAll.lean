/-
  Contracts of the reference's products and inverses, at bytes. No conditions.
  Contracts of the reference's functions of layer 3 on numbers: bit, turned, Of. No conditions.
  Numbers and rows for the reference's Box. No conditions.
-/
import Derived.Test.YtdjknmnmacppdaaDoorBoxAll
import Derived.Test.YtdjknmnmacppdaaDoorNumAll
import Derived.Test.YtdjknmnmacppdaaDoorOwnAll
namespace Go.Proofs.YtdjknmnmacppdaaDoor
open Go.RowKit Gf

def Num (x : Nat) (w : World) (e : Ending) (w' : World) : Prop := e = .returned (.int .i64 (x : Int)) ∧ w = w'

theorem xor64 (a b : Nat) (ha : a < 32768) (hb : b < 32768) : bits .xor .i64 (a : Int) (b : Int) = ((a ^^^ b : Nat) : Int) := by
  have h : a ^^^ b < 32768 := Nat.xor_lt_two_pow (n := 15) ha hb
  show IntKind.i64.wrap ((BitVec.ofInt 64 (a : Int) ^^^ BitVec.ofInt 64 (b : Int)).toNat : Int) = _
  have e1 : (BitVec.ofInt 64 (a : Int)).toNat = a := by simp; omega
  have e2 : (BitVec.ofInt 64 (b : Int)).toNat = b := by simp; omega
  rw [BitVec.toNat_xor, e1, e2, IntKind.wrap_i64]
  omega
theorem rxor_any (a b : Nat) (ha : a < 32768) (hb : b < 32768) (w : World) : Calls Tryd.prog 55 #[.int .i64 (a : Int), .int .i64 (b : Int)] w (Num (a ^^^ b) w) := by
  have e := xor64 a b ha hb
  go_enter Tryd.func55, Tryd.ntmps55
  go_wp2
  go_ret
  exact ⟨rfl, rfl⟩

theorem red_lt {k n : Nat} (hn : n < 32768) (hk : k ≤ 6) : n ^^^ (n / 2 ^ (8 + k) % 2 * (283 * 2 ^ k)) < 32768 := by
  have h1 : 2 ^ k ≤ 2 ^ 6 := Nat.pow_le_pow_right (by omega) hk
  refine Nat.xor_lt_two_pow (n := 15) hn ?_
  rcases Nat.mod_two_eq_zero_or_one (n / 2 ^ (8 + k)) with h | h <;> simp only [h] <;> omega

theorem quo_mod2 (b s : Nat) (hb : b < 32768) : (wrap64 ((b : Int) / (s : Int))).tmod 2 = ((b / s % 2 : Nat) : Int) := by
  have h : b / s ≤ b := Nat.div_le_self b s
  have e : (b : Int) / (s : Int) = ((b / s : Nat) : Int) := by simp
  rw [e]
  generalize b / s = q at *
  have e1 : wrap64 (q : Int) = (q : Int) := by simp only [wrap64]; omega
  rw [e1, Int.tmod_eq_emod_of_nonneg (by omega)]
  omega
theorem half_pow (k : Nat) (h : 0 < k) (c : Nat) : c * 2 ^ k / 2 = c * 2 ^ (k - 1) := by
  obtain ⟨j, rfl⟩ : ∃ j, k = j + 1 := ⟨k - 1, by omega⟩
  rw [Nat.pow_succ, ← Nat.mul_assoc, Nat.mul_div_cancel _ (by omega)]
  rfl

set_option maxHeartbeats 1000000 in
theorem rtimes_any (a b : Nat) (ha : a < 256) (hb : b < 256) (w : World) : Calls Tryd.prog 43 #[.int .i64 (a : Int), .int .i64 (b : Int)] w (Num (T a b) w) := by
  have HT := Lib.hid (show red 7 (cl a b 8) = T a b from R_eq a b ha hb)
  have HL := Lib.hid (cl_lt a b 8 ha (by omega))
  generalize T a b = t at *
  go_enter Tryd.func43, Tryd.ntmps43
  go_wp2
  go_loop [5, 6, 7] (fun n s i => ∃ k : Nat, k ≤ 8 ∧ n = .int .i64 (cl a b k : Nat) ∧ s = .int .i64 (2 ^ k : Nat) ∧ i = .int .i64 (k : Nat)) (fun _ _ i => 8 - (intOf i).toNat)
  case atStart => exact ⟨0, by omega, rfl, rfl, rfl⟩
  case round =>
    obtain ⟨k, hk, rfl, rfl, rfl⟩ := hrel
    by_cases hlt : k < 8
    · have hs : 2 ^ k ≤ 2 ^ 7 := Nat.pow_le_pow_right (by omega) (by omega)
      have hs1 : 0 < 2 ^ k := Nat.two_pow_pos k
      have hS := Lib.hid (show 2 ^ (k + 1) = 2 ^ k * 2 from Nat.pow_succ 2 k)
      have hC := Lib.hid (show cl a b (k + 1) = cl a b k ^^^ (b / 2 ^ k % 2 * (a * 2 ^ k)) from rfl)
      have hc := cl_lt a b k ha (by omega)
      have hm : a * 2 ^ k ≤ 255 * 2 ^ 7 := Nat.mul_le_mul (by omega) hs
      have hq := quo_mod2 b (2 ^ k) (by omega)
      generalize cl a b k = x at *
      generalize 2 ^ k = s at *
      have s0 : ((s : Int) == 0) = false := by simp; omega
      rcases Nat.mod_two_eq_zero_or_one (b / s) with h2 | h2
      · rw [h2] at hq
        have H2 := Lib.hid h2; clear h2
        go_wp2
        go_round
        case rel => exact ⟨k + 1, by omega, by rw [hC.out, H2.out, Nat.zero_mul, Nat.xor_zero], by rw [hS.out]; go_num, by go_num⟩
        case measure => simp [intOf]; omega
      · rw [h2] at hq
        have H2 := Lib.hid h2; clear h2
        have HX := rxor_any x (a * s) hc (by omega) w
        rw [Int.natCast_mul] at HX
        have HX := Lib.hid HX
        go_wp2_with fail
        refine HX.out.mono ?_
        rintro e w' ⟨rfl, rfl⟩
        go_wp2
        go_round
        case rel => exact ⟨k + 1, by omega, by rw [hC.out, H2.out, Nat.one_mul], by rw [hS.out]; go_num, by go_num⟩
        case measure => simp [intOf]; omega
    · obtain rfl : k = 8 := by omega
      generalize cl a b 8 = x0 at *
      go_wp2
      go_loop [5, 8, 9] (fun n y p => ∃ k x : Nat, k ≤ 7 ∧ x < 32768 ∧ red k x = t ∧ n = .int .i64 (x : Nat) ∧ y = .int .i64 (283 * 2 ^ k / 2 : Nat) ∧ p = .int .i64 (128 * 2 ^ k : Nat)) (fun _ _ p => (intOf p).toNat)
      case atStart => exact ⟨7, x0, by omega, HL.out, HT.out, rfl, rfl, rfl⟩
      case round =>
        obtain ⟨k, x, hk, hx, hr, rfl, rfl, rfl⟩ := hrel
        by_cases h0 : k = 0
        · subst h0
          have HR := Lib.hid (show x = t from hr)
          clear hr
          go_wp2
          go_ret
          exact ⟨ret_int' (by rw [HR.out]), rfl⟩
        · obtain ⟨j, rfl⟩ : ∃ j, k = j + 1 := ⟨k - 1, by omega⟩
          have hp1 : 2 ^ j ≤ 2 ^ 6 := Nat.pow_le_pow_right (by omega) (by omega)
          have hp0 : 0 < 2 ^ j := Nat.two_pow_pos j
          have HR := Lib.hid (show red j (x ^^^ (x / 2 ^ (8 + j) % 2 * (283 * 2 ^ j))) = t from hr); clear hr
          have hlt := red_lt (k := j) hx (by omega)
          have e1 : 283 * 2 ^ (j + 1) / 2 = 283 * 2 ^ j := by rw [half_pow _ (by omega)]; rfl
          have e2 : 128 * 2 ^ (j + 1) = 256 * 2 ^ j := by rw [Nat.pow_succ]; omega
          have e3 : 2 ^ (8 + j) = 256 * 2 ^ j := by rw [Nat.pow_add]
          rw [e3] at HR hlt
          have hq := quo_mod2 x (256 * 2 ^ j) hx
          rw [e1, e2]
          clear e1 e2 e3
          generalize hY : 283 * 2 ^ j = Y at *
          generalize hP : 256 * 2 ^ j = P at *
          have y1 : Y ≤ 18112 := by omega
          have p1 : 256 ≤ P := by omega
          have p2 : P ≤ 16384 := by omega
          have t1 : decide (256 ≤ (P : Int)) = true := by simp; omega
          have t2 : ((P : Int) == 0) = false := by simp; omega
          have HY := Lib.hid hY
          have HP := Lib.hid (show 128 * 2 ^ j = P / 2 by omega)
          clear hY hP hp1 hp0
          rcases Nat.mod_two_eq_zero_or_one (x / P) with h2 | h2
          · rw [h2] at hq
            have H2 := Lib.hid h2; clear h2
            go_wp2
            go_round
            case rel => exact ⟨j, x, by omega, hx, by have := HR.out; rw [H2.out, Nat.zero_mul, Nat.xor_zero] at this; exact this, rfl, by rw [HY.out]; go_num, by rw [HP.out]; go_num⟩
            case measure => simp [intOf]; omega
          · rw [h2] at hq hlt
            rw [Nat.one_mul] at hlt
            have H2 := Lib.hid h2; clear h2
            have HX := Lib.hid (rxor_any x Y hx (by omega) w)
            go_wp2_with fail
            refine HX.out.mono ?_
            rintro e w' ⟨rfl, rfl⟩
            go_wp2
            go_round
            case rel => exact ⟨j, x ^^^ Y, by omega, hlt, by have := HR.out; rw [H2.out, Nat.one_mul] at this; exact this, rfl, by rw [HY.out]; go_num, by rw [HP.out]; go_num⟩
            case measure => simp [intOf]; omega

end Go.Proofs.YtdjknmnmacppdaaDoor
namespace Go.Proofs.YtdjknmnmacppdaaDoor
open Go.RowKit Gf Sb

theorem half_div (n q : Nat) : n / 2 ^ q / 2 = n / 2 ^ (q + 1) := by rw [Nat.pow_succ, Nat.div_div_eq_div_mul]

theorem rbit_any (n i : Nat) (hn : n < 256) (hi : i < 8) (w : World) : Calls Tryd.prog 58 #[.int .i64 (n : Int), .int .i64 (i : Int)] w (Num (n / 2 ^ i % 2) w) := by
  go_enter Tryd.func58, Tryd.ntmps58
  go_wp2
  go_loop [0, 5] (fun u p => ∃ q : Nat, q ≤ i ∧ u = .int .i64 (n / 2 ^ q : Nat) ∧ p = .int .i64 (q : Nat)) (fun _ p => i - (intOf p).toNat)
  case atStart => exact ⟨0, by omega, by simp, rfl⟩
  case round =>
    obtain ⟨q, hq, rfl, rfl⟩ := hrel
    have hd : n / 2 ^ q ≤ n := Nat.div_le_self _ _
    by_cases hlt : q < i
    · have HD := Lib.hid (half_div n q)
      have tq : decide ((q : Int) < (i : Int)) = true := by simp; omega
      generalize n / 2 ^ q = X at *
      go_wp2
      go_round
      case rel => exact ⟨q + 1, by omega, by rw [← HD.out]; go_num, by go_num⟩
      case measure => simp [intOf]; omega
    · have tq : decide ((q : Int) < (i : Int)) = false := by simp; omega
      have HQ := Lib.hid (show n / 2 ^ q = n / 2 ^ i by rw [show q = i by omega])
      generalize n / 2 ^ i = Y at *
      generalize n / 2 ^ q = X at *
      go_wp2
      go_ret
      exact ⟨ret_int' (by rw [← HQ.out]; go_num), rfl⟩

/-- The sum at bit i, m of the four places in. -/
def rs (v i : Nat) : Nat → Nat
  | 0 => 99 / 2 ^ i % 2
  | m + 1 => rs v i m + v / 2 ^ ((i + (m + 4)) % 8) % 2
/-- The first j bits from above. -/
def rt (v : Nat) : Nat → Nat
  | 0 => 0
  | j + 1 => 2 * rt v j + (rs v (7 - j) 4 + v / 2 ^ (7 - j) % 2) % 2
theorem rs_le (v i m : Nat) : rs v i m ≤ m + 1 := by
  induction m with
  | zero => have : 99 / 2 ^ i % 2 < 2 := Nat.mod_lt _ (by omega)
            show 99 / 2 ^ i % 2 ≤ 1; omega
  | succ m ih => have : v / 2 ^ ((i + (m + 4)) % 8) % 2 < 2 := Nat.mod_lt _ (by omega)
                 show rs v i m + v / 2 ^ ((i + (m + 4)) % 8) % 2 ≤ m + 1 + 1; omega
theorem rt_lt (v j : Nat) (hj : j ≤ 8) : rt v j < 2 ^ j := by
  induction j with
  | zero => show 0 < 1; omega
  | succ j ih =>
    have h1 := ih (by omega)
    have h2 : (rs v (7 - j) 4 + v / 2 ^ (7 - j) % 2) % 2 < 2 := Nat.mod_lt _ (by omega)
    show 2 * rt v j + _ < _
    rw [Nat.pow_succ]; omega
theorem rt_eq (v : Nat) (hv : v < 256) : rt v 8 = tb v := by
  have : ∀ v, v < 256 → rt v 8 = tb v := by decide +kernel
  exact this v hv

set_option maxHeartbeats 2000000 in
theorem rturned_any (v : Nat) (hv : v < 256) (w : World) : Calls Tryd.prog 54 #[.int .i64 (v : Int)] w (Num (tb v) w) := by
  have HB := Lib.hid (rt_eq v hv)
  generalize tb v = t at *
  go_enter Tryd.func54, Tryd.ntmps54
  go_wp2
  go_loop [3, 4, 5, 6] (fun o i _ _ => ∃ j : Nat, j ≤ 8 ∧ o = .int .i64 (rt v j : Nat) ∧ i = .int .i64 (7 - (j : Int))) (fun _ i _ _ => (intOf i + 1).toNat)
  case atStart => exact ⟨0, by omega, rfl, rfl⟩
  case round =>
    obtain ⟨j, hj, rfl, rfl⟩ := hrel
    have h256 := rt_lt v j hj
    have hp : 2 ^ j ≤ 2 ^ 8 := Nat.pow_le_pow_right (by omega) hj
    by_cases hlt : j < 8
    · obtain ⟨i, hi⟩ : ∃ i, i = 7 - j := ⟨_, rfl⟩
      have ei : (7 : Int) - (j : Int) = (i : Int) := by omega
      have HS := Lib.hid (show rt v (j + 1) = 2 * rt v j + (rs v i 4 + v / 2 ^ i % 2) % 2 by rw [hi]; rfl)
      have HJ := Lib.hid (show (i : Int) - 1 = 7 - ((j + 1 : Nat) : Int) by omega)
      rw [ei]
      have HI := Lib.hid (show i < 8 by omega)
      have hi8 : i < 8 := by omega
      have ti : decide (0 ≤ (i : Int)) = true := by simp
      have hrt : rt v j < 256 := by omega
      clear hi ei h256 hp
      generalize rt v j = r at *
      have C1 := Lib.hid (rbit_any 99 i (by omega) hi8 w)
      go_wp2_with fail
      refine C1.out.mono ?_
      rintro e w' ⟨rfl, rfl⟩
      go_wp2
      go_loop [5, 6] (fun n k => ∃ m : Nat, m ≤ 4 ∧ n = .int .i64 (rs v i m : Nat) ∧ k = .int .i64 ((m + 4 : Nat) : Int)) (fun _ k => (8 - intOf k).toNat)
      case atStart => exact ⟨0, by omega, rfl, rfl⟩
      case round =>
        obtain ⟨m, hm, rfl, rfl⟩ := hrel
        have hrs := rs_le v i m
        by_cases hm4 : m < 4
        · have tm : decide (((m + 4 : Nat) : Int) < 8) = true := by simp; omega
          have C2 := rbit_any v ((i + (m + 4)) % 8) hv (Nat.mod_lt _ (by omega)) w
          have em : (((i : Int) + ((m + 4 : Nat) : Int)).tmod 8) = (((i + (m + 4)) % 8 : Nat) : Int) := by
            rw [Int.tmod_eq_emod_of_nonneg (by omega)]; omega
          have HR := Lib.hid (show rs v i (m + 1) = rs v i m + v / 2 ^ ((i + (m + 4)) % 8) % 2 from rfl)
          have hb2 : v / 2 ^ ((i + (m + 4)) % 8) % 2 < 2 := Nat.mod_lt _ (by omega)
          generalize v / 2 ^ ((i + (m + 4)) % 8) % 2 = y at *
          generalize (i + (m + 4)) % 8 = p at *
          generalize hk : m + 4 = k at *
          generalize rs v i m = s at *
          have C2 := Lib.hid C2
          have HK := Lib.hid hk
          have hk7 : k < 8 := by omega
          clear hk hm4
          go_wp2_with fail
          refine C2.out.mono ?_
          rintro e w' ⟨rfl, rfl⟩
          go_wp2
          go_round
          case rel => exact ⟨m + 1, by have := HK.out; omega, by rw [HR.out]; go_num, by have := HK.out; subst this; go_num⟩
          case measure => simp [intOf]; omega
        · have tm : decide (((m + 4 : Nat) : Int) < 8) = false := by simp; omega
          have H4 := Lib.hid (show m = 4 by omega)
          have HS2 := HS.out
          rw [← H4.out] at HS2
          rw [H4.out] at HS2
          have C2 := rbit_any v i hv hi8 w
          have hb2 : v / 2 ^ i % 2 < 2 := Nat.mod_lt _ (by omega)
          have hrs4 := rs_le v i 4
          rw [show rs v i m = rs v i 4 by rw [H4.out]]
          have HS2 := Lib.hid HS2
          clear hrs
          generalize v / 2 ^ i % 2 = y at *
          generalize rs v i 4 = s at *
          have C2 := Lib.hid C2
          go_wp2_with fail
          refine C2.out.mono ?_
          rintro e w' ⟨rfl, rfl⟩
          go_wp2
          go_round
          case rel => exact ⟨j + 1, by omega, by rw [HS2.out]; go_num, by rw [← HJ.out]⟩
          case measure => simp [intOf]
    · obtain rfl : j = 8 := by omega
      rw [HB.out]
      go_wp2
      go_ret
      exact ⟨rfl, rfl⟩

end Go.Proofs.YtdjknmnmacppdaaDoor
namespace Go.Proofs.YtdjknmnmacppdaaDoor
open Go.RowKit Arr Gf Sb

/-- The powers of 3. -/
def pwL : List Nat := [1, 3, 5, 15, 17, 51, 85, 255, 26, 46, 114, 150, 161, 248, 19, 53, 95, 225, 56, 72, 216, 115, 149, 164, 247, 2, 6, 10, 30, 34, 102, 170, 229, 52, 92, 228, 55, 89, 235, 38, 106, 190, 217, 112, 144, 171, 230, 49, 83, 245, 4, 12, 20, 60, 68, 204, 79, 209, 104, 184, 211, 110, 178, 205, 76, 212, 103, 169, 224, 59, 77, 215, 98, 166, 241, 8, 24, 40, 120, 136, 131, 158, 185, 208, 107, 189, 220, 127, 129, 152, 179, 206, 73, 219, 118, 154, 181, 196, 87, 249, 16, 48, 80, 240, 11, 29, 39, 105, 187, 214, 97, 163, 254, 25, 43, 125, 135, 146, 173, 236, 47, 113, 147, 174, 233, 32, 96, 160, 251, 22, 58, 78, 210, 109, 183, 194, 93, 231, 50, 86, 250, 21, 63, 65, 195, 94, 226, 61, 71, 201, 64, 192, 91, 237, 44, 116, 156, 191, 218, 117, 159, 186, 213, 100, 172, 239, 42, 126, 130, 157, 188, 223, 122, 142, 137, 128, 155, 182, 193, 88, 232, 35, 101, 175, 234, 37, 111, 177, 200, 67, 197, 84, 252, 31, 33, 99, 165, 244, 7, 9, 27, 45, 119, 153, 176, 203, 70, 202, 69, 207, 74, 222, 121, 139, 134, 145, 168, 227, 62, 66, 198, 81, 243, 14, 18, 54, 90, 238, 41, 123, 141, 140, 143, 138, 133, 148, 167, 242, 13, 23, 57, 75, 221, 124, 132, 151, 162, 253, 28, 36, 108, 180, 199, 82, 246]
theorem pwL_len : pwL.length = 255 := by decide +kernel
theorem pwL_next (j : Nat) (hj : j < 254) : T (pwL.getD j 0) 3 = pwL.getD (j + 1) 0 := by
  have : ∀ j, j < 254 → T (pwL.getD j 0) 3 = pwL.getD (j + 1) 0 := by decide +kernel
  exact this j hj
theorem pwL_lt (j : Nat) : pwL.getD j 0 < 256 := by
  by_cases h : j < 255
  · have : ∀ j, j < 255 → pwL.getD j 0 < 256 := by decide +kernel
    exact this j h
  · rw [List.getD_eq_getElem?_getD, List.getElem?_eq_none (by rw [pwL_len]; omega)]; decide
theorem pwL_more (j : Nat) (hj : j < 254) : pwL.take (j + 1 + 1) = pwL.take (j + 1) ++ [pwL.getD (j + 1) 0] := Sw.take_more pwL (j + 1) (by rw [pwL_len]; omega)
theorem take_getD (l : List Nat) (j : Nat) : (l.take (j + 1)).getD j 0 = l.getD j 0 := by
  rw [List.getD_eq_getElem?_getD, List.getD_eq_getElem?_getD, List.getElem?_take, if_pos (by omega)]
/-- What n rounds more make of the row. -/
def fillR : Nat → Nat → List Nat → List Nat
  | 0, _, l => l
  | n + 1, k, l => fillR n (k + 1) (l.set (pwL.getD k 0) (tb (pwL.getD ((255 - k) % 255) 0)))
theorem fillR_all : fillR 255 0 box0 = boxL := by decide +kernel
theorem tb_zero : tb 0 = 99 := by decide +kernel
theorem made_zs : (madeCells (Value.int .i64 0).cells (256 * 1)).toList = vals .i64 (zs 256) := by kernel_rfl
theorem one_owns1 (w : World) : (w.alloc (.cells #[.int .i64 1] 3)).ownsRow w.heap.size 3 1 (.slice (some ⟨w.heap.size, 0, none⟩) 1 1) 1 (vals .i64 (pwL.take 1)) :=
  ⟨rfl, .inr ⟨w.heap.size, 1, #[.int .i64 1], rfl, Nat.le_refl _, heap_alloc_new w _, Nat.le_refl _, by unfold maxLen; omega, rfl, rfl⟩⟩
theorem info_int : (Tryd.prog.info? 3).map (fun i => (i.zero, i.size, i.bytes)) = some (some (.int .i64 0), 1, 8) := by kernel_rfl

end Go.Proofs.YtdjknmnmacppdaaDoor
