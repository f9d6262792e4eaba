/-
  Contracts of wrap's small functions: pieces, steps, place, Size. No conditions.
-/
import Derived.Test.YtonoidhlbnbhcaaDoorWrNum
import Derived.Test.YtonoidhlbnbhcaaDoorW32
import Derived.Test.YtonoidhlbnbhcaaDoorAesDec
namespace Go.Proofs.YtonoidhlbnbhcaaDoor
open Go.RowKit Arr Gf Sb Ae Wr

theorem pieces_any (A : Option Addr) (N c n : Nat) (hN : N = 8 * (n + 1)) (hn : n ≤ 8) (w : World) : Calls Tryd.prog 54 #[.slice A N c] w fun e w' => e = .returned (.int .i64 (n : Int)) ∧ w = w' := by
  have h1 : (N : Int).tdiv 8 = (n : Int) + 1 := by rw [Int.tdiv_eq_ediv_of_nonneg (by omega)]; omega
  have h2 : (N : Int) / 8 = (n : Int) + 1 := by omega
  have h3 : IntKind.i64.wrap ((n : Int) + 1) = (n : Int) + 1 := by rw [IntKind.wrap_i64]; omega
  have h4 : IntKind.i64.wrap (n : Int) = (n : Int) := wrap_nat n (by omega)
  have h5 : (n : Int) + 1 - 1 = (n : Int) := by omega
  clear hN
  go_enter Tryd.func54, Tryd.ntmps54
  go_wp2
  go_ret
  exact ⟨ret_int (by first | rfl | omega), rfl⟩
theorem steps_any (A : Option Addr) (N c n : Nat) (hN : N = 8 * (n + 1)) (hn : n ≤ 8) (w : World) : Calls Tryd.prog 32 #[.slice A N c] w fun e w' => e = .returned (.int .i64 ((6 * n : Nat) : Int)) ∧ w = w' := by
  have C := Lib.hid (pieces_any A N c n hN hn w)
  have h3 : IntKind.i64.wrap (6 * (n : Int)) = 6 * (n : Int) := by rw [IntKind.wrap_i64]; omega
  clear hN
  go_enter Tryd.func32, Tryd.ntmps32
  go_wp2_with fail
  refine C.out.mono ?_
  rintro e w' ⟨rfl, rfl⟩
  go_wp2
  go_ret
  exact ⟨ret_int (by omega), rfl⟩
theorem place_any (A : Option Addr) (N c n t : Nat) (hN : N = 8 * (n + 1)) (hn : n ≤ 8) (hn0 : 0 < n) (ht : 1 ≤ t) (ht2 : t ≤ 100) (w : World) : Calls Tryd.prog 33 #[.slice A N c, .int .i64 (t : Int)] w fun e w' => e = .returned (.int .i64 ((pl n t : Nat) : Int)) ∧ w = w' := by
  have C := Lib.hid (pieces_any A N c n hN hn w)
  obtain ⟨u, hu⟩ : ∃ u, t = u + 1 := ⟨t - 1, by omega⟩
  subst hu
  have hm : u % n < n := Nat.mod_lt _ hn0
  have HP := Lib.hid (show pl n (u + 1) = (u % n + 1) * 8 by simp [pl])
  have e0 : (((u + 1 : Nat) : Int) - 1) = (u : Int) := by omega
  have w0 : IntKind.i64.wrap (((u + 1 : Nat) : Int) - 1) = (u : Int) := by rw [e0]; exact wrap_nat u (by omega)
  have w1 : IntKind.i64.wrap (u : Int) = (u : Int) := wrap_nat u (by omega)
  have e1 : (u : Int).tmod (n : Int) = ((u % n : Nat) : Int) := by rw [Int.tmod_eq_emod_of_nonneg (by omega)]; simp
  have e2 : (u : Int) % (n : Int) = ((u % n : Nat) : Int) := by simp
  have hz : ((n : Int) == 0) = false := by simp; omega
  have hz2 : ¬ (n : Int) = 0 := by omega
  generalize u % n = m at *
  have w2 : IntKind.i64.wrap (m : Int) = (m : Int) := wrap_nat m (by omega)
  have w3 : IntKind.i64.wrap ((m : Int) + 1) = (m : Int) + 1 := by rw [IntKind.wrap_i64]; omega
  have w4 : IntKind.i64.wrap (((m : Int) + 1) * 8) = ((m : Int) + 1) * 8 := by rw [IntKind.wrap_i64]; omega
  clear hN
  go_enter Tryd.func33, Tryd.ntmps33
  go_wp2_with fail
  refine C.out.mono ?_
  rintro e w' ⟨rfl, rfl⟩
  go_wp2
  go_ret
  exact ⟨ret_int (by rw [HP.out]; omega), rfl⟩
/-- Has a key of n bytes a wrapped one? -/
def may (n : Int) : Bool := decide (16 ≤ n) && decide (n ≤ 64) && decide (n % 8 = 0)
theorem size_any (n : Int) (w : World) : Calls Tryd.prog 9 #[.int .i64 n] w fun e w' => e = .returned (.tuple #[.int .i64 (if may n then n + 8 else 0), .bool (may n)]) ∧ w = w' := by
  by_cases h1 : n < 16
  · have hm : may n = false := by simp [may]; omega
    rw [hm]
    have t1 : decide (n < 16) = true := by simp; omega
    clear hm
    go_enter Tryd.func9, Tryd.ntmps9
    go_wp2
    go_ret2
    exact ⟨rfl, rfl⟩
  · have t1 : decide (n < 16) = false := by simp; omega
    by_cases h2 : 64 < n
    · have hm : may n = false := by simp [may]; omega
      rw [hm]
      have t2 : decide (64 < n) = true := by simp; omega
      clear hm
      go_enter Tryd.func9, Tryd.ntmps9
      go_wp2
      go_ret2
      exact ⟨rfl, rfl⟩
    · have t2 : decide (64 < n) = false := by simp; omega
      have e1 : n.tmod 8 = n % 8 := Int.tmod_eq_emod_of_nonneg (by omega)
      have w1 : IntKind.i64.wrap (n % 8) = n % 8 := by rw [IntKind.wrap_i64]; omega
      by_cases h3 : n % 8 = 0
      · have hm : may n = true := by simp [may]; omega
        rw [hm]
        have t3 : ((0 : Int) != 0) = false := rfl
        have w2 : IntKind.i64.wrap (n + 8) = n + 8 := by rw [IntKind.wrap_i64]; omega
        clear hm
        go_enter Tryd.func9, Tryd.ntmps9
        go_wp2
        go_ret2
        exact ⟨rfl, rfl⟩
      · have hm : may n = false := by simp [may, h3]
        rw [hm]
        have t3 : ((n % 8) != 0) = true := by simp; omega
        have t4 : ((n % 8) == 0) = false := by simp; omega
        have t5 : ((n.tmod 8) != 0) = true := by rw [e1]; exact t3
        clear hm
        go_enter Tryd.func9, Tryd.ntmps9
        go_wp2
        go_ret2
        exact ⟨rfl, rfl⟩
end Go.Proofs.YtonoidhlbnbhcaaDoor
