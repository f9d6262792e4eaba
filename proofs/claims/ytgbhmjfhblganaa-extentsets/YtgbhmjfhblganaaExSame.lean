/-
  The contract of the reference's Same. Condition: the slices hold their extents.
-/
import Derived.Test.YtgbhmjfhblganaaExApart
import Derived.Deep.QuietTactic
import Derived.BigQuiet
namespace Go.Proofs.Ytgbhmjfhblganaa
open Go.RowKit Arr Ex

theorem drop_ne_of {l m : List (Int × Int)} {k : Nat} {x y : Int × Int} (h1 : l[k]? = some x) (h2 : m[k]? = some y) (h : x ≠ y) : l ≠ m := by
  rintro rfl
  rw [h1] at h2
  exact h (Option.some.inj h2)
set_option maxHeartbeats 2000000 in
theorem same_any (w : World) (A0 A1 : Option Addr) (n0 c0 n1 c1 : Nat) (l m : List (Int × Int)) (h0 : l.length = n0) (h1 : m.length = n1) (hn : n0 ≤ 1000000) (B0 B1 : Nat) (hb0 : Exts w B0 A0 l) (hb1 : Exts w B1 A1 m) :
    Calls Try.prog 16 #[.slice A0 n0 c0, .slice A1 n1 c1] w fun e w' => e = .returned (.bool (decide (l = m))) ∧ ∃ q, w' = w.drewN q := by
  have mixed : Try.prog.follows .mixedOrders = true := by kernel_rfl
  have HE0 := Lib.hid hb0
  have HE1 := Lib.hid hb1
  have HL := Lib.hid (And.intro h0 h1)
  clear hb0 hb1
  go_enter Try.func16, Try.ntmps16
  by_cases hne : n0 = n1
  · subst hne
    have t0 : decide ((n0 : Int) = (n0 : Int)) = true := by simp
    clear h0 h1
    go_wp2
    go_loopw [5] (fun i wr => ∃ (k q : Nat), k ≤ n0 ∧ i = .int .i64 k ∧ l.take k = m.take k ∧ wr = w.drewN q) (fun i _ => n0 - (intOf i).toNat)
    case atStart => exact ⟨0, 0, Nat.zero_le _, rfl, rfl, rfl⟩
    case round =>
      obtain ⟨k, q, hk, rfl, hall, rfl⟩ := hrel
      have HALL := Lib.hid hall
      clear hall
      by_cases hlt : k < n0
      · have hk0 : k < l.length := by rw [HL.out.1]; exact hlt
        have hk1 : k < m.length := by rw [HL.out.2]; exact hlt
        obtain ⟨b0, o0, x, y, rfl, _, hxy, _, q0, q1⟩ := HE0.out.at hk0
        obtain ⟨b1, o1, x', y', rfl, _, hxy', _, q2, q3⟩ := HE1.out.at hk1
        have t1 : decide ((k : Int) < (n0 : Int)) = true := by simp; omega
        have wk : IntKind.i64.wrap ((k : Int) + 1) = (k : Int) + 1 := by rw [IntKind.wrap_i64]; omega
        have d0 : (w.drewN q).cell? ⟨b0, o0 + k * 2, none⟩ = some (.int .i64 x) := q0
        have d1 : (w.drewN q).cell? ⟨b0, o0 + k * 2 + 1, none⟩ = some (.int .i64 y) := q1
        have d2 : (w.drewN q).cell? ⟨b1, o1 + k * 2, none⟩ = some (.int .i64 x') := q2
        have d3 : (w.drewN q).cell? ⟨b1, o1 + k * 2 + 1, none⟩ = some (.int .i64 y') := q3
        have HX := Lib.hid (show l[k]? = some (x, y) ∧ m[k]? = some (x', y') from ⟨by rw [List.getElem?_eq_getElem hk0, hxy], by rw [List.getElem?_eq_getElem hk1, hxy']⟩)
        have HQ := Lib.hid (show ∀ n, (w.drewN q).drewN n = w.drewN (q + n) from fun n => World.drewN_drewN w q n)
        clear q0 q1 q2 q3 hxy hxy'
        generalize w.drewN q = wq at *
        by_cases c0 : x = x'
        · by_cases c1 : y = y'
          · subst c0 c1
            have HR := Lib.hid (show l.take (k + 1) = m.take (k + 1) by rw [List.take_add_one, List.take_add_one, HX.out.1, HX.out.2, HALL.out])
            go_wp2_with fail
            go_quiet (fail)
            go_wp2
            go_roundw
            case rel => exact ⟨k + 1, q + nq, by omega, by go_num, HR.out, HQ.out nq⟩
            case measure => simp [intOf]; omega
          · have HR := Lib.hid (show decide (l = m) = false by simp only [decide_eq_false_iff_not]; exact drop_ne_of HX.out.1 HX.out.2 (by simp [c1]))
            have t3 : decide (y = y') = false := by simpa using c1
            go_wp2_with fail
            go_quiet (fail)
            go_wp2
            go_ret
            exact ⟨by rw [HR.out]; rfl, _, HQ.out nq⟩
        · have HR := Lib.hid (show decide (l = m) = false by simp only [decide_eq_false_iff_not]; exact drop_ne_of HX.out.1 HX.out.2 (by simp [c0]))
          have t3 : decide (x = x') = false := by simpa using c0
          go_wp2_with fail
          go_quiet (fail)
          go_wp2
          go_ret
          exact ⟨by rw [HR.out]; rfl, _, HQ.out nq⟩
      · obtain rfl : k = n0 := by omega
        have t1 : decide ((k : Int) < (k : Int)) = false := by simp
        have HR := Lib.hid (show decide (l = m) = true by
          have := HALL.out
          rw [List.take_of_length_le (by rw [HL.out.1]; exact Nat.le_refl _), List.take_of_length_le (by rw [HL.out.2]; exact Nat.le_refl _)] at this
          simpa using this)
        go_wp2
        go_ret
        exact ⟨by rw [HR.out]; rfl, _, rfl⟩
  · have t0 : decide ((n0 : Int) = (n1 : Int)) = false := by simp; omega
    have t1 : decide (¬ (n0 : Int) = (n1 : Int)) = true := by simp; omega
    have HR := Lib.hid (show decide (l = m) = false by simp only [decide_eq_false_iff_not]; rintro rfl; exact hne (h0.symm.trans h1))
    go_wp2
    go_ret
    exact ⟨by rw [HR.out]; rfl, 0, rfl⟩
end Go.Proofs.Ytgbhmjfhblganaa
