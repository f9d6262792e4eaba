/-
  Contract of the reference's above. Conditions: the digits lie in their row.
-/
import Derived.Test.YtjcpnephgbehmaaDoorRootFns
namespace Go.Proofs.YtjcpnephgbehmaaDoor
open Go.RowKit Arr Sh Ro

theorem any_drop {a : List Nat} {e j : Nat} (hj : e < j) (h : 0 < a.getD j 0) : (a.drop (e + 1)).any (0 < ·) = true := by
  rw [List.any_eq_true]
  have hl : j < a.length := by
    rcases Nat.lt_or_ge j a.length with h1 | h1
    · exact h1
    · rw [List.getD_eq_getElem?_getD, List.getElem?_eq_none h1] at h; simp at h
  refine ⟨a.getD j 0, ?_, by simpa using h⟩
  have : (a.drop (e + 1))[j - (e + 1)]? = some (a.getD j 0) := by
    rw [List.getElem?_drop, show e + 1 + (j - (e + 1)) = j by omega]
    simp [hl]
  exact List.mem_of_getElem? this
theorem any_drop_none {a : List Nat} {e : Nat} (h : ∀ j, e < j → a.getD j 0 = 0) : (a.drop (e + 1)).any (0 < ·) = false := by
  rw [List.any_eq_false]
  intro x hx
  obtain ⟨j, hj⟩ := List.getElem?_of_mem hx
  rw [List.getElem?_drop] at hj
  have := h (e + 1 + j) (by omega)
  rw [List.getD_eq_getElem?_getD, hj] at this
  simp at this
  simp [this]
theorem any_take {a : List Nat} {e j : Nat} (hj : j < e) (h : 0 < a.getD j 0) : (a.take e).any (0 < ·) = true := by
  rw [List.any_eq_true]
  have hl : j < a.length := by
    rcases Nat.lt_or_ge j a.length with h1 | h1
    · exact h1
    · rw [List.getD_eq_getElem?_getD, List.getElem?_eq_none h1] at h; simp at h
  refine ⟨a.getD j 0, ?_, by simpa using h⟩
  have : (a.take e)[j]? = some (a.getD j 0) := by
    rw [List.getElem?_take, if_pos hj]; simp [hl]
  exact List.mem_of_getElem? this
theorem any_take_none {a : List Nat} {e : Nat} (h : ∀ j, j < e → a.getD j 0 = 0) : (a.take e).any (0 < ·) = false := by
  rw [List.any_eq_false]
  intro x hx
  obtain ⟨j, hj⟩ := List.getElem?_of_mem hx
  rw [List.getElem?_take] at hj
  by_cases hje : j < e
  · rw [if_pos hje] at hj
    have := h j hje
    rw [List.getD_eq_getElem?_getD, hj] at this
    simp at this
    simp [this]
  · rw [if_neg hje] at hj; cases hj

set_option maxHeartbeats 2000000 in
theorem above_any (a : List Nat) (n : Nat) (hn : a.length = n) (h0 : 0 < n) (h1 : n ≤ 100) (p e : Nat) (he : e < 100) (ha : Dg a) (g c : Nat) (w : World) (hA : TabI w g a) :
    Calls Tryd.prog 31 #[.slice (some ⟨g, 0, none⟩) n c, .int .i64 (p : Int), .int .i64 (e : Int)] w fun en w' => en = .returned (.bool (aboveL a p e)) ∧ w = w' := by
  have HA := Lib.hid hA
  have HN := Lib.hid hn
  have HD := Lib.hid ha
  have HL : Go.RowKit.Hid (aboveL a p e = ((a.drop (e + 1)).any (0 < ·) || (decide (e < a.length) && !decide (a.getD e 0 < p) && (decide (p < a.getD e 0) || (a.take e).any (0 < ·))))) := Lib.hid rfl
  have HZ0 : Go.RowKit.Hid (∀ j, n - 1 < j → a.getD j 0 = 0) := Lib.hid (fun j hj => by rw [List.getD_eq_getElem?_getD, List.getElem?_eq_none (by omega)]; rfl)
  clear hA hn ha
  generalize aboveL a p e = R at *
  have e0 : (n : Int) - 1 = ((n - 1 : Nat) : Int) := by omega
  generalize hn1 : n - 1 = n1 at *
  have hn2 : n1 < n := by omega
  clear hn1
  go_enter Tryd.func31, Tryd.ntmps31
  go_wp2_with fail
  go_loop [7] (fun i => ∃ i0 : Nat, i0 < n ∧ i = .int .i64 (i0 : Nat) ∧ ∀ j, i0 < j → a.getD j 0 = 0) (fun i => (intOf i).toNat)
  case atStart => exact ⟨n1, hn2, rfl, HZ0.out⟩
  case round =>
    clear HZ0 e0
    obtain ⟨i, hi, rfl, hz⟩ := hrel
    have HZ := Lib.hid hz
    clear hz
    by_cases hie : e < i
    · have t1 : decide ((i : Int) > (e : Int)) = true := by simp; omega
      have t1' : decide ((e : Int) < (i : Int)) = true := by simp; omega
      have ii : (i : Int) < (n : Int) := by omega
      have ci := HA.out i (by have := HN.out; omega)
      have hdi := HD.out i
      by_cases hx : 0 < a.getD i 0
      · have hR : R = true := by rw [HL.out, any_drop hie hx]; rfl
        have HRr := Lib.hid hR
        have t2 : decide (((a.getD i 0 : Nat) : Int) > 0) = true := by simp only [gt_iff_lt, decide_eq_true_eq]; omega
        have t2' : decide (0 < ((a.getD i 0 : Nat) : Int)) = true := by simp only [decide_eq_true_eq]; omega
        clear hR
        generalize a.getD i 0 = x at *
        go_wp2
        go_ret
        exact ⟨ret_bool HRr.out.symm, rfl⟩
      · have hx0 : a.getD i 0 = 0 := by omega
        have HZ' : Go.RowKit.Hid (∀ j, i - 1 < j → a.getD j 0 = 0) := Lib.hid (fun j hj => by
          by_cases h : j = i
          · rw [h]; exact hx0
          · exact HZ.out j (by omega))
        rw [hx0] at ci
        have em : (i : Int) - 1 = ((i - 1 : Nat) : Int) := by omega
        generalize hi1 : i - 1 = i1 at *
        have hi2 : i1 < i := by omega
        clear hi1 hx hx0 hdi HZ
        go_wp2
        go_round
        case rel => exact ⟨i1, by omega, rfl, HZ'.out⟩
        case measure => simp [intOf]; omega
    · have t1 : decide ((i : Int) > (e : Int)) = false := by simp; omega
      have t1' : decide ((e : Int) < (i : Int)) = false := by simp; omega
      have hA1 := any_drop_none (a := a) (e := e) (fun j hj => HZ.out j (by omega))
      have hR1 : R = (decide (e < a.length) && !decide (a.getD e 0 < p) && (decide (p < a.getD e 0) || (a.take e).any (0 < ·))) := by rw [HL.out, hA1]; rfl
      by_cases hen : n ≤ e
      · have hR : R = false := by rw [hR1, decide_eq_false (by have := HN.out; omega)]; rfl
        have HRr := Lib.hid hR
        have t2 : decide ((e : Int) ≥ (n : Int)) = true := by simp; omega
        have t2' : decide ((n : Int) ≤ (e : Int)) = true := by simp; omega
        clear hR hR1 hA1 HZ
        go_wp2
        go_ret
        exact ⟨ret_bool HRr.out.symm, rfl⟩
      · have t2 : decide ((e : Int) ≥ (n : Int)) = false := by simp; omega
        have t2' : decide ((n : Int) ≤ (e : Int)) = false := by simp; omega
        have ie : (e : Int) < (n : Int) := by omega
        have ce := HA.out e (by have := HN.out; omega)
        have hde := HD.out e
        rw [decide_eq_true (show e < a.length by have := HN.out; omega), Bool.true_and] at hR1
        clear hA1 HZ HL
        by_cases h3 : a.getD e 0 < p
        · have hR : R = false := by rw [hR1, decide_eq_true h3]; rfl
          have HRr := Lib.hid hR
          have t3 : decide (((a.getD e 0 : Nat) : Int) < (p : Int)) = true := by simp only [decide_eq_true_eq]; omega
          clear hR hR1
          generalize a.getD e 0 = x at *
          go_wp2
          go_ret
          exact ⟨ret_bool HRr.out.symm, rfl⟩
        · have t3 : decide (((a.getD e 0 : Nat) : Int) < (p : Int)) = false := by simp only [decide_eq_false_iff_not]; omega
          rw [decide_eq_false h3] at hR1
          by_cases h4 : p < a.getD e 0
          · have hR : R = true := by rw [hR1, decide_eq_true h4]; rfl
            have HRr := Lib.hid hR
            have t4 : decide (((a.getD e 0 : Nat) : Int) > (p : Int)) = true := by simp only [gt_iff_lt, decide_eq_true_eq]; omega
            have t4' : decide ((p : Int) < ((a.getD e 0 : Nat) : Int)) = true := by simp only [decide_eq_true_eq]; omega
            clear hR hR1
            generalize a.getD e 0 = x at *
            go_wp2
            go_ret
            exact ⟨ret_bool HRr.out.symm, rfl⟩
          · have t4 : decide (((a.getD e 0 : Nat) : Int) > (p : Int)) = false := by simp only [gt_iff_lt, decide_eq_false_iff_not]; omega
            have t4' : decide ((p : Int) < ((a.getD e 0 : Nat) : Int)) = false := by simp only [decide_eq_false_iff_not]; omega
            rw [decide_eq_false h4] at hR1
            have HR1 := Lib.hid (show R = (a.take e).any (0 < ·) by rw [hR1]; simp)
            clear hR1
            generalize a.getD e 0 = x at *
            go_wp2_with fail
            go_loop [8] (fun i => ∃ i0 : Nat, i0 ≤ e ∧ i = .int .i64 (i0 : Nat) ∧ ∀ j, j < i0 → a.getD j 0 = 0) (fun i => e - (intOf i).toNat)
            case atStart => exact ⟨0, by omega, rfl, fun j hj => by omega⟩
            case round =>
              clear ce
              obtain ⟨k, hk, rfl, hz⟩ := hrel
              have HZ := Lib.hid hz
              clear hz
              by_cases hke : k < e
              · have t5 : decide ((k : Int) < (e : Int)) = true := by simp; omega
                have ik : (k : Int) < (n : Int) := by omega
                have ck := HA.out k (by have := HN.out; omega)
                by_cases hx : 0 < a.getD k 0
                · have hR : R = true := by rw [HR1.out, any_take hke hx]
                  have HRr := Lib.hid hR
                  have t6 : decide (((a.getD k 0 : Nat) : Int) > 0) = true := by simp only [gt_iff_lt, decide_eq_true_eq]; omega
                  have t6' : decide (0 < ((a.getD k 0 : Nat) : Int)) = true := by simp only [decide_eq_true_eq]; omega
                  clear hR
                  generalize a.getD k 0 = y at *
                  go_wp2
                  go_ret
                  exact ⟨ret_bool HRr.out.symm, rfl⟩
                · have hx0 : a.getD k 0 = 0 := by omega
                  have HZ' : Go.RowKit.Hid (∀ j, j < k + 1 → a.getD j 0 = 0) := Lib.hid (fun j hj => by
                    by_cases h : j = k
                    · rw [h]; exact hx0
                    · exact HZ.out j (by omega))
                  rw [hx0] at ck
                  clear hx hx0 HZ
                  go_wp2
                  go_round
                  case rel => exact ⟨k + 1, by omega, by go_num, HZ'.out⟩
                  case measure => simp [intOf]; omega
              · obtain rfl : k = e := by omega
                have t5 : decide ((k : Int) < (k : Int)) = false := by simp
                have HRr := Lib.hid (show R = false by rw [HR1.out, any_take_none (fun j hj => HZ.out j hj)])
                go_wp2
                go_ret
                exact ⟨ret_bool HRr.out.symm, rfl⟩
end Go.Proofs.YtjcpnephgbehmaaDoor
