/-
  The walk of SameBytes. No conditions but that both slices hold the bytes.
-/
import Derived.Test.YtgfcdfpbiiiliaaSmAwake
namespace Go.Proofs.Ytgfcdfpbiiiliaa
open Go.RowKit Sm

theorem beq_self' (b : Bool) : (b == b) = true := by cases b <;> rfl

set_option maxHeartbeats 1000000 in
theorem sameBytes_small (bs : List Nat) (A : Option Addr) (n c : Nat) (cs : List Nat) (A' : Option Addr) (n' c' : Nat) (w : World) (hl : bs.length = n) (hl' : cs.length = n') (hn : n ≤ 300) (hn' : n' ≤ 300)
    (hb : Bys w w.heap.size A bs) (hc : Bys w w.heap.size A' cs) : Calls Try.prog 3 #[.slice A n c, .slice A' n' c'] w (Tru w) := by
  have HA := Lib.hid (awake_any w)
  have HL := Lib.hid hl; clear hl
  have HL' := Lib.hid hl'; clear hl'
  have HB := Lib.hid hb; clear hb
  have HC := Lib.hid hc; clear hc
  have h1 : decide ((300 : Int) < (n : Int)) = false := by simp; omega
  have h2 : decide ((300 : Int) < (n' : Int)) = false := by simp; omega
  go_enter Try.func3, Try.ntmps3
  go_wp2_with fail
  refine HA.out.mono ?_
  rintro e w1 ⟨rfl, hbel⟩
  have hb1 := HB.out.below hbel
  have hc1 := HC.out.below hbel
  have C1 := Lib.hid (bytes_any A A' bs cs n n' c c' w1 HL.out HL'.out (by omega) _ _ hb1 hc1)
  have C2 := Lib.hid (same_any A A' bs cs n n' c c' w1 HL.out HL'.out (by omega) _ _ hb1 hc1)
  have C3 := Lib.hid (fun m => bytes_any A A bs bs n n c c (w1.drewN m) HL.out HL.out (by omega) _ _ (hb1.drewN m) (hb1.drewN m))
  have C4 := Lib.hid (fun m => zero_any A bs n c (w1.drewN m) HL.out (by omega) _ (hb1.drewN m))
  have C5 := Lib.hid (fun m => steps_any A A' bs cs n n' c c' (w1.drewN m) HL.out HL'.out (by omega) _ _ (hb1.drewN m) (hc1.drewN m))
  have HB1 := Lib.hid hb1
  have HBEL := Lib.hid hbel
  clear hb1 hc1 hbel HB HC HA
  go_wp2_with fail
  go_loop [5, 21] (fun z i => ∃ k : Nat, k ≤ n ∧ i = .int .i64 k ∧ z = .bool (zer bs k)) (fun _ i => n - (intOf i).toNat)
  case atStart => exact ⟨0, Nat.zero_le _, rfl, rfl⟩
  case round =>
    obtain ⟨k, hk, rfl, rfl⟩ := hrel
    by_cases hlt : k < n
    · obtain ⟨b, off, rfl, _, h3⟩ := HB1.out.2 (by have := HL.out; omega)
      have hc1 := h3 k (by have := HL.out; omega)
      clear h3
      have HE := Lib.hid (show zer bs (k + 1) = (zer bs k && (bs.getD k 0 == 0)) from rfl)
      have HZ := Lib.hid (show (((bs.getD k 0 : Nat) : Int) == 0) = (bs.getD k 0 == 0) by rw [Bool.eq_iff_iff]; simp only [beq_iff_eq]; omega)
      generalize bs.getD k 0 = x at *
      clear C1 C2 C3 C4 C5
      cases hz : zer bs k
      · go_wp2
        go_round
        case rel => exact ⟨k + 1, by omega, by go_num, by rw [HE.out, hz]; rfl⟩
        case measure => simp [intOf]; omega
      · go_wp2
        go_round
        case rel => exact ⟨k + 1, by omega, by go_num, by rw [HE.out, hz, ← HZ.out]; rfl⟩
        case measure => simp [intOf]; omega
    · obtain rfl : k = n := by omega
      clear HB1
      by_cases hnn : k = n'
      · have hq : ((k : Int) == (n' : Int)) = true := by simp; omega
        have HS := Lib.hid (show (if k = n' then k else 0) = k from if_pos hnn)
        clear hnn
        generalize decide (bs = cs) = D at *
        generalize zer bs k = Z at *
        go_wp2_with fail
        refine C1.out.mono ?_
        rintro e w2 ⟨rfl, rfl⟩
        go_wp2_with fail
        refine C2.out.mono ?_
        rintro e w2 ⟨m, rfl, rfl⟩
        have hD := beq_self' D
        have hZ := beq_self' Z
        go_wp2_with fail
        refine (C3.out m).mono ?_
        rintro e w2 ⟨rfl, rfl⟩
        go_wp2_with fail
        refine (C4.out m).mono ?_
        rintro e w2 ⟨rfl, rfl⟩
        go_wp2_with fail
        refine (C5.out m).mono ?_
        rintro e w2 ⟨rfl, rfl⟩
        rw [HS.out]
        go_wp2
        go_ret
        exact ⟨rfl, below_drewN HBEL.out m⟩
      · have hq : ((k : Int) == (n' : Int)) = false := by simp; omega
        have HS := Lib.hid (show (if k = n' then k else 0) = 0 from if_neg hnn)
        clear hnn
        generalize decide (bs = cs) = D at *
        generalize zer bs k = Z at *
        go_wp2_with fail
        refine C1.out.mono ?_
        rintro e w2 ⟨rfl, rfl⟩
        go_wp2_with fail
        refine C2.out.mono ?_
        rintro e w2 ⟨m, rfl, rfl⟩
        have hD := beq_self' D
        have hZ := beq_self' Z
        go_wp2_with fail
        refine (C3.out m).mono ?_
        rintro e w2 ⟨rfl, rfl⟩
        go_wp2_with fail
        refine (C4.out m).mono ?_
        rintro e w2 ⟨rfl, rfl⟩
        go_wp2_with fail
        refine (C5.out m).mono ?_
        rintro e w2 ⟨rfl, rfl⟩
        rw [HS.out]
        go_wp2
        go_ret
        exact ⟨rfl, below_drewN HBEL.out m⟩

theorem sameBytes_long1 (A : Option Addr) (n c : Nat) (A' : Option Addr) (n' c' : Nat) (w : World) (hn : 300 < n) : Calls Try.prog 3 #[.slice A n c, .slice A' n' c'] w (Tru w) := by
  have HA := Lib.hid (awake_any w)
  have h1 : decide ((300 : Int) < (n : Int)) = true := by simp; omega
  go_enter Try.func3, Try.ntmps3
  go_wp2_with fail
  refine HA.out.mono ?_
  rintro e w1 ⟨rfl, hbel⟩
  have HBEL := Lib.hid hbel; clear hbel
  go_wp2
  go_ret
  exact ⟨rfl, HBEL.out⟩
theorem sameBytes_long2 (A : Option Addr) (n c : Nat) (A' : Option Addr) (n' c' : Nat) (w : World) (hn : n ≤ 300) (hn' : 300 < n') : Calls Try.prog 3 #[.slice A n c, .slice A' n' c'] w (Tru w) := by
  have HA := Lib.hid (awake_any w)
  have h1 : decide ((300 : Int) < (n : Int)) = false := by simp; omega
  have h2 : decide ((300 : Int) < (n' : Int)) = true := by simp; omega
  go_enter Try.func3, Try.ntmps3
  go_wp2_with fail
  refine HA.out.mono ?_
  rintro e w1 ⟨rfl, hbel⟩
  have HBEL := Lib.hid hbel; clear hbel
  go_wp2
  go_ret
  exact ⟨rfl, HBEL.out⟩
/-- SAMEBYTES. -/
theorem sameBytes_any {w : World} (bs : List Nat) (A : Option Addr) (c : Nat) (hb : Bys w w.heap.size A bs) (_ : bs.length ≤ c) (_ : A = none → c = 0) (cs : List Nat) (A' : Option Addr) (c' : Nat) (hc : Bys w w.heap.size A' cs) (_ : cs.length ≤ c') (_ : A' = none → c' = 0) :
    Calls Try.prog 3 #[.slice A bs.length c, .slice A' cs.length c'] w (Tru w) := by
  rcases Nat.lt_or_ge 300 bs.length with h | h
  · exact sameBytes_long1 A _ c A' _ c' w h
  · rcases Nat.lt_or_ge 300 cs.length with h' | h'
    · exact sameBytes_long2 A _ c A' _ c' w h h'
    · exact sameBytes_small bs A _ c cs A' _ c' w rfl rfl h h' hb hc
end Go.Proofs.Ytgfcdfpbiiiliaa
