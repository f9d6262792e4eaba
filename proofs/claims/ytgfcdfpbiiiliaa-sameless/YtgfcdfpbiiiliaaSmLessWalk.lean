/-
  The walk of SameLess. No conditions but that both slices hold the bytes.
-/
import Derived.Test.YtgfcdfpbiiiliaaSmAwake
namespace Go.Proofs.Ytgfcdfpbiiiliaa
open Go.RowKit Sm

theorem beq_self2 (b : Bool) : (b == b) = true := by cases b <;> rfl

theorem sameLess_long1 (A : Option Addr) (n c : Nat) (A' : Option Addr) (n' c' : Nat) (w : World) (hn : 300 < n) : Calls Try.prog 4 #[.slice A n c, .slice A' n' c'] w (Tru w) := by
  have HA := Lib.hid (awake_any w)
  have h1 : decide ((300 : Int) < (n : Int)) = true := by simp; omega
  go_enter Try.func4, Try.ntmps4
  go_wp2_with fail
  refine HA.out.mono ?_
  rintro e w1 ⟨rfl, hbel⟩
  have HBEL := Lib.hid hbel; clear hbel
  go_wp2
  go_ret
  exact ⟨rfl, HBEL.out⟩
theorem sameLess_long2 (A : Option Addr) (n c : Nat) (A' : Option Addr) (n' c' : Nat) (w : World) (hn : n ≤ 300) (hn' : 300 < n') : Calls Try.prog 4 #[.slice A n c, .slice A' n' c'] w (Tru w) := by
  have HA := Lib.hid (awake_any w)
  have h1 : decide ((300 : Int) < (n : Int)) = false := by simp; omega
  have h2 : decide ((300 : Int) < (n' : Int)) = true := by simp; omega
  go_enter Try.func4, Try.ntmps4
  go_wp2_with fail
  refine HA.out.mono ?_
  rintro e w1 ⟨rfl, hbel⟩
  have HBEL := Lib.hid hbel; clear hbel
  go_wp2
  go_ret
  exact ⟨rfl, HBEL.out⟩
/-- Unlike numbers of bytes. -/
theorem sameLess_unlike (A : Option Addr) (n c : Nat) (A' : Option Addr) (n' c' : Nat) (w : World) (hn : n ≤ 300) (hn' : n' ≤ 300) (hne : n ≠ n') : Calls Try.prog 4 #[.slice A n c, .slice A' n' c'] w (Tru w) := by
  have HA := Lib.hid (awake_any w)
  have h1 : decide ((300 : Int) < (n : Int)) = false := by simp; omega
  have h2 : decide ((300 : Int) < (n' : Int)) = false := by simp; omega
  have h3 : ((n : Int) != (n' : Int)) = true := by simp; omega
  have C1 := Lib.hid (fun w => less_len A A' n n' c c' w hne)
  have C2 := Lib.hid (fun w => less_len A' A n' n c' c w (fun e => hne e.symm))
  clear hne
  go_enter Try.func4, Try.ntmps4
  go_wp2_with fail
  refine HA.out.mono ?_
  rintro e w1 ⟨rfl, hbel⟩
  have HBEL := Lib.hid hbel; clear hbel
  go_wp2_with fail
  refine (C1.out w1).mono ?_
  rintro e w2 ⟨m, rfl, rfl⟩
  go_wp2_with fail
  refine (C2.out _).mono ?_
  rintro e w2 ⟨m', rfl, rfl⟩
  go_wp2
  go_ret
  exact ⟨rfl, below_drewN HBEL.out _⟩

set_option maxHeartbeats 1000000 in
theorem sameLess_alike (bs : List Nat) (A : Option Addr) (n c : Nat) (cs : List Nat) (A' : Option Addr) (c' : Nat) (w : World) (hl : bs.length = n) (hl' : cs.length = n) (hn : n ≤ 300)
    (hb : Bys w w.heap.size A bs) (hc : Bys w w.heap.size A' cs) : Calls Try.prog 4 #[.slice A n c, .slice A' n c'] w (Tru w) := by
  have HA := Lib.hid (awake_any w)
  have HL := Lib.hid hl
  have HL' := Lib.hid hl'
  have HB := Lib.hid hb; clear hb
  have HC := Lib.hid hc; clear hc
  have h1 : decide ((300 : Int) < (n : Int)) = false := by simp; omega
  have h3 : ((n : Int) != (n : Int)) = false := by simp
  -- how the three answers go together
  have HT := Lib.hid (show (bs = cs ∧ less bs cs n = false ∧ less cs bs n = false) ∨ (bs ≠ cs ∧ less bs cs n = !less cs bs n) by
    by_cases h : bs = cs
    · exact .inl ⟨h, less_same (fun i _ => by rw [h]), less_same (fun i _ => by rw [h])⟩
    · exact .inr ⟨h, less_turn hl hl' h⟩)
  clear hl hl'
  go_enter Try.func4, Try.ntmps4
  go_wp2_with fail
  refine HA.out.mono ?_
  rintro e w1 ⟨rfl, hbel⟩
  have hb1 := HB.out.below hbel
  have hc1 := HC.out.below hbel
  have C1 := Lib.hid (less_loop A A' bs cs n c c' w1 HL.out HL'.out (by omega) _ _ hb1 hc1)
  have C2 := Lib.hid (fun m => less_loop A' A cs bs n c' c (w1.drewN m) HL'.out HL.out (by omega) _ _ (hc1.drewN m) (hb1.drewN m))
  have C3 := Lib.hid (fun m => bytes_any A A' bs cs n n c c' (w1.drewN m) HL.out HL'.out (by omega) _ _ (hb1.drewN m) (hc1.drewN m))
  have HB1 := Lib.hid hb1
  have HC1 := Lib.hid hc1
  have HBEL := Lib.hid hbel
  clear hb1 hc1 hbel HB HC HA
  go_wp2_with fail
  refine C1.out.mono ?_
  rintro e w2 ⟨m1, rfl, rfl⟩
  go_wp2_with fail
  refine (C2.out m1).mono ?_
  rintro e w2 ⟨m2, rfl, rfl⟩
  rw [World.drewN_drewN]
  clear C1 C2
  -- the last statement, whatever was drawn
  go_wp2_with fail
  go_loopw [9, 54] (fun z i wr => ∃ k m : Nat, k ≤ n ∧ i = .int .i64 k ∧ z = .bool false ∧ agree bs cs k ∧ wr = w1.drewN m) (fun _ i _ => n - (intOf i).toNat)
  case atStart => exact ⟨0, _, Nat.zero_le _, rfl, rfl, fun i hi => by omega, rfl⟩
  case round =>
    obtain ⟨k, m, hk, rfl, rfl, hag, rfl⟩ := hrel
    have HAG := Lib.hid hag; clear hag
    by_cases hlt : k < n
    · obtain ⟨b, off, rfl, _, h4⟩ := HB1.out.2 (by have := HL.out; omega)
      obtain ⟨b', off', rfl, _, h5⟩ := HC1.out.2 (by have := HL'.out; omega)
      have hc1 := h4 k (by have := HL.out; omega)
      have hc2 := h5 k (by have := HL'.out; omega)
      clear h4 h5
      by_cases he : bs.getD k 0 = cs.getD k 0
      · have HE := Lib.hid (agree_succ HAG.out he)
        have ht : (((bs.getD k 0 : Nat) : Int) != ((cs.getD k 0 : Nat) : Int)) = false := by rw [he]; simp
        clear he C3 HT
        generalize less bs cs n = l1 at *
        generalize less cs bs n = l2 at *
        generalize bs.getD k 0 = x at *
        generalize cs.getD k 0 = y at *
        go_wp2
        go_quiet (fail)
        go_wp2
        go_roundw
        case rel => exact ⟨k + 1, _, by omega, by go_num, rfl, HE.out, rfl⟩
        case measure => simp [intOf]; omega
      · have ht : (((bs.getD k 0 : Nat) : Int) != ((cs.getD k 0 : Nat) : Int)) = true := by rw [bne_iff_ne]; omega
        have hla := less_at hlt HAG.out he
        have hdi : decide (((bs.getD k 0 : Nat) : Int) < ((cs.getD k 0 : Nat) : Int)) = less bs cs n := by rw [hla, decide_eq_decide]; omega
        have hdn : decide (bs.getD k 0 < cs.getD k 0) = less bs cs n := hla.symm
        have hne : bs ≠ cs := fun e => he (by rw [e])
        have hD : decide (bs = cs) = false := by simp [hne]
        have HTU := Lib.hid (show less cs bs n = !less bs cs n by
          rcases HT.out with h | h
          · exact absurd h.1 hne
          · rw [h.2]; simp)
        clear HT hla hne he
        rw [hD] at C3
        rw [HTU.out]
        generalize less bs cs n = l1 at *
        generalize bs.getD k 0 = x at *
        generalize cs.getD k 0 = y at *
        have hl1 := beq_self2 l1
        have hl2 : (l1 != !l1) = true := by cases l1 <;> rfl
        go_wp2
        go_quiet (fail)
        go_wp2
        go_quiet (fail)
        go_wp2_with fail
        refine (C3.out _).mono ?_
        rintro e w2 ⟨rfl, rfl⟩
        go_wp2_with fail
        refine (C3.out _).mono ?_
        rintro e w2 ⟨rfl, rfl⟩
        go_wp2_with fail
        go_ret
        exact ⟨rfl, below_drewN HBEL.out _⟩
    · obtain rfl : k = n := by omega
      have hlf := less_same HAG.out
      have hlg : less cs bs k = false := less_same (fun i hi => (HAG.out i hi).symm)
      have hD : decide (bs = cs) = true := by simp [eq_of_agree (HL.out.trans HL'.out.symm) (by rw [HL.out]; exact HAG.out)]
      rw [hD] at C3
      rw [hlf, hlg]
      clear HT hlf hlg
      go_wp2_with fail
      refine (C3.out m).mono ?_
      rintro e w2 ⟨rfl, rfl⟩
      go_wp2_with fail
      go_ret
      exact ⟨rfl, below_drewN HBEL.out m⟩
/-- SAMELESS. -/
theorem sameLess_any {w : World} (bs : List Nat) (A : Option Addr) (c : Nat) (hb : Bys w w.heap.size A bs) (_ : bs.length ≤ c) (_ : A = none → c = 0) (cs : List Nat) (A' : Option Addr) (c' : Nat) (hc : Bys w w.heap.size A' cs) (_ : cs.length ≤ c') (_ : A' = none → c' = 0) :
    Calls Try.prog 4 #[.slice A bs.length c, .slice A' cs.length c'] w (Tru w) := by
  rcases Nat.lt_or_ge 300 bs.length with h | h
  · exact sameLess_long1 A _ c A' _ c' w h
  · rcases Nat.lt_or_ge 300 cs.length with h' | h'
    · exact sameLess_long2 A _ c A' _ c' w h h'
    · by_cases hne : cs.length = bs.length
      · rw [hne]
        exact sameLess_alike bs A _ c cs A' c' w rfl hne h hb hc
      · exact sameLess_unlike A _ c A' _ c' w h h' (fun e => hne e.symm)
end Go.Proofs.Ytgfcdfpbiiiliaa
