/-
  Contracts of same's functions that only read: nought, held, Bytes, Steps, Zero, Less. No conditions but that the slices hold the bytes.
-/
import Derived.Test.YtgfcdfpbiiiliaaSmNum
import Derived.WalkKit
namespace Go.Proofs.Ytgfcdfpbiiiliaa
open Go.RowKit Sm

theorem ret_bool {a b : Bool} (h : a = b) : Ending.returned (.bool a) = .returned (.bool b) := by rw [h]

theorem nought_any (n : Nat) (hn : n < 256) (w : World) : Calls Try.prog 14 #[.int .i64 (n : Int)] w fun e w' => e = .returned (.bool (decide (n = 0))) ∧ w = w' := by
  have hw : IntKind.i64.wrap ((n : Int) - 1) = (n : Int) - 1 := by rw [IntKind.wrap_i64]; omega
  have HD := Lib.hid (show (((n : Int) - 1) / 256 != 0) = decide (n = 0) by
    by_cases h : n = 0
    · subst h; rfl
    · have : ((n : Int) - 1) / 256 = 0 := by omega
      rw [this]; simp [h])
  go_enter Try.func14, Try.ntmps14
  go_wp2
  go_ret
  exact ⟨ret_bool HD.out, rfl⟩

/-- Two numbers. -/
def Two (a b : Nat) (w : World) (e : Ending) (w' : World) : Prop := e = .returned (.tuple #[.int .i64 (a : Int), .int .i64 (b : Int)]) ∧ w = w'

theorem held_len (A A' : Option Addr) (n n' c c' : Nat) (w : World) (hl : n ≠ n') : Calls Try.prog 13 #[.slice A n c, .slice A' n' c'] w (Two 1 0 w) := by
  have h1 : ((n : Int) != (n' : Int)) = true := by simp; omega
  go_enter Try.func13, Try.ntmps13
  go_wp2
  go_ret2
  exact ⟨rfl, rfl⟩

set_option maxHeartbeats 1000000 in
theorem held_loop (A A' : Option Addr) (bs cs : List Nat) (n c c' : Nat) (w : World) (hl : bs.length = n) (hl' : cs.length = n) (hn : n ≤ 1000000)
    (B B' : Nat) (hb : Bys w B A bs) (hc : Bys w B' A' cs) :
    Calls Try.prog 13 #[.slice A n c, .slice A' n c'] w (Two (dif bs cs n) n w) := by
  have HL := Lib.hid hl; clear hl
  have HL' := Lib.hid hl'; clear hl'
  have HB := Lib.hid hb; clear hb
  have HC := Lib.hid hc; clear hc
  have h1 : ((n : Int) != (n : Int)) = false := by simp
  go_enter Try.func13, Try.ntmps13
  go_wp2
  go_loop [4, 5, 15] (fun d p i => ∃ k : Nat, k ≤ n ∧ i = .int .i64 k ∧ p = .int .i64 k ∧ d = .int .i64 (dif bs cs k : Nat)) (fun _ _ i => n - (intOf i).toNat)
  case atStart => exact ⟨0, Nat.zero_le _, rfl, rfl, rfl⟩
  case round =>
    obtain ⟨k, hk, rfl, rfl, rfl⟩ := hrel
    by_cases hlt : k < n
    · obtain ⟨b, off, rfl, _, h3⟩ := HB.out.2 (by have := HL.out; omega)
      obtain ⟨b', off', rfl, _, h4⟩ := HC.out.2 (by have := HL'.out; omega)
      have hc1 := h3 k (by have := HL.out; omega)
      have hc2 := h4 k (by have := HL'.out; omega)
      have hx := u8_xor_nat _ _ (HB.out.lt k) (HC.out.lt k)
      have hd := dif_lt HB.out.lt HC.out.lt k
      have ho := i64_or _ _ hd (xor_lt (HB.out.lt k) (HC.out.lt k))
      have hxl := xor_lt (HB.out.lt k) (HC.out.lt k)
      have HE := Lib.hid (show dif bs cs (k + 1) = dif bs cs k ||| (bs.getD k 0 ^^^ cs.getD k 0) from rfl)
      clear h3 h4
      generalize bs.getD k 0 = x at *
      generalize cs.getD k 0 = y at *
      generalize x ^^^ y = z at *
      have hwz : IntKind.i64.wrap (z : Int) = z := wrap_nat z (by omega)
      generalize dif bs cs k = D at *
      go_wp2
      go_round
      case rel => exact ⟨k + 1, by omega, by go_num, by go_num, by rw [HE.out]⟩
      case measure => simp [intOf]; omega
    · obtain rfl : k = n := by omega
      go_wp2
      go_ret2
      exact ⟨rfl, rfl⟩

theorem bytes_any (A A' : Option Addr) (bs cs : List Nat) (n n' c c' : Nat) (w : World) (hl : bs.length = n) (hl' : cs.length = n') (hn : n ≤ 1000000)
    (B B' : Nat) (hb : Bys w B A bs) (hc : Bys w B' A' cs) :
    Calls Try.prog 7 #[.slice A n c, .slice A' n' c'] w fun e w' => e = .returned (.bool (decide (bs = cs))) ∧ w = w' := by
  by_cases h : n = n'
  · subst h
    have HH := Lib.hid (held_loop A A' bs cs n c c' w hl hl' hn B B' hb hc)
    have HN := Lib.hid (nought_any (dif bs cs n) (dif_lt hb.lt hc.lt n) w)
    have HD := Lib.hid (show decide (dif bs cs n = 0) = decide (bs = cs) by rw [decide_eq_decide]; exact dif_eq hl hl')
    clear hl hl' hb hc
    generalize dif bs cs n = D at *
    go_enter Try.func7, Try.ntmps7
    go_wp2_with fail
    refine HH.out.mono ?_
    rintro e w' ⟨rfl, rfl⟩
    go_wp2_with fail
    refine HN.out.mono ?_
    rintro e w' ⟨rfl, rfl⟩
    go_wp2
    go_ret
    exact ⟨ret_bool HD.out, rfl⟩
  · have HH := Lib.hid (held_len A A' n n' c c' w h)
    have HN := Lib.hid (nought_any 1 (by omega) w)
    have HD := Lib.hid (show false = decide (bs = cs) by
      have : bs ≠ cs := fun e => h (by rw [← hl, ← hl', e])
      simp [this])
    clear hl hl' hb hc h
    go_enter Try.func7, Try.ntmps7
    go_wp2_with fail
    refine HH.out.mono ?_
    rintro e w' ⟨rfl, rfl⟩
    go_wp2_with fail
    refine HN.out.mono ?_
    rintro e w' ⟨rfl, rfl⟩
    go_wp2
    go_ret
    exact ⟨ret_bool HD.out, rfl⟩

theorem steps_any (A A' : Option Addr) (bs cs : List Nat) (n n' c c' : Nat) (w : World) (hl : bs.length = n) (hl' : cs.length = n') (hn : n ≤ 1000000)
    (B B' : Nat) (hb : Bys w B A bs) (hc : Bys w B' A' cs) :
    Calls Try.prog 10 #[.slice A n c, .slice A' n' c'] w fun e w' => e = .returned (.int .i64 ((if n = n' then n else 0 : Nat) : Int)) ∧ w = w' := by
  by_cases h : n = n'
  · rw [if_pos h]
    subst h
    have HH := Lib.hid (held_loop A A' bs cs n c c' w hl hl' hn B B' hb hc)
    clear hl hl' hb hc
    generalize dif bs cs n = D at *
    go_enter Try.func10, Try.ntmps10
    go_wp2_with fail
    refine HH.out.mono ?_
    rintro e w' ⟨rfl, rfl⟩
    go_wp2
    go_ret
    exact ⟨rfl, rfl⟩
  · rw [if_neg h]
    have HH := Lib.hid (held_len A A' n n' c c' w h)
    clear hl hl' hb hc h
    go_enter Try.func10, Try.ntmps10
    go_wp2_with fail
    refine HH.out.mono ?_
    rintro e w' ⟨rfl, rfl⟩
    go_wp2
    go_ret
    exact ⟨rfl, rfl⟩

set_option maxHeartbeats 1000000 in
theorem zero_any (A : Option Addr) (bs : List Nat) (n c : Nat) (w : World) (hl : bs.length = n) (hn : n ≤ 1000000) (B : Nat) (hb : Bys w B A bs) :
    Calls Try.prog 9 #[.slice A n c] w fun e w' => e = .returned (.bool (zer bs n)) ∧ w = w' := by
  have HN := Lib.hid (nought_any (ors bs n) (ors_lt hb.lt n) w)
  have HD := Lib.hid (ors_zero bs n)
  have HL := Lib.hid hl; clear hl
  have HB := Lib.hid hb; clear hb
  go_enter Try.func9, Try.ntmps9
  go_wp2
  go_loop [3, 8] (fun d i => ∃ k : Nat, k ≤ n ∧ i = .int .i64 k ∧ d = .int .i64 (ors bs k : Nat)) (fun _ i => n - (intOf i).toNat)
  case atStart => exact ⟨0, Nat.zero_le _, rfl, rfl⟩
  case round =>
    obtain ⟨k, hk, rfl, rfl⟩ := hrel
    by_cases hlt : k < n
    · obtain ⟨b, off, rfl, _, h3⟩ := HB.out.2 (by have := HL.out; omega)
      have hc1 := h3 k (by have := HL.out; omega)
      have hxl := HB.out.lt k
      have ho := i64_or _ _ (ors_lt HB.out.lt k) hxl
      have HE := Lib.hid (show ors bs (k + 1) = ors bs k ||| bs.getD k 0 from rfl)
      clear h3
      generalize bs.getD k 0 = x at *
      have hwz : IntKind.i64.wrap (x : Int) = x := wrap_nat x (by omega)
      generalize ors bs k = D at *
      go_wp2
      go_round
      case rel => exact ⟨k + 1, by omega, by go_num, by rw [HE.out]⟩
      case measure => simp [intOf]; omega
    · obtain rfl : k = n := by omega
      generalize ors bs k = D at *
      go_wp2_with fail
      refine HN.out.mono ?_
      rintro e w' ⟨rfl, rfl⟩
      go_wp2
      go_ret
      exact ⟨ret_bool HD.out, rfl⟩

/-- A bool and an error, something drawn. -/
def BoolErr (b : Bool) (x : Nat) (w : World) (e : Ending) (w' : World) : Prop := ∃ m, e = .returned (.tuple #[.bool b, .int .i64 (x : Int)]) ∧ w' = w.drewN m

theorem less_len (A A' : Option Addr) (n n' c c' : Nat) (w : World) (hl : n ≠ n') : Calls Try.prog 11 #[.slice A n c, .slice A' n' c'] w (BoolErr false 2 w) := by
  have h1 : ((n : Int) != (n' : Int)) = true := by simp; omega
  go_enter Try.func11, Try.ntmps11
  go_wp2
  go_ret2
  exact ⟨0, rfl, rfl⟩

theorem tup_bool {a b : Bool} {v : Value} (h : a = b) : Ending.returned (.tuple #[.bool a, v]) = .returned (.tuple #[.bool b, v]) := by rw [h]

set_option maxHeartbeats 1000000 in
theorem less_loop (A A' : Option Addr) (bs cs : List Nat) (n c c' : Nat) (w : World) (hl : bs.length = n) (hl' : cs.length = n) (hn : n ≤ 1000000)
    (B B' : Nat) (hb : Bys w B A bs) (hc : Bys w B' A' cs) :
    Calls Try.prog 11 #[.slice A n c, .slice A' n c'] w (BoolErr (less bs cs n) 0 w) := by
  have HL := Lib.hid hl; clear hl
  have HL' := Lib.hid hl'; clear hl'
  have HB := Lib.hid hb; clear hb
  have HC := Lib.hid hc; clear hc
  have h1 : ((n : Int) != (n : Int)) = false := by simp
  have hw1 : IntKind.i64.wrap ((n : Int) - 1) = (n : Int) - 1 := by rw [IntKind.wrap_i64]; omega
  go_enter Try.func11, Try.ntmps11
  go_wp2
  go_loopw [6, 7] (fun d i wr => ∃ k m q : Nat, k + q = n ∧ i = .int .i64 ((k : Int) - 1) ∧ d = .int .i64 (brw (lessFrom bs cs k q)) ∧ wr = w.drewN m) (fun _ i _ => (intOf i + 1).toNat)
  case atStart => exact ⟨n, 0, 0, rfl, rfl, rfl, rfl⟩
  case round =>
    obtain ⟨k, m, q, hk, rfl, rfl, rfl⟩ := hrel
    rcases Nat.eq_zero_or_pos k with h0 | h0
    · subst h0
      have h2 : decide ((0 : Int) ≤ ((0 : Nat) : Int) - 1) = false := by decide
      have HQ := Lib.hid (show (brw (lessFrom bs cs 0 q) != 0) = less bs cs n by rw [brw_ne]; unfold less; congr 1; omega)
      generalize brw (lessFrom bs cs 0 q) = D at *
      go_wp2
      go_ret2
      exact ⟨_, tup_bool HQ.out, rfl⟩
    · obtain ⟨j, rfl⟩ : ∃ j, k = j + 1 := ⟨k - 1, by omega⟩
      have ek : (((j + 1 : Nat) : Int) - 1) = (j : Int) := by omega
      rw [ek]
      obtain ⟨b, off, rfl, _, h3⟩ := HB.out.2 (by have := HL.out; omega)
      obtain ⟨b', off', rfl, _, h4⟩ := HC.out.2 (by have := HL'.out; omega)
      have hc1 := h3 j (by have := HL.out; omega)
      have hc2 := h4 j (by have := HL'.out; omega)
      have hbj := HB.out.lt j
      have hcj := HC.out.lt j
      have HE := Lib.hid (brw_step bs cs j q hbj hcj)
      have hbd := brw_bound (lessFrom bs cs (j + 1) q)
      clear h3 h4
      generalize bs.getD j 0 = x at *
      generalize cs.getD j 0 = y at *
      generalize brw (lessFrom bs cs (j + 1) q) = D at *
      have hwx : IntKind.i64.wrap (x : Int) = x := wrap_nat x (by omega)
      have hwy : IntKind.i64.wrap (y : Int) = y := wrap_nat y (by omega)
      have hw2 : IntKind.i64.wrap ((x : Int) - (y : Int)) = (x : Int) - (y : Int) := by rw [IntKind.wrap_i64]; omega
      have hw3 : IntKind.i64.wrap ((x : Int) - (y : Int) + D) = (x : Int) - (y : Int) + D := by rw [IntKind.wrap_i64]; omega
      have hw4 : IntKind.i64.wrap ((j : Int) - 1) = (j : Int) - 1 := by rw [IntKind.wrap_i64]; omega
      have hj0 : decide ((0 : Int) ≤ (j : Int)) = true := by simp
      have hjn : (j : Int) < (n : Int) := by omega
      clear ek hbd hbj hcj
      go_wp2
      go_quiet (fail)
      go_wp2
      go_roundw
      case rel => exact ⟨j, _, q + 1, by omega, rfl, by rw [HE.out], rfl⟩
      case measure => simp [intOf]
end Go.Proofs.Ytgfcdfpbiiiliaa
