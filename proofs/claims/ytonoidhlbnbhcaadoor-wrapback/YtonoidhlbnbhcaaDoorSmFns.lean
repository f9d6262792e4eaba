/-
  Contracts of same's functions that only read: nought, held, Bytes, Steps, Zero, Less. No conditions but that the slices hold the bytes.
-/
import Derived.Test.YtonoidhlbnbhcaaDoorSmNum
import Derived.WalkKit
namespace Go.Proofs.YtonoidhlbnbhcaaDoor
open Go.RowKit Sm

theorem ret_bool {a b : Bool} (h : a = b) : Ending.returned (.bool a) = .returned (.bool b) := by rw [h]

theorem nought_any (n : Nat) (hn : n < 256) (w : World) : Calls Tryd.prog 46 #[.int .i64 (n : Int)] w fun e w' => e = .returned (.bool (decide (n = 0))) ∧ w = w' := by
  have hw : IntKind.i64.wrap ((n : Int) - 1) = (n : Int) - 1 := by rw [IntKind.wrap_i64]; omega
  have HD := Lib.hid (show (((n : Int) - 1) / 256 != 0) = decide (n = 0) by
    by_cases h : n = 0
    · subst h; rfl
    · have : ((n : Int) - 1) / 256 = 0 := by omega
      rw [this]; simp [h])
  go_enter Tryd.func46, Tryd.ntmps46
  go_wp2
  go_ret
  exact ⟨ret_bool HD.out, rfl⟩

/-- Two numbers. -/
def Two (a b : Nat) (w : World) (e : Ending) (w' : World) : Prop := e = .returned (.tuple #[.int .i64 (a : Int), .int .i64 (b : Int)]) ∧ w = w'

theorem held_len (A A' : Option Addr) (n n' c c' : Nat) (w : World) (hl : n ≠ n') : Calls Tryd.prog 45 #[.slice A n c, .slice A' n' c'] w (Two 1 0 w) := by
  have h1 : ((n : Int) != (n' : Int)) = true := by simp; omega
  go_enter Tryd.func45, Tryd.ntmps45
  go_wp2
  go_ret2
  exact ⟨rfl, rfl⟩

set_option maxHeartbeats 1000000 in
theorem held_loop (A A' : Option Addr) (bs cs : List Nat) (n c c' : Nat) (w : World) (hl : bs.length = n) (hl' : cs.length = n) (hn : n ≤ 1000000)
    (B B' : Nat) (hb : Bys w B A bs) (hc : Bys w B' A' cs) :
    Calls Tryd.prog 45 #[.slice A n c, .slice A' n c'] w (Two (dif bs cs n) n w) := by
  have HL := Lib.hid hl; clear hl
  have HL' := Lib.hid hl'; clear hl'
  have HB := Lib.hid hb; clear hb
  have HC := Lib.hid hc; clear hc
  have h1 : ((n : Int) != (n : Int)) = false := by simp
  go_enter Tryd.func45, Tryd.ntmps45
  go_wp2
  go_loop [4, 5, 15] (fun d p i => ∃ k : Nat, k ≤ n ∧ i = .int .i64 k ∧ p = .int .i64 k ∧ d = .int .i64 (dif bs cs k : Nat)) (fun _ _ i => n - (intOf i).toNat)
  case atStart => exact ⟨0, Nat.zero_le _, rfl, rfl, rfl⟩
  case round =>
    obtain ⟨k, hk, rfl, rfl, rfl⟩ := hrel
    by_cases hlt : k < n
    · obtain ⟨b, off, rfl, _, h3⟩ := HB.out.2 (by have := HL.out; omega)
      obtain ⟨b', off', rfl, _, h4⟩ := HC.out.2 (by have := HL'.out; omega)
      have hc1 := h3 k (by have := HL.out; omega)
      have hc2 := h4 k (by have := HL'.out; omega)
      have hx := u8_xor_nat _ _ (HB.out.lt k) (HC.out.lt k)
      have hd := dif_lt HB.out.lt HC.out.lt k
      have ho := i64_or _ _ hd (xor_lt (HB.out.lt k) (HC.out.lt k))
      have hxl := xor_lt (HB.out.lt k) (HC.out.lt k)
      have HE := Lib.hid (show dif bs cs (k + 1) = dif bs cs k ||| (bs.getD k 0 ^^^ cs.getD k 0) from rfl)
      clear h3 h4
      generalize bs.getD k 0 = x at *
      generalize cs.getD k 0 = y at *
      generalize x ^^^ y = z at *
      have hwz : IntKind.i64.wrap (z : Int) = z := wrap_nat z (by omega)
      generalize dif bs cs k = D at *
      go_wp2
      go_round
      case rel => exact ⟨k + 1, by omega, by go_num, by go_num, by rw [HE.out]⟩
      case measure => simp [intOf]; omega
    · obtain rfl : k = n := by omega
      go_wp2
      go_ret2
      exact ⟨rfl, rfl⟩

theorem bytes_any (A A' : Option Addr) (bs cs : List Nat) (n n' c c' : Nat) (w : World) (hl : bs.length = n) (hl' : cs.length = n') (hn : n ≤ 1000000)
    (B B' : Nat) (hb : Bys w B A bs) (hc : Bys w B' A' cs) :
    Calls Tryd.prog 23 #[.slice A n c, .slice A' n' c'] w fun e w' => e = .returned (.bool (decide (bs = cs))) ∧ w = w' := by
  by_cases h : n = n'
  · subst h
    have HH := Lib.hid (held_loop A A' bs cs n c c' w hl hl' hn B B' hb hc)
    have HN := Lib.hid (nought_any (dif bs cs n) (dif_lt hb.lt hc.lt n) w)
    have HD := Lib.hid (show decide (dif bs cs n = 0) = decide (bs = cs) by rw [decide_eq_decide]; exact dif_eq hl hl')
    clear hl hl' hb hc
    generalize dif bs cs n = D at *
    go_enter Tryd.func23, Tryd.ntmps23
    go_wp2_with fail
    refine HH.out.mono ?_
    rintro e w' ⟨rfl, rfl⟩
    go_wp2_with fail
    refine HN.out.mono ?_
    rintro e w' ⟨rfl, rfl⟩
    go_wp2
    go_ret
    exact ⟨ret_bool HD.out, rfl⟩
  · have HH := Lib.hid (held_len A A' n n' c c' w h)
    have HN := Lib.hid (nought_any 1 (by omega) w)
    have HD := Lib.hid (show false = decide (bs = cs) by
      have : bs ≠ cs := fun e => h (by rw [← hl, ← hl', e])
      simp [this])
    clear hl hl' hb hc h
    go_enter Tryd.func23, Tryd.ntmps23
    go_wp2_with fail
    refine HH.out.mono ?_
    rintro e w' ⟨rfl, rfl⟩
    go_wp2_with fail
    refine HN.out.mono ?_
    rintro e w' ⟨rfl, rfl⟩
    go_wp2
    go_ret
    exact ⟨ret_bool HD.out, rfl⟩



end Go.Proofs.YtonoidhlbnbhcaaDoor
