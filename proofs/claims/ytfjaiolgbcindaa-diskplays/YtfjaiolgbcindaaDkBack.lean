/-
  The library's slices.Backward over what waits: its closure's contract, for every loop body that keeps what lay when the loop began. Conditions: the slice holds its writes.
-/
import Derived.Test.YtfjaiolgbcindaaDkStep
import Derived.RangeFuncNested
import Derived.RangeFuncBound
import Derived.RangeFuncCalls
import Derived.RangeFuncLeaves
import Derived.RangeFuncBox
import Derived.Shelf.Abstract
import Derived.WalkKit
import Derived.OwnWalkIn
import Derived.TacticsInMore
import Derived.LoopNIn
import Derived.LoopIn
namespace Go.Proofs.Ytfjaiolgbcindaa
open Go.RowKit Go.Shelf Arr Dsk
attribute [local go_sem] Oper.semAt_some

/-- What has come when k rounds are over. -/
def upto {α : Type} (f : Nat → α) (k : Nat) : List α := (List.range k).map f
theorem upto_succ {α : Type} (f : Nat → α) (k : Nat) : upto f (k + 1) = upto f k ++ [f k] := by simp [upto, List.range_succ]
theorem upto_length {α : Type} (f : Nat → α) (k : Nat) : (upto f k).length = k := by simp [upto]
def wt0 : Wt := ⟨none, 0, 0, []⟩
/-- What comes in round m. -/
def nth (ws : List Wt) (m : Nat) : Nat × Wt := (ws.length - 1 - m, ws.getD (ws.length - 1 - m) wt0)
def encW (x : Nat × Wt) : Array Value := #[.int .i64 (x.1 : Int), .agg #[.int .i64 (x.2.i : Int), .slice x.2.A x.2.bs.length x.2.c]]

/-- The slice holds the writes, in blocks below n₀. -/
def Wts (n₀ : Nat) (W : World) (A : Option Addr) (ws : List Wt) : Prop :=
  0 < ws.length → ∃ b o, A = some ⟨b, o, none⟩ ∧ b < n₀ ∧ ∀ k (h : k < ws.length), W.cell? ⟨b, o + k * 2, none⟩ = some (.int .i64 (ws[k].i : Int)) ∧ W.cell? ⟨b, o + k * 2 + 1, none⟩ = some (.slice ws[k].A ws[k].bs.length ws[k].c)
theorem Wts.below {n₀ : Nat} {W W' : World} {A : Option Addr} {ws : List Wt} (h : Wts n₀ W A ws) (hb : Below n₀ W W') : Wts n₀ W' A ws := fun hl => by
  obtain ⟨b, o, e, hn, hc⟩ := h hl
  exact ⟨b, o, e, hn, fun k hk => ⟨(hb.cell (p := ⟨b, o + k * 2, none⟩) hn).trans (hc k hk).1, (hb.cell (p := ⟨b, o + k * 2 + 1, none⟩) hn).trans (hc k hk).2⟩⟩

set_option maxRecDepth 100000 in
set_option maxHeartbeats 2000000 in
theorem back1_in (n : Nat) (hn : 1 ≤ n) (l Bs n₀ len cap : Nat) (A : Option Addr) (ws : List Wt) (hlen : ws.length = len) (hreach : len ≤ 4294967296) (hBl : Bs < n₀) (J Jx : List (Nat × Wt) → World → Prop)
    (hY : ∀ pre x W, J pre W → pre.length < len → YieldAt Fence.wide (n - 1) Try.prog l (encW x) W fun e W' =>
      (e = .returned (.bool true) ∧ J (pre ++ [x]) W' ∧ Below n₀ W W') ∨ (e = .returned (.bool false) ∧ Jx (pre ++ [x]) W'))
    (W : World) (hBs : W.cell? ⟨Bs, 0, none⟩ = some (.slice A len cap)) (hc : Wts n₀ W A ws) (h0 : J [] W) :
    CallsIn Fence.wide n Try.prog 43 #[.func (.yield l) #[] #[], .pointer (some ⟨Bs, 0, none⟩)] W fun e W' => (∃ v, e = .returned v) ∧
      ((∃ ys, ys = upto (nth ws) len ∧ J ys W') ∨ (∃ pre, (∃ k, k ≤ len ∧ pre = upto (nth ws) k) ∧ Jx pre W')) := by
  obtain ⟨u0, hu0⟩ : ∃ u0, u0 = (len : Int) - 1 := ⟨_, rfl⟩
  have HU0 := Lib.hid hu0
  have wl : IntKind.i64.wrap ((len : Int) - 1) = u0 := by rw [hu0, IntKind.wrap_i64]; omega
  have HLEN := Lib.hid hlen
  have HC := Lib.hid hc
  have HY := Lib.hid hY
  clear hu0 hlen hc hY
  refine callsIn_of_wp Try.func43 rfl trivial ?_ rfl
  simp only [Try.ntmps43, List.size_toArray, List.length_cons, List.length_nil, Nat.reduceAdd, Nat.reduceSub, Array.replicate_succ, Array.replicate_zero, List.push_toArray, List.append_toArray, List.nil_append, List.cons_append]
  gi_wp2
  gi_loopw [3] (fun i wr => ∃ k : Nat, k ≤ len ∧ i = .int .i64 ((len : Int) - 1 - (k : Int)) ∧ J (upto (nth ws) k) wr ∧ Below n₀ W wr)
    (fun i _ => (intOf i + 1).toNat)
  case atStart => exact ⟨0, Nat.zero_le _, by rw [HU0.out]; simp, h0, Below.refl _ _⟩
  case round =>
    obtain ⟨k, hk, rfl, hJs, hnx⟩ := hrel
    have hBs' : wr.cell? ⟨Bs, 0, none⟩ = some (.slice A len cap) := (hnx.cell (p := ⟨Bs, 0, none⟩) hBl).trans hBs
    by_cases hlt : k < len
    · have hj : len - 1 - k < ws.length := by rw [HLEN.out]; omega
      obtain ⟨b, o, rfl, hb, hcs⟩ := (HC.out.below hnx) (by omega)
      obtain ⟨q0, q1⟩ := hcs _ hj
      have HNX := Lib.hid hnx
      obtain ⟨fn, tmps, assign, body, hy, hR⟩ := HY.out _ (nth ws k) wr hJs (by rw [upto_length]; exact hlt)
      have HR := Lib.hid hR
      have en : nth ws k = (len - 1 - k, ws[len - 1 - k]) := by unfold nth; rw [HLEN.out, List.getD_eq_getElem?_getD, List.getElem?_eq_getElem hj]; rfl
      rw [en] at hy
      unfold encW at hy
      dsimp only at hy
      have ej : (len : Int) - 1 - (k : Int) = ((len - 1 - k : Nat) : Int) := by omega
      rw [ej]
      have t1 : decide (((len - 1 - k : Nat) : Int) ≥ 0) = true := by simp
      have HJ := Lib.hid (show len - 1 - k < len ∧ (len : Int) - 1 - ((k + 1 : Nat) : Int) = ((len - 1 - k : Nat) : Int) - 1 from ⟨by omega, by omega⟩)
      have hjl := HJ.out.1
      clear hR hcs hnx ej en
      generalize ws[len - 1 - k] = x at *
      clear hj
      generalize len - 1 - k = j at *
      have wj : IntKind.i64.wrap ((j : Int) - 1) = (j : Int) - 1 := by rw [IntKind.wrap_i64]; omega
      gi_wp2
      refine HR.out.mono ?_
      rintro e W3 (⟨rfl, hJ3, hk3⟩ | ⟨rfl, hJx3⟩)
      · gi_wp2
        go_roundw
        case rel => exact ⟨k + 1, by omega, by rw [HJ.out.2], by rw [upto_succ]; exact hJ3, HNX.out.trans hk3⟩
        case measure => simp [intOf]
      · gi_wp2
        refine bodyPost_ret (results_none rfl _ _ _) rfl ?_
        exact ⟨⟨_, rfl⟩, .inr ⟨_, ⟨k + 1, by omega, (upto_succ _ _).symm⟩, hJx3⟩⟩
    · obtain rfl : k = len := by omega
      have ek : (k : Int) - 1 - (k : Int) = -1 := by omega
      rw [ek]
      have t1 : decide ((-1 : Int) ≥ 0) = false := by decide
      gi_wp2
      go_end0
      exact ⟨⟨_, rfl⟩, .inl ⟨_, rfl, hJs⟩⟩

set_option maxHeartbeats 1000000 in
/-- Backward: the slice value is boxed; the function value captures the box. -/
theorem back_in (n : Nat) (a : Option Addr) (len cap : Nat) (w : World) :
    CallsIn Fence.wide n Try.prog 41 #[.slice a len cap] w fun e w' => e = .returned (.func (.func 43) #[] #[.pointer (some ⟨w.heap.size, 0, none⟩)]) ∧ w' = w.alloc (.cells #[.slice a len cap] 54) := by
  refine callsIn_of_wp Try.func41 rfl trivial ?_ rfl
  simp only [Try.ntmps41, List.size_toArray, List.length_cons, List.length_nil, Nat.reduceAdd, Nat.reduceSub, Array.replicate_succ, Array.replicate_zero, List.push_toArray, List.append_toArray, List.nil_append, List.cons_append]
  gi_wp2
  go_ret
  exact ⟨rfl, rfl⟩
/-- What comes: the writes, from the last on. -/
theorem back_stops (n : Nat) (hn : 1 ≤ n) (Bs n₀ len cap : Nat) (A : Option Addr) (ws : List Wt) (hlen : ws.length = len) (hreach : len ≤ 4294967296) (w : World) (hBs : Bs < n₀) (hn₀ : n₀ ≤ w.heap.size)
    (hc : w.cell? ⟨Bs, 0, none⟩ = some (.slice A len cap)) (hI : Wts n₀ w A ws) :
    SeqStopsK Fence.wide n Try.prog 43 #[.pointer (some ⟨Bs, 0, none⟩)] encW (Below n₀) (fun ys => ys = upto (nth ws) len) (fun pre => ∃ k, k ≤ len ∧ pre = upto (nth ws) k) len w := fun l J Jx W hW _ _ hY h0 => by
  have hc' := (hW.cell (p := ⟨Bs, 0, none⟩) (Nat.lt_of_lt_of_le hBs hn₀)).trans hc
  exact back1_in n hn l Bs n₀ len cap A ws hlen hreach hBs J Jx hY W hc' (hI.below (hW.mono hn₀)) h0
end Go.Proofs.Ytfjaiolgbcindaa
