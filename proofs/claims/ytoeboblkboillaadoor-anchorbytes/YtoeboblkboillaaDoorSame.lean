/-
  The contract of the reference's Same: it answers whether two lists of bytes are one, and only draws. No conditions but that both slices hold the bytes.
-/
import Derived.Test.YtoeboblkboillaaDoorChecked
import Derived.Test.YtoeboblkboillaaDoorBytes
import Derived.Deep.QuietTactic
import Derived.BigQuiet
import Derived.Lib.Hide
import Derived.Outline
namespace Go.Proofs.YtoeboblkboillaaDoor
open Go.RowKit

/-- bs and cs agree on the first k places. -/
def agree (bs cs : List Nat) (k : Nat) : Prop := ∀ i, i < k → bs.getD i 0 = cs.getD i 0

theorem eq_of_agree {bs cs : List Nat} (hl : bs.length = cs.length) (h : agree bs cs bs.length) : bs = cs := by
  apply List.ext_getElem hl
  intro i h1 h2
  have := h i h1
  simpa [h1, h2] using this

theorem agree_succ {bs cs : List Nat} {k : Nat} (h : agree bs cs k) (e : bs.getD k 0 = cs.getD k 0) : agree bs cs (k + 1) := by
  intro i hi
  rcases Nat.lt_or_ge i k with h1 | h1
  · exact h i h1
  · obtain rfl : i = k := by omega
    exact e

/-- The call answers the bool, and has only drawn. -/
def Ans (b : Bool) (w : World) (e : Ending) (w' : World) : Prop := ∃ n, e = .returned (.bool b) ∧ w' = w.drewN n

set_option maxHeartbeats 1000000 in
theorem same_len (A A' : Option Addr) (n n' c c' : Nat) (w : World) (hl : n ≠ n') :
    Calls Tryd.prog 12 #[.slice A n c, .slice A' n' c'] w (Ans false w) := by
  have h1 : ((n : Int) != (n' : Int)) = true := by simp; omega
  go_enter Tryd.func12, Tryd.ntmps12
  go_wp2
  go_ret
  exact ⟨0, rfl, rfl⟩

set_option maxRecDepth 10000 in
set_option maxHeartbeats 1000000 in
theorem same_loop (A A' : Option Addr) (bs cs : List Nat) (n c c' : Nat) (w : World) (hl : bs.length = n) (hl' : cs.length = n) (hn : n ≤ 1000)
    (B B' : Nat) (hb : Bys w B A bs) (hc : Bys w B' A' cs) :
    Calls Tryd.prog 12 #[.slice A n c, .slice A' n c'] w (Ans (decide (bs = cs)) w) := by
  have HL := Lib.hid hl; clear hl
  have HL' := Lib.hid hl'; clear hl'
  have HB := Lib.hid hb; clear hb
  have HC := Lib.hid hc; clear hc
  have h1 : ((n : Int) != (n : Int)) = false := by simp
  go_enter Tryd.func12, Tryd.ntmps12
  go_wp2
  go_loopw [5] (fun i wr => ∃ k m : Nat, k ≤ n ∧ i = .int .i64 k ∧ agree bs cs k ∧ wr = w.drewN m) (fun i _ => n - (intOf i).toNat)
  case atStart => exact ⟨0, 0, Nat.zero_le _, rfl, fun i hi => by omega, rfl⟩
  case round =>
    obtain ⟨k, m, hk, rfl, hag, rfl⟩ := hrel
    have HAG := Lib.hid hag; clear hag
    by_cases hlt : k < n
    · obtain ⟨b, off, rfl, _, h3⟩ := HB.out.2 (by have := HL.out; omega)
      obtain ⟨b', off', rfl, _, h4⟩ := HC.out.2 (by have := HL'.out; omega)
      have hc1 := h3 k (by have := HL.out; omega)
      have hc2 := h4 k (by have := HL'.out; omega)
      clear h3 h4
      by_cases he : bs.getD k 0 = cs.getD k 0
      · have HE := Lib.hid (agree_succ HAG.out he)
        have ht : (((bs.getD k 0 : Nat) : Int) != ((cs.getD k 0 : Nat) : Int)) = false := by rw [he]; simp
        clear he
        generalize bs.getD k 0 = x at *
        generalize cs.getD k 0 = y at *
        go_wp2
        go_quiet (fail)
        go_wp2
        go_roundw
        case rel => exact ⟨k + 1, _, by omega, by go_num, HE.out, rfl⟩
        case measure => simp [intOf]; omega
      · have ht : (((bs.getD k 0 : Nat) : Int) != ((cs.getD k 0 : Nat) : Int)) = true := by
          rw [bne_iff_ne]; omega
        have hne : bs ≠ cs := fun e => he (by rw [e])
        have hd : decide (bs = cs) = false := by simp [hne]
        have HD := Lib.hid hd; clear hd hne he
        generalize bs.getD k 0 = x at *
        generalize cs.getD k 0 = y at *
        go_wp2
        go_quiet (fail)
        go_wp2
        go_ret
        exact ⟨m + nq, congrArg (fun b => Ending.returned (Value.bool b)) HD.out.symm, by rw [World.drewN_drewN]⟩
    · obtain rfl : k = n := by omega
      have hd : decide (bs = cs) = true := by simp [eq_of_agree (HL.out.trans HL'.out.symm) (by rw [HL.out]; exact HAG.out)]
      have HD := Lib.hid hd; clear hd
      go_wp2
      go_ret
      exact ⟨_, congrArg (fun b => Ending.returned (Value.bool b)) HD.out.symm, rfl⟩

/-- SAME: whether the two lists of bytes are one. -/
theorem same_any (A A' : Option Addr) (bs cs : List Nat) (n n' c c' : Nat) (w : World) (hl : bs.length = n) (hl' : cs.length = n') (hn : n ≤ 1000)
    (B B' : Nat) (hb : Bys w B A bs) (hc : Bys w B' A' cs) :
    Calls Tryd.prog 12 #[.slice A n c, .slice A' n' c'] w (Ans (decide (bs = cs)) w) := by
  by_cases h : n = n'
  · subst h
    exact same_loop A A' bs cs n c c' w hl hl' hn B B' hb hc
  · have hd : decide (bs = cs) = false := by
      have : bs ≠ cs := fun e => h (by rw [← hl, ← hl', e])
      simp [this]
    rw [hd]
    exact same_len A A' n n' c c' w h
end Go.Proofs.YtoeboblkboillaaDoor
