/-
  Contracts of the small functions on one extent: mayBe, behind, with; the reference's May. Condition: the numbers are numbers of Go.
-/
import Derived.Test.YtjeiechkndfhmaaExMem
import Derived.WalkKit
import Derived.PlainAid
namespace Go.Proofs.Ytjeiechkndfhmaa
open Go.RowKit Arr Ex

theorem wrap_in {z : Int} (h1 : -9223372036854775808 ≤ z) (h2 : z ≤ 9223372036854775807) : IntKind.i64.wrap z = z := by rw [IntKind.wrap_i64]; omega
def Bel (v : Value) (w : World) (e : Ending) (w' : World) : Prop := e = .returned v ∧ Below w.heap.size w w'

set_option maxHeartbeats 1000000 in
theorem mayBe_any (w : World) (a b : Int) (hx : I64 (a, b)) : Calls Try.prog 58 #[.agg #[.int .i64 a, .int .i64 b]] w (Bel (.bool (may (a, b))) w) := by
  obtain ⟨⟨h1, h2⟩, h3, h4⟩ := hx
  have HB := Lib.hid (below_alloc w (.cells #[.int .i64 a, .int .i64 b] 34))
  dsimp only at h1 h2 h3 h4
  by_cases c0 : 0 ≤ a
  · have t0 : decide (a ≥ 0) = true := by simpa using c0
    by_cases c1 : 1 ≤ b
    · have t1 : decide (b ≥ 1) = true := by simpa using c1
      have wk : IntKind.i64.wrap (1048576 - b) = 1048576 - b := wrap_in (by omega) (by omega)
      by_cases c2 : a + b ≤ 1048576
      · have t2 : decide (a ≤ 1048576 - b) = true := by simp; omega
        have e : may (a, b) = true := (may_iff _).2 ⟨c0, c1, c2⟩
        rw [e]
        go_enter Try.func58, Try.ntmps58
        go_wp2
        go_ret
        exact ⟨rfl, HB.out⟩
      · have t2 : decide (a ≤ 1048576 - b) = false := by simp; omega
        have e : may (a, b) = false := by rw [Bool.eq_false_iff]; intro h; exact c2 ((may_iff _).1 h).2.2
        rw [e]
        go_enter Try.func58, Try.ntmps58
        go_wp2
        go_ret
        exact ⟨rfl, HB.out⟩
    · have t1 : decide (b ≥ 1) = false := by simp; omega
      have e : may (a, b) = false := by rw [Bool.eq_false_iff]; intro h; exact c1 ((may_iff _).1 h).2.1
      rw [e]
      go_enter Try.func58, Try.ntmps58
      go_wp2
      go_ret
      exact ⟨rfl, HB.out⟩
  · have t0 : decide (a ≥ 0) = false := by simp; omega
    have e : may (a, b) = false := by rw [Bool.eq_false_iff]; intro h; exact c0 ((may_iff _).1 h).1
    rw [e]
    go_enter Try.func58, Try.ntmps58
    go_wp2
    go_ret
    exact ⟨rfl, HB.out⟩
theorem behind_run (w : World) (a b : Int) (hx : may (a, b) = true) : Calls Try.prog 42 #[.agg #[.int .i64 a, .int .i64 b]] w fun e w' => e = .returned (.int .i64 (a + b)) ∧ w' = w.alloc (.cells #[.int .i64 a, .int .i64 b] 34) := by
  obtain ⟨h1, h2, h3⟩ := (may_iff _).1 hx
  dsimp only at h1 h2 h3
  have wk : IntKind.i64.wrap (a + b) = a + b := wrap_in (by omega) (by omega)
  go_enter Try.func42, Try.ntmps42
  go_wp2
  go_ret
  exact ⟨rfl, rfl⟩
theorem behind_any (w : World) (a b : Int) (hx : may (a, b) = true) : Calls Try.prog 42 #[.agg #[.int .i64 a, .int .i64 b]] w (Bel (.int .i64 (a + b)) w) :=
  (behind_run w a b hx).mono fun _ _ ⟨he, hw⟩ => ⟨he, hw ▸ below_alloc w _⟩
/-- The call leaves a row of the call's own, one piece longer. -/
def WithP (l : List (Int × Int)) (base : Nat) (v : Value) (w : World) (e : Ending) (w' : World) : Prop :=
  ∃ v', e = .returned v' ∧ Own2 w' base v' l ∧ Below base w w' ∧ (v'.ownBlock = v.ownBlock ∨ ∃ g, v'.ownBlock = some g ∧ w.heap.size ≤ g) ∧ ∀ k, k < w.heap.size → some k ≠ v.ownBlock → w'.heap[k]? = w.heap[k]?
set_option maxHeartbeats 1000000 in
theorem with_any (w : World) (base : Nat) (v : Value) (l : List (Int × Int)) (hown : Own2 w base v l) (hl : l.length ≤ 100000) (hbase : base ≤ w.heap.size) (s t : Int) (h0 : 0 ≤ s) (h1 : s ≤ t) (h2 : t ≤ 1048576) :
    Calls Try.prog 43 #[v, .int .i64 s, .int .i64 t] w (WithP (l ++ pc s t) base v w) := by
  by_cases he : s = t
  · subst he
    have t0 : decide (s = s) = true := by simp
    have e : pc s s = [] := by unfold pc; simp
    rw [e, List.append_nil]
    have HF := Lib.hid (show WithP l base v w (.returned v) w from ⟨v, rfl, hown, Below.refl _ _, .inl rfl, fun _ _ _ => rfl⟩)
    clear hown
    go_enter Try.func43, Try.ntmps43
    go_wp2
    go_ret
    exact HF.out
  · have t0 : decide (s = t) = false := by simpa using he
    have e : pc s t = [(s, t - s)] := by unfold pc; rw [if_neg he]
    rw [e]
    have wk : IntKind.i64.wrap (t - s) = t - s := wrap_in (by omega) (by omega)
    have HX := Lib.hid (exts_lit w (s, t - s) (by unfold I64; dsimp only; omega))
    have HO := Lib.hid (hown.alloc (.cells #[.int .i64 s, .int .i64 (t - s)] 34))
    have HL := Lib.hid hl
    clear hown hl
    go_enter Try.func43, Try.ntmps43
    go_wp2_with (at_builtin; refine append_exts rfl (.tmp 11) (.tmp 17) rfl base v l rfl HO.out (some ⟨w.heap.size, 0, none⟩) 1 1 [(s, t - s)] rfl (fun h => by cases h) rfl (by simpa using HX.out) (by have := HL.out; omega) (by simp; omega) ?_; intro v' w1 hown' hbel' hblk' hgr')
    have HF := Lib.hid (show WithP (l ++ [(s, t - s)]) base v w (.returned v') w1 from ⟨v', rfl, hown', ((Below.refl base w).alloc hbase _).trans hbel', hblk'.elim .inl (fun h => .inr ⟨_, h, by simp⟩), fun k hk hne => (hgr'.block k (by simp; omega) hne).trans ((below_alloc w _).block k hk)⟩)
    clear hown' hbel' hblk' hgr'
    go_wp2
    go_ret
    exact HF.out
set_option maxHeartbeats 1000000 in
/-- The reference's May. -/
theorem rmay_any (w : World) (a b : Int) (hx : I64 (a, b)) : Calls Try.prog 9 #[.agg #[.int .i64 a, .int .i64 b]] w (Bel (.bool (may (a, b))) w) := by
  obtain ⟨⟨h1, h2⟩, h3, h4⟩ := hx
  have HB := Lib.hid (below_alloc w (.cells #[.int .i64 a, .int .i64 b] 34))
  dsimp only at h1 h2 h3 h4
  by_cases c0 : 0 ≤ a
  · have t0 : decide (a ≥ 0) = true := by simp; omega
    by_cases c1 : 1 ≤ b
    · have t1 : decide (b ≥ 1) = true := by simp; omega
      by_cases c2 : a ≤ 1048576
      · have t2 : decide (a ≤ 1048576) = true := by simp; omega
        by_cases c3 : b ≤ 1048576
        · have t3 : decide (b ≤ 1048576) = true := by simp; omega
          have wk : IntKind.i64.wrap (a + b) = a + b := wrap_in (by omega) (by omega)
          by_cases c4 : a + b ≤ 1048576
          · have t4 : decide (a + b ≤ 1048576) = true := by simp; omega
            have e : may (a, b) = true := (may_iff _).2 ⟨c0, c1, c4⟩
            rw [e]
            go_enter Try.func9, Try.ntmps9
            go_wp2
            go_ret
            exact ⟨rfl, HB.out⟩
          · have t4 : decide (a + b ≤ 1048576) = false := by simp; omega
            have e : may (a, b) = false := by rw [Bool.eq_false_iff]; intro h; have := (may_iff _).1 h; dsimp only at this; omega
            rw [e]
            go_enter Try.func9, Try.ntmps9
            go_wp2
            go_ret
            exact ⟨rfl, HB.out⟩
        · have t3 : decide (b ≤ 1048576) = false := by simp; omega
          have e : may (a, b) = false := by rw [Bool.eq_false_iff]; intro h; have := (may_iff _).1 h; dsimp only at this; omega
          rw [e]
          go_enter Try.func9, Try.ntmps9
          go_wp2
          go_ret
          exact ⟨rfl, HB.out⟩
      · have t2 : decide (a ≤ 1048576) = false := by simp; omega
        have e : may (a, b) = false := by rw [Bool.eq_false_iff]; intro h; have := (may_iff _).1 h; dsimp only at this; omega
        rw [e]
        go_enter Try.func9, Try.ntmps9
        go_wp2
        go_ret
        exact ⟨rfl, HB.out⟩
    · have t1 : decide (b ≥ 1) = false := by simp; omega
      have e : may (a, b) = false := by rw [Bool.eq_false_iff]; intro h; have := (may_iff _).1 h; dsimp only at this; omega
      rw [e]
      go_enter Try.func9, Try.ntmps9
      go_wp2
      go_ret
      exact ⟨rfl, HB.out⟩
  · have t0 : decide (a ≥ 0) = false := by simp; omega
    have e : may (a, b) = false := by rw [Bool.eq_false_iff]; intro h; have := (may_iff _).1 h; dsimp only at this; omega
    rw [e]
    go_enter Try.func9, Try.ntmps9
    go_wp2
    go_ret
    exact ⟨rfl, HB.out⟩
end Go.Proofs.Ytjeiechkndfhmaa
