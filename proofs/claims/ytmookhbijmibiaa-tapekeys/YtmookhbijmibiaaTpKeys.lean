/-
  Contracts of tape.draws, Draw and Keys. Conditions: the tape lies in memory as New leaves it (or is none).
-/
import Derived.Test.YtmookhbijmibiaaTpDraw
namespace Go.Proofs.Ytmookhbijmibiaa
open Go.RowKit Arr

/-- Nothing, and an error; nothing has changed but for some draws. -/
def NoneE (e0 : Int) (w : World) (e : Ending) (w' : World) : Prop := ∃ m, e = .returned (.tuple #[.slice none 0 0, .int .i64 e0]) ∧ w' = w.drewN m
/-- n pieces of s bytes, and no error. -/
def SomeK (g : Nat) (bs : List Nat) (p n s : Nat) (w : World) (e : Ending) (w' : World) : Prop :=
  ∃ gl, e = .returned (.tuple #[.slice (some ⟨gl, 0, none⟩) n n, .int .i64 0]) ∧ w.heap.size ≤ gl ∧ Kys w' gl n n bs p s ∧ Tp w' g bs (p + n * s) ∧ Only g w w'
/-- n bytes, and no error. -/
def SomeB (g : Nat) (bs : List Nat) (p n : Nat) (w : World) (e : Ending) (w' : World) : Prop :=
  ∃ v, e = .returned (.tuple #[v, .int .i64 0]) ∧ Lies w' w.heap.size v ((bs.drop p).take n) ∧ Tp w' g bs (p + n) ∧ Only g w w'

section
variable {w : World} {g p : Nat} {bs : List Nat}
theorem draws_dry (h : Tp w g bs p) (n s : Nat) (hm : n * s ≤ 9223372036854775807) (hd : bs.length < p + n * s) :
    Calls Try.prog 15 #[.pointer (some ⟨g, 0, none⟩), .int .i64 (n : Int), .int .i64 (s : Int)] w (NoneE 22 w) := by
  obtain ⟨m, hmm⟩ : ∃ m, m = n * s := ⟨_, rfl⟩
  have wm : IntKind.i64.wrap ((n : Int) * (s : Int)) = (m : Int) := by rw [← Int.natCast_mul, ← hmm, IntKind.wrap_i64]; omega
  have C := can_any h (m : Int)
  have hc : canB (m : Int) (bs.length - p) = false := by have := h.le; simp [canB]; omega
  rw [hc] at C
  have C := Lib.hid C
  clear h hd hc hmm
  go_enter Try.func15, Try.ntmps15
  go_wp2_with fail
  refine C.out.mono ?_
  rintro e w' ⟨k, rfl, rfl⟩
  go_wp2
  go_ret2
  exact ⟨k, rfl, rfl⟩
theorem draws_some (h : Tp w g bs p) (n s : Nat) (hn : n ≤ 4096) (hd : p + n * s ≤ bs.length) :
    Calls Try.prog 15 #[.pointer (some ⟨g, 0, none⟩), .int .i64 (n : Int), .int .i64 (s : Int)] w (SomeK g bs p n s w) := by
  have hsm := h.small
  obtain ⟨m, hmm⟩ : ∃ m, m = n * s := ⟨_, rfl⟩
  have wm : IntKind.i64.wrap ((n : Int) * (s : Int)) = (m : Int) := by rw [← Int.natCast_mul, ← hmm, IntKind.wrap_i64]; omega
  have C := can_any h (m : Int)
  have hc : canB (m : Int) (bs.length - p) = true := by simp [canB]; omega
  rw [hc] at C
  have C := Lib.hid C
  have C2 := Lib.hid (fun k => each_any (h.drewN k) n s hn hd)
  clear h hd hc hmm
  go_enter Try.func15, Try.ntmps15
  go_wp2_with fail
  refine C.out.mono ?_
  rintro e w' ⟨k, rfl, rfl⟩
  go_wp2_with fail
  refine (C2.out k).mono ?_
  rintro e w2 ⟨gl, rfl, h1, h2, h3, h4⟩
  have HF := Lib.hid (show SomeK g bs p n s w (.returned (.tuple #[.slice (some ⟨gl, 0, none⟩) n n, .int .i64 0])) w2 from ⟨gl, rfl, h1, h2, h3, ((Only.refl g w).drewN k).trans h4⟩)
  clear h1 h2 h3 h4 C C2
  go_wp2
  go_ret2
  exact HF.out

theorem draw_nil (w : World) (n : Int) : Calls Try.prog 8 #[.pointer none, .int .i64 n] w (NoneE 1 w) := by
  go_enter Try.func8, Try.ntmps8
  go_wp2_with fail
  refine (none_nil w).mono ?_
  rintro e w' ⟨rfl, rfl⟩
  go_wp2
  go_ret2
  exact ⟨0, rfl, rfl⟩
theorem draw_neg (h : Tp w g bs p) (n : Int) (hn : n < 0) : Calls Try.prog 8 #[.pointer (some ⟨g, 0, none⟩), .int .i64 n] w (NoneE 2 w) := by
  have C := Lib.hid (none_made w g h.made)
  clear h
  have t1 : decide (n < 0) = true := by simp; omega
  go_enter Try.func8, Try.ntmps8
  go_wp2_with fail
  refine C.out.mono ?_
  rintro e w' ⟨rfl, rfl⟩
  go_wp2
  go_ret2
  exact ⟨0, rfl, rfl⟩
theorem draw_dry (h : Tp w g bs p) (n : Nat) (hn : n ≤ 9223372036854775807) (hd : bs.length < p + n) : Calls Try.prog 8 #[.pointer (some ⟨g, 0, none⟩), .int .i64 (n : Int)] w (NoneE 22 w) := by
  have C := Lib.hid (none_made w g h.made)
  have C2 : Go.RowKit.Hid (Calls Try.prog 15 #[.pointer (some ⟨g, 0, none⟩), .int .i64 1, .int .i64 (n : Int)] w (NoneE 22 w)) := Lib.hid (draws_dry h 1 n (by omega) (by omega))
  clear h hd
  have t1 : decide ((n : Int) < 0) = false := by simp
  go_enter Try.func8, Try.ntmps8
  go_wp2_with fail
  refine C.out.mono ?_
  rintro e w' ⟨rfl, rfl⟩
  go_wp2_with fail
  refine C2.out.mono ?_
  rintro e w' ⟨k, rfl, rfl⟩
  go_wp2
  go_ret2
  exact ⟨k, rfl, rfl⟩
theorem draw_some (h : Tp w g bs p) (n : Nat) (hd : p + n ≤ bs.length) : Calls Try.prog 8 #[.pointer (some ⟨g, 0, none⟩), .int .i64 (n : Int)] w (SomeB g bs p n w) := by
  have C := Lib.hid (none_made w g h.made)
  have C2 : Go.RowKit.Hid (Calls Try.prog 15 #[.pointer (some ⟨g, 0, none⟩), .int .i64 1, .int .i64 (n : Int)] w (SomeK g bs p 1 n w)) := Lib.hid (draws_some h 1 n (by omega) (by omega))
  clear h hd
  have t1 : decide ((n : Int) < 0) = false := by simp
  go_enter Try.func8, Try.ntmps8
  go_wp2_with fail
  refine C.out.mono ?_
  rintro e w' ⟨rfl, rfl⟩
  go_wp2_with fail
  refine C2.out.mono ?_
  rintro e w2 ⟨gl, rfl, h1, h2, h3, h4⟩
  obtain ⟨v, hv, hl⟩ := h2.cells 0 (by omega)
  rw [Nat.one_mul] at h3
  rw [piece, Nat.zero_mul, Nat.add_zero] at hl
  have HF := Lib.hid (show SomeB g bs p n w (.returned (.tuple #[v, .int .i64 0])) w2 from ⟨v, rfl, hl.from (by omega), h3, h4⟩)
  clear h1 h2 h3 h4 hl C C2
  go_wp2
  go_ret2
  exact HF.out

theorem keys_nil (w : World) (n s : Int) : Calls Try.prog 12 #[.pointer none, .int .i64 n, .int .i64 s] w (NoneE 1 w) := by
  go_enter Try.func12, Try.ntmps12
  go_wp2_with fail
  refine (none_nil w).mono ?_
  rintro e w' ⟨rfl, rfl⟩
  go_wp2
  go_ret2
  exact ⟨0, rfl, rfl⟩
/-- Numbers that Keys takes. -/
def okNs (n s : Int) : Prop := 0 ≤ n ∧ n ≤ 4096 ∧ 1 ≤ s ∧ s ≤ 64
theorem keys_bad (h : Tp w g bs p) (n s : Int) (hn : ¬ okNs n s) : Calls Try.prog 12 #[.pointer (some ⟨g, 0, none⟩), .int .i64 n, .int .i64 s] w (NoneE 2 w) := by
  have C := Lib.hid (none_made w g h.made)
  clear h
  obtain ⟨b1, e1⟩ : ∃ b, decide (n < 0) = b := ⟨_, rfl⟩
  obtain ⟨b2, e2⟩ : ∃ b, decide (n > 4096) = b := ⟨_, rfl⟩
  obtain ⟨b3, e3⟩ : ∃ b, decide (s < 1) = b := ⟨_, rfl⟩
  obtain ⟨b4, e4⟩ : ∃ b, decide (s > 64) = b := ⟨_, rfl⟩
  rcases b1 with _ | _ <;> rcases b2 with _ | _ <;> rcases b3 with _ | _ <;> rcases b4 with _ | _
  case false.false.false.false =>
    exfalso; apply hn; simp at e1 e2 e3 e4; unfold okNs; omega
  all_goals
    clear hn
    go_enter Try.func12, Try.ntmps12
    go_wp2_with fail
    refine C.out.mono ?_
    rintro e w' ⟨rfl, rfl⟩
    go_wp2
    go_ret2
    exact ⟨0, rfl, rfl⟩
theorem keys_dry (h : Tp w g bs p) (n s : Nat) (hn : n ≤ 4096) (hs1 : 1 ≤ s) (hs : s ≤ 64) (hd : bs.length < p + n * s) : Calls Try.prog 12 #[.pointer (some ⟨g, 0, none⟩), .int .i64 (n : Int), .int .i64 (s : Int)] w (NoneE 22 w) := by
  have C := Lib.hid (none_made w g h.made)
  have hm : n * s ≤ 4096 * 64 := Nat.mul_le_mul hn hs
  have C2 := Lib.hid (draws_dry h n s (by omega) hd)
  clear h hd hm
  have e1 : decide ((n : Int) < 0) = false := by simp
  have e2 : decide ((n : Int) > 4096) = false := by simp; omega
  have e3 : decide ((s : Int) < 1) = false := by simp; omega
  have e4 : decide ((s : Int) > 64) = false := by simp; omega
  go_enter Try.func12, Try.ntmps12
  go_wp2_with fail
  refine C.out.mono ?_
  rintro e w' ⟨rfl, rfl⟩
  go_wp2_with fail
  refine C2.out.mono ?_
  rintro e w' ⟨k, rfl, rfl⟩
  go_wp2
  go_ret2
  exact ⟨k, rfl, rfl⟩
theorem keys_some (h : Tp w g bs p) (n s : Nat) (hn : n ≤ 4096) (hs1 : 1 ≤ s) (hs : s ≤ 64) (hd : p + n * s ≤ bs.length) : Calls Try.prog 12 #[.pointer (some ⟨g, 0, none⟩), .int .i64 (n : Int), .int .i64 (s : Int)] w (SomeK g bs p n s w) := by
  have C := Lib.hid (none_made w g h.made)
  have C2 := Lib.hid (draws_some h n s hn hd)
  clear h hd
  have e1 : decide ((n : Int) < 0) = false := by simp
  have e2 : decide ((n : Int) > 4096) = false := by simp; omega
  have e3 : decide ((s : Int) < 1) = false := by simp; omega
  have e4 : decide ((s : Int) > 64) = false := by simp; omega
  go_enter Try.func12, Try.ntmps12
  go_wp2_with fail
  refine C.out.mono ?_
  rintro e w' ⟨rfl, rfl⟩
  go_wp2_with fail
  refine C2.out.mono ?_
  rintro e w2 ⟨gl, rfl, h1, h2, h3, h4⟩
  have HF := Lib.hid (show SomeK g bs p n s w (.returned (.tuple #[.slice (some ⟨gl, 0, none⟩) n n, .int .i64 0])) w2 from ⟨gl, rfl, h1, h2, h3, h4⟩)
  clear h1 h2 h3 h4 C C2
  go_wp2
  go_ret2
  exact HF.out
end
end Go.Proofs.Ytmookhbijmibiaa
