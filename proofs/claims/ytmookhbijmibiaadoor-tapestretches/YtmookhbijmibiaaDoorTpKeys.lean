/-
  Contracts of tape.draws, Draw and Keys. Conditions: the tape lies in memory as New leaves it (or is none).
-/
import Derived.Test.YtmookhbijmibiaaDoorTpDraw
namespace Go.Proofs.YtmookhbijmibiaaDoor
open Go.RowKit Arr

/-- Nothing, and an error; nothing has changed but for some draws. -/
def NoneE (e0 : Int) (w : World) (e : Ending) (w' : World) : Prop := ∃ m, e = .returned (.tuple #[.slice none 0 0, .int .i64 e0]) ∧ w' = w.drewN m
/-- n pieces of s bytes, and no error. -/
def SomeK (g : Nat) (bs : List Nat) (p n s : Nat) (w : World) (e : Ending) (w' : World) : Prop :=
  ∃ gl, e = .returned (.tuple #[.slice (some ⟨gl, 0, none⟩) n n, .int .i64 0]) ∧ w.heap.size ≤ gl ∧ Kys w' gl n n bs p s ∧ Tp w' g bs (p + n * s) ∧ Only g w w'
/-- n bytes, and no error. -/
def SomeB (g : Nat) (bs : List Nat) (p n : Nat) (w : World) (e : Ending) (w' : World) : Prop :=
  ∃ v, e = .returned (.tuple #[v, .int .i64 0]) ∧ Lies w' w.heap.size v ((bs.drop p).take n) ∧ Tp w' g bs (p + n) ∧ Only g w w'

section
variable {w : World} {g p : Nat} {bs : List Nat}
theorem draws_dry (h : Tp w g bs p) (n s : Nat) (hm : n * s ≤ 9223372036854775807) (hd : bs.length < p + n * s) :
    Calls Tryd.prog 18 #[.pointer (some ⟨g, 0, none⟩), .int .i64 (n : Int), .int .i64 (s : Int)] w (NoneE 22 w) := by
  obtain ⟨m, hmm⟩ : ∃ m, m = n * s := ⟨_, rfl⟩
  have wm : IntKind.i64.wrap ((n : Int) * (s : Int)) = (m : Int) := by rw [← Int.natCast_mul, ← hmm, IntKind.wrap_i64]; omega
  have C := can_any h (m : Int)
  have hc : canB (m : Int) (bs.length - p) = false := by have := h.le; simp [canB]; omega
  rw [hc] at C
  have C := Lib.hid C
  clear h hd hc hmm
  go_enter Tryd.func18, Tryd.ntmps18
  go_wp2_with fail
  refine C.out.mono ?_
  rintro e w' ⟨k, rfl, rfl⟩
  go_wp2
  go_ret2
  exact ⟨k, rfl, rfl⟩
theorem draws_some (h : Tp w g bs p) (n s : Nat) (hn : n ≤ 4096) (hd : p + n * s ≤ bs.length) :
    Calls Tryd.prog 18 #[.pointer (some ⟨g, 0, none⟩), .int .i64 (n : Int), .int .i64 (s : Int)] w (SomeK g bs p n s w) := by
  have hsm := h.small
  obtain ⟨m, hmm⟩ : ∃ m, m = n * s := ⟨_, rfl⟩
  have wm : IntKind.i64.wrap ((n : Int) * (s : Int)) = (m : Int) := by rw [← Int.natCast_mul, ← hmm, IntKind.wrap_i64]; omega
  have C := can_any h (m : Int)
  have hc : canB (m : Int) (bs.length - p) = true := by simp [canB]; omega
  rw [hc] at C
  have C := Lib.hid C
  have C2 := Lib.hid (fun k => each_any (h.drewN k) n s hn hd)
  clear h hd hc hmm
  go_enter Tryd.func18, Tryd.ntmps18
  go_wp2_with fail
  refine C.out.mono ?_
  rintro e w' ⟨k, rfl, rfl⟩
  go_wp2_with fail
  refine (C2.out k).mono ?_
  rintro e w2 ⟨gl, rfl, h1, h2, h3, h4⟩
  have HF := Lib.hid (show SomeK g bs p n s w (.returned (.tuple #[.slice (some ⟨gl, 0, none⟩) n n, .int .i64 0])) w2 from ⟨gl, rfl, h1, h2, h3, ((Only.refl g w).drewN k).trans h4⟩)
  clear h1 h2 h3 h4 C C2
  go_wp2
  go_ret2
  exact HF.out

theorem draw_nil (w : World) (n : Int) : Calls Tryd.prog 10 #[.pointer none, .int .i64 n] w (NoneE 1 w) := by
  go_enter Tryd.func10, Tryd.ntmps10
  go_wp2_with fail
  refine (none_nil w).mono ?_
  rintro e w' ⟨rfl, rfl⟩
  go_wp2
  go_ret2
  exact ⟨0, rfl, rfl⟩
theorem draw_neg (h : Tp w g bs p) (n : Int) (hn : n < 0) : Calls Tryd.prog 10 #[.pointer (some ⟨g, 0, none⟩), .int .i64 n] w (NoneE 2 w) := by
  have C := Lib.hid (none_made w g h.made)
  clear h
  have t1 : decide (n < 0) = true := by simp; omega
  go_enter Tryd.func10, Tryd.ntmps10
  go_wp2_with fail
  refine C.out.mono ?_
  rintro e w' ⟨rfl, rfl⟩
  go_wp2
  go_ret2
  exact ⟨0, rfl, rfl⟩
theorem draw_dry (h : Tp w g bs p) (n : Nat) (hn : n ≤ 9223372036854775807) (hd : bs.length < p + n) : Calls Tryd.prog 10 #[.pointer (some ⟨g, 0, none⟩), .int .i64 (n : Int)] w (NoneE 22 w) := by
  have C := Lib.hid (none_made w g h.made)
  have C2 : Go.RowKit.Hid (Calls Tryd.prog 18 #[.pointer (some ⟨g, 0, none⟩), .int .i64 1, .int .i64 (n : Int)] w (NoneE 22 w)) := Lib.hid (draws_dry h 1 n (by omega) (by omega))
  clear h hd
  have t1 : decide ((n : Int) < 0) = false := by simp
  go_enter Tryd.func10, Tryd.ntmps10
  go_wp2_with fail
  refine C.out.mono ?_
  rintro e w' ⟨rfl, rfl⟩
  go_wp2_with fail
  refine C2.out.mono ?_
  rintro e w' ⟨k, rfl, rfl⟩
  go_wp2
  go_ret2
  exact ⟨k, rfl, rfl⟩
theorem draw_some (h : Tp w g bs p) (n : Nat) (hd : p + n ≤ bs.length) : Calls Tryd.prog 10 #[.pointer (some ⟨g, 0, none⟩), .int .i64 (n : Int)] w (SomeB g bs p n w) := by
  have C := Lib.hid (none_made w g h.made)
  have C2 : Go.RowKit.Hid (Calls Tryd.prog 18 #[.pointer (some ⟨g, 0, none⟩), .int .i64 1, .int .i64 (n : Int)] w (SomeK g bs p 1 n w)) := Lib.hid (draws_some h 1 n (by omega) (by omega))
  clear h hd
  have t1 : decide ((n : Int) < 0) = false := by simp
  go_enter Tryd.func10, Tryd.ntmps10
  go_wp2_with fail
  refine C.out.mono ?_
  rintro e w' ⟨rfl, rfl⟩
  go_wp2_with fail
  refine C2.out.mono ?_
  rintro e w2 ⟨gl, rfl, h1, h2, h3, h4⟩
  obtain ⟨v, hv, hl⟩ := h2.cells 0 (by omega)
  rw [Nat.one_mul] at h3
  rw [piece, Nat.zero_mul, Nat.add_zero] at hl
  have HF := Lib.hid (show SomeB g bs p n w (.returned (.tuple #[v, .int .i64 0])) w2 from ⟨v, rfl, hl.from (by omega), h3, h4⟩)
  clear h1 h2 h3 h4 hl C C2
  go_wp2
  go_ret2
  exact HF.out

end
end Go.Proofs.YtmookhbijmibiaaDoor
