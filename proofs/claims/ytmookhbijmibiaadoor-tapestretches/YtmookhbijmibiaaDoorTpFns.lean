/-
  Contracts of tape.New, none, Left, Place and Can. Conditions: the tape lies in memory as New leaves it (or is none).
-/
import Derived.Test.YtmookhbijmibiaaDoorClone
import Derived.Test.YtmookhbijmibiaaDoorOnly
import Derived.Test.YtmookhbijmibiaaDoorSame
namespace Go.Proofs.YtmookhbijmibiaaDoor
open Go.RowKit Arr

/-- Block g is a tape of the bytes bs, its place p. -/
structure Tp (w : World) (g : Nat) (bs : List Nat) (p : Nat) : Prop where
  made : w.cell? ⟨g, 0, none⟩ = some (.bool true)
  whole : ∃ A c, w.cell? ⟨g, 1, none⟩ = some (.slice A bs.length c) ∧ bs.length ≤ c ∧ (A = none → c = 0) ∧ Bys w g A bs
  place : w.cell? ⟨g, 2, none⟩ = some (.int .i64 (p : Int))
  free : w.frozen? ⟨g, 2, none⟩ = false
  le : p ≤ bs.length
  small : bs.length ≤ 4294967296
section
variable {w w' : World} {g p : Nat} {bs : List Nat}
theorem Tp.lt (h : Tp w g bs p) : g < w.heap.size := lt_of_cell h.made
theorem Tp.below (h : Tp w g bs p) (hb : Below w.heap.size w w') : Tp w' g bs p := by
  obtain ⟨A, c, h1, h2, h3, h4⟩ := h.whole
  have hl := h.lt
  exact ⟨(hb.cell (p := ⟨g, 0, none⟩) hl).trans h.made, ⟨A, c, (hb.cell (p := ⟨g, 1, none⟩) hl).trans h1, h2, h3, h4.keep fun q hq => hb.cell (Nat.lt_trans hq hl)⟩, (hb.cell (p := ⟨g, 2, none⟩) hl).trans h.place, (hb.frozen (p := ⟨g, 2, none⟩) hl).trans h.free, h.le, h.small⟩
theorem Tp.drewN (h : Tp w g bs p) (n : Nat) : Tp (w.drewN n) g bs p := ⟨h.made, h.whole, h.place, h.free, h.le, h.small⟩
end

theorem none_nil (w : World) : Calls Tryd.prog 17 #[.pointer none] w fun e w' => e = .returned (.bool true) ∧ w = w' := by
  go_enter Tryd.func17, Tryd.ntmps17
  go_wp2
  go_ret
  exact ⟨rfl, rfl⟩
theorem none_made (w : World) (g : Nat) (h1 : w.cell? ⟨g, 0, none⟩ = some (.bool true)) : Calls Tryd.prog 17 #[.pointer (some ⟨g, 0, none⟩)] w fun e w' => e = .returned (.bool false) ∧ w = w' := by
  go_enter Tryd.func17, Tryd.ntmps17
  go_wp2
  go_ret
  exact ⟨rfl, rfl⟩

/-- The call answers a number, and has only drawn. -/
def Tells (n : Nat) (w : World) (e : Ending) (w' : World) : Prop := ∃ m, e = .returned (.int .i64 (n : Int)) ∧ w' = w.drewN m
theorem left_nil (w : World) : Calls Tryd.prog 11 #[.pointer none] w fun e w' => e = .returned (.int .i64 0) ∧ w = w' := by
  go_enter Tryd.func11, Tryd.ntmps11
  go_wp2_with fail
  refine (none_nil w).mono ?_
  rintro e w' ⟨rfl, rfl⟩
  go_wp2
  go_ret
  exact ⟨rfl, rfl⟩
theorem left_any {w : World} {g p : Nat} {bs : List Nat} (h : Tp w g bs p) : Calls Tryd.prog 11 #[.pointer (some ⟨g, 0, none⟩)] w (Tells (bs.length - p) w) := by
  have C := Lib.hid (none_made w g h.made)
  obtain ⟨A, c, h1, _, _, _⟩ := h.whole
  have h2 := h.place
  have hle := h.le
  have hsm := h.small
  obtain ⟨d, hd⟩ : ∃ d, d = bs.length - p := ⟨_, rfl⟩
  have HD := Lib.hid hd
  have wd : IntKind.i64.wrap ((bs.length : Int) - (p : Int)) = (d : Int) := by rw [IntKind.wrap_i64]; omega
  rw [← hd]
  clear h hd
  generalize bs.length = n at *
  go_enter Tryd.func11, Tryd.ntmps11
  go_wp2_with fail
  refine C.out.mono ?_
  rintro e w' ⟨rfl, rfl⟩
  go_wp2
  go_quiet (fail)
  go_wp2
  go_ret
  exact ⟨_, rfl, rfl⟩

/-- What Can answers. -/
def canB (n : Int) (left : Nat) : Bool := decide (0 ≤ n ∧ n ≤ (left : Int))
theorem can_nil (w : World) (n : Int) : Calls Tryd.prog 27 #[.pointer none, .int .i64 n] w (Ans false w) := by
  go_enter Tryd.func27, Tryd.ntmps27
  go_wp2_with fail
  refine (none_nil w).mono ?_
  rintro e w' ⟨rfl, rfl⟩
  go_wp2
  go_ret
  exact ⟨0, rfl, rfl⟩
theorem can_any {w : World} {g p : Nat} {bs : List Nat} (h : Tp w g bs p) (n : Int) : Calls Tryd.prog 27 #[.pointer (some ⟨g, 0, none⟩), .int .i64 n] w (Ans (canB n (bs.length - p)) w) := by
  have C := Lib.hid (none_made w g h.made)
  have C2 := Lib.hid (left_any h)
  clear h
  generalize bs.length - p = d at *
  by_cases h0 : 0 ≤ n
  · have t1 : decide (n ≥ 0) = true := by simp; omega
    have HB := Lib.hid (show canB n d = decide (n ≤ (d : Int)) by simp [canB, h0])
    go_enter Tryd.func27, Tryd.ntmps27
    go_wp2_with fail
    refine C.out.mono ?_
    rintro e w' ⟨rfl, rfl⟩
    go_wp2_with fail
    refine C2.out.mono ?_
    rintro e w' ⟨m, rfl, rfl⟩
    go_wp2
    go_ret
    exact ⟨m, congrArg (fun b => Ending.returned (Value.bool b)) HB.out.symm, rfl⟩
  · have t1 : decide (n ≥ 0) = false := by simp; omega
    have HB := Lib.hid (show canB n d = false by simp [canB, h0])
    go_enter Tryd.func27, Tryd.ntmps27
    go_wp2_with fail
    refine C.out.mono ?_
    rintro e w' ⟨rfl, rfl⟩
    go_wp2
    go_ret
    exact ⟨0, congrArg (fun b => Ending.returned (Value.bool b)) HB.out.symm, rfl⟩

/-- The tape's bytes lie in a block from lo on. -/
def Far (w : World) (g lo : Nat) : Prop := ∀ A n c, w.cell? ⟨g, 1, none⟩ = some (.slice A n c) → ∀ b, Option.map Addr.block A = some b → lo ≤ b
/-- What New leaves. -/
def MadeT (bs : List Nat) (w : World) (e : Ending) (w' : World) : Prop := ∃ g, e = .returned (.pointer (some ⟨g, 0, none⟩)) ∧ w.heap.size ≤ g ∧ Tp w' g bs 0 ∧ Below w.heap.size w w' ∧ Far w' g w.heap.size
theorem new_any (A : Option Addr) (n c : Nat) (bs : List Nat) (hl : bs.length = n) (hn : n ≤ 4294967296) (w : World) (B : Nat) (hB : B ≤ w.heap.size) (hb : Bys w B A bs) :
    Calls Tryd.prog 9 #[.slice A n c] w (MadeT bs w) := by
  have C := Lib.hid (clone_anyN A n c bs hl hn w B hB hb)
  have HL := Lib.hid hl
  clear hb hl
  go_enter Tryd.func9, Tryd.ntmps9
  go_wp2_with fail
  refine C.out.mono ?_
  rintro e w1 ⟨A1, c1, rfl, hc1, hA1, hb1, hf1, hB1⟩
  have hA := below_alloc w1 (.cells #[.bool true, .slice A1 n c1, .int .i64 0] 44)
  have hlast := heap_alloc_last w1 (.cells #[.bool true, .slice A1 n c1, .int .i64 0] 44)
  have HM := Lib.hid (show MadeT bs w (.returned (.pointer (some ⟨w1.heap.size, 0, none⟩))) (w1.alloc (.cells #[.bool true, .slice A1 n c1, .int .i64 0] 44)) from
    ⟨_, rfl, hB1.size, ⟨by rw [cell_of_row _ _ _ _ _ _ hlast]; rfl, ⟨A1, c1, by rw [cell_of_row _ _ _ _ _ _ hlast, HL.out]; rfl, by rw [HL.out]; exact hc1, hA1, hb1.below hA⟩, by rw [cell_of_row _ _ _ _ _ _ hlast]; rfl, frozen_of_row _ _ _ _ _ hlast, Nat.zero_le _, by rw [HL.out]; exact hn⟩, hB1.trans (hA.mono hB1.size), fun A' n' c' h' b' hb' => by
      rw [cell_of_row _ _ _ _ _ _ hlast] at h'
      simp at h'
      obtain ⟨rfl, _, _⟩ := h'
      exact hf1 b' hb'⟩)
  clear hA hlast hb1 hB1 hA1 hc1 hf1
  go_wp2
  go_ret
  exact HM.out
end Go.Proofs.YtmookhbijmibiaaDoor
