/-
  Contracts of slices.Grow of nil and slices.Concat of two, at extents. Condition: the slices hold their extents.
-/
import Derived.Test.YtjeiechkndfhmaaExRise
import Derived.Lib.AppendZeros
namespace Go.Proofs.Ytjeiechkndfhmaa
open Go.RowKit Arr Ex

theorem grow0_any (w : World) : Calls Try.prog 52 #[.slice none 0 0, .int .i64 0] w (Made [] w) := by
  go_enter Try.func52, Try.ntmps52
  go_wp2
  go_ret
  exact ⟨_, rfl, own2_nil _ _, Below.refl _ _⟩
set_option maxHeartbeats 1000000 in
theorem grow2_any (n : Nat) (hn : n ≤ 4096) (w : World) :
    Calls Try.prog 52 #[.slice none 0 0, .int .i64 (n : Int)] w (Made [] w) := by
  rcases Nat.eq_zero_or_pos n with hn0 | hn0
  · subst hn0; exact grow0_any w
  obtain ⟨i0, hi, hz0, hz1, hz2⟩ := info_parts info_ext
  have hr := Lib.run_append_nil_zeros (P := Try.prog) w 23 3 23 34 i0 (.agg #[.int .i64 0, .int .i64 0]) .i64 .i64 Try.underlying23 Try.underlying3 hi hz0 n hn0 (by omega) (by omega) (by rw [hz2]; omega)
  have hge := grownCap_ge w n 0 34
  have hcm := grownCap_le_maxLen w n 0 34 (by unfold maxLen; omega)
  have HO := Lib.hid (World.ownsRow_made w.drew (base := w.heap.size) (e := 34) (size := 2) (Builtin.zeroCells (Value.cells (.agg #[.int .i64 0, .int .i64 0])) n ++ Builtin.zeroCells (Value.cells (.agg #[.int .i64 0, .int .i64 0])) (grownCap w n 0 34 - n)) (grownCap w n 0 34) (Nat.le_refl _) hcm (by simp [Value.cells, size_zeroCells]; omega))
  have HB := Lib.hid ((below_drewN (Below.refl w.heap.size w) 1).alloc (Nat.le_refl _) (.cells (Builtin.zeroCells (Value.cells (.agg #[.int .i64 0, .int .i64 0])) n ++ Builtin.zeroCells (Value.cells (.agg #[.int .i64 0, .int .i64 0])) (grownCap w n 0 34 - n)) 34))
  generalize grownCap w n 0 34 = cap at *
  generalize Builtin.zeroCells (Value.cells (.agg #[.int .i64 0, .int .i64 0])) n ++ Builtin.zeroCells (Value.cells (.agg #[.int .i64 0, .int .i64 0])) (cap - n) = cs at *
  have HR := Lib.hid hr
  clear hr hi hz0 hz1 hz2 hge hcm
  have w1 : IntKind.i64.wrap (n : Int) = n := wrap_nat n (by omega)
  have t1 : decide ((n : Int) < 0) = false := by simp
  have t2 : decide ((n : Int) > 0) = true := by simp; omega
  have t3 : decide (0 < (n : Int)) = true := by simp; omega
  have t4 : 0 < (n : Int) := by omega
  go_enter Try.func52, Try.ntmps52
  go_wp2_with (at_builtin; refine Lib.wpList_append_run _ rfl (.tmp 20) (.tmp 21) _ _ rfl (.slice none 0 0) (.int .i64 (n : Int)) rfl rfl _ _ HR.out ?_)
  go_ret
  exact ⟨_, rfl, HO.out, HB.out⟩
/-- The first k of two, one behind the other. -/
def cat2 (a b : List (Int × Int)) : Nat → List (Int × Int)
  | 0 => []
  | 1 => a
  | _ => a ++ b
set_option maxHeartbeats 2000000 in
theorem concat_any (gs : Nat) (A0 A1 : Option Addr) (n0 c0 n1 c1 : Nat) (a b : List (Int × Int)) (h0 : a.length = n0) (h1 : b.length = n1) (hn0 : n0 ≤ 1000) (hn1 : n1 ≤ 1000) (hA0 : A0 = none → c0 = 0) (hA1 : A1 = none → c1 = 0)
    (w : World) (hc0 : w.cell? ⟨gs, 0, none⟩ = some (.slice A0 n0 c0)) (hc1 : w.cell? ⟨gs, 1, none⟩ = some (.slice A1 n1 c1)) (hb0 : Exts w w.heap.size A0 a) (hb1 : Exts w w.heap.size A1 b) :
    Calls Try.prog 45 #[.slice (some ⟨gs, 0, none⟩) 2 2] w (Made (a ++ b) w) := by
  have hgs : gs < w.heap.size := lt_of_cell hc0
  have H0 := Lib.hid h0
  have H1 := Lib.hid h1
  have HC0 := Lib.hid hc0
  have HC1 := Lib.hid hc1
  have HB0 := Lib.hid hb0
  have HB1 := Lib.hid hb1
  clear h0 h1 hb0 hb1
  have w0 : IntKind.i64.wrap (n0 : Int) = n0 := wrap_nat n0 (by omega)
  have w1 : IntKind.i64.wrap ((n0 : Int) + (n1 : Int)) = (n0 : Int) + n1 := by rw [IntKind.wrap_i64]; omega
  have t0 : decide ((n0 : Int) < 0) = false := by simp
  have t1 : decide ((n0 : Int) + (n1 : Int) < 0) = false := by simp; omega
  have CG := Lib.hid (fun w' => grow2_any (n0 + n1) (by omega) w')
  go_enter Try.func45, Try.ntmps45
  go_wp2
  go_loop [3, 11] (fun s i => (i = .int .i64 0 ∧ s = .int .i64 0) ∨ (i = .int .i64 1 ∧ s = .int .i64 (n0 : Int)) ∨ (i = .int .i64 2 ∧ s = .int .i64 ((n0 : Int) + n1))) (fun _ i => 2 - (intOf i).toNat)
  case atStart => exact .inl ⟨rfl, rfl⟩
  case round =>
    rcases hrel with ⟨rfl, rfl⟩ | ⟨rfl, rfl⟩ | ⟨rfl, rfl⟩
    · go_wp2
      go_round
      case rel => exact .inr (.inl ⟨rfl, by first | rfl | go_num⟩)
      case measure => simp [intOf]
    · go_wp2
      go_round
      case rel => exact .inr (.inr ⟨rfl, by first | rfl | go_num⟩)
      case measure => simp [intOf]
    · go_wp2_with fail
      refine (CG.out w).mono ?_
      rintro e w2 ⟨v, rfl, hown, hbel⟩
      have HO := Lib.hid hown
      have HBE := Lib.hid hbel
      clear hown hbel CG
      clear hc0 hc1
      go_wp2_with fail
      go_loopw [6, 27] (fun v i wr => ∃ k : Nat, k ≤ 2 ∧ i = .int .i64 (k : Nat) ∧ Own2 wr w.heap.size v (cat2 a b k) ∧ Below w.heap.size w wr) (fun _ i _ => 2 - (intOf i).toNat)
      case atStart => exact ⟨0, by omega, rfl, HO.out, HBE.out⟩
      case round =>
        clear HO HBE
        obtain ⟨k, hk, rfl, ho, hb⟩ := hrel
        have HO := Lib.hid ho
        have HBE := Lib.hid hb
        clear ho hb
        obtain rfl | rfl | rfl : k = 0 ∨ k = 1 ∨ k = 2 := by omega
        · have c0' := (HBE.out.cell (p := ⟨gs, 0, none⟩) hgs).trans HC0.out
          go_wp2_with (at_builtin; refine append_exts rfl (.tmp 31) (.tmp 32) rfl w.heap.size _ [] rfl HO.out A0 n0 c0 a rfl hA0 H0.out (HB0.out.later HBE.out) (by simp; omega) HBE.out.size ?_; intro v' w1 hown' hbel' _ _)
          go_roundw
          case rel => exact ⟨1, by omega, rfl, hown', HBE.out.trans hbel'⟩
          case measure => simp [intOf]
        · have c0' := (HBE.out.cell (p := ⟨gs, 1, none⟩) hgs).trans HC1.out
          go_wp2_with (at_builtin; refine append_exts rfl (.tmp 31) (.tmp 32) rfl w.heap.size _ a rfl HO.out A1 n1 c1 b rfl hA1 H1.out (HB1.out.later HBE.out) (by have := H0.out; omega) HBE.out.size ?_; intro v' w1 hown' hbel' _ _)
          go_roundw
          case rel => exact ⟨2, by omega, rfl, hown', HBE.out.trans hbel'⟩
          case measure => simp [intOf]
        · go_wp2
          go_ret
          exact ⟨_, rfl, HO.out, HBE.out⟩
end Go.Proofs.Ytjeiechkndfhmaa
