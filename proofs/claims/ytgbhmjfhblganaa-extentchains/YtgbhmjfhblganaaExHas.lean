/-
  The contract of extent's Has, with slices.IndexFunc and slices.ContainsFunc. Condition: the slice holds the extents.
-/
import Derived.Test.YtgbhmjfhblganaaExAt
namespace Go.Proofs.Ytgbhmjfhblganaa
open Go.RowKit Arr Ex

theorem has_drop {l : List (Int × Int)} {k : Nat} {x : Int × Int} {u : Int} (h : l[k]? = some x) : hasL (l.drop k) u = (inB u x || hasL (l.drop (k + 1)) u) := by
  obtain ⟨hk, rfl⟩ := List.getElem?_eq_some_iff.1 h
  rw [List.drop_eq_getElem_cons hk]
  rfl
/-- What IndexFunc leaves. -/
def IndexP (l : List (Int × Int)) (u : Int) (w : World) (en : Ending) (w' : World) : Prop := ∃ i : Int, en = .returned (.int .i64 i) ∧ decide (i ≥ 0) = hasL l u ∧ Below w.heap.size w w'
set_option maxHeartbeats 1000000 in
theorem index_any (w : World) (A : Option Addr) (N c sb : Nat) (u : Int) (l : List (Int × Int)) (hN : l.length = N) (hm : N ≤ 1000000) (h : Exts w w.heap.size A l) (hs : w.cell? ⟨sb, 0, none⟩ = some (.int .i64 u)) (hu : -9223372036854775808 ≤ u ∧ u ≤ 9223372036854775807) :
    Calls Try.prog 37 #[.slice A N c, .func (.func 30) #[] #[.pointer (some ⟨sb, 0, none⟩)]] w (IndexP l u w) := by
  have HE := Lib.hid h
  have HN := Lib.hid hN
  have hsl := lt_of_cell hs
  have HS := Lib.hid hs
  have HU := Lib.hid hu
  clear h hN hs hu
  go_enter Try.func37, Try.ntmps37
  go_wp2
  go_loopw [8] (fun iv wr => ∃ k : Nat, k ≤ N ∧ iv = .int .i64 k ∧ hasL l u = hasL (l.drop k) u ∧ Below w.heap.size w wr) (fun iv _ => N - (intOf iv).toNat)
  case atStart => exact ⟨0, Nat.zero_le _, rfl, rfl, Below.refl _ _⟩
  case round =>
    obtain ⟨k, hk, rfl, hall, hB⟩ := hrel
    have HB := Lib.hid hB
    by_cases hlt : k < N
    · have hki : k < l.length := by rw [HN.out]; exact hlt
      obtain ⟨b, off, x, y, rfl, hb, hxy, hi, q0, q1⟩ := (HE.out.below hB).at hki
      rw [has_drop (x := (x, y)) (by rw [List.getElem?_eq_getElem hki, hxy])] at hall
      have t1 : decide ((k : Int) < (N : Int)) = true := by simp; omega
      have wk : IntKind.i64.wrap ((k : Int) + 1) = (k : Int) + 1 := by rw [IntKind.wrap_i64]; omega
      have CL := Lib.hid (hasClo_any wr sb u x y ((hB.cell (p := ⟨sb, 0, none⟩) hsl).trans HS.out) HU.out hi)
      have HALL := Lib.hid hall
      clear hall hB hi hxy
      by_cases hq : inB u (x, y) = true
      · rw [hq] at CL
        have HR := Lib.hid (show hasL l u = true by rw [HALL.out, hq]; rfl)
        go_wp2_with fail
        refine CL.out.mono ?_
        rintro en w1 ⟨rfl, hb1⟩
        have HF := Lib.hid (show IndexP l u w (.returned (.int .i64 (k : Int))) w1 from ⟨(k : Int), rfl, by rw [HR.out]; simp, HB.out.trans (hb1.mono HB.out.size)⟩)
        clear hb1 CL
        go_wp2
        go_ret
        exact HF.out
      · rw [Bool.not_eq_true] at hq
        rw [hq] at CL
        have HR := Lib.hid (show hasL l u = hasL (l.drop (k + 1)) u by rw [HALL.out, hq]; rfl)
        go_wp2_with fail
        refine CL.out.mono ?_
        rintro en w1 ⟨rfl, hb1⟩
        have HB1 := Lib.hid (HB.out.trans (hb1.mono HB.out.size))
        clear hb1 CL
        go_wp2
        go_roundw
        case rel => exact ⟨k + 1, by omega, by go_num, HR.out, HB1.out⟩
        case measure => simp [intOf]; omega
    · obtain rfl : k = N := by omega
      have t1 : decide ((k : Int) < (k : Int)) = false := by simp
      have HF := Lib.hid (show IndexP l u w (.returned (.int .i64 (-1))) wr from ⟨-1, rfl, by rw [hall, List.drop_of_length_le (by rw [HN.out]; exact Nat.le_refl _)]; rfl, hB⟩)
      clear hall hB
      go_wp2
      go_ret
      exact HF.out
theorem contains_any (w : World) (A : Option Addr) (N c sb : Nat) (u : Int) (l : List (Int × Int)) (hN : l.length = N) (hm : N ≤ 1000000) (h : Exts w w.heap.size A l) (hs : w.cell? ⟨sb, 0, none⟩ = some (.int .i64 u)) (hu : -9223372036854775808 ≤ u ∧ u ≤ 9223372036854775807) :
    Calls Try.prog 29 #[.slice A N c, .func (.func 30) #[] #[.pointer (some ⟨sb, 0, none⟩)]] w (Bel (.bool (hasL l u)) w) := by
  have C := Lib.hid (index_any w A N c sb u l hN hm h hs hu)
  clear h hs hu hN
  go_enter Try.func29, Try.ntmps29
  go_wp2_with fail
  refine C.out.mono ?_
  rintro en w1 ⟨i, rfl, hi, hb1⟩
  have HB := Lib.hid hb1
  have HI := Lib.hid hi
  clear hb1 hi C
  go_wp2
  go_ret
  exact ⟨by rw [← HI.out]; rfl, HB.out⟩
theorem has_any (w : World) (A : Option Addr) (N c : Nat) (u : Int) (l : List (Int × Int)) (hN : l.length = N) (hm : N ≤ 1000000) (h : Exts w w.heap.size A l) (hu : -9223372036854775808 ≤ u ∧ u ≤ 9223372036854775807) :
    Calls Try.prog 21 #[.slice A N c, .int .i64 u] w (Bel (.bool (hasL l u)) w) := by
  have hal := below_alloc w (.cells #[.int .i64 u] 3)
  have C := Lib.hid (contains_any (w.alloc (.cells #[.int .i64 u] 3)) A N c w.heap.size u l hN hm ((h.below hal).more (by simp)) (by rw [World.cell?_alloc_new]; rfl) hu)
  have HAL := Lib.hid hal
  clear h hu hN hal
  generalize hasL l u = r at C ⊢
  go_enter Try.func21, Try.ntmps21
  go_wp2_with fail
  refine C.out.mono ?_
  rintro en w1 ⟨rfl, hb1⟩
  have HB := Lib.hid (HAL.out.trans (hb1.mono (by simp)))
  clear hb1 C
  go_wp2
  go_ret
  exact ⟨rfl, HB.out⟩
end Go.Proofs.Ytgbhmjfhblganaa
