/-
  Contracts of extent's apart, Right. Condition: the slice holds the extents.
-/
import Derived.Test.YtjeiechkndfhmaaExFns
namespace Go.Proofs.Ytjeiechkndfhmaa
open Go.RowKit Arr Ex

theorem drop_cons {l : List (Int × Int)} {k : Nat} (h : k < l.length) : l.drop k = l[k] :: l.drop (k + 1) := List.drop_eq_getElem_cons h
theorem apart_step (gap z x y : Int) (l : List (Int × Int)) : apart gap z ((x, y) :: l) = (may (x, y) && decide (z ≤ x) && apart gap (x + y + gap) l) := rfl
/-- The k-th of a slice. -/
theorem Exts.at {w : World} {B : Nat} {A : Option Addr} {l : List (Int × Int)} (h : Exts w B A l) {k : Nat} (hk : k < l.length) :
    ∃ b off x y, A = some ⟨b, off, none⟩ ∧ b < B ∧ l[k] = (x, y) ∧ I64 (x, y) ∧ w.cell? ⟨b, off + k * 2, none⟩ = some (.int .i64 x) ∧ w.cell? ⟨b, off + k * 2 + 1, none⟩ = some (.int .i64 y) := by
  obtain ⟨b, off, e, hb, hc⟩ := h.cells (by omega)
  obtain ⟨h1, h2⟩ := hc k hk
  exact ⟨b, off, l[k].1, l[k].2, e, hb, rfl, h.int _ (List.getElem_mem hk), h1, h2⟩
set_option maxHeartbeats 2000000 in
theorem apart_any (w : World) (A : Option Addr) (c N : Nat) (l : List (Int × Int)) (hN : l.length = N) (h : Exts w w.heap.size A l) (hs : N ≤ 1000000) (gap : Int) (hg : 0 ≤ gap) (hg1 : gap ≤ 1) :
    Calls Try.prog 51 #[.slice A N c, .int .i64 gap] w (Bel (.bool (apart gap 0 l)) w) := by
  have HE := Lib.hid h
  have HN := Lib.hid hN
  have HS := Lib.hid hs
  have HG := Lib.hid hg
  have HG1 := Lib.hid hg1
  clear h hN hs hg hg1
  go_enter Try.func51, Try.ntmps51
  go_wp2
  go_loopw [5, 10] (fun nx i wr => ∃ (k : Nat) (z : Int), k ≤ N ∧ i = .int .i64 k ∧ nx = .int .i64 z ∧ 0 ≤ z ∧ z ≤ 1048577 ∧ apart gap 0 l = apart gap z (l.drop k) ∧ Below w.heap.size w wr) (fun _ i _ => N - (intOf i).toNat)
  case atStart => exact ⟨0, 0, Nat.zero_le _, rfl, rfl, by omega, by omega, by simp, Below.refl _ _⟩
  case round =>
    obtain ⟨k, z, hk, rfl, rfl, hz0, hz1, hap, hB⟩ := hrel
    have HB := Lib.hid hB
    have HAP := Lib.hid hap
    have HZ := Lib.hid (And.intro hz0 hz1)
    by_cases hlt : k < N
    · have hki : k < l.length := by rw [HN.out]; exact hlt
      obtain ⟨b, off, x, y, rfl, hb, hxy, hi, q0, q1⟩ := (HE.out.below hB).at hki
      have hst := drop_cons hki
      rw [hxy] at hst
      rw [hst] at hap
      have t1 : decide ((k : Int) < (N : Int)) = true := by simp; omega
      have wk : IntKind.i64.wrap ((k : Int) + 1) = (k : Int) + 1 := by have := HS.out; rw [IntKind.wrap_i64]; omega
      have HST := Lib.hid hst
      have HI := Lib.hid hi
      have HAX := Lib.hid hap
      clear hst hi hap hB HAP hz0 hz1
      go_wp2_with fail
      refine (mayBe_any _ x y HI.out).mono ?_
      rintro e w1 ⟨rfl, hb1⟩
      have HB1 := Lib.hid ((HB.out.alloc HB.out.size (.cells #[.int .i64 x, .int .i64 y] 34)).trans (hb1.mono (by have := HB.out.size; simp; omega)))
      have hcx := hb1.cell (p := ⟨wr.heap.size, 0, none⟩) (by simp)
      have hcy := hb1.cell (p := ⟨wr.heap.size, 1, none⟩) (by simp)
      rw [World.cell?_alloc_new] at hcx hcy
      have c0 : w1.cell? ⟨wr.heap.size, 0, none⟩ = some (.int .i64 x) := hcx
      have c1 : w1.cell? ⟨wr.heap.size, 1, none⟩ = some (.int .i64 y) := hcy
      clear hcx hcy hb1
      by_cases hm : may (x, y) = true
      · rw [hm]
        have hmx := (may_iff _).1 hm
        dsimp only at hmx
        by_cases hz : z ≤ x
        · have t2 : decide (x < z) = false := by simp; exact hz
          have wk2 : IntKind.i64.wrap (x + y + gap) = x + y + gap := by have := HG.out; have := HG1.out; exact wrap_in (by omega) (by omega)
          have HR := Lib.hid (show apart gap 0 l = apart gap (x + y + gap) (l.drop (k + 1)) by rw [HAX.out, apart_step, hm]; simp [hz])
          have CB := Lib.hid (behind_any w1 x y hm)
          clear HAX
          go_wp2_with fail
          refine CB.out.mono ?_
          rintro e w2 ⟨rfl, hb2⟩
          have HB2 := Lib.hid (HB1.out.trans (hb2.mono HB1.out.size))
          clear hb2 c0 c1
          go_wp2
          go_roundw
          case rel =>
            refine ⟨k + 1, x + y + gap, by omega, by go_num, by first | rfl | rw [wk2], ?_, ?_, HR.out, HB2.out⟩
            · have := HG.out; omega
            · have := HG1.out; omega
          case measure => simp [intOf]; omega
        · have t2 : decide (x < z) = true := by simp; omega
          have HR := Lib.hid (show apart gap 0 l = false by rw [HAX.out, apart_step]; simp [hz])
          go_wp2
          go_ret
          exact ⟨by rw [HR.out]; rfl, HB1.out⟩
      · rw [Bool.not_eq_true] at hm
        rw [hm]
        have HR := Lib.hid (show apart gap 0 l = false by rw [HAX.out, apart_step, hm]; simp)
        go_wp2
        go_ret
        exact ⟨by rw [HR.out]; rfl, HB1.out⟩
    · obtain rfl : k = N := by omega
      have t1 : decide ((k : Int) < (k : Int)) = false := by simp
      have HR := Lib.hid (show apart gap 0 l = true by rw [HAP.out, List.drop_of_length_le (by rw [HN.out]; exact Nat.le_refl _)]; rfl)
      clear hap hB
      go_wp2
      go_ret
      exact ⟨by rw [HR.out]; rfl, HB.out⟩
theorem right_any (w : World) (A : Option Addr) (c N : Nat) (l : List (Int × Int)) (hN : l.length = N) (h : Exts w w.heap.size A l) (hs : N ≤ 1000000) :
    Calls Try.prog 41 #[.slice A N c] w (Bel (.bool (right l)) w) := by
  have C := apart_any w A c N l hN h hs 1 (by omega) (by omega)
  rw [show right l = apart 1 0 l from rfl]
  generalize apart 1 0 l = r at C ⊢
  have C := Lib.hid C
  clear h hN hs
  go_enter Try.func41, Try.ntmps41
  go_wp2_with fail
  refine C.out.mono ?_
  rintro e w1 ⟨rfl, hb1⟩
  have HB := Lib.hid hb1
  clear hb1
  go_wp2
  go_ret
  exact ⟨rfl, HB.out⟩
end Go.Proofs.Ytjeiechkndfhmaa
