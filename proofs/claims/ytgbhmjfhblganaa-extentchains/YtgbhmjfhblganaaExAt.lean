/-
  Contracts of extent's At and Has. Condition: the slice holds the extents.
-/
import Derived.Test.YtgbhmjfhblganaaExJoin
import Derived.Test.YtgbhmjfhblganaaExCutNum
namespace Go.Proofs.Ytgbhmjfhblganaa
open Go.RowKit Arr Ex

/-- What At leaves. -/
def AtP (l : List (Int × Int)) (n : Int) (w : World) (e : Ending) (w' : World) : Prop :=
  ∃ (s : Int) (b : Bool), e = .returned (.tuple #[.int .i64 s, .bool b]) ∧ (match atL l n with | some z => s = z ∧ b = true | none => s = 0 ∧ b = false) ∧ Below w.heap.size w w'
theorem atP_none {l : List (Int × Int)} {n : Int} {w w' : World} (h : atL l n = none) (hb : Below w.heap.size w w') : AtP l n w (.returned (.tuple #[.int .i64 0, .bool false])) w' := ⟨0, false, rfl, by rw [h]; exact ⟨rfl, rfl⟩, hb⟩
set_option maxHeartbeats 2000000 in
theorem at_any (w : World) (A : Option Addr) (N c : Nat) (l : List (Int × Int)) (hl : l.length = N) (hc : A = none → c = 0) (hn : N ≤ 1000000) (h : Exts w w.heap.size A l) (n : Int) (hz : -9223372036854775808 ≤ n ∧ n ≤ 9223372036854775807) :
    Calls Try.prog 19 #[.slice A N c, .int .i64 n] w (AtP l n w) := by
  have CC := Lib.hid (chain_any w A N c l hl hc hn h)
  have HE := Lib.hid h
  have HN := Lib.hid hl
  have HS := Lib.hid hn
  have HZ := Lib.hid hz
  clear h hl hn hz
  go_enter Try.func19, Try.ntmps19
  by_cases hch : chain l = true
  · rw [hch] at CC
    have hmay := ((chain_iff l).1 hch).1
    have HM := Lib.hid hmay
    go_wp2_with fail
    refine CC.out.mono ?_
    rintro e w1 ⟨rfl, hb1⟩
    have HB1 := Lib.hid hb1
    by_cases hneg : n < 0
    · have t0 : decide (n < 0) = true := by simpa using hneg
      have HF := Lib.hid (atP_none (l := l) (n := n) (by unfold atL; rw [if_neg (by omega)]) hb1)
      clear hb1 CC hmay hch
      go_wp2
      go_ret2
      exact HF.out
    · have t0 : decide (n < 0) = false := by simpa using hneg
      have HT := Lib.hid (show atL l n = (secs l)[n.toNat]? by unfold atL; rw [if_pos ⟨hch, by omega⟩])
      clear hb1 CC hmay hch
      go_wp2
      go_loopw [1, 17] (fun v i wr => ∃ (k : Nat) (m : Int), k ≤ N ∧ i = .int .i64 k ∧ v = .int .i64 m ∧ 0 ≤ m ∧ m ≤ n ∧ atL l n = (secs (l.drop k))[m.toNat]? ∧ Below w.heap.size w wr) (fun _ i _ => N - (intOf i).toNat)
      case atStart => exact ⟨0, n, Nat.zero_le _, rfl, rfl, by omega, by omega, by rw [HT.out]; rfl, HB1.out⟩
      case round =>
        obtain ⟨k, m, hk, rfl, rfl, hm0, hm1, hat, hB⟩ := hrel
        have HB := Lib.hid hB
        have HAT := Lib.hid hat
        by_cases hlt : k < N
        · have hki : k < l.length := by rw [HN.out]; exact hlt
          have hst := drop_cons hki
          have hmx := (may_iff _).1 (HM.out _ (List.getElem_mem hki))
          obtain ⟨b, off, x, y, rfl, hb, hxy, hi, q0, q1⟩ := (HE.out.below hB).at hki
          rw [hxy] at hst hmx
          dsimp only at hmx
          rw [hst] at hat
          have t1 : decide ((k : Int) < (N : Int)) = true := by simp; omega
          have wk : IntKind.i64.wrap ((k : Int) + 1) = (k : Int) + 1 := by have := HS.out; rw [IntKind.wrap_i64]; omega
          have HBA := Lib.hid (HB.out.alloc HB.out.size (.cells #[.int .i64 x, .int .i64 y] 42))
          have HMX := Lib.hid hmx
          clear hB hst hi hxy HAT
          by_cases hlen : m < y
          · have t2 : decide (m < y) = true := by simpa using hlen
            have wx : IntKind.i64.wrap (x + m) = x + m := wrap_in (by omega) (by omega)
            have HF := Lib.hid (show AtP l n w (.returned (.tuple #[.int .i64 (x + m), .bool true])) (wr.alloc (.cells #[.int .i64 x, .int .i64 y] 42)) from ⟨x + m, true, rfl, by rw [hat, secs_at_lt (x := (x, y)) hm0 hlen]; exact ⟨rfl, rfl⟩, HBA.out⟩)
            clear hat
            go_wp2
            go_ret2
            exact HF.out
          · have t2 : decide (m < y) = false := by simpa using hlen
            have wx : IntKind.i64.wrap (m - y) = m - y := by have := HZ.out; exact wrap_in (by omega) (by omega)
            have HR := Lib.hid (show atL l n = (secs (l.drop (k + 1)))[(m - y).toNat]? by rw [hat]; exact secs_at_ge (x := (x, y)) (by dsimp only; omega) (by dsimp only; omega))
            clear hat
            go_wp2
            go_roundw
            case rel => exact ⟨k + 1, m - y, by omega, by go_num, rfl, by omega, by have := HMX.out; omega, HR.out, HBA.out⟩
            case measure => simp [intOf]; omega
        · obtain rfl : k = N := by omega
          have t1 : decide ((k : Int) < (k : Int)) = false := by simp
          have HF := Lib.hid (atP_none (l := l) (n := n) (by rw [hat, List.drop_of_length_le (by rw [HN.out]; exact Nat.le_refl _), secs_nil]; rfl) hB)
          clear hat hB HAT
          go_wp2
          go_ret2
          exact HF.out
  · rw [Bool.not_eq_true] at hch
    rw [hch] at CC
    have HT := Lib.hid (show atL l n = none by unfold atL; rw [if_neg (by rw [hch]; simp)])
    go_wp2_with fail
    refine CC.out.mono ?_
    rintro e w1 ⟨rfl, hb1⟩
    have HF := Lib.hid (atP_none HT.out hb1)
    clear hb1 CC
    go_wp2
    go_ret2
    exact HF.out
/-- Is a sector in an extent that may be? -/
def inB (u : Int) (x : Int × Int) : Bool := may x && decide (x.1 ≤ u) && decide (u < x.1 + x.2)
def hasL (l : List (Int × Int)) (u : Int) : Bool := l.any (inB u)
theorem hasL_secs {l : List (Int × Int)} (h : ∀ x, x ∈ l → may x = true) (u : Int) : hasL l u = decide (u ∈ secs l) := by
  rw [Bool.eq_iff_iff, decide_eq_true_eq, mem_secs]
  unfold hasL
  rw [List.any_eq_true]
  constructor
  · rintro ⟨x, hx, hq⟩
    unfold inB at hq
    simp only [Bool.and_eq_true, decide_eq_true_eq] at hq
    exact ⟨x, hx, hq.1.2, hq.2⟩
  · rintro ⟨x, hx, q1, q2⟩
    refine ⟨x, hx, ?_⟩
    unfold inB
    simp only [Bool.and_eq_true, decide_eq_true_eq]
    exact ⟨⟨h x hx, q1⟩, q2⟩
set_option maxHeartbeats 1000000 in
theorem hasClo_any (w : World) (sb : Nat) (u x y : Int) (hs : w.cell? ⟨sb, 0, none⟩ = some (.int .i64 u)) (hu : -9223372036854775808 ≤ u ∧ u ≤ 9223372036854775807) (hx : I64 (x, y)) :
    Calls Try.prog 30 #[.agg #[.int .i64 x, .int .i64 y], .pointer (some ⟨sb, 0, none⟩)] w (Bel (.bool (inB u (x, y))) w) := by
  have hal := below_alloc w (.cells #[.int .i64 x, .int .i64 y] 42)
  have hlt := lt_of_cell hs
  have b0 : (w.alloc (.cells #[.int .i64 x, .int .i64 y] 42)).cell? ⟨w.heap.size, 0, none⟩ = some (.int .i64 x) := by rw [World.cell?_alloc_new]; rfl
  have b1 : (w.alloc (.cells #[.int .i64 x, .int .i64 y] 42)).cell? ⟨w.heap.size, 1, none⟩ = some (.int .i64 y) := by rw [World.cell?_alloc_new]; rfl
  have s1 : (w.alloc (.cells #[.int .i64 x, .int .i64 y] 42)).cell? ⟨sb, 0, none⟩ = some (.int .i64 u) := (hal.cell (p := ⟨sb, 0, none⟩) hlt).trans hs
  have hsz : w.heap.size < (w.alloc (.cells #[.int .i64 x, .int .i64 y] 42)).heap.size := by simp
  have CM := Lib.hid (mayBe_any (w.alloc (.cells #[.int .i64 x, .int .i64 y] 42)) x y hx)
  have HAL := Lib.hid hal
  have HU := Lib.hid hu
  clear hal hx hu
  go_enter Try.func30, Try.ntmps30
  go_wp2_with fail
  refine CM.out.mono ?_
  rintro e w1 ⟨rfl, hb1⟩
  have d0 := (hb1.cell (p := ⟨w.heap.size, 0, none⟩) hsz).trans b0
  have d1 := (hb1.cell (p := ⟨w.heap.size, 1, none⟩) hsz).trans b1
  have d2 := (hb1.cell (p := ⟨sb, 0, none⟩) (by show sb < _; exact Nat.lt_trans hlt hsz)).trans s1
  have HB1 := Lib.hid (HAL.out.trans (hb1.mono (by omega)))
  clear hb1 b0 b1 s1 hs hsz hlt CM HAL
  by_cases hm : may (x, y) = true
  · rw [hm]
    have hmx := (may_iff _).1 hm
    dsimp only at hmx
    by_cases c0 : x ≤ u
    · have t0 : decide (u ≥ x) = true := by simpa using c0
      have wx : IntKind.i64.wrap (u - x) = u - x := by have := HU.out; exact wrap_in (by omega) (by omega)
      have HR := Lib.hid (show inB u (x, y) = decide (u - x < y) by
        unfold inB; rw [hm]; simp only [Bool.true_and]
        rw [show decide (x ≤ u) = true by simpa using c0, Bool.true_and]
        rw [Bool.eq_iff_iff, decide_eq_true_eq, decide_eq_true_eq]; omega)
      go_wp2
      go_ret
      exact ⟨by rw [HR.out]; rfl, HB1.out⟩
    · have t0 : decide (u ≥ x) = false := by simpa using c0
      have HR := Lib.hid (show inB u (x, y) = false by unfold inB; rw [show decide (x ≤ u) = false by simpa using c0]; simp)
      go_wp2
      go_ret
      exact ⟨by rw [HR.out]; rfl, HB1.out⟩
  · rw [Bool.not_eq_true] at hm
    rw [hm]
    have HR := Lib.hid (show inB u (x, y) = false by unfold inB; rw [hm]; rfl)
    go_wp2
    go_ret
    exact ⟨by rw [HR.out]; rfl, HB1.out⟩
end Go.Proofs.Ytgbhmjfhblganaa
