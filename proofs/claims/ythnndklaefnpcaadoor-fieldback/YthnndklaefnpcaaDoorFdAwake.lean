/-
  The contracts of the law's awake, and of the reference's Same for longer lists. Condition: the table of widths stands in its variable.
-/
import Derived.Test.YthnndklaefnpcaaDoorFdOut
import Derived.Test.YthnndklaefnpcaaDoorSame
namespace Go.Proofs.YthnndklaefnpcaaDoor
open Go.RowKit Arr Fld

set_option maxRecDepth 10000 in
set_option maxHeartbeats 1000000 in
theorem same_loop2 (A A' : Option Addr) (bs cs : List Nat) (n c c' : Nat) (w : World) (hl : bs.length = n) (hl' : cs.length = n) (hn : n ≤ 1000000)
    (B B' : Nat) (hb : Bys w B A bs) (hc : Bys w B' A' cs) :
    Calls Tryd.prog 10 #[.slice A n c, .slice A' n c'] w (Ans (decide (bs = cs)) w) := by
  have HL := Lib.hid hl; clear hl
  have HL' := Lib.hid hl'; clear hl'
  have HB := Lib.hid hb; clear hb
  have HC := Lib.hid hc; clear hc
  have h1 : ((n : Int) != (n : Int)) = false := by simp
  go_enter Tryd.func10, Tryd.ntmps10
  go_wp2
  go_loopw [5] (fun i wr => ∃ k m : Nat, k ≤ n ∧ i = .int .i64 k ∧ agree bs cs k ∧ wr = w.drewN m) (fun i _ => n - (intOf i).toNat)
  case atStart => exact ⟨0, 0, Nat.zero_le _, rfl, fun i hi => by omega, rfl⟩
  case round =>
    obtain ⟨k, m, hk, rfl, hag, rfl⟩ := hrel
    have HAG := Lib.hid hag; clear hag
    by_cases hlt : k < n
    · obtain ⟨b, off, rfl, _, h3⟩ := HB.out.2 (by have := HL.out; omega)
      obtain ⟨b', off', rfl, _, h4⟩ := HC.out.2 (by have := HL'.out; omega)
      have hc1 := h3 k (by have := HL.out; omega)
      have hc2 := h4 k (by have := HL'.out; omega)
      clear h3 h4
      by_cases he : bs.getD k 0 = cs.getD k 0
      · have HE := Lib.hid (agree_succ HAG.out he)
        have ht : (((bs.getD k 0 : Nat) : Int) != ((cs.getD k 0 : Nat) : Int)) = false := by rw [he]; simp
        clear he
        generalize bs.getD k 0 = x at *
        generalize cs.getD k 0 = y at *
        go_wp2
        go_quiet (fail)
        go_wp2
        go_roundw
        case rel => exact ⟨k + 1, _, by omega, by go_num, HE.out, rfl⟩
        case measure => simp [intOf]; omega
      · have ht : (((bs.getD k 0 : Nat) : Int) != ((cs.getD k 0 : Nat) : Int)) = true := by
          rw [bne_iff_ne]; omega
        have hne : bs ≠ cs := fun e => he (by rw [e])
        have hd : decide (bs = cs) = false := by simp [hne]
        have HD := Lib.hid hd; clear hd hne he
        generalize bs.getD k 0 = x at *
        generalize cs.getD k 0 = y at *
        go_wp2
        go_quiet (fail)
        go_wp2
        go_ret
        exact ⟨m + nq, congrArg (fun b => Ending.returned (Value.bool b)) HD.out.symm, by rw [World.drewN_drewN]⟩
    · obtain rfl : k = n := by omega
      have hd : decide (bs = cs) = true := by simp [eq_of_agree (HL.out.trans HL'.out.symm) (by rw [HL.out]; exact HAG.out)]
      have HD := Lib.hid hd; clear hd
      go_wp2
      go_ret
      exact ⟨_, congrArg (fun b => Ending.returned (Value.bool b)) HD.out.symm, rfl⟩

/-- SAME: whether the two lists of bytes are one. -/
theorem same_any2 (A A' : Option Addr) (bs cs : List Nat) (n n' c c' : Nat) (w : World) (hl : bs.length = n) (hl' : cs.length = n') (hn : n ≤ 1000000)
    (B B' : Nat) (hb : Bys w B A bs) (hc : Bys w B' A' cs) :
    Calls Tryd.prog 10 #[.slice A n c, .slice A' n' c'] w (Ans (decide (bs = cs)) w) := by
  by_cases h : n = n'
  · subst h
    exact same_loop2 A A' bs cs n c c' w hl hl' hn B B' hb hc
  · have hd : decide (bs = cs) = false := by
      have : bs ≠ cs := fun e => h (by rw [← hl, ← hl', e])
      simp [this]
    rw [hd]
    exact same_len A A' n n' c c' w h

/-- A literal's bytes, in a new block. -/
theorem lit_bys (w : World) (bs : List Nat) (h : ∀ x, x ∈ bs → x < 256) : Bys (w.alloc (.cells (na .u8 bs) 5)) (w.heap.size + 1) (some ⟨w.heap.size, 0, none⟩) bs := by
  have hh := Holds.new w 5 .u8 bs
  exact ⟨h, fun hp => ⟨w.heap.size, 0, rfl, by omega, fun i hi => by rw [Nat.zero_add]; exact hh.cell i hi⟩⟩

set_option maxHeartbeats 1000000 in
theorem awake_any (w : World) (ht : Tab w 0) : Calls Tryd.prog 5 #[] w fun e w' => e = .returned (.bool true) ∧ Below w.heap.size w w' := by
  have W0 := Wtr.new w
  have B0 := below_alloc w (.cells #[.int .i64 0, .pointer none, .int .i64 0] 51)
  have C1 := Lib.hid (wnumber_any W0 5 2 (by decide) (ht.below B0 ht.lt))
  have HB0 := Lib.hid B0
  have HT := Lib.hid ht
  clear W0 B0 ht
  go_enter Tryd.func5, Tryd.ntmps5
  go_wp2_with fail
  refine C1.out.mono ?_
  rintro en w1 ⟨rfl, F1, W1, T1, L1⟩
  have B1 := HB0.out.trans ((T1.below (B := w.heap.size) (fun k hk => by show w.heap.size ≤ k; omega) HB0.out.size))
  have F0 : wput ([], 0) (numF 5 2) = ([0, 5], 0) := by decide
  rw [F0] at W1
  have LB := lit_bys w1 [7] (by decide)
  have hsz : (w1.alloc (.cells (na .u8 [7]) 5)).heap.size = w1.heap.size + 1 := by simp
  have HB1 := Lib.hid (B1.trans ((below_alloc w1 (.cells (na .u8 [7]) 5)).mono B1.size))
  have W1a := W1.below (below_alloc w1 (.cells (na .u8 [7]) 5))
  have XB : BysX (w1.alloc (.cells (na .u8 [7]) 5)) F1 (some ⟨w1.heap.size, 0, none⟩) [7] := ⟨LB.1, fun hp => by
    obtain ⟨b, off, e, hbl, hc⟩ := LB.2 hp
    have e' := e
    simp only [Option.some.injEq, Addr.mk.injEq, and_true] at e'
    exact ⟨b, off, e, by omega, fun hF => by have := (W1.lt b hF).2; omega, hc⟩⟩
  have C2 := Lib.hid (wbytes_any W1a (some ⟨w1.heap.size, 0, none⟩) 1 1 [7] (fun e => by cases e) rfl XB (by decide) (HT.out.below HB1.out HT.out.lt))
  have L1' := Lib.hid (show ∀ k, F1 k → w.heap.size ≤ k from fun k hk => by rcases L1 k hk with h | h; omega; have := HB0.out.size; omega)
  clear W1 T1 L1 B1 LB hsz W1a XB C1
  go_wp2_with fail
  refine C2.out.mono ?_
  rintro en w2 ⟨rfl, F2, W2, T2, _⟩
  have F3 : wput ([0, 5], 0) (bysF [7]) = ([0, 5, 0, 1, 7], 0) := by decide
  rw [F3] at W2
  have HB2 := Lib.hid (HB1.out.trans (T2.below L1'.out HB1.out.size))
  have C3 := Lib.hid (wout_ok W2 (by decide))
  clear W2 T2 C2
  go_wp2_with fail
  refine C3.out.mono ?_
  rintro en w3 ⟨v, rfl, ⟨A, c, rfl, _, _, hb, _⟩, hB3⟩
  have HB3 := Lib.hid (HB2.out.trans (hB3.mono HB2.out.size))
  have LC := lit_bys w3 [0, 5, 0, 1, 7] (by decide)
  have hba := below_alloc w3 (.cells (na .u8 [0, 5, 0, 1, 7]) 5)
  have C4 := same_any2 A (some ⟨w3.heap.size, 0, none⟩) [0, 5, 0, 1, 7] [0, 5, 0, 1, 7] 5 5 c 5 _ rfl rfl (by decide) _ _ (hb.below hba) LC
  rw [show decide ([0, 5, 0, 1, 7] = [0, 5, 0, 1, 7]) = true from rfl] at C4
  have C4 := Lib.hid C4
  have HB4 := Lib.hid (HB3.out.trans (hba.mono HB3.out.size))
  clear hb hB3 LC hba C3
  go_wp2_with fail
  refine C4.out.mono ?_
  rintro en w4 ⟨m, rfl, rfl⟩
  go_wp2
  go_ret
  exact ⟨rfl, below_drewN HB4.out m⟩
end Go.Proofs.YthnndklaefnpcaaDoor
