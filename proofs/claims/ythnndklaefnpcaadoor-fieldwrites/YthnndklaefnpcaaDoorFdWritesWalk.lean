/-
  FieldWrites: the walk. Conditions: the slice holds its items; the table of widths stands in its variable.
-/
import Derived.Test.YthnndklaefnpcaaDoorFdLawWrite
import Derived.Test.YthnndklaefnpcaaDoorFdAwake
namespace Go.Proofs.YthnndklaefnpcaaDoor
open Go.RowKit Arr Fld

/-- The law answers true; nothing that was there has changed. -/
def TrueB (w : World) (e : Ending) (w' : World) : Prop := e = .returned (.bool true) ∧ Below w.heap.size w w'

theorem outB_len {its : List It} (h : Few its) : (outB (wAll its)).length ≤ 3060 := by
  unfold outB
  split
  · exact wAll_all h
  · simp

set_option maxHeartbeats 1000000 in
theorem writes_walk (its : List It) (A : Option Addr) (c : Nat) (w : World) (ht : Tab w 0) (h : Items w w.heap.size A its) (hs : its.length ≤ 9223372036854775807) :
    Calls Tryd.prog 3 #[.slice A its.length c] w (TrueB w) := by
  have C := Lib.hid (awake_any w ht)
  have HI := Lib.hid h
  have HT := Lib.hid ht
  obtain ⟨N, hN⟩ : ∃ N, N = its.length := ⟨_, rfl⟩
  have HN := Lib.hid hN
  rw [← hN] at hs ⊢
  clear h ht hN
  go_enter Tryd.func3, Tryd.ntmps3
  go_wp2_with fail
  refine C.out.mono ?_
  rintro en w1 ⟨rfl, hB1⟩
  have HB1 := Lib.hid hB1
  have I1 := HI.out.below hB1
  have D := Lib.hid (few_any w1 A c N its HN.out.symm ⟨fun hp => by obtain ⟨b, off, e, e2, e3⟩ := I1.cells hp; exact ⟨b, off, e, Nat.lt_of_lt_of_le e2 hB1.size, e3⟩, fun i hi => ⟨(I1.each i hi).1, (I1.each i hi).2.1, (I1.each i hi).2.2.more hB1.size⟩⟩ hs)
  clear hB1 I1 C
  go_wp2_with fail
  refine D.out.mono ?_
  rintro en w2 ⟨b, rfl, hbf, hB2⟩
  have HB2 := Lib.hid (HB1.out.trans (hB2.mono HB1.out.size))
  have HBF := Lib.hid hbf
  clear hB2 hbf D HB1
  cases b with
  | false =>
    go_wp2
    go_ret
    exact ⟨rfl, HB2.out⟩
  | true =>
    have hf : Few its := HBF.out.1 rfl
    have HF := Lib.hid hf
    have I2 := HI.out.below HB2.out
    have E := Lib.hid (write_any w2 A c N its HN.out.symm ⟨fun hp => by obtain ⟨b, off, e, e2, e3⟩ := I2.cells hp; exact ⟨b, off, e, Nat.lt_of_lt_of_le e2 HB2.out.size, e3⟩, fun i hi => ⟨(I2.each i hi).1, (I2.each i hi).2.1, (I2.each i hi).2.2.more HB2.out.size⟩⟩ hf (HT.out.below HB2.out HT.out.lt))
    clear I2 hf
    go_wp2_with fail
    refine E.out.mono ?_
    rintro en w3 ⟨g, g2, F, F2, rfl, W1, W2, _, _, _, hB3⟩
    have HB3 := Lib.hid (HB2.out.trans (hB3.mono HB2.out.size))
    have O1 := Lib.hid (wout_any W1 (by have := wAll_all HF.out; omega))
    have HW2 := Lib.hid W2
    clear W1 W2 hB3 E
    go_wp2_with fail
    refine O1.out.mono ?_
    rintro en w4 ⟨v, rfl, ⟨A1, c1, rfl, _, _, hb1, _⟩, hB4⟩
    have HB4 := Lib.hid (HB3.out.trans (hB4.mono HB3.out.size))
    have O2 := vout_any (HW2.out.below hB4)
    have O2 : Go.RowKit.Hid (Calls Tryd.prog 9 #[.pointer (some ⟨g2, 0, none⟩)] w4 (VOut (outB (wAll its)) (wAll its).2 w4)) := Lib.hid O2
    have HB := Lib.hid hb1
    have hl := outB_len HF.out
    clear hb1 hB4 HW2 O1
    generalize outB (wAll its) = bs at *
    generalize (wAll its).2 = x at *
    obtain ⟨M, hM⟩ : ∃ M, M = bs.length := ⟨_, rfl⟩
    have HM := Lib.hid hM
    rw [← hM] at hl ⊢
    clear hM
    go_wp2_with fail
    refine O2.out.mono ?_
    rintro en w5 ⟨A2, c2, m, rfl, hb2, rfl⟩
    have CS := same_any2 A1 A2 bs bs M M c1 c2 (w4.drewN m) HM.out.symm HM.out.symm (by omega) _ _ (HB.out.drewN m) (hb2.drewN m)
    rw [show decide (bs = bs) = true by simp] at CS
    have CS := Lib.hid CS
    have HM2 := HM.out
    clear hb2 O2
    rw [← HM2]
    clear HM2
    go_wp2_with fail
    refine CS.out.mono ?_
    rintro en w6 ⟨m2, rfl, rfl⟩
    have t9 : ((x : Int) == (x : Int)) = true := by simp
    go_wp2
    go_ret
    exact ⟨rfl, below_drewN HB4.out _⟩
end Go.Proofs.YthnndklaefnpcaaDoor
