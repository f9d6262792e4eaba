/-
  Contracts of the disk's Crash, step, Flush and Power; and what they answer of a disk that is none. Conditions: the disk lies in memory as its methods leave it (or is none); its steps are fewer than 2^32.
-/
import Derived.Test.YtfjaiolgbcindaaDkSettle
namespace Go.Proofs.Ytfjaiolgbcindaa
open Go.RowKit Arr Dsk
section
variable {w : World} {g : Nat} {κ : Nat → Nat} {s : St}
theorem crash_nil (w : World) (v : Value) : Calls Try.prog 16 #[.pointer none, v] w fun en w' => en = .returned (.tuple #[]) ∧ w = w' := by
  have C := Lib.hid (none_nil w)
  go_enter Try.func16, Try.ntmps16
  go_wp2_with fail
  refine C.out.mono ?_
  rintro en w' ⟨rfl, rfl⟩
  go_wp2
  (try simp only [Exit.inBlock, Exit.then])
  refine bodyPost_ret (results_none rfl _ _ _) rfl ?_
  exact ⟨rfl, rfl⟩
theorem crash_any (h : Dsk w g κ s) (A : Option Addr) (n c : Nat) (keep : List Bool) (hl : keep.length = n) (hk : Bls w (fun k => κ k ≠ 1 ∧ κ k ≠ 2) A keep) (hm : s.waits.length ≤ 4294967296) :
    Calls Try.prog 16 #[.pointer (some ⟨g, 0, none⟩), .slice A n c] w (DskQ g κ (s.crash keep) (.tuple #[]) w) := by
  have C := Lib.hid (none_any h)
  have S := Lib.hid (show Calls Try.prog 30 #[.pointer (some ⟨g, 0, none⟩), .slice A n c, .bool false] w (DskQ g κ { s with kept := setl false keep s.waits s.kept, waits := [] } (.tuple #[]) w) from by
    obtain ⟨kb, kc, v, ws, A5, c5, h⟩ := h
    exact settle_any h false A n c keep hl hk (by rw [← h.wsE, List.length_map] at hm; exact hm))
  have HWF := Lib.hid (h.wf.crash keep)
  have HE := Lib.hid (show { s with kept := setl false keep s.waits s.kept, waits := [], on := false } = s.crash keep from rfl)
  clear h hk hl
  go_enter Try.func16, Try.ntmps16
  go_wp2_with fail
  refine C.out.mono ?_
  rintro en w' ⟨rfl, rfl⟩
  go_wp2_with fail
  refine S.out.mono ?_
  rintro en w' ⟨rfl, ⟨kb, kc, v, ws, A5, c5, h⟩, hT⟩
  have c3 := h.c3
  have f3 := h.free 3
  have FX := Lib.hid (h.setOn false HWF.out)
  have FT := Lib.hid (hT.setCell (b := g) (.inl (by rw [h.own]; omega)) 3 (.bool false))
  clear h hT
  go_wp2
  go_end0
  exact ⟨rfl, ⟨_, _, _, _, _, _, FX.out⟩, FT.out⟩
/-- What step leaves. -/
theorem step_any (h : Dsk w g κ s) (hm : s.steps ≤ 4294967295) : Calls Try.prog 36 #[.pointer (some ⟨g, 0, none⟩)] w (DskQ g κ s.step.1 (.int .i64 (s.step.2 : Int)) w) := by
  have hw := h.wf
  have hws := hw.ws
  by_cases h0 : s.left = 0
  · have C := Lib.hid (show Calls Try.prog 16 #[.pointer (some ⟨g, 0, none⟩), .slice none 0 0] w (fun _ _ => True) ∨ True from .inr trivial)
    have hst : s.step = (s.crash s.keep, 40) := by unfold St.step; rw [if_pos h0]
    rw [hst]
    have CC := Lib.hid (fun A5 c5 (hk : Bls w (fun k => κ k = 5) A5 s.keep) => crash_any h A5 s.keep.length c5 s.keep rfl (hk.touch (F := fun _ => False) (Touch.refl _ w) (fun _ _ h => h) (fun _ _ e => by rw [e]; omega)) (by omega))
    obtain ⟨kb, kc, v, ws, A5, c5, h⟩ := h
    have c4 := h.c4
    have c5' := h.c5
    have CR := Lib.hid (CC.out A5 c5 h.keep)
    rw [h0] at c4
    clear h hw hws hst CC C
    generalize s.keep.length = kn at *
    generalize s.crash s.keep = s' at *
    have t1 : ((0 : Int) == 0) = true := rfl
    go_enter Try.func36, Try.ntmps36
    go_wp2_with fail
    refine CR.out.mono ?_
    rintro en w' ⟨rfl, hd, hT⟩
    have HD := Lib.hid hd
    have HT := Lib.hid hT
    clear hd hT
    go_wp2
    go_ret
    exact ⟨rfl, HD.out, HT.out⟩
  · have hst : s.step = (s.count, 0) := by unfold St.step; rw [if_neg h0]
    rw [hst]
    obtain ⟨kb, kc, v, ws, A5, c5, h⟩ := h
    have c4 := h.c4
    have c6 := h.c6
    have f4 := h.free 4
    have f6 := h.free 6
    have lh := hw.lh
    have ll := hw.ll
    have t1 : (s.left == 0) = false := by simp; exact h0
    have ws1 : IntKind.i64.wrap ((s.steps : Int) + 1) = ((s.steps + 1 : Nat) : Int) := by rw [IntKind.wrap_i64]; omega
    by_cases hp : 0 < s.left
    · have t2 : decide (s.left > 0) = true := by simp; exact hp
      have wl : IntKind.i64.wrap (s.left - 1) = s.left - 1 := by rw [IntKind.wrap_i64]; omega
      have e1 : s.count = { { s with left := s.left - 1 } with steps := s.steps + 1 } := by unfold St.count; rw [if_pos hp]
      have w1 : Wf { s with left := s.left - 1 } := ⟨hw.n0, hw.n1, hw.z0, hw.z1, hw.kl, hw.kb, hw.wb, hw.ws, by show _ ≤ s.left - 1; omega, by show s.left - 1 ≤ _; omega, hw.off⟩
      have h1 := h.setLeft (s.left - 1) w1
      have c6' := h1.c6
      have h2 := h1.setSteps (s.steps + 1) (by rw [← e1]; exact hw.count)
      have FX := Lib.hid h2
      have FT := Lib.hid (((Touch.refl (fun k => κ k ≠ 0) w).setCell (b := g) (.inl (by rw [h.own]; omega)) 4 (.int .i64 (s.left - 1))).setCell (b := g) (.inl (by rw [h.own]; omega)) 6 (.int .i64 ((s.steps + 1 : Nat) : Int)))
      rw [e1]
      clear h h1 h2 hw hws hst w1 e1
      obtain ⟨l, hl⟩ : ∃ l, l = s.left := ⟨_, rfl⟩
      obtain ⟨p, hpp⟩ : ∃ p, p = s.steps := ⟨_, rfl⟩
      simp only [← hl, ← hpp] at *
      clear hl hpp
      go_enter Try.func36, Try.ntmps36
      go_wp2
      go_ret
      exact ⟨rfl, ⟨_, _, _, _, _, _, FX.out⟩, FT.out⟩
    · have t2 : decide (s.left > 0) = false := by simp; omega
      have e1 : s.count = { s with steps := s.steps + 1 } := by unfold St.count; rw [if_neg hp]
      have h2 := h.setSteps (s.steps + 1) (by rw [← e1]; exact hw.count)
      have FX := Lib.hid h2
      have FT := Lib.hid ((Touch.refl (fun k => κ k ≠ 0) w).setCell (b := g) (.inl (by rw [h.own]; omega)) 6 (.int .i64 ((s.steps + 1 : Nat) : Int)))
      rw [e1]
      clear h h2 hw hws hst e1
      obtain ⟨l, hl⟩ : ∃ l, l = s.left := ⟨_, rfl⟩
      obtain ⟨p, hpp⟩ : ∃ p, p = s.steps := ⟨_, rfl⟩
      simp only [← hl, ← hpp] at *
      clear hl hpp
      go_enter Try.func36, Try.ntmps36
      go_wp2
      go_ret
      exact ⟨rfl, ⟨_, _, _, _, _, _, FX.out⟩, FT.out⟩
theorem power_nil (w : World) : Calls Try.prog 18 #[.pointer none] w fun en w' => en = .returned (.tuple #[]) ∧ w = w' := by
  have C := Lib.hid (none_nil w)
  go_enter Try.func18, Try.ntmps18
  go_wp2_with fail
  refine C.out.mono ?_
  rintro en w' ⟨rfl, rfl⟩
  go_wp2
  (try simp only [Exit.inBlock, Exit.then])
  refine bodyPost_ret (results_none rfl _ _ _) rfl ?_
  exact ⟨rfl, rfl⟩
theorem power_any (h : Dsk w g κ s) : Calls Try.prog 18 #[.pointer (some ⟨g, 0, none⟩)] w (DskQ g κ s.power (.tuple #[]) w) := by
  have C := Lib.hid (none_any h)
  have hw := h.wf
  obtain ⟨kb, kc, v, ws, A5, c5, h⟩ := h
  have c3 := h.c3
  have c4 := h.c4
  have c5' := h.c5
  have f3 := h.free 3
  have f4 := h.free 4
  have f5 := h.free 5
  have w1 : Wf { s with on := true } := ⟨hw.n0, hw.n1, hw.z0, hw.z1, hw.kl, hw.kb, hw.wb, hw.ws, hw.ll, hw.lh, fun e => by cases e⟩
  have h1 := h.setOn true w1
  have h2 := h1.setFuse (-1) none 0 [] (Bls.nil _ _ _) hw.power
  have FX := Lib.hid h2
  have FT := Lib.hid ((((Touch.refl (fun k => κ k ≠ 0) w).setCell (b := g) (.inl (by rw [h.own]; omega)) 3 (.bool true)).setCell (b := g) (.inl (by rw [h.own]; omega)) 4 (.int .i64 (-1))).setCell (b := g) (.inl (by rw [h.own]; omega)) 5 (.slice none 0 0))
  clear h h1 h2 hw w1
  go_enter Try.func18, Try.ntmps18
  go_wp2_with fail
  refine C.out.mono ?_
  rintro en w' ⟨rfl, rfl⟩
  go_wp2
  go_end0
  exact ⟨rfl, ⟨_, _, _, _, _, _, FX.out⟩, FT.out⟩
theorem flush_nil (w : World) : Calls Try.prog 21 #[.pointer none] w fun en w' => en = .returned (.int .i64 1) ∧ w = w' := by
  have C := Lib.hid (ready_nil w)
  go_enter Try.func21, Try.ntmps21
  go_wp2_with fail
  refine C.out.mono ?_
  rintro en w' ⟨rfl, rfl⟩
  go_wp2
  go_ret
  exact ⟨rfl, rfl⟩
theorem flush_any (h : Dsk w g κ s) (hm : s.steps ≤ 4294967294) : Calls Try.prog 21 #[.pointer (some ⟨g, 0, none⟩)] w (DskQ g κ s.flush.1 (.int .i64 (s.flush.2 : Int)) w) := by
  have C := Lib.hid (ready_any h)
  by_cases hr : s.ready = 0
  · have S := Lib.hid (step_any h (by omega))
    rw [hr] at C
    by_cases h0 : s.left = 0
    · have e1 : s.flush = (s.crash s.keep, 40) := by unfold St.flush; rw [if_neg (by omega), if_pos h0]
      have e2 : s.step = (s.crash s.keep, 40) := by unfold St.step; rw [if_pos h0]
      rw [e1]
      rw [e2] at S
      clear h e1 e2
      generalize s.crash s.keep = s' at *
      go_enter Try.func21, Try.ntmps21
      go_wp2_with fail
      refine C.out.mono ?_
      rintro en w' ⟨rfl, rfl⟩
      go_wp2_with fail
      refine S.out.mono ?_
      rintro en w' ⟨rfl, hd, hT⟩
      have HD := Lib.hid hd
      have HT := Lib.hid hT
      clear hd hT
      go_wp2
      go_ret
      exact ⟨rfl, HD.out, HT.out⟩
    · have e1 : s.flush = (s.count.flushed, 0) := by unfold St.flush; rw [if_neg (by omega), if_neg h0]
      have e2 : s.step = (s.count, 0) := by unfold St.step; rw [if_neg h0]
      have hl : s.count.waits.length ≤ 4294967296 := by have := h.wf.count.ws; have e : s.count.steps = s.steps + 1 := rfl; omega
      rw [e1]
      rw [e2] at S
      have HE := Lib.hid (show { s.count with kept := setl true [] s.count.waits s.count.kept, waits := [] } = s.count.flushed from rfl)
      clear h e1 e2
      generalize s.count = s1 at *
      go_enter Try.func21, Try.ntmps21
      go_wp2_with fail
      refine C.out.mono ?_
      rintro en w' ⟨rfl, rfl⟩
      go_wp2_with fail
      refine S.out.mono ?_
      rintro en w2 ⟨rfl, hd, hT⟩
      have HT := Lib.hid hT
      have S2 := Lib.hid (show Calls Try.prog 30 #[.pointer (some ⟨g, 0, none⟩), .slice none 0 0, .bool true] w2 (DskQ g κ s1.flushed (.tuple #[]) w2) from by
        obtain ⟨kb, kc, v, ws, A5, c5, h⟩ := hd
        have := settle_any h true none 0 0 [] rfl (Bls.nil _ _ _) (by rw [← h.wsE, List.length_map] at hl; exact hl)
        rw [HE.out] at this
        exact this)
      clear hd hT S C HE
      go_wp2_with fail
      refine S2.out.mono ?_
      rintro en w3 ⟨rfl, hd, hT⟩
      have HD := Lib.hid hd
      have HT2 := Lib.hid (HT.out.trans hT (fun _ e => .inl e))
      clear hd hT
      go_wp2
      go_ret
      exact ⟨rfl, HD.out, HT2.out⟩
  · have e1 : s.flush = (s, s.ready) := by unfold St.flush; rw [if_pos hr]
    rw [e1]
    have HD := Lib.hid h
    clear h e1
    have t1 : ((s.ready : Int) == 0) = false := by simp; omega
    have t2 : ((s.ready : Int) != 0) = true := by simp; omega
    generalize s.ready = r at *
    go_enter Try.func21, Try.ntmps21
    go_wp2_with fail
    refine C.out.mono ?_
    rintro en w' ⟨rfl, rfl⟩
    go_wp2
    go_ret
    exact ⟨rfl, HD.out, Touch.refl _ _⟩
end
end Go.Proofs.Ytfjaiolgbcindaa
