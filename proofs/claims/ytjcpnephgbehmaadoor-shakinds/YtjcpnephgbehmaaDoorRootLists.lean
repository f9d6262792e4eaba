/-
  Contracts of the reference's Kinds and Begin: the roots that the chapter says. No conditions. (Written by tools/gen_kinds.py.)
-/
import Derived.Test.YtjcpnephgbehmaaDoorRootKinds
import Derived.Test.YtjcpnephgbehmaaDoorShaWith2
namespace Go.Proofs.YtjcpnephgbehmaaDoor
open Go.RowKit Arr Sh Ro

/-- What a call leaves that hands new words back. -/
def MadeWords (l : List Nat) (w : World) (e : Ending) (w' : World) : Prop := ∃ g c, e = .returned (.slice (some ⟨g, 0, none⟩) l.length c) ∧ Holds w' g .u32 l ∧ w.heap.size ≤ g ∧ Below w.heap.size w w'

set_option maxHeartbeats 1000000 in
theorem rkinds_any_gen (PP M : List Nat) (hP : pgo 400 2 [] 64 = PP) (LP : PP.length = 64) (hM : ∀ i, i < 64 → M.getD i 0 = Ro.root (PP.getD i 0) 3) (LM : M.length = 64) (w : World) : Calls Tryd.prog 13 #[] w (MadeWords M w) := by
  have C1 := Lib.hid (primes_any 64 PP hP LP (by omega) (by omega) w)
  have HM := Lib.hid hM
  clear hP hM
  go_enter Tryd.func13, Tryd.ntmps13
  go_wp2_with fail
  refine C1.out.mono ?_
  rintro e w1 ⟨gl, cl, rfl, hH, hgl, hB⟩
  have HT := Lib.hid (tabI_of hH)
  have HB1 := Lib.hid hB
  have hglw := hH.lt (by omega)
  have hsz1 := hB.size
  rw [LP]
  clear hH hB C1
  go_wp2_with fail
  go_loopw [1, 3] (fun v i wr => ∃ i0 : Nat, i0 ≤ 64 ∧ i = .int .i64 (i0 : Nat) ∧ wr.ownsRow w1.heap.size 33 1 v i0 (vals .u32 (M.take i0)) ∧ Below w1.heap.size w1 wr) (fun _ i _ => 64 - (intOf i).toNat)
  case atStart => exact ⟨0, by omega, rfl, World.ownsRow_nil _ _ _ _, Below.refl _ _⟩
  case round =>
    obtain ⟨i, hi, rfl, hown, hbel⟩ := hrel
    have HO := Lib.hid hown
    have HBl := Lib.hid hbel
    have hsz := hbel.size
    clear hown hbel
    by_cases hlt : i < 64
    · have t1 : decide ((i : Int) < 64) = true := by simp; omega
      have ti : (i : Int) < 64 := by omega
      have ci := (HT.out.below HBl.out hglw) i (by omega)
      have C2 := Lib.hid (fun w' => (root_any (PP.getD i 0) 3 (by omega) (by omega) w' : Calls Tryd.prog 23 #[.int .i64 ((PP.getD i 0 : Nat) : Int), .int .i64 3] w' _))
      have HS := Lib.hid (take_snoc M i (by omega))
      rw [HM.out i hlt] at HS
      generalize Ro.root (PP.getD i 0) 3 = x at *
      generalize PP.getD i 0 = p at *
      go_wp2_with fail
      refine (C2.out _).mono ?_
      rintro e w2 ⟨rfl, hB2⟩
      have HO2 := Lib.hid (owns_below HO.out hB2)
      have HB2 := Lib.hid (HBl.out.trans (hB2.mono HBl.out.size))
      have hsz2 := HB2.out.size
      clear hB2 C2 HO
      go_wp2_with (at_builtin; refine append_one rfl (.tmp 9) (.tmp 15) 36 rfl w1.heap.size 33 (.int .u32 0) 4 Tryd.underlying36 info_w32 rfl _ i _ (.int .u32 (x : Int)) rfl HO2.out rfl rfl (by omega) (by omega) hsz2 ?_; intro v' w6 hown6 hbel6)
      rw [← vals_snoc, ← HS.out] at hown6
      go_roundw
      case rel => exact ⟨i + 1, by omega, by go_num, hown6, HB2.out.trans hbel6⟩
      case measure => simp [intOf]; omega
    · obtain rfl : i = 64 := by omega
      have t1 : decide ((64 : Int) < 64) = false := by decide
      have eT : M.take 64 = M := List.take_of_length_le (by omega)
      rw [eT] at HO
      obtain ⟨g, c, rfl, hg, _, _, hH⟩ := holds_of_owns HO.out (by omega)
      have HH := Lib.hid hH
      have HBB := Lib.hid (HB1.out.trans (HBl.out.mono HB1.out.size))
      clear hH eT HO
      go_wp2
      go_ret
      exact ⟨g, c, by rw [LM]; rfl, HH.out, by omega, HBB.out⟩

set_option maxHeartbeats 1000000 in
theorem rbegin_any_gen (PP M : List Nat) (hP : pgo 400 2 [] 8 = PP) (LP : PP.length = 8) (hM : ∀ i, i < 8 → M.getD i 0 = Ro.root (PP.getD i 0) 2) (LM : M.length = 8) (w : World) : Calls Tryd.prog 16 #[] w (MadeWords M w) := by
  have C1 := Lib.hid (primes_any 8 PP hP LP (by omega) (by omega) w)
  have HM := Lib.hid hM
  clear hP hM
  go_enter Tryd.func16, Tryd.ntmps16
  go_wp2_with fail
  refine C1.out.mono ?_
  rintro e w1 ⟨gl, cl, rfl, hH, hgl, hB⟩
  have HT := Lib.hid (tabI_of hH)
  have HB1 := Lib.hid hB
  have hglw := hH.lt (by omega)
  have hsz1 := hB.size
  rw [LP]
  clear hH hB C1
  go_wp2_with fail
  go_loopw [1, 3] (fun v i wr => ∃ i0 : Nat, i0 ≤ 8 ∧ i = .int .i64 (i0 : Nat) ∧ wr.ownsRow w1.heap.size 33 1 v i0 (vals .u32 (M.take i0)) ∧ Below w1.heap.size w1 wr) (fun _ i _ => 8 - (intOf i).toNat)
  case atStart => exact ⟨0, by omega, rfl, World.ownsRow_nil _ _ _ _, Below.refl _ _⟩
  case round =>
    obtain ⟨i, hi, rfl, hown, hbel⟩ := hrel
    have HO := Lib.hid hown
    have HBl := Lib.hid hbel
    have hsz := hbel.size
    clear hown hbel
    by_cases hlt : i < 8
    · have t1 : decide ((i : Int) < 8) = true := by simp; omega
      have ti : (i : Int) < 8 := by omega
      have ci := (HT.out.below HBl.out hglw) i (by omega)
      have C2 := Lib.hid (fun w' => (root_any (PP.getD i 0) 2 (by omega) (by omega) w' : Calls Tryd.prog 23 #[.int .i64 ((PP.getD i 0 : Nat) : Int), .int .i64 2] w' _))
      have HS := Lib.hid (take_snoc M i (by omega))
      rw [HM.out i hlt] at HS
      generalize Ro.root (PP.getD i 0) 2 = x at *
      generalize PP.getD i 0 = p at *
      go_wp2_with fail
      refine (C2.out _).mono ?_
      rintro e w2 ⟨rfl, hB2⟩
      have HO2 := Lib.hid (owns_below HO.out hB2)
      have HB2 := Lib.hid (HBl.out.trans (hB2.mono HBl.out.size))
      have hsz2 := HB2.out.size
      clear hB2 C2 HO
      go_wp2_with (at_builtin; refine append_one rfl (.tmp 9) (.tmp 15) 36 rfl w1.heap.size 33 (.int .u32 0) 4 Tryd.underlying36 info_w32 rfl _ i _ (.int .u32 (x : Int)) rfl HO2.out rfl rfl (by omega) (by omega) hsz2 ?_; intro v' w6 hown6 hbel6)
      rw [← vals_snoc, ← HS.out] at hown6
      go_roundw
      case rel => exact ⟨i + 1, by omega, by go_num, hown6, HB2.out.trans hbel6⟩
      case measure => simp [intOf]; omega
    · obtain rfl : i = 8 := by omega
      have t1 : decide ((8 : Int) < 8) = false := by decide
      have eT : M.take 8 = M := List.take_of_length_le (by omega)
      rw [eT] at HO
      obtain ⟨g, c, rfl, hg, _, _, hH⟩ := holds_of_owns HO.out (by omega)
      have HH := Lib.hid hH
      have HBB := Lib.hid (HB1.out.trans (HBl.out.mono HB1.out.size))
      clear hH eT HO
      go_wp2
      go_ret
      exact ⟨g, c, by rw [LM]; rfl, HH.out, by omega, HBB.out⟩
theorem map_at (P M : List Nat) (f : Nat → Nat) (h : P.map f = M) (i : Nat) (hi : i < P.length) : M.getD i 0 = f (P.getD i 0) := by
  subst h
  simp [hi]
theorem len64 : P64.length = 64 := rfl
theorem len8 : P8.length = 8 := rfl
theorem rkinds_any (w : World) : Calls Tryd.prog 13 #[] w (MadeWords Sh.K w) :=
  rkinds_any_gen P64 Sh.K pgo64 len64 (fun i hi => map_at P64 Sh.K (fun p => Ro.root p 3) roots64 i (by rw [len64]; exact hi)) length_K w
theorem rbegin_any (w : World) : Calls Tryd.prog 16 #[] w (MadeWords H0.l w) :=
  rbegin_any_gen P8 H0.l pgo8 len8 (fun i hi => map_at P8 H0.l (fun p => Ro.root p 2) roots8 i (by rw [len8]; exact hi)) (length_l _) w
end Go.Proofs.YtjcpnephgbehmaaDoor
