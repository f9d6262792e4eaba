/-
  Contracts of field's Read, and the Reader's Number, Bytes, Fixed and Done. Conditions: the reader lies in memory as Read leaves it (or is none); the table of widths stands in its variable.
-/
import Derived.Test.YtoeboblkboillaaDoorFdFns
namespace Go.Proofs.YtoeboblkboillaaDoor
open Go.RowKit Arr Fld

/-- Block g is a reader: what is left to read, and what went wrong first. -/
structure Rd (w : World) (g : Nat) (s : List Nat × Nat) : Prop where
  err : w.cell? ⟨g, 0, none⟩ = some (.int .i64 (s.2 : Int))
  efree : w.frozen? ⟨g, 0, none⟩ = false
  made : w.cell? ⟨g, 1, none⟩ = some (.bool true)
  rest : ∃ A c, w.cell? ⟨g, 2, none⟩ = some (.slice A s.1.length c) ∧ s.1.length ≤ c ∧ (A = none → c = 0) ∧ Bys w g A s.1
  rfree : w.frozen? ⟨g, 2, none⟩ = false
  small : s.1.length ≤ 4294967296
section
variable {w w' : World} {g : Nat} {s : List Nat × Nat}
theorem Rd.lt (h : Rd w g s) : g < w.heap.size := lt_of_cell h.made
theorem Rd.below (h : Rd w g s) (hb : Below w.heap.size w w') : Rd w' g s := by
  obtain ⟨A, c, h1, h2, h3, h4⟩ := h.rest
  have hl := h.lt
  exact ⟨(hb.cell (p := ⟨g, 0, none⟩) hl).trans h.err, (hb.frozen (p := ⟨g, 0, none⟩) hl).trans h.efree, (hb.cell (p := ⟨g, 1, none⟩) hl).trans h.made, ⟨A, c, (hb.cell (p := ⟨g, 2, none⟩) hl).trans h1, h2, h3, h4.keep fun q hq => hb.cell (Nat.lt_trans hq hl)⟩, (hb.frozen (p := ⟨g, 2, none⟩) hl).trans h.rfree, h.small⟩
theorem Rd.drewN (h : Rd w g s) (n : Nat) : Rd (w.drewN n) g s := ⟨h.err, h.efree, h.made, h.rest, h.rfree, h.small⟩
theorem Rd.drew (h : Rd w g s) : Rd w.drew g s := h.drewN 1
/-- Something goes wrong. -/
theorem Rd.fail {rest : List Nat} (h : Rd w g (rest, 0)) (e : Nat) : Rd (w.setCell ⟨g, 0, none⟩ (.int .i64 (e : Int))) g (rest, e) := by
  obtain ⟨A, c, h1, h2, h3, h4⟩ := h.rest
  exact ⟨World.cell?_setCell_same _ _ _ h.err, (World.frozen?_setCell ..).trans h.efree, (World.cell?_setCell_other _ _ _ _ (by simp)).trans h.made, ⟨A, c, (World.cell?_setCell_other _ _ _ _ (by simp)).trans h1, h2, h3, h4.keep fun q hq => World.cell?_setCell_other _ _ _ _ (fun x => by subst x; exact Nat.lt_irrefl _ hq)⟩, (World.frozen?_setCell ..).trans h.rfree, h.small⟩
/-- It goes on. -/
theorem Rd.next {rest : List Nat} {A : Option Addr} {c : Nat} (h : Rd w g (rest, 0)) (h1 : w.cell? ⟨g, 2, none⟩ = some (.slice A rest.length c)) (h2 : rest.length ≤ c) (h3 : A = none → c = 0) (h4 : Bys w g A rest) (n : Nat) (hn : n ≤ rest.length) :
    Rd (w.setCell ⟨g, 2, none⟩ (.slice (cutA A c n) (rest.length - n) (c - n))) g (rest.drop n, 0) := by
  have hcut := bys_cut h4 c h2 n rest.length hn (Nat.le_refl _)
  rw [List.take_of_length_le (by rw [List.length_drop]; omega)] at hcut
  refine ⟨(World.cell?_setCell_other _ _ _ _ (by simp)).trans h.err, (World.frozen?_setCell ..).trans h.efree, (World.cell?_setCell_other _ _ _ _ (by simp)).trans h.made, ⟨cutA A c n, c - n, ?_, ?_, ?_, ?_⟩, (World.frozen?_setCell ..).trans h.rfree, ?_⟩
  · rw [World.cell?_setCell_same _ _ _ h1, List.length_drop]
  · rw [List.length_drop]; show rest.length - n ≤ c - n; omega
  · intro hA
    unfold cutA at hA
    split at hA
    · rename_i hcn; omega
    · cases A with
      | none => have := h3 rfl; omega
      | some a => simp at hA
  · exact hcut.keep fun q hq => World.cell?_setCell_other _ _ _ _ (fun x => by subst x; exact Nat.lt_irrefl _ hq)
  · have := h.small; rw [List.length_drop]; show rest.length - n ≤ _; have h5 : rest.length ≤ 4294967296 := this; omega
end

theorem rnone_nil (w : World) : Calls Tryd.prog 32 #[.pointer none] w fun e w' => e = .returned (.bool true) ∧ w = w' := by
  go_enter Tryd.func32, Tryd.ntmps32
  go_wp2
  go_ret
  exact ⟨rfl, rfl⟩
theorem rnone_made (w : World) (g : Nat) (h1 : w.cell? ⟨g, 1, none⟩ = some (.bool true)) : Calls Tryd.prog 32 #[.pointer (some ⟨g, 0, none⟩)] w fun e w' => e = .returned (.bool false) ∧ w = w' := by
  go_enter Tryd.func32, Tryd.ntmps32
  go_wp2
  go_ret
  exact ⟨rfl, rfl⟩
theorem stopped_nil (w : World) : Calls Tryd.prog 28 #[.pointer none] w fun e w' => e = .returned (.bool true) ∧ w = w' := by
  go_enter Tryd.func28, Tryd.ntmps28
  go_wp2_with fail
  refine (rnone_nil w).mono ?_
  rintro e w' ⟨rfl, rfl⟩
  go_wp2
  go_ret
  exact ⟨rfl, rfl⟩
theorem stopped_no {w : World} {g : Nat} {rest : List Nat} (h : Rd w g (rest, 0)) : Calls Tryd.prog 28 #[.pointer (some ⟨g, 0, none⟩)] w fun e w' => e = .returned (.bool false) ∧ w = w' := by
  have C := Lib.hid (rnone_made w g h.made)
  have D := Lib.hid (failed_no h.err)
  clear h
  go_enter Tryd.func28, Tryd.ntmps28
  go_wp2_with fail
  refine C.out.mono ?_
  rintro e w' ⟨rfl, rfl⟩
  go_wp2_with fail
  refine D.out.mono ?_
  rintro e w' ⟨rfl, rfl⟩
  go_wp2
  go_ret
  exact ⟨rfl, rfl⟩
theorem stopped_yes {w : World} {g : Nat} {s : List Nat × Nat} (h : Rd w g s) (hs : s.2 ≠ 0) : Calls Tryd.prog 28 #[.pointer (some ⟨g, 0, none⟩)] w fun e w' => e = .returned (.bool true) ∧ w = w' := by
  have C := Lib.hid (rnone_made w g h.made)
  have D := Lib.hid (failed_yes h.err hs)
  clear h hs
  go_enter Tryd.func28, Tryd.ntmps28
  go_wp2_with fail
  refine C.out.mono ?_
  rintro e w' ⟨rfl, rfl⟩
  go_wp2_with fail
  refine D.out.mono ?_
  rintro e w' ⟨rfl, rfl⟩
  go_wp2
  go_ret
  exact ⟨rfl, rfl⟩

/-- What onward leaves. -/
def OnwP (g : Nat) (s : List Nat × Nat) (w : World) (en : Ending) (w' : World) : Prop := en = .returned (.tuple #[]) ∧ Rd w' g s ∧ Only g w w'
theorem onward_bad {w : World} {g : Nat} {rest : List Nat} (h : Rd w g (rest, 0)) (n : Int) (e : Nat) (he : e ≠ 0) : Calls Tryd.prog 30 #[.pointer (some ⟨g, 0, none⟩), .int .i64 n, .int .i64 (e : Int)] w (OnwP g (rest, e) w) := by
  have C := Lib.hid (fail_no h.err h.efree e)
  have HP := Lib.hid (show OnwP g (rest, e) w (.returned (.tuple #[])) (w.setCell ⟨g, 0, none⟩ (.int .i64 (e : Int))) from ⟨rfl, h.fail e, (Only.refl g w).setCell 0 _⟩)
  have t4 : ((e : Int) != 0) = true := by simp; omega
  clear h
  go_enter Tryd.func30, Tryd.ntmps30
  go_wp2_with fail
  refine C.out.mono ?_
  rintro en w' ⟨rfl, rfl⟩
  go_wp2_with fail
  (try simp only [Exit.inBlock, Exit.then])
  refine bodyPost_ret (results_none rfl _ _ _) rfl ?_
  exact HP.out
theorem onward_ok {w : World} {g : Nat} {rest : List Nat} (h : Rd w g (rest, 0)) (n : Nat) (hn : n ≤ rest.length) : Calls Tryd.prog 30 #[.pointer (some ⟨g, 0, none⟩), .int .i64 (n : Int), .int .i64 0] w (OnwP g (rest.drop n, 0) w) := by
  obtain ⟨A, c, h1, h2, h3, h4⟩ := h.rest
  have h1 : w.cell? ⟨g, 2, none⟩ = some (.slice A rest.length c) := h1
  have h2 : rest.length ≤ c := h2
  have h4 : Bys w g A rest := h4
  have HP := Lib.hid (show OnwP g (rest.drop n, 0) w (.returned (.tuple #[])) (w.setCell ⟨g, 2, none⟩ (.slice (cutA A c n) (rest.length - n) (c - n))) from ⟨rfl, h.next h1 h2 h3 h4 n hn, (Only.refl g w).setCell 2 _⟩)
  have hf := h.rfree
  have RL := run_cut_l A rest.length c n hn
  clear h h4
  generalize rest.length - n = N2 at *
  generalize rest.length = N at *
  generalize cutA A c n = A' at *
  generalize c - n = c2 at *
  go_enter Tryd.func30, Tryd.ntmps30
  go_wp2
  go_end0
  exact HP.out
theorem onward_any {w : World} {g : Nat} {rest : List Nat} (h : Rd w g (rest, 0)) (n : Nat) (e : Nat) (hn : e = 0 → n ≤ rest.length) : Calls Tryd.prog 30 #[.pointer (some ⟨g, 0, none⟩), .int .i64 (n : Int), .int .i64 (e : Int)] w (OnwP g (onw rest n e) w) := by
  by_cases he : e = 0
  · subst he
    have : onw rest n 0 = (rest.drop n, 0) := by unfold onw; rw [if_pos rfl]
    rw [this]; exact onward_ok h n (hn rfl)
  · have : onw rest n e = (rest, e) := by unfold onw; rw [if_neg he]
    rw [this]; exact onward_bad h _ e he

/-- What Number leaves: the number, and the reader. -/
def RNum (g : Nat) (v : Nat) (s : List Nat × Nat) (w : World) (en : Ending) (w' : World) : Prop := en = .returned (.int .i64 (v : Int)) ∧ Rd w' g s ∧ Only g w w'
/-- What Bytes and Fixed leave. -/
def RBys (g : Nat) (v : List Nat) (s : List Nat × Nat) (w : World) (en : Ending) (w' : World) : Prop := ∃ u, en = .returned u ∧ LiesF w' w.heap.size u v ∧ Rd w' g s ∧ Only g w w'

theorem rnumber_nil (w : World) (size most : Value) : Calls Tryd.prog 19 #[.pointer none, size, most] w fun e w' => e = .returned (.int .i64 0) ∧ w = w' := by
  go_enter Tryd.func19, Tryd.ntmps19
  go_wp2_with fail
  refine (stopped_nil w).mono ?_
  rintro e w' ⟨rfl, rfl⟩
  go_wp2
  go_ret
  exact ⟨rfl, rfl⟩
theorem rfixed_nil (w : World) (n : Value) : Calls Tryd.prog 20 #[.pointer none, n] w fun e w' => e = .returned (.slice none 0 0) ∧ w = w' := by
  go_enter Tryd.func20, Tryd.ntmps20
  go_wp2_with fail
  refine (stopped_nil w).mono ?_
  rintro e w' ⟨rfl, rfl⟩
  go_wp2
  go_ret
  exact ⟨rfl, rfl⟩
theorem rdone_nil (w : World) : Calls Tryd.prog 21 #[.pointer none] w fun e w' => e = .returned (.int .i64 1) ∧ w = w' := by
  go_enter Tryd.func21, Tryd.ntmps21
  go_wp2_with fail
  refine (rnone_nil w).mono ?_
  rintro e w' ⟨rfl, rfl⟩
  go_wp2
  go_ret
  exact ⟨rfl, rfl⟩

section
variable {w : World} {g : Nat} {s : List Nat × Nat}
theorem rnumber_bad (h : Rd w g s) (hs : s.2 ≠ 0) (size most : Value) : Calls Tryd.prog 19 #[.pointer (some ⟨g, 0, none⟩), size, most] w (RNum g 0 s w) := by
  have C := Lib.hid (stopped_yes h hs)
  have HR := Lib.hid h
  clear h hs
  go_enter Tryd.func19, Tryd.ntmps19
  go_wp2_with fail
  refine C.out.mono ?_
  rintro e w' ⟨rfl, rfl⟩
  go_wp2
  go_ret
  exact ⟨rfl, HR.out, Only.refl g w⟩
theorem rfixed_bad (h : Rd w g s) (hs : s.2 ≠ 0) (n : Value) : Calls Tryd.prog 20 #[.pointer (some ⟨g, 0, none⟩), n] w (RBys g [] s w) := by
  have C := Lib.hid (stopped_yes h hs)
  have HR := Lib.hid h
  clear h hs
  go_enter Tryd.func20, Tryd.ntmps20
  go_wp2_with fail
  refine C.out.mono ?_
  rintro e w' ⟨rfl, rfl⟩
  go_wp2
  go_ret
  exact ⟨_, rfl, LiesF.nil _ _, HR.out, Only.refl g w⟩

/-- The reader's bytes, in its block's cell. -/
theorem Rd.open (h : Rd w g s) : ∃ A c, w.cell? ⟨g, 2, none⟩ = some (.slice A s.1.length c) ∧ s.1.length ≤ c ∧ Bys w w.heap.size A s.1 := by
  obtain ⟨A, c, h1, h2, _, h4⟩ := h.rest
  exact ⟨A, c, h1, h2, h4.more (Nat.le_of_lt h.lt)⟩

theorem rnumber_go {rest : List Nat} (h : Rd w g (rest, 0)) (size most : Int) (ht : Tab w 0) (v e : Nat) (hv : numV rest size most = v) (he : numE rest size most = e) (S : List Nat × Nat)
    (CO : Calls Tryd.prog 30 #[.pointer (some ⟨g, 0, none⟩), .int .i64 size, .int .i64 (e : Int)] w (OnwP g S w)) :
    Calls Tryd.prog 19 #[.pointer (some ⟨g, 0, none⟩), .int .i64 size, .int .i64 most] w (RNum g v S w) := by
  obtain ⟨A, c, h1, h2, h4⟩ := h.open
  have h1 : w.cell? ⟨g, 2, none⟩ = some (.slice A rest.length c) := h1
  have CN := number_any A rest c size most w w.heap.size h2 h4 ht
  rw [hv, he] at CN
  have C := Lib.hid (stopped_no h)
  have D := Lib.hid CN
  have E := Lib.hid CO
  clear h CN CO ht h4 hv he
  generalize rest.length = N at *
  go_enter Tryd.func19, Tryd.ntmps19
  go_wp2_with fail
  refine C.out.mono ?_
  rintro en w' ⟨rfl, rfl⟩
  go_wp2_with fail
  refine D.out.mono ?_
  rintro en w' ⟨rfl, rfl⟩
  go_wp2_with fail
  refine E.out.mono ?_
  rintro en w2 ⟨rfl, hR, hO⟩
  have HP := Lib.hid (show RNum g v S w (.returned (.int .i64 (v : Int))) w2 from ⟨rfl, hR, hO⟩)
  clear hR hO h1
  go_wp2
  go_ret
  exact HP.out
/-- NUMBER, of a reader. -/
theorem rnumber_any (h : Rd w g s) (size most : Int) (ht : Tab w 0) :
    Calls Tryd.prog 19 #[.pointer (some ⟨g, 0, none⟩), .int .i64 size, .int .i64 most] w (RNum g (numA s size most) (numS s size most) w) := by
  by_cases hs : s.2 = 0
  · obtain ⟨rest, e0⟩ := s
    simp only at hs
    subst hs
    have a1 : numA (rest, 0) size most = numV rest size most := by unfold numA; rw [if_pos rfl]
    have a2 : numS (rest, 0) size most = onw rest size.toNat (numE rest size most) := by unfold numS; rw [if_pos rfl]
    rw [a1, a2]
    by_cases he : numE rest size most = 0
    · have hsz : 1 ≤ size ∧ size ≤ (rest.length : Int) := by
        unfold numE at he
        split at he
        · cases he
        · split at he
          · cases he
          · omega
      obtain ⟨m, rfl⟩ := Int.eq_ofNat_of_zero_le (show 0 ≤ size by omega)
      refine rnumber_go h _ most ht _ _ rfl rfl _ ?_
      rw [he, Int.toNat_natCast]
      exact onward_any h m 0 (fun _ => by omega)
    · refine rnumber_go h _ most ht _ _ rfl rfl _ ?_
      have : onw rest size.toNat (numE rest size most) = (rest, numE rest size most) := by unfold onw; rw [if_neg he]
      rw [this]
      exact onward_bad h size _ he
  · have a1 : numA s size most = 0 := by unfold numA; rw [if_neg hs]
    have a2 : numS s size most = s := by unfold numS; rw [if_neg hs]
    rw [a1, a2]
    exact rnumber_bad h hs _ _

theorem LiesF.len {w : World} {lo : Nat} {v : Value} {bs : List Nat} (h : LiesF w lo v bs) : ∃ A c, v = .slice A bs.length c := by obtain ⟨A, c, h1, _⟩ := h; exact ⟨A, c, h1⟩

theorem rfixed_go {rest : List Nat} (h : Rd w g (rest, 0)) (n : Int) (S : List Nat × Nat)
    (CO : ∀ w1, Below w.heap.size w w1 → Calls Tryd.prog 30 #[.pointer (some ⟨g, 0, none⟩), .int .i64 n, .int .i64 (fixE rest n : Int)] w1 (OnwP g S w1)) :
    Calls Tryd.prog 20 #[.pointer (some ⟨g, 0, none⟩), .int .i64 n] w (RBys g (fixV rest n) S w) := by
  obtain ⟨A, c, h1, h2, h4⟩ := h.open
  have h1 : w.cell? ⟨g, 2, none⟩ = some (.slice A rest.length c) := h1
  have D := Lib.hid (fixed_any (w := w) (A := A) (bs := rest) (c := c) n h.small h2 h4)
  have C := Lib.hid (stopped_no h)
  have E := Lib.hid CO
  have HG := Lib.hid h.lt
  clear h h4 CO
  generalize fixV rest n = xs at *
  generalize fixE rest n = x at *
  generalize rest.length = N at *
  go_enter Tryd.func20, Tryd.ntmps20
  go_wp2_with fail
  refine C.out.mono ?_
  rintro en w' ⟨rfl, rfl⟩
  go_wp2_with fail
  refine D.out.mono ?_
  rintro en w1 ⟨u, rfl, hL, hB⟩
  have HL := Lib.hid hL
  have HB := Lib.hid hB
  obtain ⟨Au, cu, rfl⟩ := hL.len
  clear hL hB
  generalize xs.length = nu at *
  go_wp2_with fail
  refine (E.out _ HB.out).mono ?_
  rintro en w2 ⟨rfl, hR, hO⟩
  have HP := Lib.hid (show RBys g xs S w (.returned (.slice Au nu cu)) w2 from ⟨_, rfl, HL.out.only hO HG.out, hR, (Only.of HB.out).trans hO⟩)
  clear hR hO h1
  go_wp2
  go_ret
  exact HP.out
/-- FIXED, of a reader. -/
theorem rfixed_any (h : Rd w g s) (n : Int) : Calls Tryd.prog 20 #[.pointer (some ⟨g, 0, none⟩), .int .i64 n] w (RBys g (fixA s n) (fixS s n) w) := by
  by_cases hs : s.2 = 0
  · obtain ⟨rest, e0⟩ := s
    simp only at hs
    subst hs
    have a1 : fixA (rest, 0) n = fixV rest n := by unfold fixA; rw [if_pos rfl]
    have a2 : fixS (rest, 0) n = onw rest n.toNat (fixE rest n) := by unfold fixS; rw [if_pos rfl]
    rw [a1, a2]
    by_cases he : fixE rest n = 0
    · have hsz : 0 ≤ n ∧ n ≤ (rest.length : Int) := by
        unfold fixE at he
        split at he
        · cases he
        · split at he
          · cases he
          · omega
      obtain ⟨m, rfl⟩ := Int.eq_ofNat_of_zero_le hsz.1
      refine rfixed_go h _ _ (fun w1 hw => ?_)
      rw [he, Int.toNat_natCast]
      exact onward_any (h.below hw) m 0 (fun _ => by omega)
    · refine rfixed_go h _ _ (fun w1 hw => ?_)
      have : onw rest n.toNat (fixE rest n) = (rest, fixE rest n) := by unfold onw; rw [if_neg he]
      rw [this]
      exact onward_bad (h.below hw) n _ he
  · have a1 : fixA s n = [] := by unfold fixA; rw [if_neg hs]
    have a2 : fixS s n = s := by unfold fixS; rw [if_neg hs]
    rw [a1, a2]
    exact rfixed_bad h hs _

/-- DONE. -/
theorem rdone_any (h : Rd w g s) : Calls Tryd.prog 21 #[.pointer (some ⟨g, 0, none⟩)] w fun en w' => en = .returned (.int .i64 (doneE s : Int)) ∧ ∃ m, w' = w.drewN m := by
  obtain ⟨A, c, h1, _, _⟩ := h.open
  have C := Lib.hid (rnone_made w g h.made)
  by_cases hs : s.2 = 0
  · obtain ⟨rest, e0⟩ := s
    simp only at hs
    subst hs
    have h1 : w.cell? ⟨g, 2, none⟩ = some (.slice A rest.length c) := h1
    have D := Lib.hid (failed_no h.err)
    clear h
    by_cases hr : 0 < rest.length
    · have a1 : doneE (rest, 0) = 13 := by unfold doneE; rw [if_pos rfl, if_pos hr]
      rw [a1]
      clear a1
      have t1 : decide ((rest.length : Int) > 0) = true := decide_eq_true (by omega)
      generalize rest.length = N at *
      go_enter Tryd.func21, Tryd.ntmps21
      go_wp2_with fail
      refine C.out.mono ?_
      rintro en w' ⟨rfl, rfl⟩
      go_wp2_with fail
      refine D.out.mono ?_
      rintro en w' ⟨rfl, rfl⟩
      go_wp2
      go_ret
      exact ⟨rfl, 0, rfl⟩
    · have a1 : doneE (rest, 0) = 0 := by unfold doneE; rw [if_pos rfl, if_neg hr]
      rw [a1]
      clear a1
      have t1 : decide ((rest.length : Int) > 0) = false := decide_eq_false (by omega)
      have t2 : ((rest.length : Nat) : Int) = 0 := by omega
      generalize rest.length = N at *
      go_enter Tryd.func21, Tryd.ntmps21
      go_wp2_with fail
      refine C.out.mono ?_
      rintro en w' ⟨rfl, rfl⟩
      go_wp2_with fail
      refine D.out.mono ?_
      rintro en w' ⟨rfl, rfl⟩
      go_wp2
      go_ret
      exact ⟨rfl, 0, rfl⟩
  · have D := Lib.hid (failed_yes h.err hs)
    have h0 := h.err
    have a1 : doneE s = s.2 := by unfold doneE; rw [if_neg hs]
    rw [a1]
    clear a1 h hs
    generalize s.2 = x at *
    generalize s.1.length = N at *
    go_enter Tryd.func21, Tryd.ntmps21
    go_wp2_with fail
    refine C.out.mono ?_
    rintro en w' ⟨rfl, rfl⟩
    go_wp2_with fail
    refine D.out.mono ?_
    rintro en w' ⟨rfl, rfl⟩
    go_wp2
    go_ret
    exact ⟨rfl, 0, rfl⟩
end

/-- What Read leaves. -/
def MadeR (bs : List Nat) (w : World) (e : Ending) (w' : World) : Prop := ∃ g, e = .returned (.pointer (some ⟨g, 0, none⟩)) ∧ w.heap.size ≤ g ∧ Rd w' g (bs, 0) ∧ Below w.heap.size w w'
/-- READ. -/
theorem read_any (A : Option Addr) (n c : Nat) (bs : List Nat) (hl : bs.length = n) (hn : n ≤ 4294967296) (w : World) (B : Nat) (hB : B ≤ w.heap.size) (hb : Bys w B A bs) :
    Calls Tryd.prog 18 #[.slice A n c] w (MadeR bs w) := by
  have C := Lib.hid (clone_anyN A n c bs hl hn w B hB hb)
  have HL := Lib.hid hl
  clear hb hl
  go_enter Tryd.func18, Tryd.ntmps18
  go_wp2_with fail
  refine C.out.mono ?_
  rintro e w1 ⟨A1, c1, rfl, hc1, hA1, hb1, _, hB1⟩
  have hA := below_alloc w1 (.cells #[.int .i64 0, .bool true, .slice A1 n c1] 64)
  have hlast := heap_alloc_last w1 (.cells #[.int .i64 0, .bool true, .slice A1 n c1] 64)
  have HM := Lib.hid (show MadeR bs w (.returned (.pointer (some ⟨w1.heap.size, 0, none⟩))) (w1.alloc (.cells #[.int .i64 0, .bool true, .slice A1 n c1] 64)) from
    ⟨_, rfl, hB1.size, ⟨by rw [cell_of_row _ _ _ _ _ _ hlast]; rfl, frozen_of_row _ _ _ _ _ hlast, by rw [cell_of_row _ _ _ _ _ _ hlast]; rfl, ⟨A1, c1, by rw [cell_of_row _ _ _ _ _ _ hlast, HL.out]; rfl, by rw [HL.out]; exact hc1, hA1, hb1.below hA⟩, frozen_of_row _ _ _ _ _ hlast, by rw [HL.out]; exact hn⟩, hB1.trans (hA.mono hB1.size)⟩)
  clear hA hlast hb1 hB1 hA1 hc1
  go_wp2
  go_ret
  exact HM.out
end Go.Proofs.YtoeboblkboillaaDoor
