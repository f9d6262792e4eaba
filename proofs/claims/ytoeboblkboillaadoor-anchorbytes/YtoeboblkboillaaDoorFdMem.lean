/-
  The writer in memory; contracts of its written, and of Fixed where nothing is written. Conditions: the writer lies in memory as its methods leave it (or is none); the bytes lie outside its blocks; the table of widths stands in its variable.
-/
import Derived.Test.YtoeboblkboillaaDoorFdFns
import Derived.Test.YtoeboblkboillaaDoorAesStill
import Derived.Deep.QuietTactic
import Derived.BigQuiet
namespace Go.Proofs.YtoeboblkboillaaDoor
open Go.RowKit Arr Fld

/-- Block g is a writer, its own blocks F: what was written, and what went wrong first. -/
structure Wtr (w : World) (g : Nat) (F : Nat → Prop) (s : List Nat × Nat) : Prop where
  own : F g
  lt : ∀ k, F k → g ≤ k ∧ k < w.heap.size
  err : w.cell? ⟨g, 0, none⟩ = some (.int .i64 (s.2 : Int))
  free : ∀ j, w.frozen? ⟨g, j, none⟩ = false
  text : (s.1 = [] ∧ w.cell? ⟨g, 1, none⟩ = some (.pointer none) ∧ w.cell? ⟨g, 2, none⟩ = some (.int .i64 0)) ∨
    ∃ t v, F t ∧ g < t ∧ w.cell? ⟨g, 1, none⟩ = some (.pointer (some ⟨t, 0, none⟩)) ∧ w.cell? ⟨g, 2, none⟩ = some (.int .i64 (s.1.length : Int)) ∧ w.cell? ⟨t, 0, none⟩ = some v ∧ w.frozen? ⟨t, 0, none⟩ = false ∧
      w.ownsRow (t + 1) 5 1 v s.1.length (vals .u8 s.1) ∧ ∀ b, v.ownBlock = some b → F b
  bytes : ∀ x, x ∈ s.1 → x < 256

/-- A row of bytes of the call's own, as a slice. -/
theorem owns_any {w : World} {base e n : Nat} {v : Value} {bs : List Nat} (h : w.ownsRow base e 1 v n (vals .u8 bs)) (hb : ∀ x, x ∈ bs → x < 256) :
    ∃ A c, v = .slice A n c ∧ n ≤ c ∧ (A = none → c = 0) ∧ bs.length = n ∧ Bys w w.heap.size A bs := by
  obtain ⟨A, c, rfl, hl, hb'⟩ := bys_of_owns h hb
  refine ⟨A, c, rfl, ?_, fun hA => ?_, hl, hb'⟩
  · rcases h.2 with ⟨h1, h0⟩ | ⟨g, cap, cur, h1, h2, h3, h4, _⟩
    · simp only [Value.slice.injEq] at h1; omega
    · simp only [Value.slice.injEq] at h1; omega
  · subst hA
    rcases h.2 with ⟨h1, _⟩ | ⟨g, cap, cur, h1, _⟩
    · simp only [Value.slice.injEq] at h1; exact h1.2.2
    · cases h1
theorem owns_slice {w : World} {base e n : Nat} {v : Value} {xs : List Value} (h : w.ownsRow base e 1 v n xs) : ∃ A c, v = .slice A n c ∧ n ≤ c := by
  rcases h.2 with ⟨rfl, h0⟩ | ⟨g, cap, cur, h1, _, _, h4, _⟩
  · exact ⟨_, _, by rw [h0], by omega⟩
  · exact ⟨_, _, h1, h4⟩
theorem owns_touch {w w' : World} {base e n : Nat} {v : Value} {xs : List Value} {F : Nat → Prop} (h : w.ownsRow base e 1 v n xs) (ht : Touch F w w') (hd : ∀ b, v.ownBlock = some b → ¬ F b) : w'.ownsRow base e 1 v n xs := by
  obtain ⟨hl, hor⟩ := h
  refine ⟨hl, ?_⟩
  rcases hor with h | ⟨g', cap, cur, e, h1, h2, h3⟩
  · exact .inl h
  · refine .inr ⟨g', cap, cur, e, h1, ?_, h3⟩
    rw [ht.block g' (Array.getElem?_eq_some_iff.1 h2).1 (hd g' (by rw [e]; rfl))]; exact h2
section
variable {w w' : World} {g : Nat} {F F' : Nat → Prop} {s : List Nat × Nat}
theorem Wtr.inside (h : Wtr w g F s) : g < w.heap.size := (h.lt g h.own).2
theorem Wtr.touch (h : Wtr w g F s) (ht : Touch F' w w') (hd : ∀ k, F k → ¬ F' k) : Wtr w' g F s := by
  have c : ∀ (b j : Nat), F b → w'.cell? ⟨b, j, none⟩ = w.cell? ⟨b, j, none⟩ := fun b j hb => ht.cell (p := ⟨b, j, none⟩) (h.lt b hb).2 (hd b hb)
  have f : ∀ (b j : Nat), F b → w'.frozen? ⟨b, j, none⟩ = w.frozen? ⟨b, j, none⟩ := fun b j hb => ht.frozen (p := ⟨b, j, none⟩) (h.lt b hb).2 (hd b hb)
  refine ⟨h.own, fun k hk => ⟨(h.lt k hk).1, Nat.lt_of_lt_of_le (h.lt k hk).2 ht.size⟩, (c g 0 h.own).trans h.err, fun j => (f g j h.own).trans (h.free j), ?_, h.bytes⟩
  rcases h.text with ⟨h1, h2, h3⟩ | ⟨t, v, h1, h2, h3, h4, h5, h6, h7, h8⟩
  · exact .inl ⟨h1, (c g 1 h.own).trans h2, (c g 2 h.own).trans h3⟩
  · exact .inr ⟨t, v, h1, h2, (c g 1 h.own).trans h3, (c g 2 h.own).trans h4, (c t 0 h1).trans h5, (f t 0 h1).trans h6, owns_touch h7 ht (fun b hb => hd b (h8 b hb)), h8⟩
theorem Wtr.below (h : Wtr w g F s) (hb : Below w.heap.size w w') : Wtr w' g F s := h.touch (F' := fun _ => False) (Touch.of _ hb) (fun _ _ h => h)
theorem Wtr.drewN (h : Wtr w g F s) (n : Nat) : Wtr (w.drewN n) g F s := h.touch (F' := fun _ => False) ((Touch.refl _ w).drewN n) (fun _ _ h => h)
theorem Wtr.drew (h : Wtr w g F s) : Wtr w.drew g F s := h.drewN 1
theorem Wtr.more (h : Wtr w g F s) (h1 : ∀ k, F k → F' k) (h2 : ∀ k, F' k → g ≤ k ∧ k < w.heap.size) : Wtr w g F' s := by
  refine ⟨h1 _ h.own, h2, h.err, h.free, ?_, h.bytes⟩
  rcases h.text with h3 | ⟨t, v, k1, k2, k3, k4, k5, k6, k7, k8⟩
  · exact .inl h3
  · exact .inr ⟨t, v, h1 _ k1, k2, k3, k4, k5, k6, k7, fun b hb => h1 _ (k8 b hb)⟩
/-- Something goes wrong. -/
theorem Wtr.fail {bs : List Nat} (h : Wtr w g F (bs, 0)) (e : Nat) : Wtr (w.setCell ⟨g, 0, none⟩ (.int .i64 (e : Int))) g F (bs, e) := by
  have c : ∀ (b j : Nat), ⟨g, 0, none⟩ ≠ (⟨b, j, none⟩ : Addr) → (w.setCell ⟨g, 0, none⟩ (.int .i64 (e : Int))).cell? ⟨b, j, none⟩ = w.cell? ⟨b, j, none⟩ := fun b j hb => World.cell?_setCell_other _ _ _ _ hb
  refine ⟨h.own, fun k hk => by simpa using h.lt k hk, World.cell?_setCell_same _ _ _ h.err, fun j => (World.frozen?_setCell ..).trans (h.free j), ?_, h.bytes⟩
  rcases h.text with ⟨h1, h2, h3⟩ | ⟨t, v, h1, h2, h3, h4, h5, h6, h7, h8⟩
  · exact .inl ⟨h1, (c g 1 (by simp)).trans h2, (c g 2 (by simp)).trans h3⟩
  · refine .inr ⟨t, v, h1, h2, (c g 1 (by simp)).trans h3, (c g 2 (by simp)).trans h4, (c t 0 (fun e => by have e' : _ = _ := congrArg Addr.block e; simp only at e'; omega)).trans h5, (World.frozen?_setCell ..).trans h6, ?_, h8⟩
    refine owns_touch (F := fun k => k = g) h7 ((Touch.refl (fun k => k = g) w).setCell (b := g) (.inl rfl) 0 _) (fun b hb => ?_)
    have := h7.lt b hb
    show b ≠ g
    omega
/-- A new one. -/
theorem Wtr.new (w : World) : Wtr (w.alloc (.cells #[.int .i64 0, .pointer none, .int .i64 0] 46)) w.heap.size (fun k => k = w.heap.size) ([], 0) := by
  have hlast := heap_alloc_last w (.cells #[.int .i64 0, .pointer none, .int .i64 0] 46)
  exact ⟨rfl, fun k hk => by subst hk; simp, by rw [cell_of_row _ _ _ _ _ _ hlast]; rfl, fun j => frozen_of_row _ _ _ _ _ hlast, .inl ⟨rfl, by rw [cell_of_row _ _ _ _ _ _ hlast]; rfl, by rw [cell_of_row _ _ _ _ _ _ hlast]; rfl⟩, by simp⟩
end

/-- What a call leaves that writes. -/
def WrtP (g : Nat) (F : Nat → Prop) (s : List Nat × Nat) (w : World) (en : Ending) (w' : World) : Prop :=
  en = .returned (.tuple #[]) ∧ ∃ F', Wtr w' g F' s ∧ Touch F w w' ∧ ∀ k, F' k → F k ∨ w.heap.size ≤ k

theorem cutA_zero' (A : Option Addr) (c : Nat) (hA : ∀ a, A = some a → a.spot = none) : cutA A c 0 = A := by
  unfold cutA
  split
  · rfl
  · cases A with
    | none => rfl
    | some a =>
      have := hA a rfl
      obtain ⟨b, o, sp⟩ := a
      simp only at this
      subst this
      rw [Option.map_some, add_nat]; rfl

/-- What written leaves. -/
def WrnP (bs : List Nat) (w : World) (en : Ending) (w' : World) : Prop := ∃ A c m, en = .returned (.slice A bs.length c) ∧ bs.length ≤ c ∧ (A = none → c = 0) ∧ Bys w w.heap.size A bs ∧ w' = w.drewN m
section
variable {w : World} {g : Nat} {F : Nat → Prop} {s : List Nat × Nat}
theorem written_nil (h2 : w.cell? ⟨g, 1, none⟩ = some (.pointer none)) : Calls Tryd.prog 27 #[.pointer (some ⟨g, 0, none⟩)] w fun en w' => en = .returned (.slice none 0 0) ∧ w = w' := by
  go_enter Tryd.func27, Tryd.ntmps27
  go_wp2
  go_ret
  exact ⟨rfl, rfl⟩
theorem written_text {t n c : Nat} {A : Option Addr} (h3 : w.cell? ⟨g, 1, none⟩ = some (.pointer (some ⟨t, 0, none⟩))) (h4 : w.cell? ⟨g, 2, none⟩ = some (.int .i64 (n : Int))) (h5 : w.cell? ⟨t, 0, none⟩ = some (.slice A n c)) (hc : n ≤ c) :
    Calls Tryd.prog 27 #[.pointer (some ⟨g, 0, none⟩)] w fun en w' => en = .returned (.slice (cutA A c 0) n c) ∧ ∃ m, w' = w.drewN m := by
  have RL := run_cut_h A n c n hc
  generalize cutA A c 0 = A' at *
  go_enter Tryd.func27, Tryd.ntmps27
  go_wp2
  go_quiet (fail)
  go_wp2
  go_ret
  exact ⟨rfl, _, rfl⟩
theorem written_any (h : Wtr w g F s) : Calls Tryd.prog 27 #[.pointer (some ⟨g, 0, none⟩)] w (WrnP s.1 w) := by
  rcases h.text with ⟨h1, h2, h3⟩ | ⟨t, v, h1, h2, h3, h4, h5, h6, h7, h8⟩
  · refine (written_nil h2).mono ?_
    rintro en w' ⟨rfl, rfl⟩
    rw [h1]
    exact ⟨none, 0, 0, rfl, Nat.le_refl _, fun _ => rfl, Bys.nil _ _ _, rfl⟩
  · obtain ⟨A, c, rfl, hc, hA, _, hb⟩ := owns_any h7 h.bytes
    refine (written_text h3 h4 h5 hc).mono ?_
    rintro en w' ⟨rfl, m, rfl⟩
    have hcut := bys_cut hb c hc 0 s.1.length (Nat.zero_le _) (Nat.le_refl _)
    rw [List.drop_zero, Nat.sub_zero, List.take_of_length_le (Nat.le_refl _)] at hcut
    refine ⟨_, c, m, rfl, hc, fun h0 => ?_, hcut, rfl⟩
    unfold cutA at h0
    split at h0
    · exact hA h0
    · cases A with
      | none => exact hA rfl
      | some a => simp at h0
theorem clone_nil0 (w : World) : Calls Tryd.prog 26 #[.slice none 0 0] w fun en w' => en = .returned (.slice none 0 0) ∧ w = w' := by
  have hnil := fun (wx : World) => Lib.run_eql_slice_nil (P := Tryd.prog) wx 22 5 none 0 0 0 0 Tryd.underlying22
  go_enter Tryd.func26, Tryd.ntmps26
  go_wp2
  go_ret
  exact ⟨rfl, rfl⟩
theorem wfixed_nil (w : World) (v : Value) : Calls Tryd.prog 16 #[.pointer none, v] w fun en w' => en = .returned (.tuple #[]) ∧ w = w' := by
  go_enter Tryd.func16, Tryd.ntmps16
  go_wp2
  (try simp only [Exit.inBlock, Exit.then])
  refine bodyPost_ret (results_none rfl _ _ _) rfl ?_
  exact ⟨rfl, rfl⟩
theorem wfixed_bad (h : Wtr w g F s) (hs : s.2 ≠ 0) (v : Value) : Calls Tryd.prog 16 #[.pointer (some ⟨g, 0, none⟩), v] w (WrtP g F s w) := by
  have C := Lib.hid (failed_yes h.err hs)
  have HP := Lib.hid (show WrtP g F s w (.returned (.tuple #[])) w from ⟨rfl, F, h, Touch.refl _ _, fun _ hk => .inl hk⟩)
  clear h hs
  go_enter Tryd.func16, Tryd.ntmps16
  go_wp2_with fail
  refine C.out.mono ?_
  rintro en w' ⟨rfl, rfl⟩
  go_wp2
  (try simp only [Exit.inBlock, Exit.then])
  refine bodyPost_ret (results_none rfl _ _ _) rfl ?_
  exact HP.out
end

/-- A writer whose text stands: its block, its text's block, its row. -/
structure Txt (w : World) (g t : Nat) (v : Value) (bs : List Nat) : Prop where
  err : w.cell? ⟨g, 0, none⟩ = some (.int .i64 0)
  free : ∀ j, w.frozen? ⟨g, j, none⟩ = false
  gt : g < t
  c1 : w.cell? ⟨g, 1, none⟩ = some (.pointer (some ⟨t, 0, none⟩))
  c2 : ∃ x : Nat, w.cell? ⟨g, 2, none⟩ = some (.int .i64 (x : Int))
  c3 : w.cell? ⟨t, 0, none⟩ = some v
  f3 : w.frozen? ⟨t, 0, none⟩ = false
  row : w.ownsRow (t + 1) 5 1 v bs.length (vals .u8 bs)
theorem Txt.lt {w : World} {g t : Nat} {v : Value} {bs : List Nat} (h : Txt w g t v bs) : t < w.heap.size := lt_of_cell h.c3
theorem Txt.drewN {w : World} {g t : Nat} {v : Value} {bs : List Nat} (h : Txt w g t v bs) (n : Nat) : Txt (w.drewN n) g t v bs :=
  ⟨h.err, h.free, h.gt, h.c1, h.c2, h.c3, h.f3, owns_touch (F := fun _ => False) h.row ((Touch.refl _ w).drewN n) (fun _ _ h => h)⟩
/-- The row has grown. -/
theorem Txt.grown {w w2 : World} {g t : Nat} {v : Value} {bs : List Nat} (h : Txt w g t v bs) (hgr : w.grownBy w2 v.ownBlock) :
    w2.cell? ⟨g, 0, none⟩ = some (.int .i64 0) ∧ (∀ j, w2.frozen? ⟨g, j, none⟩ = false) ∧ w2.cell? ⟨g, 1, none⟩ = some (.pointer (some ⟨t, 0, none⟩)) ∧ (∃ x : Nat, w2.cell? ⟨g, 2, none⟩ = some (.int .i64 (x : Int))) ∧ w2.cell? ⟨t, 0, none⟩ = some v ∧ w2.frozen? ⟨t, 0, none⟩ = false := by
  have hg := h.gt
  have hlt := h.lt
  have hr : ∀ b, v.ownBlock = some b → t + 1 ≤ b := fun b hb => (h.row.lt b hb).1
  have b1 : w2.heap[g]? = w.heap[g]? := hgr.block g (by omega) (fun e => by have := hr g e.symm; omega)
  have b2 : w2.heap[t]? = w.heap[t]? := hgr.block t hlt (fun e => by have := hr t e.symm; omega)
  obtain ⟨x, hx⟩ := h.c2
  exact ⟨(World.cell?_of_block (w := w) (a := ⟨g, 0, none⟩) b1).trans h.err, fun j => (World.frozen?_of_block (w := w) (a := ⟨g, j, none⟩) b1).trans (h.free j), (World.cell?_of_block (w := w) (a := ⟨g, 1, none⟩) b1).trans h.c1, ⟨x, (World.cell?_of_block (w := w) (a := ⟨g, 2, none⟩) b1).trans hx⟩, (World.cell?_of_block (w := w) (a := ⟨t, 0, none⟩) b2).trans h.c3, (World.frozen?_of_block (w := w) (a := ⟨t, 0, none⟩) b2).trans h.f3⟩
/-- What stands at the end. -/
theorem Txt.done {w w1 w2 : World} {g t : Nat} {F : Nat → Prop} {v v' : Value} {bs cs : List Nat} (h : Txt w1 g t v bs) (hT : Touch F w w1) (hF : F g) (hlt : ∀ k, F k → g ≤ k ∧ k < w.heap.size) (ht : F t ∨ w.heap.size ≤ t) (hv : ∀ b, v.ownBlock = some b → F b ∨ w.heap.size ≤ b)
    (hb : ∀ x, x ∈ cs → x < 256) (hgr : w1.grownBy w2 v.ownBlock) (hown : w2.ownsRow (t + 1) 5 1 v' cs.length (vals .u8 cs)) (hat : v'.ownBlock = v.ownBlock ∨ v'.ownBlock = some w1.heap.size) (q : Int) (hq : q = (cs.length : Int)) :
    WrtP g F (cs, 0) w (.returned (.tuple #[])) ((w2.setCell ⟨t, 0, none⟩ v').setCell ⟨g, 2, none⟩ (.int .i64 q)) := by
  subst hq
  obtain ⟨e1, e2, e3, ⟨x, e4⟩, e5, e6⟩ := h.grown hgr
  have hg := h.gt
  have hT2 : Touch F w w2 := hT.grown hgr hv
  have hT3 : Touch F w ((w2.setCell ⟨t, 0, none⟩ v').setCell ⟨g, 2, none⟩ (.int .i64 (cs.length : Int))) := (hT2.setCell ht 0 v').setCell (.inl hF) 2 _
  have hs1 := hT.size
  have hs2 := hgr.size
  have htl := h.lt
  have hvb : ∀ b, v'.ownBlock = some b → F b ∨ (w.heap.size ≤ b ∧ b < w2.heap.size) := fun b hb' => by
    have hb2 := (hown.lt b hb').2
    rcases hat with h1 | h1
    · rcases hv b (by rw [← h1]; exact hb') with h2 | h2
      · exact .inl h2
      · exact .inr ⟨h2, hb2⟩
    · rw [h1] at hb'; cases hb'; exact .inr ⟨hs1, hb2⟩
  have htb : ∀ b, v'.ownBlock = some b → t + 1 ≤ b := fun b hb' => (hown.lt b hb').1
  refine ⟨rfl, fun k => F k ∨ (w.heap.size ≤ k ∧ k < w2.heap.size), ⟨.inl hF, fun k hk => ?_, ?_, fun j => ?_, .inr ⟨t, v', ?_, hg, ?_, ?_, ?_, ?_, ?_, hvb⟩, hb⟩, hT3, fun k hk => hk.imp id And.left⟩
  · simp only [World.size_setCell]
    rcases hk with hk | hk
    · have := hlt k hk; omega
    · have := (hlt g hF).2; omega
  · rw [World.cell?_setCell_other _ _ _ _ (by simp), World.cell?_setCell_other _ _ _ _ (fun e => by have e' : _ = _ := congrArg Addr.block e; simp only at e'; omega)]; exact e1
  · rw [World.frozen?_setCell, World.frozen?_setCell]; exact e2 j
  · rcases ht with ht | ht
    · exact .inl ht
    · exact .inr ⟨ht, by omega⟩
  · rw [World.cell?_setCell_other _ _ _ _ (by simp), World.cell?_setCell_other _ _ _ _ (fun e => by have e' : _ = _ := congrArg Addr.block e; simp only at e'; omega)]; exact e3
  · exact World.cell?_setCell_same _ _ _ ((World.cell?_setCell_other _ _ _ _ (fun e => by have e' : _ = _ := congrArg Addr.block e; simp only at e'; omega)).trans e4)
  · rw [World.cell?_setCell_other _ _ _ _ (fun e => by have e' : _ = _ := congrArg Addr.block e; simp only at e'; omega)]; exact World.cell?_setCell_same _ _ _ e5
  · rw [World.frozen?_setCell, World.frozen?_setCell]; exact e6
  · refine owns_touch (F := fun k => k = g ∨ k = t) hown (((Touch.refl (fun k => k = g ∨ k = t) w2).setCell (b := t) (.inl (.inr rfl)) 0 _).setCell (b := g) (.inl (.inl rfl)) 2 _) (fun b hb' => ?_)
    have := htb b hb'
    intro hx
    rcases hx with hx | hx <;> omega
/-- A text is made. -/
theorem Wtr.begin {w : World} {g : Nat} {F : Nat → Prop} (h : Wtr w g F ([], 0)) (h3 : w.cell? ⟨g, 1, none⟩ = some (.pointer none)) (h4 : w.cell? ⟨g, 2, none⟩ = some (.int .i64 0)) :
    Txt ((w.alloc (.cells #[.slice none 0 0] 61)).setCell ⟨g, 1, none⟩ (.pointer (some ⟨w.heap.size, 0, none⟩))) g w.heap.size (.slice none 0 0) [] ∧ Touch F w ((w.alloc (.cells #[.slice none 0 0] 61)).setCell ⟨g, 1, none⟩ (.pointer (some ⟨w.heap.size, 0, none⟩))) := by
  have hin := h.inside
  have hA := below_alloc w (.cells #[.slice none 0 0] 61)
  have hlast := heap_alloc_last w (.cells #[.slice none 0 0] 61)
  refine ⟨⟨?_, fun j => ?_, hin, ?_, ⟨0, ?_⟩, ?_, ?_, World.ownsRow_nil _ _ _ _⟩, ((Touch.refl F w).alloc _).setCell (.inl h.own) 1 _⟩
  · rw [World.cell?_setCell_other _ _ _ _ (by simp)]; exact (hA.cell (p := ⟨g, 0, none⟩) hin).trans h.err
  · rw [World.frozen?_setCell]; exact (hA.frozen (p := ⟨g, j, none⟩) hin).trans (h.free j)
  · exact World.cell?_setCell_same _ _ _ ((hA.cell (p := ⟨g, 1, none⟩) hin).trans h3)
  · rw [World.cell?_setCell_other _ _ _ _ (by simp)]; exact (hA.cell (p := ⟨g, 2, none⟩) hin).trans h4
  · rw [World.cell?_setCell_other _ _ _ _ (fun e => by have e' : _ = _ := congrArg Addr.block e; simp only at e'; omega), cell_of_row _ _ _ _ _ _ hlast]; rfl
  · rw [World.frozen?_setCell]; exact frozen_of_row _ _ _ _ _ hlast
end Go.Proofs.YtoeboblkboillaaDoor
