/-
  Contracts of the reference's Writer: Number, Fixed, Bytes and Out. Conditions: the writer lies in memory as its methods leave it; bytes that are counted are at most 65,535.
-/
import Derived.Test.YthnndklaefnpcaaDoorFdNum
import Derived.Test.YthnndklaefnpcaaDoorWRefPut
import Derived.Test.YthnndklaefnpcaaDoorFdMem
namespace Go.Proofs.YthnndklaefnpcaaDoor
open Go.RowKit Arr Fld

/-- Block g is the reference's writer, its own blocks F: what was written, and what went wrong first. -/
structure RWtr (w : World) (g : Nat) (F : Nat → Prop) (s : List Nat × Nat) : Prop where
  own : F g
  lt : ∀ k, F k → g ≤ k ∧ k < w.heap.size
  err : w.cell? ⟨g, 1, none⟩ = some (.int .i64 (s.2 : Int))
  free : ∀ j, w.frozen? ⟨g, j, none⟩ = false
  row : ∃ v, w.cell? ⟨g, 0, none⟩ = some v ∧ w.ownsRow (g + 1) 5 1 v s.1.length (vals .u8 s.1) ∧ ∀ b, v.ownBlock = some b → F b
  bytes : ∀ x, x ∈ s.1 → x < 256
section
variable {w w' : World} {g : Nat} {F F' : Nat → Prop} {s : List Nat × Nat}
theorem RWtr.inside (h : RWtr w g F s) : g < w.heap.size := (h.lt g h.own).2
theorem RWtr.touch (h : RWtr w g F s) (ht : Touch F' w w') (hd : ∀ k, F k → ¬ F' k) : RWtr w' g F s := by
  have c : ∀ (j : Nat), w'.cell? ⟨g, j, none⟩ = w.cell? ⟨g, j, none⟩ := fun j => ht.cell (p := ⟨g, j, none⟩) (h.lt g h.own).2 (hd g h.own)
  have f : ∀ (j : Nat), w'.frozen? ⟨g, j, none⟩ = w.frozen? ⟨g, j, none⟩ := fun j => ht.frozen (p := ⟨g, j, none⟩) (h.lt g h.own).2 (hd g h.own)
  obtain ⟨v, h1, h2, h3⟩ := h.row
  exact ⟨h.own, fun k hk => ⟨(h.lt k hk).1, Nat.lt_of_lt_of_le (h.lt k hk).2 ht.size⟩, (c 1).trans h.err, fun j => (f j).trans (h.free j), ⟨v, (c 0).trans h1, owns_touch h2 ht (fun b hb => hd b (h3 b hb)), h3⟩, h.bytes⟩
theorem RWtr.below (h : RWtr w g F s) (hb : Below w.heap.size w w') : RWtr w' g F s := h.touch (F' := fun _ => False) (Touch.of _ hb) (fun _ _ h => h)
theorem RWtr.drewN (h : RWtr w g F s) (n : Nat) : RWtr (w.drewN n) g F s := h.touch (F' := fun _ => False) ((Touch.refl _ w).drewN n) (fun _ _ h => h)
/-- Something goes wrong. -/
theorem RWtr.fail {bs : List Nat} (h : RWtr w g F (bs, 0)) (e : Nat) : RWtr (w.setCell ⟨g, 1, none⟩ (.int .i64 (e : Int))) g F (bs, e) := by
  obtain ⟨v, h1, h2, h3⟩ := h.row
  refine ⟨h.own, fun k hk => by simpa using h.lt k hk, World.cell?_setCell_same _ _ _ h.err, fun j => (World.frozen?_setCell ..).trans (h.free j), ⟨v, (World.cell?_setCell_other _ _ _ _ (by simp)).trans h1, ?_, h3⟩, h.bytes⟩
  refine owns_touch (F := fun k => k = g) h2 ((Touch.refl (fun k => k = g) w).setCell (b := g) (.inl rfl) 1 _) (fun b hb => ?_)
  have := h2.lt b hb
  show b ≠ g
  omega
/-- A new one. -/
theorem RWtr.new (w : World) : RWtr (w.alloc (.cells #[.slice none 0 0, .int .i64 0] 53)) w.heap.size (fun k => k = w.heap.size) ([], 0) := by
  have hlast := heap_alloc_last w (.cells #[.slice none 0 0, .int .i64 0] 53)
  exact ⟨rfl, fun k hk => by subst hk; simp, by rw [cell_of_row _ _ _ _ _ _ hlast]; rfl, fun j => frozen_of_row _ _ _ _ _ hlast, ⟨.slice none 0 0, by rw [cell_of_row _ _ _ _ _ _ hlast]; rfl, World.ownsRow_nil _ _ _ _, fun b hb => by cases hb⟩, by simp⟩
end
/-- What a call leaves that writes. -/
def RWrtP (g : Nat) (F : Nat → Prop) (s : List Nat × Nat) (w : World) (en : Ending) (w' : World) : Prop :=
  en = .returned (.tuple #[]) ∧ ∃ F', RWtr w' g F' s ∧ Touch F w w' ∧ ∀ k, F' k → F k ∨ w.heap.size ≤ k
theorem RWrtP.from {w w1 w' : World} {g : Nat} {F : Nat → Prop} {s : List Nat × Nat} {en : Ending} (h : RWrtP g F s w1 en w') (hT : Touch F w w1) : RWrtP g F s w en w' := by
  obtain ⟨h1, F', h2, h3, h4⟩ := h
  exact ⟨h1, F', h2, hT.trans h3 (fun x hx => .inl hx), fun k hk => (h4 k hk).imp id (fun h5 => Nat.le_trans hT.size h5)⟩
/-- More is written. -/
theorem RWtr.more {w w2 : World} {g : Nat} {F : Nat → Prop} {bs cs : List Nat} {v v' : Value} (h : RWtr w g F (bs, 0)) (h1 : w.cell? ⟨g, 0, none⟩ = some v) (h2 : w.ownsRow (g + 1) 5 1 v bs.length (vals .u8 bs)) (h3 : ∀ b, v.ownBlock = some b → F b)
    (hb : ∀ x, x ∈ cs → x < 256) (hgr : w.grownBy w2 v.ownBlock) (hown : w2.ownsRow (g + 1) 5 1 v' cs.length (vals .u8 cs)) (hat : v'.ownBlock = v.ownBlock ∨ v'.ownBlock = some w.heap.size) :
    w2.cell? ⟨g, 0, none⟩ = some v ∧ w2.frozen? ⟨g, 0, none⟩ = false ∧ RWrtP g F (cs, 0) w (.returned (.tuple #[])) (w2.setCell ⟨g, 0, none⟩ v') := by
  have hin := h.inside
  have hr : ∀ b, v.ownBlock = some b → g + 1 ≤ b := fun b hb => (h2.lt b hb).1
  have b1 : w2.heap[g]? = w.heap[g]? := hgr.block g hin (fun e => by have := hr g e.symm; omega)
  have e0 : w2.cell? ⟨g, 0, none⟩ = some v := (World.cell?_of_block (w := w) (a := ⟨g, 0, none⟩) b1).trans h1
  have e1 : w2.cell? ⟨g, 1, none⟩ = some (.int .i64 0) := (World.cell?_of_block (w := w) (a := ⟨g, 1, none⟩) b1).trans h.err
  have ef : ∀ j, w2.frozen? ⟨g, j, none⟩ = false := fun j => (World.frozen?_of_block (w := w) (a := ⟨g, j, none⟩) b1).trans (h.free j)
  have hT2 : Touch F w w2 := (Touch.refl F w).grown hgr (fun b hb => .inl (h3 b hb))
  have hvb : ∀ b, v'.ownBlock = some b → F b ∨ (w.heap.size ≤ b ∧ b < w2.heap.size) := fun b hb' => by
    have hb2 := (hown.lt b hb').2
    rcases hat with h1 | h1
    · exact .inl (h3 b (by rw [← h1]; exact hb'))
    · rw [h1] at hb'; cases hb'; exact .inr ⟨Nat.le_refl _, hb2⟩
  have hs2 := hgr.size
  refine ⟨e0, ef 0, rfl, fun k => F k ∨ (w.heap.size ≤ k ∧ k < w2.heap.size), ⟨.inl h.own, fun k hk => ?_, ?_, fun j => ?_, ⟨v', World.cell?_setCell_same _ _ _ e0, ?_, hvb⟩, hb⟩, hT2.setCell (.inl h.own) 0 v', fun k hk => hk.imp id And.left⟩
  · simp only [World.size_setCell]
    rcases hk with hk | hk
    · have := h.lt k hk; omega
    · omega
  · exact (World.cell?_setCell_other _ _ _ _ (by simp)).trans e1
  · exact (World.frozen?_setCell ..).trans (ef j)
  · refine owns_touch (F := fun k => k = g) hown ((Touch.refl (fun k => k = g) w2).setCell (b := g) (.inl rfl) 0 _) (fun b hb' => ?_)
    have := (hown.lt b hb').1
    show b ≠ g
    omega

section
variable {w : World} {g : Nat} {F : Nat → Prop} {s : List Nat × Nat}
theorem vfixed_bad (h : RWtr w g F s) (hs : s.2 ≠ 0) (v : Value) : Calls Tryd.prog 22 #[.pointer (some ⟨g, 0, none⟩), v] w (RWrtP g F s w) := by
  have a1 := h.err
  have HP := Lib.hid (show RWrtP g F s w (.returned (.tuple #[])) w from ⟨rfl, F, h, Touch.refl _ _, fun _ hk => .inl hk⟩)
  have t1 : ((s.2 : Int) == 0) = false := by simp; omega
  clear h hs
  generalize s.2 = x at *
  go_enter Tryd.func22, Tryd.ntmps22
  go_wp2
  go_end0
  exact HP.out
theorem vfixed_ok {bs : List Nat} (h : RWtr w g F (bs, 0)) (A : Option Addr) (m c q : Nat) (ys : List Nat) (hA : A = none → c = 0) (hl : ys.length = m) (hx : Bys w w.heap.size A ys) (hq : bs.length + m = q) (hm : q ≤ 4294967296) :
    Calls Tryd.prog 22 #[.pointer (some ⟨g, 0, none⟩), .slice A m c] w (RWrtP g F (bs ++ ys, 0) w) := by
  have a1 := h.err
  obtain ⟨v, h1, h2, h3⟩ := h.row
  have HE := Lib.hid (fun (w2 : World) (v' : Value) (hgr : w.grownBy w2 v.ownBlock) (hown : w2.ownsRow (g + 1) 5 1 v' q (vals .u8 (bs ++ ys))) (hat : v'.ownBlock = v.ownBlock ∨ v'.ownBlock = some w.heap.size) =>
    h.more h1 h2 h3 (cs := bs ++ ys) (fun x hx' => (List.mem_append.1 hx').elim (h.bytes x) (hx.1 x)) hgr (by rw [List.length_append, hl, hq]; exact hown) hat)
  obtain ⟨A0, c0, rfl, _, _, _, _⟩ := owns_any h2 h.bytes
  have HX := Lib.hid hx
  have H2 := Lib.hid h2
  have HL := Lib.hid hl
  have HA := Lib.hid hA
  have hin := h.inside
  have HQ := Lib.hid hq
  clear h h2 hx hl hA h3 hq
  generalize hn : bs.length = n at *
  clear hn
  go_enter Tryd.func22, Tryd.ntmps22
  go_wp2_with (at_builtin; refine list_foot rfl (.tmp 13) (.tmp 14) 29 rfl (g + 1) 5 Tryd.underlying29 info_u8 (.slice A0 n c0) n bs rfl H2.out A m c ys rfl HA.out HL.out HX.out (by rw [HQ.out]; exact hm) (Nat.succ_le_of_lt hin) ?_; intro v' w2 hown hgr hat; rw [HQ.out] at hown; obtain ⟨e1, e2, e3⟩ := HE.out w2 v' hgr hown hat; have E3 := Lib.hid e3; obtain ⟨A2, c2, rfl, _⟩ := owns_slice hown; clear hown hgr hat e3)
  go_end0
  exact E3.out
end
end Go.Proofs.YthnndklaefnpcaaDoor
