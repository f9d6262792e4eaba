/-
  Arrays of numbers that lie somewhere inside a block (a field of a struct, an element of an array of arrays): how they are read, written, and kept by writes elsewhere. No program is named here; no conditions.
-/
import Derived.Test.YtoeboblkboillaaArr
namespace Go.Proofs.Ytoeboblkboillaa.Arr
open Go.ChangeShapes Go.WideShapes Go.ChangeAt Go.RowKit
variable {P : Program} {t e : TypeId} {n : Nat} {k : IntKind}

/-- Block g holds the numbers l from cell o on, and they may be written. -/
def HAt (w : World) (g o : Nat) (k : IntKind) (l : List Nat) : Prop := w.rangeAt g o (nv k l) ∧ w.there g o l.length

theorem Holds.at0 {w : World} {g : Nat} {l : List Nat} (h : Holds w g k l) : HAt w g 0 k l := h
section
variable {w w' : World} {B g o : Nat} {l : List Nat}
theorem HAt.cell (h : HAt w g o k l) (i : Nat) (hi : i < l.length) : w.cell? ⟨g, o + i, none⟩ = some (.int k ((l.getD i 0 : Nat) : Int)) := h.1 i _ (nv_get k l i hi)
theorem HAt.frozen (h : HAt w g o k l) (i : Nat) (hi : i < l.length) : w.frozen? ⟨g, o + i, none⟩ = false := (h.2 i hi).2
theorem HAt.lt (h : HAt w g o k l) (hl : 0 < l.length) : g < w.heap.size := block_lt_of_cell (h.cell 0 hl)
theorem HAt.alloc (h : HAt w g o k l) (ob : Obj) : HAt (w.alloc ob) g o k l := ⟨World.rangeAt_alloc h.1 ob, World.there_alloc h.2 ob⟩
theorem HAt.drew (h : HAt w g o k l) : HAt w.drew g o k l := ⟨(World.rangeAt_drew ..).2 h.1, (World.there_drew ..).2 h.2⟩
theorem HAt.below (h : HAt w g o k l) (hb : Below B w w') (hg : g < B) : HAt w' g o k l :=
  ⟨fun j v hv => (hb.cell (p := ⟨g, o + j, none⟩) hg).trans (h.1 j v hv), fun j hj => by
    rw [hb.cell (p := ⟨g, o + j, none⟩) hg, hb.frozen (p := ⟨g, o + j, none⟩) hg]; exact h.2 j hj⟩
theorem HAt.set (h : HAt w g o k l) (i c : Nat) (hi : i < l.length) : HAt (w.setCell ⟨g, o + i, none⟩ (.int k (c : Int))) g o k (l.set i c) := by
  refine ⟨fun j v hv => ?_, fun j hj => ?_⟩
  · rw [nv_set] at hv
    by_cases e : j = i
    · subst e
      have hlt : j < (nv k l).length := by rw [length_nv]; exact hi
      rw [List.getElem?_set_self hlt] at hv
      rw [World.cell?_setCell_same _ _ _ (h.cell j hi)]
      exact hv
    · rw [List.getElem?_set_ne (fun x => e x.symm)] at hv
      rw [World.cell?_setCell_other _ _ _ _ (fun x => e (by have := (Addr.mk.inj x).2.1; omega))]
      exact h.1 j v hv
  · have hj' : j < l.length := by simpa using hj
    rw [World.frozen?_setCell]
    refine ⟨?_, (h.2 j hj').2⟩
    by_cases e : j = i
    · subst e
      rw [World.cell?_setCell_same _ _ _ (h.cell j hi)]; rfl
    · rw [World.cell?_setCell_other _ _ _ _ (fun x => e (by have := (Addr.mk.inj x).2.1; omega))]
      exact (h.2 j hj').1
/-- A cell is written that is not one of these. -/
theorem HAt.beside (h : HAt w g o k l) (a : Addr) (v : Value) (hne : a.block ≠ g ∨ a.off < o ∨ o + l.length ≤ a.off) : HAt (w.setCell a v) g o k l := by
  have e : ∀ j, j < l.length → (w.setCell a v).cell? ⟨g, o + j, none⟩ = w.cell? ⟨g, o + j, none⟩ := fun j hj => World.cell?_setCell_other _ _ _ _ (fun x => by
    have h1 := congrArg Addr.block x
    have h2 := congrArg Addr.off x
    simp only at h1 h2
    omega)
  refine ⟨fun j u hu => ?_, fun j hj => ?_⟩
  · have hj : j < l.length := by
      have := (List.getElem?_eq_some_iff.1 hu).1
      rwa [length_nv] at this
    rw [e j hj]; exact h.1 j u hu
  · rw [World.frozen?_setCell, e j hj]; exact h.2 j hj
theorem HAt.put (h : HAt w g o k l) (m : List Nat) (hm : m.length = l.length) : HAt (w.setCells g o (nv k m)) g o k m :=
  ⟨World.rangeAt_setCells_same _ _ _ _ (by rw [length_nv, hm]; exact h.2), by rw [hm]; exact World.there_setCells h.2 _ _ _⟩
theorem HAt.apart (h : HAt w g o k l) (g' o' : Nat) (vs : List Value) (hne : g ≠ g' ∨ o + l.length ≤ o' ∨ o' + vs.length ≤ o) : HAt (w.setCells g' o' vs) g o k l :=
  ⟨World.rangeAt_setCells_apart h.1 _ _ _ (by rw [length_nv]; exact hne), World.there_setCells h.2 _ _ _⟩
/-- A stretch of what is held. -/
theorem HAt.part (h : HAt w g o k l) (i m : Nat) (hm : i + m ≤ l.length) : HAt w g (o + i) k ((l.drop i).take m) := by
  have hl : ((l.drop i).take m).length = m := by simp; omega
  refine ⟨fun j v hv => ?_, fun j hj => ?_⟩
  · have hj : j < m := by
      have := (List.getElem?_eq_some_iff.1 hv).1
      rw [length_nv, hl] at this
      exact this
    have : (nv k l)[i + j]? = some v := by
      rw [← hv]
      simp [nv, hj]
    have := h.1 (i + j) v this
    rw [Nat.add_assoc]; exact this
  · rw [hl] at hj
    have := h.2 (i + j) (by omega)
    rw [Nat.add_assoc]; exact this
end
/-- A whole array is read. -/
theorem loadAt {ops : Array Oper} {rest : List Oper} {dst : Option Tmp} {ty : TypeId} {pos : String} {after : Array Edge} {x : Operand} {a : Act} {w : World} {Q : Exit → Act → World → Prop} (o : Of P t e n k) (g i : Nat) (l : List Nat) (hl : l.length = n) (hb : HAt w g i k l)
    (hx : a.eval x = .pointer (some ⟨g, i, none⟩)) (h : wpList P ops Q rest (a.put dst (.agg (na k l))) w) : wpList P ops Q ({ dst := dst, op := .load t x, type := ty, pos := pos, after := after, guard := none } :: rest) a w :=
  wpList_load_mid rfl _ x rfl g i hx (nv k l) _ hb.1 o.hu rfl (by rw [length_nv, hl]; exact o.hi) h
/-- A whole array is written. -/
theorem storeAt {ops : Array Oper} {rest : List Oper} {dst : Option Tmp} {ty : TypeId} {pos : String} {after : Array Edge} {x y : Operand} {a : Act} {w : World} {Q : Exit → Act → World → Prop} (o : Of P t e n k) (g i : Nat) (l m : List Nat) (hl : l.length = n) (hb : HAt w g i k l) (hm : m.length = n)
    (hx : a.eval x = .pointer (some ⟨g, i, none⟩)) (hy : a.eval y = .agg (na k m)) (h : wpList P ops Q rest (a.put dst undef) (w.setCells g i (nv k m))) :
    wpList P ops Q ({ dst := dst, op := .store t x y, type := ty, pos := pos, after := after, guard := none } :: rest) a w :=
  wpList_store_mid rfl _ x y rfl g i (na k m) hx hy (by rw [size_na, hm, ← hl]; exact hb.2) (by rw [size_na, hm]; exact o.hi) (all_oneCell_toArray (nv_one k m)) (by simpa [na] using h)
end Go.Proofs.Ytoeboblkboillaa.Arr
