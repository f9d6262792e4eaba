/-
  Own lemmas: one world and a later one, between which one block alone, of those that were there, has changed. No program is named here; no conditions.
-/
import Derived.Test.YtoeboblkboillaaArrAt
import Derived.Test.YtoeboblkboillaaBytes
namespace Go.Proofs.Ytoeboblkboillaa
open Go.RowKit Arr

/-- Of the blocks that were there, block g alone may have changed. -/
structure Only (g : Nat) (w w' : World) : Prop where
  os : w'.os = w.os
  tape : w'.tape = w.tape
  output : w'.output = w.output
  size : w.heap.size ≤ w'.heap.size
  block : ∀ k, k < w.heap.size → k ≠ g → w'.heap[k]? = w.heap[k]?
section
variable {g : Nat} {w w' w'' : World}
theorem Only.refl (g : Nat) (w : World) : Only g w w := ⟨rfl, rfl, rfl, Nat.le_refl _, fun _ _ _ => rfl⟩
theorem Only.trans (h : Only g w w') (k : Only g w' w'') : Only g w w'' :=
  ⟨k.os.trans h.os, k.tape.trans h.tape, k.output.trans h.output, Nat.le_trans h.size k.size, fun i hi hn => (k.block i (Nat.lt_of_lt_of_le hi h.size) hn).trans (h.block i hi hn)⟩
theorem Only.of (h : Below w.heap.size w w') : Only g w w' := ⟨h.os, h.tape, h.output, h.size, fun k hk _ => h.block k hk⟩
theorem Only.below (h : Only g w w') {B : Nat} (h1 : B ≤ g) (h2 : B ≤ w.heap.size) : Below B w w' := ⟨h.os, h.tape, h.output, h.size, fun k hk => h.block k (by omega) (by omega)⟩
theorem Only.drewN (h : Only g w w') (n : Nat) : Only g w (w'.drewN n) := ⟨h.os, h.tape, h.output, h.size, h.block⟩
theorem Only.drew (h : Only g w w') : Only g w w'.drew := ⟨h.os, h.tape, h.output, h.size, h.block⟩
theorem Only.alloc (h : Only g w w') (o : Obj) : Only g w (w'.alloc o) := h.trans (Only.of (below_alloc w' o))
theorem Only.setCell (h : Only g w w') (o : Nat) (v : Value) : Only g w (w'.setCell ⟨g, o, none⟩ v) :=
  h.trans ⟨rfl, rfl, rfl, by simp, fun k _ hn => Below.heap_setCell w' ⟨g, o, none⟩ v k hn⟩
theorem Only.setCells (h : Only g w w') : ∀ (vs : List Value) (o : Nat), Only g w (w'.setCells g o vs) := by
  intro vs
  induction vs generalizing w' with
  | nil => intro o; exact h
  | cons v vs ih => intro o; rw [World.setCells]; exact ih (h.setCell o v) _
/-- A write to a block that is new. -/
theorem Only.setNew (h : Only g w w') {b : Nat} (hb : w.heap.size ≤ b) (o : Nat) (v : Value) : Only g w (w'.setCell ⟨b, o, none⟩ v) :=
  ⟨h.os, h.tape, h.output, by simpa using h.size, fun k hk hn => (Below.heap_setCell w' ⟨b, o, none⟩ v k (by simp only; omega)).trans (h.block k hk hn)⟩
theorem Only.setsNew (h : Only g w w') {b : Nat} (hb : w.heap.size ≤ b) : ∀ (vs : List Value) (o : Nat), Only g w (w'.setCells b o vs) := by
  intro vs
  induction vs generalizing w' with
  | nil => intro o; exact h
  | cons v vs ih => intro o; rw [World.setCells]; exact ih (h.setNew hb o v) _
theorem Only.cell (h : Only g w w') {p : Addr} (h1 : p.block < w.heap.size) (h2 : p.block ≠ g) : w'.cell? p = w.cell? p := World.cell?_of_block (w := w) (h.block p.block h1 h2)
theorem Only.frozen (h : Only g w w') {p : Addr} (h1 : p.block < w.heap.size) (h2 : p.block ≠ g) : w'.frozen? p = w.frozen? p := World.frozen?_of_block (w := w) (h.block p.block h1 h2)
theorem HAt.only {b o : Nat} {k : IntKind} {l : List Nat} (h : HAt w b o k l) (hb : Only g w w') (h1 : b < w.heap.size) (h2 : b ≠ g) : HAt w' b o k l :=
  ⟨fun j v hv => (hb.cell (p := ⟨b, o + j, none⟩) h1 h2).trans (h.1 j v hv), fun j hj => by
    rw [hb.cell (p := ⟨b, o + j, none⟩) h1 h2, hb.frozen (p := ⟨b, o + j, none⟩) h1 h2]; exact h.2 j hj⟩
theorem Tab.only {b : Nat} (h : Tab w b) (hb : Only g w w') (h2 : b ≠ g) : Tab w' b := fun j hj => (hb.cell (p := ⟨b, j, none⟩) h.lt h2).trans (h j hj)
end

/-- A table of words of 32 bits that is read. -/
def Tab32 (w : World) (b : Nat) (l : List Nat) : Prop := ∀ j, j < l.length → w.cell? ⟨b, j, none⟩ = some (.int .u32 ((l.getD j 0 : Nat) : Int))
theorem Tab32.lt {w : World} {b : Nat} {l : List Nat} (h : Tab32 w b l) (hl : 0 < l.length) : b < w.heap.size := lt_of_cell (h 0 hl)
theorem Tab32.below {w w' : World} {b B : Nat} {l : List Nat} (h : Tab32 w b l) (hb : Below B w w') (hg : b < B) : Tab32 w' b l := fun j hj => (hb.cell (p := ⟨b, j, none⟩) hg).trans (h j hj)
theorem Tab32.only {w w' : World} {b g : Nat} {l : List Nat} (h : Tab32 w b l) (hb : Only g w w') (hl : 0 < l.length) (hg : b ≠ g) : Tab32 w' b l := fun j hj => (hb.cell (p := ⟨b, j, none⟩) (h.lt hl) hg).trans (h j hj)
theorem Tab32.range {w : World} {b : Nat} {l : List Nat} (h : Tab32 w b l) : w.rangeAt b 0 (nv .u32 l) := fun j v hv => by
  have hj : j < l.length := by
    have := (List.getElem?_eq_some_iff.1 hv).1
    rwa [length_nv] at this
  rw [nv_get .u32 l j hj] at hv
  rw [Nat.zero_add, h j hj]; exact hv

/-- A slice of bytes that lies beside block g. -/
def BysN (w : World) (g : Nat) (A : Option Addr) (bs : List Nat) : Prop :=
  (∀ x, x ∈ bs → x < 256) ∧ (0 < bs.length → ∃ b off, A = some ⟨b, off, none⟩ ∧ b < w.heap.size ∧ b ≠ g ∧ ∀ i, i < bs.length → w.cell? ⟨b, off + i, none⟩ = some (.int .u8 ((bs.getD i 0 : Nat) : Int)))
theorem BysN.of {w : World} {g B : Nat} {A : Option Addr} {bs : List Nat} (h : Bys w B A bs) (hB : B ≤ g) (hw : B ≤ w.heap.size) : BysN w g A bs :=
  ⟨h.1, fun hl => by obtain ⟨b, off, e, hb, hc⟩ := h.2 hl; exact ⟨b, off, e, by omega, by omega, hc⟩⟩
theorem BysN.only {w w' : World} {g : Nat} {A : Option Addr} {bs : List Nat} (h : BysN w g A bs) (hb : Only g w w') : BysN w' g A bs :=
  ⟨h.1, fun hl => by
    obtain ⟨b, off, e, h1, h2, hc⟩ := h.2 hl
    exact ⟨b, off, e, Nat.lt_of_lt_of_le h1 hb.size, h2, fun i hi => (hb.cell (p := ⟨b, off + i, none⟩) h1 h2).trans (hc i hi)⟩⟩
theorem BysN.drop {w : World} {g b off : Nat} {bs : List Nat} (h : BysN w g (some ⟨b, off, none⟩) bs) (i : Nat) : BysN w g (some ⟨b, off + i, none⟩) (bs.drop i) := by
  refine ⟨fun x hx => h.1 x (List.mem_of_mem_drop hx), fun hl => ?_⟩
  have hl' : 0 < bs.length - i := by simpa using hl
  obtain ⟨b', off', e, h1, h2, hc⟩ := h.2 (by omega)
  simp only [Option.some.injEq, Addr.mk.injEq, and_true] at e
  obtain ⟨rfl, rfl⟩ := e
  refine ⟨b, off + i, rfl, h1, h2, fun j hj => ?_⟩
  have hj' : i + j < bs.length := by simp at hj; omega
  have := hc (i + j) hj'
  rw [Nat.add_assoc, this]
  congr 3
  simp
end Go.Proofs.Ytoeboblkboillaa
