/-
  Rows of numbers in memory: read and written cell by cell. No conditions.
-/
import Derived.Test.YtdjknmnmacppdaaDoorOwnAll
import Derived.Test.YtdjknmnmacppdaaDoorDblAll
namespace Go.Proofs.YtdjknmnmacppdaaDoor
open Go.RowKit

theorem info_int : (Tryd.prog.info? 3).map (fun i => (i.zero, i.size, i.bytes)) = some (some (.int .i64 0), 1, 8) := by kernel_rfl

/-- Block g holds the numbers l from its beginning on, and they may be written. -/
def Ints (w : World) (g : Nat) (l : List Nat) : Prop := ∀ i, i < l.length → w.cell? ⟨g, i, none⟩ = some (.int .i64 ((l.getD i 0 : Nat) : Int)) ∧ w.frozen? ⟨g, i, none⟩ = false

theorem Ints.lt {w : World} {g : Nat} {l : List Nat} (h : Ints w g l) (hl : 0 < l.length) : g < w.heap.size := block_lt_of_cell (h 0 hl).1
theorem Ints.below {w w' : World} {B g : Nat} {l : List Nat} (h : Ints w g l) (hb : Below B w w') (hg : g < B) : Ints w' g l := fun i hi => by
  rw [hb.cell (p := ⟨g, i, none⟩) hg, hb.frozen (p := ⟨g, i, none⟩) hg]; exact h i hi
theorem Ints.set {w : World} {g : Nat} {l : List Nat} (h : Ints w g l) (k c : Nat) (hk : k < l.length) : Ints (w.setCell ⟨g, k, none⟩ (.int .i64 (c : Int))) g (l.set k c) := by
  intro i hi
  have hi' : i < l.length := by simpa using hi
  rw [World.frozen?_setCell]
  refine ⟨?_, (h i hi').2⟩
  by_cases e : i = k
  · subst e
    rw [World.cell?_setCell_same _ _ _ (h i hi').1]
    simp [hi']
  · rw [World.cell?_setCell_other _ _ _ _ (fun x => e (by simpa using (Addr.mk.inj x).2.1.symm)), (h i hi').1]
    simp [List.getElem?_set_ne (fun x => e x.symm)]
theorem Ints.beside {w : World} {g : Nat} {l : List Nat} (h : Ints w g l) (a : Addr) (v : Value) (hne : a.block ≠ g) : Ints (w.setCell a v) g l := by
  intro i hi
  rw [World.frozen?_setCell, World.cell?_setCell_other _ _ _ _ (fun x => hne (by rw [x]))]
  exact h i hi
/-- A row that the call owns. -/
theorem ints_of_owns {w : World} {base e n : Nat} {v : Value} {l : List Nat} (h : w.ownsRow base e 1 v n (vals .i64 l)) (hn : 0 < n) :
    ∃ g c, v = .slice (some ⟨g, 0, none⟩) n c ∧ base ≤ g ∧ n ≤ c ∧ l.length = n ∧ Ints w g l := by
  have hl : l.length = n := by have := h.1; simpa [vals] using this
  rcases h.2 with ⟨_, h0⟩ | ⟨g, cap, cur, rfl, hb, hg, h1, h2, h3, h4⟩
  · omega
  · refine ⟨g, cap, rfl, hb, h1, hl, fun i hi => ⟨?_, frozen_of_row _ _ _ _ _ hg⟩⟩
    rw [cell_of_row _ _ _ _ _ _ hg]
    have h5 : (cur.toList.take (n * 1))[i]? = (vals .i64 l)[i]? := by rw [h4]
    rw [vals_get .i64 l i hi, List.getElem?_take, if_pos (by omega)] at h5
    simpa using h5
theorem one_owns (w : World) : (w.alloc (.cells #[.int .i64 0] 3)).ownsRow w.heap.size 3 1 (.slice (some ⟨w.heap.size, 0, none⟩) 1 1) 1 (vals .i64 [0]) :=
  ⟨rfl, .inr ⟨w.heap.size, 1, #[.int .i64 0], rfl, Nat.le_refl _, heap_alloc_new w _, Nat.le_refl _, by unfold maxLen; omega, rfl, rfl⟩⟩
end Go.Proofs.YtdjknmnmacppdaaDoor
