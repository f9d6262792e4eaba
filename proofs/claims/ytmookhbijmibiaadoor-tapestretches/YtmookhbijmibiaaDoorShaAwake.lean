/-
  Parts that a call makes, and the law's own look at the chapter's example. Conditions: the tables stand in their variables.
-/
import Derived.Test.YtmookhbijmibiaaDoorShaSum
namespace Go.Proofs.YtmookhbijmibiaaDoor
open Go.RowKit Arr Sh

/-- A new slice of slices. -/
theorem Parts.new (w : World) (t : TypeId) (ps : List Pt) (h : ∀ i (hi : i < ps.length), ps[i].bs.length ≤ ps[i].c ∧ Bys w w.heap.size ps[i].A ps[i].bs) (cs : Array Value) (hcs : cs = (ps.map fun p => Value.slice p.A p.bs.length p.c).toArray) :
    Parts (w.alloc (.cells cs t)) (w.alloc (.cells cs t)).heap.size (some ⟨w.heap.size, 0, none⟩) ps := by
  subst hcs
  have hg := heap_alloc_last w (.cells (ps.map fun p => Value.slice p.A p.bs.length p.c).toArray t)
  refine ⟨fun _ => ⟨w.heap.size, 0, rfl, by rw [World.size_alloc]; omega, fun i hi => ?_⟩, fun i hi => ⟨(h i hi).1, ?_⟩⟩
  · rw [cell_of_row _ _ _ _ _ _ hg]
    simp [hi]
  · exact ((h i hi).2.below (below_alloc w _)).more (by rw [World.size_alloc]; omega)
theorem bys_new (w : World) (t : TypeId) (bs : List Nat) (hb : ∀ x, x ∈ bs → x < 256) : Bys (w.alloc (.cells (na .u8 bs) t)) (w.alloc (.cells (na .u8 bs) t)).heap.size (some ⟨w.heap.size, 0, none⟩) bs :=
  ⟨hb, fun _ => ⟨w.heap.size, 0, rfl, by rw [World.size_alloc]; omega, fun i hi => by rw [Nat.zero_add]; exact (Holds.new w t .u8 bs).cell i hi⟩⟩
end Go.Proofs.YtmookhbijmibiaaDoor
