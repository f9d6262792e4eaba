/-
  Parts that a call makes, and the law's own look at the chapter's example. Conditions: the tables stand in their variables.
-/
import Derived.Test.YtjcpnephgbehmaaDoorShaSum
namespace Go.Proofs.YtjcpnephgbehmaaDoor
open Go.RowKit Arr Sh

/-- A new slice of slices. -/
theorem Parts.new (w : World) (t : TypeId) (ps : List Pt) (h : ∀ i (hi : i < ps.length), ps[i].bs.length ≤ ps[i].c ∧ Bys w w.heap.size ps[i].A ps[i].bs) (cs : Array Value) (hcs : cs = (ps.map fun p => Value.slice p.A p.bs.length p.c).toArray) :
    Parts (w.alloc (.cells cs t)) (w.alloc (.cells cs t)).heap.size (some ⟨w.heap.size, 0, none⟩) ps := by
  subst hcs
  have hg := heap_alloc_last w (.cells (ps.map fun p => Value.slice p.A p.bs.length p.c).toArray t)
  refine ⟨fun _ => ⟨w.heap.size, 0, rfl, by rw [World.size_alloc]; omega, fun i hi => ?_⟩, fun i hi => ⟨(h i hi).1, ?_⟩⟩
  · rw [cell_of_row _ _ _ _ _ _ hg]
    simp [hi]
  · exact ((h i hi).2.below (below_alloc w _)).more (by rw [World.size_alloc]; omega)
theorem bys_new (w : World) (t : TypeId) (bs : List Nat) (hb : ∀ x, x ∈ bs → x < 256) : Bys (w.alloc (.cells (na .u8 bs) t)) (w.alloc (.cells (na .u8 bs) t)).heap.size (some ⟨w.heap.size, 0, none⟩) bs :=
  ⟨hb, fun _ => ⟨w.heap.size, 0, rfl, by rw [World.size_alloc]; omega, fun i hi => by rw [Nat.zero_add]; exact (Holds.new w t .u8 bs).cell i hi⟩⟩
theorem abc_get (i : Nat) (hi : i < 4) : (Sh.sum [97, 98, 99]).getD i 0 = [0xba, 0x78, 0x16, 0xbf].getD i 0 := by
  rw [← sum_abc]
  simp [hi]

set_option maxHeartbeats 1000000 in
theorem awake_any (w : World) (hv : VarsS w) : Calls Tryd.prog 6 #[] w fun e w' => e = .returned (.bool true) ∧ Below w.heap.size w w' := by
  have s1 : (w.alloc (.cells (na .u8 [97, 98, 99]) 5)).heap.size = w.heap.size + 1 := World.size_alloc ..
  have b1 := below_alloc w (.cells (na .u8 [97, 98, 99]) 5)
  have P0 := Parts.new (w.alloc (.cells (na .u8 [97, 98, 99]) 5)) 22 [⟨some ⟨w.heap.size, 0, none⟩, 3, [97, 98, 99]⟩] (fun i hi => by
    obtain rfl : i = 0 := by simpa using hi
    exact ⟨Nat.le_refl _, bys_new w 5 [97, 98, 99] (by simp)⟩) #[.slice (some ⟨w.heap.size, 0, none⟩) 3 3] rfl
  have b2 := b1.alloc b1.size (.cells #[.slice (some ⟨w.heap.size, 0, none⟩) 3 3] 22)
  rw [s1] at P0
  have C1 := Sum_any _ (some ⟨w.heap.size + 1, 0, none⟩) 1 1 rfl (by omega) (by show 3 < 1152921504606846976; omega) _ P0 (hv.below b2 (Nat.le_refl _))
  have e1 : textOf [⟨some ⟨w.heap.size, 0, none⟩, 3, [97, 98, 99]⟩] = [97, 98, 99] := rfl
  rw [e1] at C1
  have C2 := Lib.hid C1
  have B2 := Lib.hid b2
  have g0 := abc_get 0 (by omega)
  have g1 := abc_get 1 (by omega)
  have g2 := abc_get 2 (by omega)
  have g3 := abc_get 3 (by omega)
  have HSL := length_sum [97, 98, 99]
  have G0 := Lib.hid g0
  have G1 := Lib.hid g1
  have G2 := Lib.hid g2
  have G3 := Lib.hid g3
  clear C1 P0 b1 b2 hv e1 s1 g0 g1 g2 g3
  generalize Sh.sum [97, 98, 99] = sm at *
  go_enter Tryd.func6, Tryd.ntmps6
  go_wp2_with fail
  refine C2.out.mono ?_
  rintro e w3 ⟨rfl, hB3⟩
  have A1 := Holds.new w3 24 .u8 (zs 32)
  have A2 := A1.put sm (by rw [HSL, length_zs])
  have A3 := below_setCells (b := w3.heap.size) (Nat.le_trans B2.out.size hB3.size) (nv .u8 sm) 0 _ ((B2.out.trans (hB3.mono B2.out.size)).alloc (Nat.le_trans B2.out.size hB3.size) (.cells (na .u8 (zs 32)) 24))
  have c0 := A2.cell 0 (by omega)
  have c1 := A2.cell 1 (by omega)
  have c2 := A2.cell 2 (by omega)
  have c3 := A2.cell 3 (by omega)
  rw [G0.out] at c0
  rw [G1.out] at c1
  rw [G2.out] at c2
  rw [G3.out] at c3
  have D1 := Lib.hid A1
  have D3 := Lib.hid A3
  clear A1 A2 A3 hB3 C2 B2
  go_upto_region 2 with (first | (with_reducible refine Arr.alloc (t := 24) _ z32 ?_) | (with_reducible refine Arr.store o32 w3.heap.size (zs 32) sm (length_zs _) D1.out HSL rfl rfl ?_) | fail)
  generalize (w3.alloc (.cells (na .u8 (zs 32)) 24)).setCells w3.heap.size 0 (nv .u8 sm) = w4 at *
  go_wp2
  go_ret
  exact ⟨rfl, D3.out⟩
end Go.Proofs.YtjcpnephgbehmaaDoor
