/-
  The reference's Told and Sum, and the law ShaSums, walked: it answers true. Conditions: the tables stand in their variables.
-/
import Derived.Test.YtmookhbijmibiaaDoorShaWith
namespace Go.Proofs.YtmookhbijmibiaaDoor
open Go.RowKit Arr Sh

set_option maxRecDepth 100000 in
theorem told_any (w : World) : Calls Tryd.prog 15 #[] w fun e w' => e = .returned (.slice (some ⟨w.heap.size, 0, none⟩) 64 64) ∧ w' = w.alloc (.cells (na .u32 K) 38) := by
  go_enter Tryd.func15, Tryd.ntmps15
  go_wp2
  go_ret
  exact ⟨rfl, rfl⟩
theorem tab32_new (w : World) (t : TypeId) (l : List Nat) : Tab32 (w.alloc (.cells (na .u32 l) t)) w.heap.size l := fun j hj => (Holds.new w t .u32 l).cell j hj

set_option maxHeartbeats 1000000 in
set_option maxRecDepth 100000 in
theorem rsum5_any (bs : List Nat) (A : Option Addr) (n c : Nat) (hl : bs.length = n) (hn : n ≤ 4000) (hAc : A = none → c = 0) (w : World) (hb : Bys w w.heap.size A bs) :
    Calls Tryd.prog 6 #[.slice A n c] w (GivesB (Sh.sum bs) w) := by
  have s1 : (w.alloc (.cells (na .u8 (zs 32)) 28)).heap.size = w.heap.size + 1 := World.size_alloc ..
  have b1 := below_alloc w (.cells (na .u8 (zs 32)) 28)
  have r1 := Holds.new w 28 .u8 (zs 32)
  have eH : na .u32 H0.l = #[.int .u32 1779033703, .int .u32 3144134277, .int .u32 1013904242, .int .u32 2773480762, .int .u32 1359893119, .int .u32 2600822924, .int .u32 528734635, .int .u32 1541459225] := rfl
  have S1 := Lib.hid s1
  have B1 := Lib.hid b1
  have R1 := Lib.hid r1
  have EH := Lib.hid eH
  have HB := Lib.hid hb
  have HL := Lib.hid hl
  have HSL := length_sum bs
  have LK : 0 < K.length := by rw [length_K]; omega
  clear s1 b1 r1 eH hb hl
  go_enter Tryd.func6, Tryd.ntmps6
  go_upto_region 1 with (first | (with_reducible refine Arr.alloc (t := 28) _ z32 ?_) | fail)
  generalize w.alloc (.cells (na .u8 (zs 32)) 28) = w1 at *
  go_upto_region 2 with fail
  rw [← EH.out]
  have T2 := tab32_new w1 38 H0.l
  have B2 := below_alloc w1 (.cells (na .u32 H0.l) 38)
  have T2h := Lib.hid T2
  have B2h := Lib.hid (B1.out.trans (B2.mono B1.out.size))
  have R2h := Lib.hid (R1.out.below B2 (by have := S1.out; omega))
  have hw1 : w1.heap.size < (w1.alloc (.cells (na .u32 H0.l) 38)).heap.size := by rw [World.size_alloc]; omega
  clear T2 B2 EH R1 B1
  generalize w1.alloc (.cells (na .u32 H0.l) 38) = w2 at *
  have C1 := Lib.hid (told_any w2)
  go_wp2_with fail
  refine C1.out.mono ?_
  rintro e w3 ⟨rfl, hw3⟩
  have B3 : Below w2.heap.size w2 w3 := by rw [hw3]; exact below_alloc _ _
  have T3 : Tab32 w3 w2.heap.size K := by rw [hw3]; exact tab32_new _ _ _
  have B3h := Lib.hid (B2h.out.trans (B3.mono B2h.out.size))
  have C2 := Lib.hid (with_any bs A n c HL.out hn hAc w2.heap.size 64 w1.heap.size 8 w3 T3 (T2h.out.below B3 hw1) ((HB.out.below B3h.out).more B3h.out.size))
  have R3h := Lib.hid (R2h.out.below B3 (by have := S1.out; omega))
  have hw3s := B3.size
  clear hw3 B3 T3 C1
  generalize Sh.sum bs = sm at *
  go_wp2_with fail
  refine C2.out.mono ?_
  rintro e w4 ⟨rfl, hB4⟩
  have R4 := R3h.out.below hB4 (by have := S1.out; omega)
  have R4h := Lib.hid R4
  have F1 := Lib.hid (R4.put sm (by rw [HSL, length_zs]))
  have F2 := Lib.hid (below_setCells (b := w.heap.size) (Nat.le_refl _) (nv .u8 sm) 0 _ (B3h.out.trans (hB4.mono B3h.out.size)))
  clear hB4 R4 C2
  go_wp2_with (first | (with_reducible refine Arr.store o32 w.heap.size (zs 32) sm (length_zs _) R4h.out HSL rfl rfl ?_) | fail)
  exact bodyPost_ret (v := .agg (na .u8 sm)) (results_arr o32 rfl _ _ w.heap.size sm HSL F1.out rfl) rfl ⟨rfl, F2.out⟩

end Go.Proofs.YtmookhbijmibiaaDoor
