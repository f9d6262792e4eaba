/-
  The chapter's example holds. No conditions.
-/
import Derived.Test.YtmookhbijmibiaaDoorTpKeys
namespace Go.Proofs.YtmookhbijmibiaaDoor
open Go.RowKit Arr

set_option maxHeartbeats 1000000 in
theorem awake_any (w : World) : Calls Tryd.prog 4 #[] w fun e w' => e = .returned (.bool true) ∧ Below w.heap.size w w' := by
  have H3 := Holds.new w 5 .u8 [1, 2, 3]
  have hB := below_alloc w (.cells (na .u8 [1, 2, 3]) 5)
  have hb3 : Bys (w.alloc (.cells (na .u8 [1, 2, 3]) 5)) (w.alloc (.cells (na .u8 [1, 2, 3]) 5)).heap.size (some ⟨w.heap.size, 0, none⟩) [1, 2, 3] :=
    ⟨by simp, fun _ => ⟨w.heap.size, 0, rfl, by simp, fun i hi => by rw [Nat.zero_add]; exact H3.cell i hi⟩⟩
  have C1 := Lib.hid (new_any (some ⟨w.heap.size, 0, none⟩) 3 3 [1, 2, 3] rfl (by omega) (w.alloc (.cells (na .u8 [1, 2, 3]) 5)) _ (Nat.le_refl _) hb3)
  have hsz : w.heap.size < (w.alloc (.cells (na .u8 [1, 2, 3]) 5)).heap.size := by simp
  have HB := Lib.hid hB
  have HS := Lib.hid hsz
  clear H3 hB hb3 hsz
  go_enter Tryd.func4, Tryd.ntmps4
  go_wp2_with fail
  refine C1.out.mono ?_
  rintro e w1 ⟨g, rfl, hg, hT, hB1, _⟩
  have C2 : Go.RowKit.Hid (Calls Tryd.prog 10 #[.pointer (some ⟨g, 0, none⟩), .int .i64 2] w1 (SomeB g [1, 2, 3] 0 2 w1)) := Lib.hid (draw_some hT 2 (by simp))
  have HB1 := Lib.hid (HB.out.trans (hB1.mono HB.out.size))
  have HG := Lib.hid (Nat.lt_of_lt_of_le HS.out hg)
  clear hg hT hB1 C1 HB HS
  go_wp2_with fail
  refine C2.out.mono ?_
  rintro e w2 ⟨v, rfl, hL, hT2, hO2⟩
  obtain ⟨A, c, rfl, hc, hA, hb, _⟩ := hL
  have H2 := Holds.new w2 5 .u8 [1, 2]
  have hB3 := below_alloc w2 (.cells (na .u8 [1, 2]) 5)
  have hb2 : Bys (w2.alloc (.cells (na .u8 [1, 2]) 5)) (w2.heap.size + 1) (some ⟨w2.heap.size, 0, none⟩) [1, 2] :=
    ⟨by simp, fun _ => ⟨w2.heap.size, 0, rfl, by omega, fun i hi => by rw [Nat.zero_add]; exact H2.cell i hi⟩⟩
  have C3 : Go.RowKit.Hid (Calls Tryd.prog 8 #[.slice A 2 c, .slice (some ⟨w2.heap.size, 0, none⟩) 2 2] (w2.alloc (.cells (na .u8 [1, 2]) 5)) (Ans true (w2.alloc (.cells (na .u8 [1, 2]) 5)))) :=
    Lib.hid (same_any A _ [1, 2] [1, 2] 2 2 c 2 _ rfl rfl (by omega) _ _ (hb.below hB3) hb2)
  have C4 : Go.RowKit.Hid (∀ m, Calls Tryd.prog 11 #[.pointer (some ⟨g, 0, none⟩)] ((w2.alloc (.cells (na .u8 [1, 2]) 5)).drewN m) (Tells 1 ((w2.alloc (.cells (na .u8 [1, 2]) 5)).drewN m))) :=
    Lib.hid (fun m => left_any ((hT2.below hB3).drewN m))
  have hO : Below w.heap.size w w2 := HB1.out.trans (hO2.below (Nat.le_of_lt HG.out) HB1.out.size)
  have HF := Lib.hid (hO.trans (hB3.mono hO.size))
  clear hO hc hA hb hT2 hO2 H2 hB3 hb2 C2
  go_wp2_with fail
  refine C3.out.mono ?_
  rintro e w3 ⟨m, rfl, rfl⟩
  go_wp2_with fail
  refine (C4.out m).mono ?_
  rintro e w4 ⟨m', rfl, rfl⟩
  go_wp2
  go_ret
  exact ⟨rfl, below_drewN HF.out _⟩
end Go.Proofs.YtmookhbijmibiaaDoor
