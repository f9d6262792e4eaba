/-
  The contract of the law's awake. No conditions.
-/
import Derived.Test.YtjeiechkndfhmaaAlFew
namespace Go.Proofs.Ytjeiechkndfhmaa
open Go.RowKit Arr Ex

theorem ints_two (w : World) (x y : Int) (hx : Z64 x) (hy : Z64 y) : IntsI (w.alloc (.cells #[.int .i64 x, .int .i64 y] 3)) (w.heap.size + 1) (some ⟨w.heap.size, 0, none⟩) [x, y] :=
  ⟨fun z hz => by simp at hz; rcases hz with rfl | rfl; exact hx; exact hy, fun _ => ⟨w.heap.size, 0, rfl, by omega, fun i hi => by
    rw [World.cell?_alloc_new]
    match i with
    | 0 => rfl
    | 1 => rfl
    | i + 2 => exact absurd (show i + 2 < 2 from hi) (by omega)⟩⟩
set_option maxRecDepth 100000 in
set_option maxHeartbeats 4000000 in
theorem awake_any (w : World) : Calls Try.prog 5 #[] w (Bel (.bool true) w) := by
  have CN := Lib.hid (anew_any w (fun _ => False) (fun _ e => e.elim) 10 5 (by unfold I64; decide))
  go_enter Try.func5, Try.ntmps5
  go_wp2_with fail
  refine CN.out.mono ?_
  rintro e w1 ⟨hb1, ⟨_, g, F, rfl, hg, hr, hF, _, hP⟩ | ⟨ho, rfl⟩⟩
  · obtain rfl : F = [(10, 5)] := right_ext' hr (by decide) fun u => (hF u).trans ⟨fun h => h.1, fun h => ⟨h, mem_nil u⟩⟩
    have HB1 := Lib.hid hb1
    have CT := Lib.hid (atake_any hP (by simp) (by intro x hx; rw [List.mem_singleton] at hx; subst hx; decide) 2 (by omega))
    clear hb1 hP hr hF CN
    go_wp2_with fail
    refine CT.out.mono ?_
    rintro e w2 ⟨v, h, rfl, ho, hO, h1, _⟩
    have e1 : tkE [(10, 5)] 2 = 0 := by decide
    rw [e1]
    obtain ⟨eh, hP2⟩ := h1 e1
    have e2 : hdL 2 [(10, 5)] = [(10, 2)] := by decide
    have e3 : tlL 2 [(10, 5)] = [(12, 3)] := by decide
    rw [e2] at eh
    subst eh
    rw [e3] at hP2
    have HB2 := Lib.hid (show Below w.heap.size w w2 from HB1.out.trans (hO.below hg HB1.out.size))
    obtain ⟨A, c, rfl, _, _, _, hx⟩ := ho.shape
    have CS := Lib.hid (rsectors_any w2 A 1 c [(10, 2)] rfl (by omega) (by intro x hx; rw [List.mem_singleton] at hx; subst hx; decide) (by decide) (hx (by intro x hx; rw [List.mem_singleton] at hx; subst hx; unfold I64; decide)))
    have HP2 := Lib.hid hP2
    clear ho hO h1 hx hP2 CT HB1
    go_wp2_with fail
    refine CS.out.mono ?_
    rintro e w3 ⟨v3, rfl, ho3, hb3⟩
    have e4 : secs [(10, 2)] = [10, 11] := by decide
    rw [e4] at ho3
    obtain ⟨A3, c3, rfl, _, _, hi3⟩ := ho3.shape
    have hb4 := below_alloc w3 (.cells #[.int .i64 10, .int .i64 11] 3)
    have hz : ∀ z, z ∈ [(10 : Int), 11] → Z64 z := by intro z hz; simp at hz; rcases hz with rfl | rfl <;> (unfold Z64; decide)
    have CI := Lib.hid (ints_any (w3.alloc (.cells #[.int .i64 10, .int .i64 11] 3)) A3 (some ⟨w3.heap.size, 0, none⟩) 2 c3 2 2 w3.heap.size (w3.heap.size + 1) [10, 11] [10, 11] rfl rfl (by omega) ((hi3 hz).below hb4) (ints_two w3 10 11 (by unfold Z64; decide) (by unfold Z64; decide)))
    rw [show decide ([(10 : Int), 11] = [10, 11]) = true from by simp] at CI
    have HB4 := Lib.hid (hb3.trans (hb4.mono hb3.size))
    clear ho3 hb3 hi3 hb4 hz CS
    go_wp2_with fail
    refine CI.out.mono ?_
    rintro e w5 ⟨rfl, q, rfl⟩
    have HB5 := Lib.hid (below_drewN HB4.out q)
    have CF := Lib.hid (afree_any (HP2.out.below HB5.out) (by simp))
    rw [show totC [(12, 3)] = 3 from by decide] at CF
    clear CI HB4
    go_wp2_with fail
    refine CF.out.mono ?_
    rintro e w6 ⟨rfl, hb6⟩
    have HF := Lib.hid (HB2.out.trans ((HB5.out.trans (hb6.mono HB5.out.size)).mono HB2.out.size))
    clear hb6
    go_wp2
    go_ret
    exact ⟨rfl, HF.out⟩
  · exact absurd ⟨by decide, by decide, fun u h => absurd h (mem_nil u)⟩ ho
end Go.Proofs.Ytjeiechkndfhmaa
