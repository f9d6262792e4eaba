/-
  The law's own look at the chapter's example. Conditions: the tables stand in their variables.
-/
import Derived.Test.YtdfbhgajomdeeaaDoorHmFns
import Derived.Test.YtdfbhgajomdeeaaDoorShaBehind
namespace Go.Proofs.YtdfbhgajomdeeaaDoor
open Go.RowKit Arr Sh Hm

/-- The first t bytes of the example's key. -/
def ex (t : Nat) : List Nat := List.replicate t 11 ++ zs (20 - t)
theorem length_ex (t : Nat) (h : t ≤ 20) : (ex t).length = 20 := by simp [ex, zs]; omega
theorem ex_get (t : Nat) : (ex t).getD t 0 = 0 := by
  rw [ex, List.getD_eq_getElem?_getD, List.getElem?_append_right (by simp), List.length_replicate, Nat.sub_self, ← List.getD_eq_getElem?_getD]
  exact zs_get _ _
theorem ex_succ (t : Nat) (h : t < 20) : ex (t + 1) = (ex t).set t 11 := by
  have h2 : zs (20 - t) = 0 :: zs (20 - (t + 1)) := by
    rw [zs, show 20 - t = (20 - (t + 1)) + 1 by omega]; rfl
  rw [ex, ex, List.set_append_right _ _ (by simp), List.length_replicate, Nat.sub_self, h2, List.set_cons_zero, List.replicate_succ', List.append_assoc]
  rfl
theorem ex_all : ex 20 = List.replicate 20 11 := rfl
theorem tag_get (i : Nat) (hi : i < 4) : (tag (List.replicate 20 11) [72, 105, 32, 84, 104, 101, 114, 101]).getD i 0 = [0xb0, 0x34, 0x4c, 0x61].getD i 0 := by
  rw [← tag_ex]
  simp [hi]

set_option maxHeartbeats 1000000 in
theorem awake_any (w : World) (hv : VarsS w) : Calls Tryd.prog 6 #[] w fun e w' => e = .returned (.bool true) ∧ Below w.heap.size w w' := by
  have hmk : ∀ W : World, (Instr.makeSlice 22 (.int .i64 20) (.int .i64 20)).run Tryd.prog W = .ok (.slice (some ⟨W.heap.size, 0, none⟩) 20 20) (W.alloc (.cells (na .u8 (zs 20)) 5)) := by
    rw [← made_bytes]
    exact run_make_row' (P := Tryd.prog) 22 5 (.int .u8 0) 1 Tryd.underlying22 info_u8 rfl .i64 .i64 20 (by omega) (by omega)
  have H1 := Lib.hid (Holds.new w 5 .u8 (zs 20))
  have B1 := Lib.hid (below_alloc w (.cells (na .u8 (zs 20)) 5))
  have HV := Lib.hid hv
  have G0 := Lib.hid (tag_get 0 (by omega))
  have G1 := Lib.hid (tag_get 1 (by omega))
  have G2 := Lib.hid (tag_get 2 (by omega))
  have G3 := Lib.hid (tag_get 3 (by omega))
  have HSL := length_tag (List.replicate 20 11) [72, 105, 32, 84, 104, 101, 114, 101]
  have CT : Go.RowKit.Hid (∀ w', Below w.heap.size w w' → Holds w' w.heap.size .u8 (List.replicate 20 11) → Calls Tryd.prog 9 #[.slice (some ⟨w.heap.size, 0, none⟩) 20 20, .slice (some ⟨w'.heap.size + 1 + 1, 0, none⟩) 2 2] (((w'.alloc (.cells (na .u8 [72, 105, 32, 84, 104]) 5)).alloc (.cells (na .u8 [101, 114, 101]) 5)).alloc (.cells #[.slice (some ⟨w'.heap.size, 0, none⟩) 5 5, .slice (some ⟨w'.heap.size + 1, 0, none⟩) 3 3] 22)) fun e w'' => e = .returned (.agg (na .u8 (tag (List.replicate 20 11) [72, 105, 32, 84, 104, 101, 114, 101]))) ∧ Below w.heap.size w w'') := Lib.hid (fun w' hB hH => by
    have hlt := hH.lt (by simp)
    have s1 : (w'.alloc (.cells (na .u8 [72, 105, 32, 84, 104]) 5)).heap.size = w'.heap.size + 1 := World.size_alloc ..
    have s2 : ((w'.alloc (.cells (na .u8 [72, 105, 32, 84, 104]) 5)).alloc (.cells (na .u8 [101, 114, 101]) 5)).heap.size = w'.heap.size + 1 + 1 := by rw [World.size_alloc, s1]
    have y1 := (Holds.new w' 5 .u8 [72, 105, 32, 84, 104]).alloc (.cells (na .u8 [101, 114, 101]) 5)
    have y2 := Holds.new (w'.alloc (.cells (na .u8 [72, 105, 32, 84, 104]) 5)) 5 .u8 [101, 114, 101]
    rw [s1] at y2
    have Pn := Parts.new ((w'.alloc (.cells (na .u8 [72, 105, 32, 84, 104]) 5)).alloc (.cells (na .u8 [101, 114, 101]) 5)) 22 [⟨some ⟨w'.heap.size, 0, none⟩, 5, [72, 105, 32, 84, 104]⟩, ⟨some ⟨w'.heap.size + 1, 0, none⟩, 3, [101, 114, 101]⟩] (fun j hj => by
      match j, hj with
      | 0, _ => exact ⟨Nat.le_refl _, bys_of_holds y1 (by simp)⟩
      | 1, _ => exact ⟨Nat.le_refl _, bys_of_holds y2 (by simp)⟩) _ rfl
    rw [s2] at Pn
    have bb := ((below_alloc w' (.cells (na .u8 [72, 105, 32, 84, 104]) 5)).alloc (by rw [s1]; omega) (.cells (na .u8 [101, 114, 101]) 5)).alloc (by rw [s2]; omega) (.cells #[.slice (some ⟨w'.heap.size, 0, none⟩) 5 5, .slice (some ⟨w'.heap.size + 1, 0, none⟩) 3 3] 22)
    have hB2 := hB.trans (bb.mono hB.size)
    have kb := bys_of_holds (hH.below bb hlt) (fun x hx => by have := List.eq_of_mem_replicate hx; omega)
    have := Tag_any (List.replicate 20 11) (some ⟨w.heap.size, 0, none⟩) 20 20 rfl (by omega) (by omega) _ (some ⟨w'.heap.size + 1 + 1, 0, none⟩) 2 2 rfl (fun h => by cases h) (by omega) (by show 8 + 64 < _; omega) _ kb Pn (hv.below hB2 (Nat.le_refl _))
    exact this.mono fun e w'' h => ⟨h.1, hB2.trans (h.2.mono hB2.size)⟩)
  clear hv
  generalize tag (List.replicate 20 11) [72, 105, 32, 84, 104, 101, 114, 101] = sm at *
  go_enter Tryd.func6, Tryd.ntmps6
  go_upto_region 2 with fail
  generalize w.alloc (.cells (na .u8 (zs 20)) 5) = w1 at *
  clear hmk
  go_wp2_with fail
  go_loopw [7] (fun i wr => ∃ t : Nat, t ≤ 20 ∧ i = .int .i64 (t : Nat) ∧ Holds wr w.heap.size .u8 (ex t) ∧ Below w.heap.size w wr) (fun i _ => 20 - (intOf i).toNat)
  case atStart => exact ⟨0, by omega, rfl, H1.out, B1.out⟩
  case round =>
    clear H1 B1
    obtain ⟨t, ht, rfl, h1, h2⟩ := hrel
    by_cases hlt : t < 20
    · have tt : decide ((t : Int) < 20) = true := by simp; omega
      have ti : (t : Int) < 20 := by omega
      have c1 := h1.cell t (by rw [length_ex t (by omega)]; omega)
      have f1 := h1.frozen t (by rw [length_ex t (by omega)]; omega)
      rw [ex_get t] at c1
      have s1 := h1.set t 11 (by rw [length_ex t (by omega)]; omega)
      rw [← ex_succ t hlt] at s1
      have S1 := Lib.hid s1
      have S2 := Lib.hid (h2.setCell (p := ⟨w.heap.size, t, none⟩) (Nat.le_refl _) (.int .u8 11))
      clear s1 h1 h2
      go_wp2
      go_roundw
      case rel => exact ⟨t + 1, by omega, by go_num, S1.out, S2.out⟩
      case measure => simp [intOf]; omega
    · have et : (t : Int) = 20 := by omega
      obtain rfl : t = 20 := by omega
      clear et
      rw [ex_all] at h1
      have C1 := Lib.hid (CT.out wr h2 h1)
      clear h1 h2 CT
      go_wp2_with fail
      refine C1.out.mono ?_
      rintro e w3 ⟨rfl, hB3⟩
      have A1 := Holds.new w3 28 .u8 (zs 32)
      have A2 := A1.put sm (by rw [HSL, length_zs])
      have A3 := below_setCells (b := w3.heap.size) hB3.size (nv .u8 sm) 0 _ (hB3.alloc hB3.size (.cells (na .u8 (zs 32)) 28))
      have c0 := A2.cell 0 (by omega)
      have c1 := A2.cell 1 (by omega)
      have c2 := A2.cell 2 (by omega)
      have c3 := A2.cell 3 (by omega)
      rw [G0.out] at c0
      rw [G1.out] at c1
      rw [G2.out] at c2
      rw [G3.out] at c3
      have D1 := Lib.hid A1
      have D3 := Lib.hid A3
      clear A1 A2 A3 hB3 C1
      go_upto_region 8 with (first | (with_reducible refine Arr.alloc (t := 28) _ z32 ?_) | (with_reducible refine Arr.store o32 w3.heap.size (zs 32) sm (length_zs _) D1.out HSL rfl rfl ?_) | fail)
      generalize (w3.alloc (.cells (na .u8 (zs 32)) 28)).setCells w3.heap.size 0 (nv .u8 sm) = w4 at *
      go_wp2
      go_ret
      exact ⟨rfl, D3.out⟩
end Go.Proofs.YtdfbhgajomdeeaaDoor
