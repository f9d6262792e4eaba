/-
  The contract of the reference's Box: a row of the call's own (written by tools/gen_refbox.py). No conditions.
-/
import Derived.Test.YtdjknmnmacppdaaDoorRefAll
import Derived.Deep.RegionHeld3
namespace Go.Proofs.YtdjknmnmacppdaaDoor
open Go.RowKit Arr Gf Sb
set_option linter.unusedSimpArgs false

/-- What a call leaves that makes a row of numbers. -/
def Row (l : List Nat) (w : World) (e : Ending) (w' : World) : Prop := ∃ g c, e = .returned (.slice (some ⟨g, 0, none⟩) l.length c) ∧ Holds w' g .i64 l ∧ w.heap.size ≤ g ∧ Below w.heap.size w w'
@[reducible] def SR (gP k q p r : Nat) (w : World) : Prop := w.cell? ⟨gP, k, none⟩ = some (.int .i64 (p : Int)) ∧ w.cell? ⟨gP, q, none⟩ = some (.int .i64 (r : Int))

set_option maxHeartbeats 4000000 in
theorem rbox_any (w : World) : Calls Tryd.prog 41 #[] w (Row boxL w) := by
  obtain ⟨i0, hi, hz0, hz1, hz2⟩ := info_parts info_int
  have O1 := Lib.hid (one_owns1 w)
  have O2 := Lib.hid (below_alloc w (.cells #[.int .i64 1] 3))
  have hi := Lib.hid hi
  have hz0 := Lib.hid hz0
  have hz1 := Lib.hid hz1
  have hz2 := Lib.hid hz2
  go_enter Tryd.func41, Tryd.ntmps41
  go_wp2
  generalize w.alloc (.cells #[.int .i64 1] 3) = w0 at *
  go_loopw [1, 2] (fun v i wr => ∃ j : Nat, j ≤ 254 ∧ i = .int .i64 ((j : Int) + 1) ∧ wr.ownsRow w.heap.size 3 1 v (j + 1) (vals .i64 (pwL.take (j + 1))) ∧ Below w.heap.size w wr) (fun _ i _ => 255 - (intOf i).toNat)
  case atStart => exact ⟨0, by omega, rfl, O1.out, O2.out⟩
  case round =>
    clear O1 O2
    obtain ⟨j, hj, rfl, hown, hbel⟩ := hrel
    obtain ⟨g, c, rfl, hg, hc, hlen, hH⟩ := holds_of_owns hown (by omega)
    have HO := Lib.hid hown
    have HB := Lib.hid hbel
    have hsz := hbel.size
    by_cases hlt : j < 254
    · have tj : decide ((j : Int) + 1 < 255) = true := by simp; omega
      have hcell := hH.cell j (by omega)
      rw [take_getD] at hcell
      have C1 := rtimes_any (pwL.getD j 0) 3 (pwL_lt j) (by omega) wr
      rw [pwL_next j hlt] at C1
      have HM := Lib.hid (pwL_more j hlt)
      have C1 := Lib.hid C1
      clear hown hbel hH hlen
      generalize pwL.getD (j + 1) 0 = y at *
      generalize pwL.getD j 0 = x at *
      go_wp2_with fail
      refine C1.out.mono ?_
      rintro e w' ⟨rfl, rfl⟩
      go_wp2_with (at_builtin; refine append_one rfl (.tmp 10) (.tmp 17) 71 rfl w.heap.size 3 (.int .i64 0) 8 Tryd.underlying71 info_int rfl _ (j + 1) _ (.int .i64 (y : Int)) rfl HO.out rfl rfl (by omega) (by omega) hsz ?_; intro v' w1 hown1 hbel1)
      go_roundw
      case rel => exact ⟨j + 1, by omega, by go_num, by rw [HM.out, vals_snoc]; exact hown1, HB.out.trans hbel1⟩
      case measure => simp [intOf]; omega
    · obtain rfl : j = 254 := by omega
      rw [List.take_of_length_le (by rw [pwL_len]; omega)] at hH
      have hsz' : w.heap.size ≤ wr.heap.size := hsz
      clear hlen hown hbel
      have hgl := hH.lt (by rw [pwL_len]; omega)
      have C0 := Lib.hid (fun w => rturned_any 0 (by omega) w)
      go_wp2_with (at_make; refine wpList_make_full _ rfl _ _ 71 rfl wr.heap.size 3 i0 (.int .i64 0) 1 Tryd.underlying71 hi.out hz0.out hz1.out _ _ _ _ 256 rfl rfl rfl rfl (by rw [hz2.out]; decide) (by unfold maxLen; omega) (Nat.le_refl _) ?_; intro w3 hown3 hgb3)
      rw [made_zs] at hown3
      obtain ⟨gO, cO, he, _, _, _, hO⟩ := holds_of_owns hown3 (by omega)
      injection he with he1 he2 he3
      injection he1 with he1
      injection he1 with he1
      subst he1
      have hB3 : Below wr.heap.size wr w3 := ⟨hgb3.os, hgb3.tape, hgb3.output, hgb3.size, fun k hk => hgb3.block k hk (by simp)⟩
      have hP3 := hH.below hB3 hgl
      have hL3 := HB.out.trans (hB3.mono hsz')
      generalize wr.heap.size = gO at *
      have c0 := hO.cell 0 (by rw [length_zs]; omega)
      have f0 := hO.frozen 0 (by rw [length_zs]; omega)
      rw [zs_get] at c0
      have B1 := Lib.hid (hO.set 0 99 (by rw [length_zs]; omega))
      have B2 := Lib.hid (hP3.beside ⟨gO, 0, none⟩ (.int .i64 99) (show gO ≠ g by omega))
      have B3 := Lib.hid (hL3.setCell (p := ⟨gO, 0, none⟩) hsz' (.int .i64 99))
      have C1 := C0.out w3
      rw [tb_zero] at C1
      have C1 := Lib.hid C1
      clear hown3 hgb3 hB3 hP3 hL3 hO he2 he3 HO HB hH
      refine C1.out.mono ?_
      rintro e w' ⟨rfl, rfl⟩
      go_wp2
      generalize w3.setCell ⟨gO, 0, none⟩ (.int .i64 99) = w4 at *
      go_loopw [4] (fun i wq => ∃ (k : Nat) (l : List Nat), k ≤ 255 ∧ i = .int .i64 (k : Nat) ∧ l.length = 256 ∧ fillR (255 - k) k l = boxL ∧ Holds wq gO .i64 l ∧ Holds wq g .i64 pwL ∧ Below w.heap.size w wq) (fun i _ => 255 - (intOf i).toNat)
      case atStart => exact ⟨0, box0, by omega, rfl, box0_len, fillR_all, B1.out, B2.out, B3.out⟩
      case round =>
        clear B1 B2 B3 C1 c0 f0
        obtain ⟨k, l, hk, rfl, hl, hf, h1, h2, h3⟩ := hrel
        have H1 := Lib.hid h1; clear h1
        have H2 := Lib.hid h2; clear h2
        have H3 := Lib.hid h3; clear h3
        have hl' := Lib.hid hl
        by_cases hlt : k < 255
        · have ht : decide ((k : Int) < 255) = true := by simp; omega
          obtain ⟨q, hq⟩ : ∃ q, q = (255 - k) % 255 := ⟨_, rfl⟩
          have hq' : q < 255 := by omega
          have em : (IntKind.i64.wrap ((255 : Int) - (k : Int))).tmod 255 = (q : Int) := by rw [IntKind.wrap_i64, Int.tmod_eq_emod_of_nonneg (by omega)]; omega
          have hkI : (k : Int) < 255 := by omega
          have hqI : (q : Int) < 255 := by omega
          have hpI : ((pwL.getD k 0 : Nat) : Int) < 256 := by have := pwL_lt k; omega
          rw [show 255 - k = (255 - (k + 1)) + 1 by omega] at hf
          have HF : fillR (255 - (k + 1)) (k + 1) (l.set (pwL.getD k 0) (tb (pwL.getD q 0))) = boxL := by rw [hq]; exact hf
          have HF := Lib.hid HF
          have hpk := pwL_lt k
          have hpq := pwL_lt q
          have S1 := H2.out.drew.cell k (by rw [pwL_len]; exact hlt)
          have S2 := H2.out.drew.cell q (by rw [pwL_len]; exact hq')
          have oc := H1.out.drew.cell (pwL.getD k 0) (by rw [hl]; exact hpk)
          have ofr := H1.out.drew.frozen (pwL.getD k 0) (by rw [hl]; exact hpk)
          have HC := Lib.hid (fun w => rturned_any (pwL.getD q 0) hpq w)
          have X1 := H1.out.drew.set (pwL.getD k 0) (tb (pwL.getD q 0)) (by rw [hl]; exact hpk)
          have X2 := H2.out.drew.beside ⟨gO, pwL.getD k 0, none⟩ (.int .i64 ((tb (pwL.getD q 0) : Nat) : Int)) (show gO ≠ g by omega)
          have X3 := H3.out.drew.setCell (p := ⟨gO, pwL.getD k 0, none⟩) hsz' (.int .i64 ((tb (pwL.getD q 0) : Nat) : Int))
          clear hq hf
          generalize tb (pwL.getD q 0) = y at *
          generalize hr : pwL.getD q 0 = r at *
          have SX1 := X2.cell k (by rw [pwL_len]; exact hlt)
          have SX2 := X2.cell q (by rw [pwL_len]; exact hq')
          rw [show pwL.getD q 0 = r from hr] at SX2
          have SX1 := Lib.hid SX1
          have SX2 := Lib.hid SX2
          have ST := Lib.hid (And.intro S1 S2)
          have X1 := Lib.hid X1
          have X2 := Lib.hid X2
          have X3 := Lib.hid X3
          clear S1 S2 hr
          generalize pwL.getD k 0 = p at *
          generalize l.getD p 0 = old at *
          go_wp2
          refine wp_region_held_drew (S := SR g k q p r) (by kernel_rfl) ST.out (fun hHeld => ?_)
          refine wpAnyH_take (i := 0) (v := ?_) rfl (by kernel_rfl) (by kernel_rfl) (by kernel_rfl) (fun _ _ _ h => h) (Or.inl ⟨by rfl, ?_⟩) (by assumption) ?_
          rotate_left
          · (intro wz hSw; obtain ⟨hs1, hs2⟩ := hSw; go_simp; try with_reducible rfl)
          try simp only [List.getElem_toArray, List.getElem_cons_zero, List.getElem_cons_succ, Act.put, List.setIfInBounds_toArray, List.set_cons_zero, List.set_cons_succ]
          refine wpAnyH_take (i := 1) (v := ?_) rfl (by kernel_rfl) (by kernel_rfl) (by kernel_rfl) (fun _ _ _ h => h) (Or.inl ⟨by rfl, ?_⟩) (by assumption) ?_
          rotate_left
          · (intro wz hSw; obtain ⟨hs1, hs2⟩ := hSw; go_simp; try with_reducible rfl)
          try simp only [List.getElem_toArray, List.getElem_cons_zero, List.getElem_cons_succ, Act.put, List.setIfInBounds_toArray, List.set_cons_zero, List.set_cons_succ]
          refine wpAnyH_take (i := 2) (v := ?_) rfl (by kernel_rfl) (by kernel_rfl) (by kernel_rfl) (fun _ _ _ h => h) (Or.inl ⟨by rfl, ?_⟩) (by assumption) ?_
          rotate_left
          · (intro wz hSw; obtain ⟨hs1, hs2⟩ := hSw; go_simp; try with_reducible rfl)
          try simp only [List.getElem_toArray, List.getElem_cons_zero, List.getElem_cons_succ, Act.put, List.setIfInBounds_toArray, List.set_cons_zero, List.set_cons_succ]
          refine wpAnyH_take (i := 3) (v := ?_) rfl (by kernel_rfl) (by kernel_rfl) (by kernel_rfl) (fun _ _ _ h => h) (Or.inl ⟨by rfl, ?_⟩) (by assumption) ?_
          rotate_left
          · (intro wz hSw; obtain ⟨hs1, hs2⟩ := hSw; go_simp; try with_reducible rfl)
          try simp only [List.getElem_toArray, List.getElem_cons_zero, List.getElem_cons_succ, Act.put, List.setIfInBounds_toArray, List.set_cons_zero, List.set_cons_succ]
          refine wpAnyH_take (i := 4) (v := ?_) rfl (by kernel_rfl) (by kernel_rfl) (by kernel_rfl) (fun _ _ _ h => h) (Or.inl ⟨by rfl, ?_⟩) (by assumption) ?_
          rotate_left
          · (intro wz hSw; obtain ⟨hs1, hs2⟩ := hSw; go_simp; try with_reducible rfl)
          try simp only [List.getElem_toArray, List.getElem_cons_zero, List.getElem_cons_succ, Act.put, List.setIfInBounds_toArray, List.set_cons_zero, List.set_cons_succ]
          refine wpAnyH_take (i := 5) (v := ?_) rfl (by kernel_rfl) (by kernel_rfl) (by kernel_rfl) (fun _ _ _ h => h) (Or.inl ⟨by rfl, ?_⟩) (by assumption) ?_
          rotate_left
          · (intro wz hSw; obtain ⟨hs1, hs2⟩ := hSw; go_simp; try with_reducible rfl)
          try simp only [List.getElem_toArray, List.getElem_cons_zero, List.getElem_cons_succ, Act.put, List.setIfInBounds_toArray, List.set_cons_zero, List.set_cons_succ]
          refine wpAnyH_take (i := 6) (v := ?_) rfl (by kernel_rfl) (by kernel_rfl) (by kernel_rfl) (fun _ _ _ h => h) (Or.inl ⟨by rfl, ?_⟩) (by assumption) ?_
          rotate_left
          · (intro wz hSw; obtain ⟨hs1, hs2⟩ := hSw; go_simp; try with_reducible rfl)
          try simp only [List.getElem_toArray, List.getElem_cons_zero, List.getElem_cons_succ, Act.put, List.setIfInBounds_toArray, List.set_cons_zero, List.set_cons_succ]
          refine wpAnyH_take (i := 7) (v := ?_) rfl (by kernel_rfl) (by kernel_rfl) (by kernel_rfl) (fun _ _ _ h => h) (Or.inl ⟨by rfl, ?_⟩) (by assumption) ?_
          rotate_left
          · (intro wz hSw; obtain ⟨hs1, hs2⟩ := hSw; go_simp; try with_reducible rfl)
          try simp only [List.getElem_toArray, List.getElem_cons_zero, List.getElem_cons_succ, Act.put, List.setIfInBounds_toArray, List.set_cons_zero, List.set_cons_succ]
          refine wpAnyH_take (i := 8) (v := ?_) rfl (by kernel_rfl) (by kernel_rfl) (by kernel_rfl) (fun _ _ _ h => h) (Or.inl ⟨by rfl, ?_⟩) (by assumption) ?_
          rotate_left
          · (intro wz hSw; obtain ⟨hs1, hs2⟩ := hSw; go_simp; try with_reducible rfl)
          try simp only [List.getElem_toArray, List.getElem_cons_zero, List.getElem_cons_succ, Act.put, List.setIfInBounds_toArray, List.set_cons_zero, List.set_cons_succ]
          refine wpAnyH_take (i := 9) (v := ?_) rfl (by kernel_rfl) (by kernel_rfl) (by kernel_rfl) (fun _ _ _ h => h) (Or.inl ⟨by rfl, ?_⟩) (by assumption) ?_
          rotate_left
          · (intro wz hSw; obtain ⟨hs1, hs2⟩ := hSw; go_simp; try with_reducible rfl)
          try simp only [List.getElem_toArray, List.getElem_cons_zero, List.getElem_cons_succ, Act.put, List.setIfInBounds_toArray, List.set_cons_zero, List.set_cons_succ]
          refine wpAnyH_take (i := 10) (v := ?_) rfl (by kernel_rfl) (by kernel_rfl) (by kernel_rfl) (fun _ _ _ h => h) (Or.inl ⟨by rfl, ?_⟩) (by assumption) ?_
          rotate_left
          · (intro wz hSw; obtain ⟨hs1, hs2⟩ := hSw; go_simp; try with_reducible rfl)
          try simp only [List.getElem_toArray, List.getElem_cons_zero, List.getElem_cons_succ, Act.put, List.setIfInBounds_toArray, List.set_cons_zero, List.set_cons_succ]
          refine wpAnyH_ready (rs := [11]) (by kernel_rfl) (by simp) (AllReadyH.cons rfl (fun K hK => ?_) AllReadyH.nil)
          go_simp
          refine (HC.out _).mono ?_
          rintro e w5 ⟨rfl, rfl⟩
          refine hK.out _ _ hHeld (fun hHeld2 => ?_)
          clear hHeld hK K; have hHeld := hHeld2; clear hHeld2
          try simp only [List.getElem_toArray, List.getElem_cons_zero, List.getElem_cons_succ, Act.put, List.setIfInBounds_toArray, List.set_cons_zero, List.set_cons_succ]
          refine wpAnyH_take (i := 12) (v := ?_) rfl (by kernel_rfl) (by kernel_rfl) (by kernel_rfl) (fun _ _ _ h => h) (Or.inl ⟨by rfl, ?_⟩) (by assumption) ?_
          rotate_left
          · (intro wz hSw; obtain ⟨hs1, hs2⟩ := hSw; go_simp; try with_reducible rfl)
          try simp only [List.getElem_toArray, List.getElem_cons_zero, List.getElem_cons_succ, Act.put, List.setIfInBounds_toArray, List.set_cons_zero, List.set_cons_succ]
          refine wpAnyH_ready (rs := [13]) (by kernel_rfl) (by simp) (AllReadyH.cons rfl (fun K hK => ?_) AllReadyH.nil)
          go_simp
          refine hK.out _ _ ⟨SX1.out, SX2.out⟩ (fun hHeld2 => ?_)
          clear hHeld hK K hHeld2
          try simp only [List.getElem_toArray, List.getElem_cons_zero, List.getElem_cons_succ, Act.put, List.setIfInBounds_toArray, List.set_cons_zero, List.set_cons_succ]
          refine wpAnyH_done (by kernel_rfl) ?_ _
          go_wp2
          go_roundw
          case rel => exact ⟨k + 1, _, by omega, by go_num, by rw [List.length_set, hl], HF.out, X1.out, X2.out, X3.out⟩
          case measure => simp [intOf]; omega
        · obtain rfl : k = 255 := by omega
          obtain rfl : l = boxL := hf
          have HL := Lib.hid boxL_len
          generalize boxL = l at *
          go_wp2
          go_ret
          exact ⟨gO, 256, by rw [HL.out]; rfl, H1.out, hsz', H3.out⟩
end Go.Proofs.YtdjknmnmacppdaaDoor
