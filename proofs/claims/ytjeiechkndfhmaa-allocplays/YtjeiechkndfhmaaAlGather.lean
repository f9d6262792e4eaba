/-
  The pool's gather: a chain's sectors as a set, by every other extent in rising order. Condition: the slice holds the extents.
-/
import Derived.Test.YtjeiechkndfhmaaAlTur
namespace Go.Proofs.Ytjeiechkndfhmaa
open Go.RowKit Arr Ex
set_option maxRecDepth 100000 in
set_option maxHeartbeats 8000000 in
theorem gather_any (w : World) (A : Option Addr) (n c : Nat) (l : List (Int × Int)) (hl : l.length = n) (hn : n ≤ 1000) (h : Exts w w.heap.size A l) :
    Calls Try.prog 23 #[.slice A n c] w (GatherP l w) := by
  have mixed : Try.prog.follows .mixedOrders = true := by kernel_rfl
  obtain ⟨w0, hw0⟩ : ∃ w0, w0 = w.alloc (.cells #[.slice none 0 0, .slice none 0 0] 69) := ⟨_, rfl⟩
  have hal : Below w.heap.size w w0 := hw0 ▸ below_alloc w _
  have hz0 : w0.heap.size = w.heap.size + 1 := by rw [hw0]; simp
  have CR := Lib.hid (arising_any w0 A n c l hl (by omega) ((h.below hal).more (by omega)))
  have HI := Lib.hid h.int
  have HAL := Lib.hid hal
  have HL := Lib.hid hl
  have HZ := Lib.hid hz0
  have HC := Lib.hid (show (∀ b : Bool, w0.cell? ⟨w.heap.size, b.toNat, none⟩ = some (.slice none 0 0)) ∧ ∀ b : Bool, w0.frozen? ⟨w.heap.size, b.toNat, none⟩ = false from ⟨fun b => by rw [hw0, World.cell?_alloc_new]; cases b <;> rfl, fun b => by rw [hw0, frozen?_alloc_cells]; simp [World.frozen?]⟩)
  clear h hl hal hz0
  go_enter Try.func23, Try.ntmps23
  go_wp2_with fail
  rw [← hw0]
  refine CR.out.mono ?_
  rintro e w5 ⟨vr, l', rfl, hp, hr, ho, hb5⟩
  have JS := Lib.hid (joins_sel hp hr)
  have HP := Lib.hid hp
  have hl' := hp.length_eq
  rw [HL.out] at hl'
  obtain ⟨Ar, cr, rfl, _, _, hlo, hxr⟩ := ho.shape
  have HXR := Lib.hid (hxr fun x hx => HI.out x (hp.mem_iff.2 hx))
  have HLO := Lib.hid (show ∀ b, Option.map Addr.block Ar = some b → b ≠ w.heap.size from fun b hb => by have := hlo b hb; have := HZ.out; omega)
  have HB5 := Lib.hid (HAL.out.trans (hb5.mono (by have := HZ.out; omega)))
  have hg5 : w.heap.size < w5.heap.size := by have := HZ.out; have := hb5.size; omega
  have T0 := Lib.hid (show Tur w5 w5 w.heap.size (fun _ => .slice none 0 0) (fun b => sel b (l'.take 0)) from
    ⟨fun b => (hb5.cell (p := ⟨w.heap.size, b.toNat, none⟩) (by show w.heap.size < w0.heap.size; have := HZ.out; omega)).trans (HC.out.1 b), fun b => (hb5.frozen (p := ⟨w.heap.size, b.toNat, none⟩) (by show w.heap.size < w0.heap.size; have := HZ.out; omega)).trans (HC.out.2 b),
      fun b => by rw [List.take_zero]; cases b <;> exact own2_nil _ _, fun k hk => (by cases hk), Only.refl _ _, hg5⟩)
  rw [← hl']
  generalize hg : w.heap.size = g at *
  have HG := Lib.hid hg
  have HLL := Lib.hid hl'
  clear hp hr ho hb5 hlo hxr CR HAL HZ HC hw0 hg hl'
  go_wp2
  go_loopw [10] (fun i wr => ∃ (k : Nat) (V : Bool → Value), k ≤ n ∧ i = .int .i64 (k : Int) ∧ Tur w5 wr g V (fun b => sel b (l'.take k))) (fun i _ => n - (intOf i).toNat)
  case atStart => exact ⟨0, _, Nat.zero_le _, rfl, T0.out⟩
  case round =>
    obtain ⟨k, V, hk, rfl, hT⟩ := hrel
    have HT := Lib.hid hT
    by_cases hlt : k < n
    · have hki : k < l'.length := by rw [← HLL.out]; exact hlt
      obtain ⟨b', off, hAr, hb, hcs⟩ := (HXR.out.only hT.only (Nat.le_refl _) HLO.out).cells (by omega)
      subst hAr
      obtain ⟨q0, q1⟩ := hcs k hki
      have t1 : decide ((k : Int) < (n : Int)) = true := by simp; omega
      have wk : IntKind.i64.wrap ((k : Int) + 1) = (k : Int) + 1 := by rw [IntKind.wrap_i64]; omega
      have TK := Lib.hid (show l'.take (k + 1) = l'.take k ++ [l'[k]] from take_get hki)
      have hlk : (l'.take k).length = k := by rw [List.length_take]; omega
      have LK := Lib.hid hlk
      have LS := Lib.hid (show ∀ b, (sel b (l'.take k)).length ≤ 1000000 from fun b => by have := (sel_sub (l'.take k) b).length_le; omega)
      have cV := hT.cell
      have fV := hT.frz
      have hsz := hT.only.size
      clear hT hcs hlk
      generalize l'[k] = x at *
      obtain ⟨x0, x1⟩ := x
      dsimp only at q0 q1
      rcases Nat.mod_two_eq_zero_or_one k with hpar | hpar
      · have tm : (k : Int).tmod 2 = 0 := by rw [Int.tmod_eq_emod_of_nonneg (by omega)]; omega
        have a2 : wr.cell? ⟨g, 0, none⟩ = some (V false) := cV false
        have a3 : wr.frozen? ⟨g, 0, none⟩ = false := fV false
        clear cV fV
        have hgw : g < wr.heap.size := lt_of_cell a2
        have hal := below_alloc wr (.cells #[.int .i64 x0, .int .i64 x1] 34)
        have a4 : (wr.alloc (.cells #[.int .i64 x0, .int .i64 x1] 34)).cell? ⟨g, 0, none⟩ = some (V false) := (hal.cell (p := ⟨g, 0, none⟩) hgw).trans a2
        have a5 : (wr.alloc (.cells #[.int .i64 x0, .int .i64 x1] 34)).frozen? ⟨g, 0, none⟩ = false := (hal.frozen (p := ⟨g, 0, none⟩) hgw).trans a3
        have a6 : (wr.alloc (.cells #[.int .i64 x0, .int .i64 x1] 34)).cell? ⟨wr.heap.size, 0, none⟩ = some (.int .i64 x0) := by rw [World.cell?_alloc_new]; rfl
        have a7 : (wr.alloc (.cells #[.int .i64 x0, .int .i64 x1] 34)).cell? ⟨wr.heap.size, 1, none⟩ = some (.int .i64 x1) := by rw [World.cell?_alloc_new]; rfl
        have RUN := Lib.hid (run_append_set (w := (wr.alloc (.cells #[.int .i64 x0, .int .i64 x1] 34)).drew) w5.heap.size (V false) (sel false (l'.take k)) (((HT.out.own false).alloc _).drewN 1) (x0, x1) (LS.out _) (by show w5.heap.size ≤ (wr.alloc _).heap.size; simp; omega) 57 (wr.heap.size + 1) (by simp))
        go_wp2
        refine wp_region_L [(8, (fun w' => w'.cell? ⟨g, 0, none⟩ = some (V false))), (7, (fun w' => w'.cell? ⟨wr.heap.size, 0, none⟩ = some (.int .i64 x0))), (7, (fun w' => w'.cell? ⟨wr.heap.size, 1, none⟩ = some (.int .i64 x1)))] 11 #[false, false, false, false, false, false, false, false, false, false, false] (by kernel_rfl) (by rfl) (by kernel_rfl) (by intro p hp; simp only [List.mem_cons, List.not_mem_nil, or_false] at hp; rcases hp with rfl | rfl | rfl; exact a4; exact a6; exact a7) (fun hHeld => ?_)
        refine wpAnyL_take (i := 0) (v := ?_) rfl (by kernel_rfl) (by kernel_rfl) (by kernel_rfl) (by rfl) (fun _ _ _ h => h) (Or.inl ⟨by rfl, ?_⟩) hHeld (fun hHeld2 => ?_)
        rotate_left
        · (intro wz hSw; go_simp; try with_reducible rfl)
        clear hHeld; have hHeld := hHeld2; clear hHeld2
        try simp only [List.getElem_toArray, List.getElem_cons_zero, Act.put, List.setIfInBounds_toArray, List.set_cons_zero, List.set_cons_succ]
        refine wpAnyL_take (i := 1) (v := ?_) rfl (by kernel_rfl) (by kernel_rfl) (by kernel_rfl) (by rfl) (fun _ _ _ h => h) (Or.inl ⟨by rfl, ?_⟩) hHeld (fun hHeld2 => ?_)
        rotate_left
        · (intro wz hSw; go_simp; try with_reducible rfl)
        clear hHeld; have hHeld := hHeld2; clear hHeld2
        try simp only [List.getElem_toArray, List.getElem_cons_zero, List.getElem_cons_succ, Act.put, List.setIfInBounds_toArray, List.set_cons_zero, List.set_cons_succ]
        refine wpAnyL_take (i := 2) (v := ?_) rfl (by kernel_rfl) (by kernel_rfl) (by kernel_rfl) (by rfl) (fun _ _ _ h => h) (Or.inl ⟨by rfl, ?_⟩) hHeld (fun hHeld2 => ?_)
        rotate_left
        · (intro wz hSw; go_simp; try with_reducible rfl)
        clear hHeld; have hHeld := hHeld2; clear hHeld2
        try simp only [List.getElem_toArray, List.getElem_cons_zero, List.getElem_cons_succ, Act.put, List.setIfInBounds_toArray, List.set_cons_zero, List.set_cons_succ]
        refine wpAnyL_take (i := 3) (v := ?_) rfl (by kernel_rfl) (by kernel_rfl) (by kernel_rfl) (by rfl) (fun _ _ _ h => h) (Or.inl ⟨by rfl, ?_⟩) hHeld (fun hHeld2 => ?_)
        rotate_left
        · (intro wz hSw; go_simp; try with_reducible rfl)
        clear hHeld; have hHeld := hHeld2; clear hHeld2
        try simp only [List.getElem_toArray, List.getElem_cons_zero, List.getElem_cons_succ, Act.put, List.setIfInBounds_toArray, List.set_cons_zero, List.set_cons_succ]
        refine wpAnyL_take (i := 4) (v := ?_) rfl (by kernel_rfl) (by kernel_rfl) (by kernel_rfl) (by rfl) (fun _ _ _ h => h) (Or.inl ⟨by rfl, ?_⟩) hHeld (fun hHeld2 => ?_)
        rotate_left
        · (intro wz hSw; go_simp; try with_reducible rfl)
        clear hHeld; have hHeld := hHeld2; clear hHeld2
        try simp only [List.getElem_toArray, List.getElem_cons_zero, List.getElem_cons_succ, Act.put, List.setIfInBounds_toArray, List.set_cons_zero, List.set_cons_succ]
        refine wpAnyL_take (i := 5) (v := ?_) rfl (by kernel_rfl) (by kernel_rfl) (by kernel_rfl) (by rfl) (fun _ _ _ h => h) (Or.inl ⟨by rfl, ?_⟩) hHeld (fun hHeld2 => ?_)
        rotate_left
        · (intro wz hSw; have hq : wz.cell? ⟨g, 0, none⟩ = some (V false) := hSw.get _ (List.Mem.head _) 3 (by kernel_rfl); go_simp; try with_reducible rfl)
        clear hHeld; have hHeld := hHeld2; clear hHeld2
        try simp only [List.getElem_toArray, List.getElem_cons_zero, List.getElem_cons_succ, Act.put, List.setIfInBounds_toArray, List.set_cons_zero, List.set_cons_succ]
        refine wpAnyL_take (i := 6) (v := ?_) rfl (by kernel_rfl) (by kernel_rfl) (by kernel_rfl) (by rfl) (fun _ _ _ h => h) (Or.inl ⟨by rfl, ?_⟩) hHeld (fun hHeld2 => ?_)
        rotate_left
        · (intro wz hSw; have hq : wz.cell? ⟨wr.heap.size, 0, none⟩ = some (.int .i64 x0) := hSw.get _ (List.Mem.tail _ (List.Mem.head _)) 3 (by kernel_rfl); have hq2 : wz.cell? ⟨wr.heap.size, 1, none⟩ = some (.int .i64 x1) := hSw.get _ (List.Mem.tail _ (List.Mem.tail _ (List.Mem.head _))) 3 (by kernel_rfl); go_simp; try with_reducible rfl)
        clear hHeld; have hHeld := hHeld2; clear hHeld2
        try simp only [List.getElem_toArray, List.getElem_cons_zero, List.getElem_cons_succ, Act.put, List.setIfInBounds_toArray, List.set_cons_zero, List.set_cons_succ]
        refine wpAnyL_one (i := 7) (by kernel_rfl) rfl rfl hHeld (fun K hK => ?_)
        go_simp
        have b4 : ((wr.alloc (.cells #[.int .i64 x0, .int .i64 x1] 34)).drew.alloc (.cells #[.int .i64 x0, .int .i64 x1] 34)).cell? ⟨g, 0, none⟩ = some (V false) := ((below_alloc (wr.alloc (.cells #[.int .i64 x0, .int .i64 x1] 34)).drew _).cell (p := ⟨g, 0, none⟩) (lt_of_cell a4)).trans a4
        refine hK.out _ _ (by intro p hp hl; simp only [List.mem_cons, List.not_mem_nil, or_false] at hp; rcases hp with rfl | rfl | rfl; exact b4; exact Bool.noConfusion (hl.symm.trans (show _ = true by kernel_rfl)); exact Bool.noConfusion (hl.symm.trans (show _ = true by kernel_rfl))) (fun hHeld2 => ?_)
        clear hHeld hK K ; have hHeld := hHeld2; clear hHeld2
        try simp only [List.setIfInBounds_toArray, List.set_cons_zero, List.set_cons_succ]
        obtain ⟨v', w4, hr, hown, hgr, hat⟩ := RUN.out
        clear RUN
        refine wpAnyL_one (i := 8) (by kernel_rfl) rfl rfl hHeld (fun K hK => ?_)
        refine op_append (.tmp 20) (.tmp 22) 57 rfl _ _ rfl rfl hr ?_
        have hwa : Below wr.heap.size wr ((wr.alloc (.cells #[.int .i64 x0, .int .i64 x1] 34)).drew.alloc (.cells #[.int .i64 x0, .int .i64 x1] 34)) := (below_drew hal).trans ((below_alloc _ _).mono (by simp))
        have HPUT := Lib.hid (HT.out.put false hwa hown hgr (by simpa using hat))
        have hng : some g ≠ (V false).ownBlock := fun e => by have := ((HT.out.own false).lt g e.symm).1; have := HT.out.gl; omega
        have eg : w4.heap[g]? = wr.heap[g]? := (hgr.block g (by simp; omega) hng).trans (hwa.block g hgw)
        have b5 : w4.cell? ⟨g, 0, none⟩ = some (V false) := (heap_cell2 eg).trans a2
        have b6 : w4.frozen? ⟨g, 0, none⟩ = false := (World.frozen?_of_block (w := wr) (a := ⟨g, 0, none⟩) eg).trans a3
        obtain ⟨A7, c7, rfl, _⟩ := hown.shape
        refine hK.out _ _ (by intro p hp hl; simp only [List.mem_cons, List.not_mem_nil, or_false] at hp; rcases hp with rfl | rfl | rfl <;> exact Bool.noConfusion (hl.symm.trans (show _ = true by kernel_rfl))) (fun hHeld2 => ?_)
        clear hHeld hK K hr hown hgr hat hwa eg hng; have hHeld := hHeld2; clear hHeld2
        try simp only [List.getElem_toArray, List.getElem_cons_zero, List.getElem_cons_succ, Act.put, List.setIfInBounds_toArray, List.set_cons_zero, List.set_cons_succ]
        refine wpAnyL_one (i := 9) (by kernel_rfl) rfl rfl hHeld (fun K hK => ?_)
        go_simp
        refine hK.out _ _ (by intro p hp hl; simp only [List.mem_cons, List.not_mem_nil, or_false] at hp; rcases hp with rfl | rfl | rfl <;> exact Bool.noConfusion (hl.symm.trans (show _ = true by kernel_rfl))) (fun hHeld2 => ?_)
        clear hHeld hK K ; have hHeld := hHeld2; clear hHeld2
        try simp only [List.setIfInBounds_toArray, List.set_cons_zero, List.set_cons_succ]
        refine wpAnyL_one (i := 10) (by kernel_rfl) rfl rfl hHeld (fun K hK => ?_)
        go_simp
        refine hK.out _ _ (by intro p hp hl; simp only [List.mem_cons, List.not_mem_nil, or_false] at hp; rcases hp with rfl | rfl | rfl <;> exact Bool.noConfusion (hl.symm.trans (show _ = true by kernel_rfl))) (fun hHeld2 => ?_)
        clear hHeld hK K hHeld2
        try simp only [List.getElem_toArray, List.getElem_cons_zero, List.getElem_cons_succ, Act.put]
        refine wpAnyL_done (by kernel_rfl) ?_ _
        clear a2 a3 a4 a5 a6 a7 b4 b5 b6 hal
        go_wp2
        go_roundw
        case rel =>
          have e : (fun c => if c = false then sel false (l'.take k) ++ [(x0, x1)] else sel c (l'.take k)) = fun c => sel c (l'.take (k + 1)) := by
            funext c
            rw [TK.out, sel_snoc, LK.out, hpar]
            cases c <;> rfl
          have hq := HPUT.out.cast e
          rw [List.length_append] at hq
          exact ⟨k + 1, _, by omega, by simp, hq⟩
        case measure => simp [intOf]; omega
      · have tm : (k : Int).tmod 2 = 1 := by rw [Int.tmod_eq_emod_of_nonneg (by omega)]; omega
        have a2 : wr.cell? ⟨g, 1, none⟩ = some (V true) := cV true
        have a3 : wr.frozen? ⟨g, 1, none⟩ = false := fV true
        clear cV fV
        have hgw : g < wr.heap.size := lt_of_cell a2
        have hal := below_alloc wr (.cells #[.int .i64 x0, .int .i64 x1] 34)
        have a4 : (wr.alloc (.cells #[.int .i64 x0, .int .i64 x1] 34)).cell? ⟨g, 1, none⟩ = some (V true) := (hal.cell (p := ⟨g, 1, none⟩) hgw).trans a2
        have a5 : (wr.alloc (.cells #[.int .i64 x0, .int .i64 x1] 34)).frozen? ⟨g, 1, none⟩ = false := (hal.frozen (p := ⟨g, 1, none⟩) hgw).trans a3
        have a6 : (wr.alloc (.cells #[.int .i64 x0, .int .i64 x1] 34)).cell? ⟨wr.heap.size, 0, none⟩ = some (.int .i64 x0) := by rw [World.cell?_alloc_new]; rfl
        have a7 : (wr.alloc (.cells #[.int .i64 x0, .int .i64 x1] 34)).cell? ⟨wr.heap.size, 1, none⟩ = some (.int .i64 x1) := by rw [World.cell?_alloc_new]; rfl
        have RUN := Lib.hid (run_append_set (w := (wr.alloc (.cells #[.int .i64 x0, .int .i64 x1] 34)).drew) w5.heap.size (V true) (sel true (l'.take k)) (((HT.out.own true).alloc _).drewN 1) (x0, x1) (LS.out _) (by show w5.heap.size ≤ (wr.alloc _).heap.size; simp; omega) 57 (wr.heap.size + 1) (by simp))
        go_wp2
        refine wp_region_L [(8, (fun w' => w'.cell? ⟨g, 1, none⟩ = some (V true))), (7, (fun w' => w'.cell? ⟨wr.heap.size, 0, none⟩ = some (.int .i64 x0))), (7, (fun w' => w'.cell? ⟨wr.heap.size, 1, none⟩ = some (.int .i64 x1)))] 11 #[false, false, false, false, false, false, false, false, false, false, false] (by kernel_rfl) (by rfl) (by kernel_rfl) (by intro p hp; simp only [List.mem_cons, List.not_mem_nil, or_false] at hp; rcases hp with rfl | rfl | rfl; exact a4; exact a6; exact a7) (fun hHeld => ?_)
        refine wpAnyL_take (i := 0) (v := ?_) rfl (by kernel_rfl) (by kernel_rfl) (by kernel_rfl) (by rfl) (fun _ _ _ h => h) (Or.inl ⟨by rfl, ?_⟩) hHeld (fun hHeld2 => ?_)
        rotate_left
        · (intro wz hSw; go_simp; try with_reducible rfl)
        clear hHeld; have hHeld := hHeld2; clear hHeld2
        try simp only [List.getElem_toArray, List.getElem_cons_zero, Act.put, List.setIfInBounds_toArray, List.set_cons_zero, List.set_cons_succ]
        refine wpAnyL_take (i := 1) (v := ?_) rfl (by kernel_rfl) (by kernel_rfl) (by kernel_rfl) (by rfl) (fun _ _ _ h => h) (Or.inl ⟨by rfl, ?_⟩) hHeld (fun hHeld2 => ?_)
        rotate_left
        · (intro wz hSw; go_simp; try with_reducible rfl)
        clear hHeld; have hHeld := hHeld2; clear hHeld2
        try simp only [List.getElem_toArray, List.getElem_cons_zero, List.getElem_cons_succ, Act.put, List.setIfInBounds_toArray, List.set_cons_zero, List.set_cons_succ]
        refine wpAnyL_take (i := 2) (v := ?_) rfl (by kernel_rfl) (by kernel_rfl) (by kernel_rfl) (by rfl) (fun _ _ _ h => h) (Or.inl ⟨by rfl, ?_⟩) hHeld (fun hHeld2 => ?_)
        rotate_left
        · (intro wz hSw; go_simp; try with_reducible rfl)
        clear hHeld; have hHeld := hHeld2; clear hHeld2
        try simp only [List.getElem_toArray, List.getElem_cons_zero, List.getElem_cons_succ, Act.put, List.setIfInBounds_toArray, List.set_cons_zero, List.set_cons_succ]
        refine wpAnyL_take (i := 3) (v := ?_) rfl (by kernel_rfl) (by kernel_rfl) (by kernel_rfl) (by rfl) (fun _ _ _ h => h) (Or.inl ⟨by rfl, ?_⟩) hHeld (fun hHeld2 => ?_)
        rotate_left
        · (intro wz hSw; go_simp; try with_reducible rfl)
        clear hHeld; have hHeld := hHeld2; clear hHeld2
        try simp only [List.getElem_toArray, List.getElem_cons_zero, List.getElem_cons_succ, Act.put, List.setIfInBounds_toArray, List.set_cons_zero, List.set_cons_succ]
        refine wpAnyL_take (i := 4) (v := ?_) rfl (by kernel_rfl) (by kernel_rfl) (by kernel_rfl) (by rfl) (fun _ _ _ h => h) (Or.inl ⟨by rfl, ?_⟩) hHeld (fun hHeld2 => ?_)
        rotate_left
        · (intro wz hSw; go_simp; try with_reducible rfl)
        clear hHeld; have hHeld := hHeld2; clear hHeld2
        try simp only [List.getElem_toArray, List.getElem_cons_zero, List.getElem_cons_succ, Act.put, List.setIfInBounds_toArray, List.set_cons_zero, List.set_cons_succ]
        refine wpAnyL_take (i := 5) (v := ?_) rfl (by kernel_rfl) (by kernel_rfl) (by kernel_rfl) (by rfl) (fun _ _ _ h => h) (Or.inl ⟨by rfl, ?_⟩) hHeld (fun hHeld2 => ?_)
        rotate_left
        · (intro wz hSw; have hq : wz.cell? ⟨g, 1, none⟩ = some (V true) := hSw.get _ (List.Mem.head _) 3 (by kernel_rfl); go_simp; try with_reducible rfl)
        clear hHeld; have hHeld := hHeld2; clear hHeld2
        try simp only [List.getElem_toArray, List.getElem_cons_zero, List.getElem_cons_succ, Act.put, List.setIfInBounds_toArray, List.set_cons_zero, List.set_cons_succ]
        refine wpAnyL_take (i := 6) (v := ?_) rfl (by kernel_rfl) (by kernel_rfl) (by kernel_rfl) (by rfl) (fun _ _ _ h => h) (Or.inl ⟨by rfl, ?_⟩) hHeld (fun hHeld2 => ?_)
        rotate_left
        · (intro wz hSw; have hq : wz.cell? ⟨wr.heap.size, 0, none⟩ = some (.int .i64 x0) := hSw.get _ (List.Mem.tail _ (List.Mem.head _)) 3 (by kernel_rfl); have hq2 : wz.cell? ⟨wr.heap.size, 1, none⟩ = some (.int .i64 x1) := hSw.get _ (List.Mem.tail _ (List.Mem.tail _ (List.Mem.head _))) 3 (by kernel_rfl); go_simp; try with_reducible rfl)
        clear hHeld; have hHeld := hHeld2; clear hHeld2
        try simp only [List.getElem_toArray, List.getElem_cons_zero, List.getElem_cons_succ, Act.put, List.setIfInBounds_toArray, List.set_cons_zero, List.set_cons_succ]
        refine wpAnyL_one (i := 7) (by kernel_rfl) rfl rfl hHeld (fun K hK => ?_)
        go_simp
        have b4 : ((wr.alloc (.cells #[.int .i64 x0, .int .i64 x1] 34)).drew.alloc (.cells #[.int .i64 x0, .int .i64 x1] 34)).cell? ⟨g, 1, none⟩ = some (V true) := ((below_alloc (wr.alloc (.cells #[.int .i64 x0, .int .i64 x1] 34)).drew _).cell (p := ⟨g, 1, none⟩) (lt_of_cell a4)).trans a4
        refine hK.out _ _ (by intro p hp hl; simp only [List.mem_cons, List.not_mem_nil, or_false] at hp; rcases hp with rfl | rfl | rfl; exact b4; exact Bool.noConfusion (hl.symm.trans (show _ = true by kernel_rfl)); exact Bool.noConfusion (hl.symm.trans (show _ = true by kernel_rfl))) (fun hHeld2 => ?_)
        clear hHeld hK K ; have hHeld := hHeld2; clear hHeld2
        try simp only [List.setIfInBounds_toArray, List.set_cons_zero, List.set_cons_succ]
        obtain ⟨v', w4, hr, hown, hgr, hat⟩ := RUN.out
        clear RUN
        refine wpAnyL_one (i := 8) (by kernel_rfl) rfl rfl hHeld (fun K hK => ?_)
        refine op_append (.tmp 20) (.tmp 22) 57 rfl _ _ rfl rfl hr ?_
        have hwa : Below wr.heap.size wr ((wr.alloc (.cells #[.int .i64 x0, .int .i64 x1] 34)).drew.alloc (.cells #[.int .i64 x0, .int .i64 x1] 34)) := (below_drew hal).trans ((below_alloc _ _).mono (by simp))
        have HPUT := Lib.hid (HT.out.put true hwa hown hgr (by simpa using hat))
        have hng : some g ≠ (V true).ownBlock := fun e => by have := ((HT.out.own true).lt g e.symm).1; have := HT.out.gl; omega
        have eg : w4.heap[g]? = wr.heap[g]? := (hgr.block g (by simp; omega) hng).trans (hwa.block g hgw)
        have b5 : w4.cell? ⟨g, 1, none⟩ = some (V true) := (heap_cell2 eg).trans a2
        have b6 : w4.frozen? ⟨g, 1, none⟩ = false := (World.frozen?_of_block (w := wr) (a := ⟨g, 1, none⟩) eg).trans a3
        obtain ⟨A7, c7, rfl, _⟩ := hown.shape
        refine hK.out _ _ (by intro p hp hl; simp only [List.mem_cons, List.not_mem_nil, or_false] at hp; rcases hp with rfl | rfl | rfl <;> exact Bool.noConfusion (hl.symm.trans (show _ = true by kernel_rfl))) (fun hHeld2 => ?_)
        clear hHeld hK K hr hown hgr hat hwa eg hng; have hHeld := hHeld2; clear hHeld2
        try simp only [List.getElem_toArray, List.getElem_cons_zero, List.getElem_cons_succ, Act.put, List.setIfInBounds_toArray, List.set_cons_zero, List.set_cons_succ]
        refine wpAnyL_one (i := 9) (by kernel_rfl) rfl rfl hHeld (fun K hK => ?_)
        go_simp
        refine hK.out _ _ (by intro p hp hl; simp only [List.mem_cons, List.not_mem_nil, or_false] at hp; rcases hp with rfl | rfl | rfl <;> exact Bool.noConfusion (hl.symm.trans (show _ = true by kernel_rfl))) (fun hHeld2 => ?_)
        clear hHeld hK K ; have hHeld := hHeld2; clear hHeld2
        try simp only [List.setIfInBounds_toArray, List.set_cons_zero, List.set_cons_succ]
        refine wpAnyL_one (i := 10) (by kernel_rfl) rfl rfl hHeld (fun K hK => ?_)
        go_simp
        refine hK.out _ _ (by intro p hp hl; simp only [List.mem_cons, List.not_mem_nil, or_false] at hp; rcases hp with rfl | rfl | rfl <;> exact Bool.noConfusion (hl.symm.trans (show _ = true by kernel_rfl))) (fun hHeld2 => ?_)
        clear hHeld hK K hHeld2
        try simp only [List.getElem_toArray, List.getElem_cons_zero, List.getElem_cons_succ, Act.put]
        refine wpAnyL_done (by kernel_rfl) ?_ _
        clear a2 a3 a4 a5 a6 a7 b4 b5 b6 hal
        go_wp2
        go_roundw
        case rel =>
          have e : (fun c => if c = true then sel true (l'.take k) ++ [(x0, x1)] else sel c (l'.take k)) = fun c => sel c (l'.take (k + 1)) := by
            funext c
            rw [TK.out, sel_snoc, LK.out, hpar]
            cases c <;> rfl
          have hq := HPUT.out.cast e
          rw [List.length_append] at hq
          exact ⟨k + 1, _, by omega, by simp, hq⟩
        case measure => simp [intOf]; omega
    · obtain rfl : k = n := by omega
      have t1 : decide ((k : Int) < (k : Int)) = false := by simp
      have hT2 := HT.out
      rw [HLL.out, List.take_length] at hT2
      have a2 : wr.cell? ⟨g, 0, none⟩ = some (V false) := hT2.cell false
      have a3 : wr.cell? ⟨g, 1, none⟩ = some (V true) := hT2.cell true
      obtain ⟨A0, c0, e0, _, hc0, _, hx0⟩ := (hT2.own false).shape
      obtain ⟨A1, c1, e1, _, hc1, _, hx1⟩ := (hT2.own true).shape
      have hin := fun b : Bool => fun x (hx : x ∈ sel b l') => HI.out x (HP.out.mem_iff.2 ((sel_sub l' b).subset hx))
      rw [e0] at a2
      rw [e1] at a3
      have hls := fun b => (sel_sub l' b).length_le
      have CJ := Lib.hid (join_any wr A0 A1 (sel false l').length c0 (sel true l').length c1 (sel false l') (sel true l') rfl rfl (by have := hls false; have := HLL.out; omega) (by have := hls true; have := HLL.out; omega) hc0 hc1 (hx0 (hin false)) (hx1 (hin true)))
      have HBW := Lib.hid (show Below w.heap.size w wr from by rw [HG.out]; exact HB5.out.trans (hT2.only.below (Nat.le_refl _) (by have := hT2.gl; omega)))
      clear hT2 hx0 hx1 hin e0 e1 hls
      have CJ2 := Lib.hid (ajoin_any (w := wr) (e0 := .slice A0 (sel false l').length c0) (e1 := .slice A1 (sel true l').length c1) CJ.out)
      clear CJ
      generalize (sel false l').length = n0 at *
      generalize (sel true l').length = n1 at *
      go_wp2_with fail
      refine CJ2.out.mono ?_
      rintro e w6 ⟨v, m, rfl, ho, hb, h1, h2, h3⟩
      have HF := Lib.hid (show GatherP l w (.returned (.tuple #[v, .bool (chain l)])) w6 from by
        have hj := JS.out
        refine ⟨v, m, rfl, ho.low (by have := HBW.out.size; omega), HBW.out.trans (hb.mono HBW.out.size), fun hc => ?_, fun hc => h2 (hj.trans hc), ?_⟩
        · obtain ⟨q1, q2, q3⟩ := h1 (hj.trans hc)
          exact ⟨q1, fun u => (q2 u).trans ((mem_sel l' u).trans (mem_perm HP.out u).symm), q3.trans ((total_sel l').trans (total_perm HP.out).symm)⟩
        · have := length_sel l'
          have := HP.out.length_eq
          omega)
      rw [JS.out]
      generalize chain l = r at *
      clear ho hb h1 h2 h3
      go_wp2
      go_ret2
      exact HF.out
end Go.Proofs.Ytjeiechkndfhmaa
