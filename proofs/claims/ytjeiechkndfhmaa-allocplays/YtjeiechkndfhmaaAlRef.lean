/-
  The reference's pool in memory; contracts of its New, Is and List. Conditions: it begins at a sector from 0 to 1048576, and has at most 1000.
-/
import Derived.Test.YtjeiechkndfhmaaAlNum
import Derived.Test.YtjeiechkndfhmaaExSecs
import Derived.Test.YtjeiechkndfhmaaAlTur
namespace Go.Proofs.Ytjeiechkndfhmaa
open Go.RowKit Arr Ex

structure Rpl (w : World) (g r : Nat) (s : Int) (fs : List Bool) : Prop where
  c0 : w.cell? ⟨g, 0, none⟩ = some (.int .i64 s)
  c1 : ∃ c, w.cell? ⟨g, 1, none⟩ = some (.slice (some ⟨r, 0, none⟩) fs.length c) ∧ w.ownsRow 0 4 1 (.slice (some ⟨r, 0, none⟩) fs.length c) fs.length (fs.map Value.bool)
  ne : r ≠ g
section
variable {w w' : World} {g r : Nat} {s : Int} {fs : List Bool}
theorem Rpl.gl (h : Rpl w g r s fs) : g < w.heap.size := lt_of_cell h.c0
theorem Rpl.rl (h : Rpl w g r s fs) : r < w.heap.size := by
  obtain ⟨c, _, h2⟩ := h.c1
  exact (h2.lt r rfl).2
theorem Rpl.blocks (h : Rpl w g r s fs) (e1 : w'.heap[g]? = w.heap[g]?) (e2 : w'.heap[r]? = w.heap[r]?) : Rpl w' g r s fs := by
  obtain ⟨c, h1, h2⟩ := h.c1
  refine ⟨(heap_cell2 e1).trans h.c0, ⟨c, (heap_cell2 e1).trans h1, h2.1, ?_⟩, h.ne⟩
  rcases h2.2 with ⟨e, _⟩ | ⟨b, cap, cur, e3, e4, e5, rest⟩
  · cases e
  · simp only [Value.slice.injEq, Option.some.injEq, Addr.mk.injEq, and_true, true_and] at e3
    obtain ⟨rfl, rfl⟩ := e3
    exact .inr ⟨r, c, cur, rfl, e4, e2.trans e5, rest⟩
theorem Rpl.below (h : Rpl w g r s fs) (hb : Below w.heap.size w w') : Rpl w' g r s fs := h.blocks (hb.block g h.gl) (hb.block r h.rl)
theorem Rpl.only (h : Rpl w g r s fs) {y : Nat} (hb : Only y w w') (h1 : y ≠ g) (h2 : y ≠ r) : Rpl w' g r s fs := h.blocks (hb.block g h.gl (Ne.symm h1)) (hb.block r h.rl (Ne.symm h2))
/-- A bool is set. -/
theorem Rpl.set (h : Rpl w g r s fs) (i : Nat) (b : Bool) : Rpl (w.setCell ⟨r, i, none⟩ (.bool b)) g r s (fs.set i b) ∧ Only r w (w.setCell ⟨r, i, none⟩ (.bool b)) := by
  obtain ⟨c, h1, h2⟩ := h.c1
  obtain ⟨q1, _⟩ := h2.stored i (.bool b)
  have eg := Below.heap_setCell w ⟨r, i, none⟩ (.bool b) g (show g ≠ r from Ne.symm h.ne)
  refine ⟨⟨(heap_cell2 eg).trans h.c0, ⟨c, ?_, ?_⟩, h.ne⟩, (Only.refl r w).setCell _ _⟩
  · rw [List.length_set]; exact (heap_cell2 eg).trans h1
  · rw [List.length_set, List.map_set]; exact q1
theorem Rpl.cell (h : Rpl w g r s fs) (i : Nat) (hi : i < fs.length) : w.cell? ⟨r, i, none⟩ = some (.bool fs[i]) := by
  obtain ⟨c, h1, h2⟩ := h.c1
  rw [h2.cellAt i (by omega), List.getElem?_map, List.getElem?_eq_getElem hi]; rfl
end
theorem info_bool : (Try.prog.info? 4).map (fun i => (i.zero, i.size, i.bytes)) = some (some (.bool false), 1, 1) := by kernel_rfl
def NewR (s : Int) (fs : List Bool) (w : World) (e : Ending) (w' : World) : Prop := ∃ g r, e = .returned (.pointer (some ⟨g, 0, none⟩)) ∧ Rpl w' g r s fs ∧ w.heap.size ≤ g ∧ w.heap.size ≤ r ∧ Below w.heap.size w w'
set_option maxRecDepth 100000 in
set_option maxHeartbeats 4000000 in
theorem rnew_any (w : World) (s : Int) (n : Nat) (h1 : 1 ≤ n) (h2 : n ≤ 1000) : Calls Try.prog 10 #[.int .i64 s, .int .i64 (n : Int)] w (NewR s (List.replicate n true) w) := by
  obtain ⟨i0, hi, hz0, hz1, hz2⟩ := info_parts info_bool
  obtain ⟨w0, hw0⟩ : ∃ w0, w0 = w.alloc (.cells #[.int .i64 s, .slice none 0 0] 65) := ⟨_, rfl⟩
  have hal : Below w.heap.size w w0 := hw0 ▸ below_alloc w _
  have hs0 : w0.heap.size = w.heap.size + 1 := by rw [hw0]; simp
  have H0 := Lib.hid (show w0.cell? ⟨w.heap.size, 0, none⟩ = some (.int .i64 s) ∧ w0.cell? ⟨w.heap.size, 1, none⟩ = some (.slice none 0 0) ∧ w0.frozen? ⟨w.heap.size, 1, none⟩ = false from ⟨by rw [hw0, World.cell?_alloc_new]; rfl, by rw [hw0, World.cell?_alloc_new]; rfl, by rw [hw0, frozen?_alloc_cells]; simp [World.frozen?]⟩)
  have HAL := Lib.hid hal
  have HS := Lib.hid hs0
  clear hal hs0
  generalize hg : w.heap.size = g at *
  have HG := Lib.hid hg
  clear hg
  go_enter Try.func10, Try.ntmps10
  go_wp2
  rw [HG.out, ← hw0]
  go_loopw [6] (fun i wr => ∃ (k : Nat) (v : Value), k ≤ n ∧ i = .int .i64 (k : Int) ∧ wr.cell? ⟨g, 0, none⟩ = some (.int .i64 s) ∧ wr.cell? ⟨g, 1, none⟩ = some v ∧ wr.frozen? ⟨g, 1, none⟩ = false ∧ wr.ownsRow (g + 1) 4 1 v k ((List.replicate k true).map Value.bool) ∧ Below g w wr ∧ g + 1 ≤ wr.heap.size) (fun i _ => n - (intOf i).toNat)
  case atStart => exact ⟨0, _, Nat.zero_le _, rfl, H0.out.1, H0.out.2.1, H0.out.2.2, World.ownsRow_nil _ _ _ _, HAL.out, by have := HS.out; omega⟩
  case round =>
    obtain ⟨k, v, hk, rfl, q0, q1, q2, hrow, hB, hsz⟩ := hrel
    by_cases hlt : k < n
    · have t1 : decide ((k : Int) < (n : Int)) = true := by simp; omega
      have wk : IntKind.i64.wrap ((k : Int) + 1) = (k : Int) + 1 := by rw [IntKind.wrap_i64]; omega
      have HB := Lib.hid hB
      clear hB
      go_wp2_with (at_builtin; go_loud (refine wpList_append_own_at _ rfl (.tmp 19) (.tmp 20) 63 rfl (g + 1) 4 i0 (.bool false) 1 1 Try.underlying63 hi hz0 hz1 hz2 rfl (by decide) v k _ rfl (hrow.alloc _) ⟨wr.heap.size, 0, none⟩ 1 1 [.bool true] rfl rfl (cell_one_new _ _ _) (by simp [Value.oneCell']) (by unfold maxLen; omega) (by omega) (by simp; omega) ?_; intro v' w1 hown hgr _ _; obtain ⟨g', cap', rfl⟩ := ownsRow_succ hown; have hng : some g ≠ v.ownBlock := (fun e => by have := (hrow.lt g e.symm).1; omega); have eg : w1.heap[g]? = wr.heap[g]? := (hgr.block g (by simp; omega) hng).trans ((below_alloc wr _).block g (by omega)); have p0 : w1.cell? ⟨g, 0, none⟩ = some (.int .i64 s) := (heap_cell2 eg).trans q0; have p1 : w1.cell? ⟨g, 1, none⟩ = some v := (heap_cell2 eg).trans q1; have p2 : w1.frozen? ⟨g, 1, none⟩ = false := (World.frozen?_of_block (w := wr) (a := ⟨g, 1, none⟩) eg).trans q2))
      go_roundw
      case rel =>
        have hl := fun b hb => (hrow.lt b hb).1
        have hg' := (hown.lt g' rfl).1
        refine ⟨k + 1, _, by omega, by simp, (World.cell?_setCell_other _ _ _ _ (fun e => by have := (Addr.mk.inj e).2.1; simp at this)).trans p0, World.cell?_setCell_same' _ _ _ (by rw [p1]; rfl), by rw [World.frozen?_setCell]; exact p2, ?_, ?_, ?_⟩
        · rw [List.replicate_succ', List.map_append]
          refine hown.kept (row := some g) ⟨rfl, rfl, rfl, by simp, fun b hb hn => Below.heap_setCell _ ⟨g, 1, none⟩ _ b (fun e => hn (by rw [e]))⟩ (.inr (fun e => ?_))
          simp only [Value.ownBlock, Option.some.injEq] at e
          omega
        · have b1 : Below g w w1 := ((HB.out.alloc (by omega) _).grown hgr (by simp; omega) (fun b hb => by have := hl b hb; omega))
          exact b1.setCell (p := ⟨g, 1, none⟩) (Nat.le_refl _) _
        · have := hgr.size
          simp at this ⊢
          omega
      case measure => simp [intOf]; omega
    · obtain rfl : k = n := by omega
      have t1 : decide ((k : Int) < (k : Int)) = false := by simp
      obtain ⟨r, cap, rfl, hr1, hr2⟩ := hrow.form (by omega)
      have HF := Lib.hid (show NewR s (List.replicate k true) w (.returned (.pointer (some ⟨g, 0, none⟩))) wr from by
        refine ⟨g, r, rfl, ⟨q0, ⟨cap, by rw [List.length_replicate]; exact q1, ?_⟩, by omega⟩, by have := HG.out; omega, by have := HG.out; omega, by rw [HG.out]; exact hB⟩
        rw [List.length_replicate]
        exact ⟨hrow.1, hrow.2.elim .inl fun ⟨b, cap, cur, e1, e2, rest⟩ => .inr ⟨b, cap, cur, e1, Nat.zero_le _, rest⟩⟩)
      clear hrow hB
      go_wp2
      go_ret
      exact HF.out
end Go.Proofs.Ytjeiechkndfhmaa
