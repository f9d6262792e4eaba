/-
  Own lemmas for the law that what was flushed stays: a row begins, a row is cut to its last, an array's element, a cut of a row of slices. No conditions.
-/
import Derived.Test.YtfjaiolgbcindaaDkAwake
import Derived.Test.YtfjaiolgbcindaaDkMay
import Derived.Test.YtfjaiolgbcindaaDkKeepNum
import Derived.Test.YtfjaiolgbcindaaDkDo
namespace Go.Proofs.Ytfjaiolgbcindaa
open Go.RowKit Arr Dsk
section
variable {w w' : World} {mb : Nat} {κ κ' μ μ' : Nat → Nat} {q : Nat} {V : Nat → Value} {M M' : Nat → List (List Nat)} {F : Nat → Prop}
theorem MayV.congr (h : MayV w mb κ μ q V M) (hM : ∀ i, i < q → M i = M' i) : MayV w mb κ μ q V M' := ⟨h.m5, h.q4, h.lt, h.dis, h.cell, h.free, fun i hi => by rw [← hM i hi]; exact h.rows i hi⟩
/-- The array is laid. -/
theorem MayV.fresh (w : World) (κ : Nat → Nat) (hκ : ∀ k, κ k ≠ 0 → k < w.heap.size) (M : Nat → List (List Nat)) :
    MayV (w.alloc (.cells #[.slice none 0 0, .slice none 0 0, .slice none 0 0, .slice none 0 0] 50)) w.heap.size κ (fun k => if k = w.heap.size then 5 else 0) 0 (fun _ => .slice none 0 0) M := by
  have hlast := heap_alloc_last w (.cells #[.slice none 0 0, .slice none 0 0, .slice none 0 0, .slice none 0 0] 50)
  refine ⟨by simp, by omega, fun k hk => ?_, fun k hk => ?_, fun i hi => ?_, fun i => frozen_of_row _ _ _ _ _ hlast, fun i hi => by omega⟩
  · split at hk
    · simp; omega
    · omega
  · split at hk
    · rename_i e; subst e
      by_cases h0 : κ w.heap.size = 0
      · exact h0
      · have := hκ _ h0; omega
    · omega
  · rw [cell_of_row _ _ _ _ _ _ hlast]
    match i, hi with
    | 0, _ => rfl
    | 1, _ => rfl
    | 2, _ => rfl
    | 3, _ => rfl
/-- A row begins. -/
theorem MayV.begin (h : MayV w mb κ μ q V fun _ => [zs 32]) (hq : q < 4) (hκ : ∀ k, κ k ≠ 0 → k < w.heap.size) :
    ∃ μ', MayV ((((w.alloc (.cells (na .u8 (zs 32)) 5)).alloc (.cells #[.slice (some ⟨w.heap.size, 0, none⟩) 32 32] 32))).setCell ⟨mb, q, none⟩ (.slice (some ⟨w.heap.size + 1, 0, none⟩) 1 1)) mb κ μ' (q + 1) (upd V q (.slice (some ⟨w.heap.size + 1, 0, none⟩) 1 1)) (fun _ => [zs 32]) ∧
      Touch (fun k => μ k ≠ 0) w ((((w.alloc (.cells (na .u8 (zs 32)) 5)).alloc (.cells #[.slice (some ⟨w.heap.size, 0, none⟩) 32 32] 32))).setCell ⟨mb, q, none⟩ (.slice (some ⟨w.heap.size + 1, 0, none⟩) 1 1)) ∧ ∀ k, k < w.heap.size → μ' k = μ k := by
  have hb1 := below_alloc w (.cells (na .u8 (zs 32)) 5)
  have hs1 : (w.alloc (.cells (na .u8 (zs 32)) 5)).heap.size = w.heap.size + 1 := by simp
  have hb2 := hb1.alloc hb1.size (.cells #[.slice (some ⟨w.heap.size, 0, none⟩) 32 32] 32)
  have hZ := (Holds.new w 5 .u8 (zs 32)).alloc (.cells #[.slice (some ⟨w.heap.size, 0, none⟩) 32 32] 32)
  have hlast := heap_alloc_last (w.alloc (.cells (na .u8 (zs 32)) 5)) (.cells #[.slice (some ⟨w.heap.size, 0, none⟩) 32 32] 32)
  rw [hs1] at hlast
  have hs2 : ((w.alloc (.cells (na .u8 (zs 32)) 5)).alloc (.cells #[.slice (some ⟨w.heap.size, 0, none⟩) 32 32] 32)).heap.size = w.heap.size + 2 := by simp
  obtain ⟨μ', hμ'⟩ : ∃ μ' : Nat → Nat, μ' = fun k => if k = w.heap.size + 1 then q + 1 else μ k := ⟨_, rfl⟩
  have hold : ∀ k, k < w.heap.size → μ' k = μ k := fun k hk => by rw [hμ']; simp only [if_neg (by omega : ¬ k = w.heap.size + 1)]
  have z1 : μ w.heap.size = 0 := by
    by_cases h0 : μ w.heap.size = 0
    · exact h0
    · have := h.lt _ h0; omega
  have z2 : κ w.heap.size = 0 := by
    by_cases h0 : κ w.heap.size = 0
    · exact h0
    · have := hκ _ h0; omega
  have z3 : κ (w.heap.size + 1) = 0 := by
    by_cases h0 : κ (w.heap.size + 1) = 0
    · exact h0
    · have := hκ _ h0; omega
  have hR : RowV ((w.alloc (.cells (na .u8 (zs 32)) 5)).alloc (.cells #[.slice (some ⟨w.heap.size, 0, none⟩) 32 32] 32)) κ μ' q (.slice (some ⟨w.heap.size + 1, 0, none⟩) 1 1) [zs 32] := by
    refine ⟨w.heap.size + 1, 0, 1, [⟨some ⟨w.heap.size, 0, none⟩, 32, zs 32⟩], rfl, by decide, by rw [hs2]; omega, by rw [hμ']; simp only [if_true], ⟨rfl, Nat.le_refl _, fun j hj => ?_, fun j hj => ?_⟩, rfl, fun x hx => ?_⟩
    · have : j = 0 := by simpa using hj
      subst this
      rw [cell_of_row _ _ _ _ _ _ hlast]; rfl
    · have : j = 0 := by omega
      subst this
      rw [cell_of_row _ _ _ _ _ _ hlast]
      exact ⟨rfl, frozen_of_row _ _ _ _ _ hlast⟩
    · rw [List.mem_singleton] at hx; subst hx
      refine ⟨by simp [zs], fun e => (by cases e), byl_holds hZ (zs_bytes 32) ⟨z2, ?_⟩⟩
      rw [hμ']; simp only [if_neg (by omega : ¬ w.heap.size = w.heap.size + 1)]; exact z1
  obtain ⟨p1, p2⟩ := h.put (μ' := μ') (q' := q + 1) q hq (.slice (some ⟨w.heap.size + 1, 0, none⟩) 1 1) [zs 32] (Touch.of (fun k => μ k = q + 1) hb2) hold (fun k hk hm => by
    rw [hμ'] at hm ⊢
    by_cases e : k = w.heap.size + 1
    · subst e
      simp only [if_true, true_and]
      exact ⟨by rw [hs2]; omega, z3⟩
    · simp only [if_neg e] at hm
      have := h.lt k hm; omega) hR (fun j hj => by omega) (by omega)
  refine ⟨μ', ?_, p2, hold⟩
  have e : upd (fun _ : Nat => [zs 32]) q [zs 32] = fun _ => [zs 32] := by
    funext j; unfold upd; split <;> rfl
  rw [e] at p1
  exact p1
/-- Row i is cut to its last. -/
theorem MayV.cutAt (h : MayV w mb κ μ 4 V M) (i : Nat) (hi : i < 4) (b : List Nat) (hb : (M i).getLast? = some b) :
    ∃ rb o c, V i = .slice (some ⟨rb, o, none⟩) (M i).length c ∧ (M i).length ≤ c ∧ MayV (w.setCell ⟨mb, i, none⟩ (.slice (some ⟨rb, o + ((M i).length - 1), none⟩) 1 (c - ((M i).length - 1)))) mb κ μ 4 (upd V i (.slice (some ⟨rb, o + ((M i).length - 1), none⟩) 1 (c - ((M i).length - 1)))) (upd M i [b]) ∧
      Touch (fun k => μ k ≠ 0) w (w.setCell ⟨mb, i, none⟩ (.slice (some ⟨rb, o + ((M i).length - 1), none⟩) 1 (c - ((M i).length - 1)))) := by
  obtain ⟨rb, o, c, e, hle, hcut⟩ := (h.rows i hi).cut
  obtain ⟨p1, p2⟩ := h.put (μ' := μ) (q' := 4) i hi _ [b] (Touch.refl _ w) (fun _ _ => rfl) (fun k hk hm => by have := h.lt k hm; omega) (hcut b hb) (fun j hj => .inr hj) (Nat.le_refl _)
  exact ⟨rb, o, c, e, hle, p1, p2⟩
end
theorem elem_rows : Try.prog.elem 37 = 32 := by have := Try.underlying37; simp only [Program.elem, this]
theorem under_rows : Try.prog.underlying 37 = some (.slice (Try.prog.elem 37)) := by rw [elem_rows]; exact Try.underlying37
theorem size1_sl : (Try.prog.info? 32).map (·.size) = some 1 := by kernel_rfl
theorem sizeof_sl (W : World) : (sizeOf (Try.prog.elem 37)).run Try.prog W = .ok 1 W := by
  rw [elem_rows]
  have h := size1_sl
  cases hq : Try.prog.info? 32 with
  | none => simp [hq] at h
  | some i => simp [hq] at h; simp [sizeOf, typeInfo, hq, h]
theorem run_cutrow (rb o n c l : Nat) (h2 : l ≤ n) (hc : l < c) (W : World) :
    (Instr.slice 37 (.slice (some ⟨rb, o, none⟩) n c) (some (.int .i64 (l : Int))) none none).run Try.prog W = .ok (.slice (some ⟨rb, o + l, none⟩) (n - l) (c - l)) W := by
  rw [run_slice_l W 37 _ n c under_rows .i64 _ (by omega) (by omega), sizeof_sl]
  simp only [Result.andThen_ok, sliced, Int.toNat_natCast, Nat.mul_one]
  rw [if_neg (by omega), Option.map_some, add_nat]
theorem index4 (V : Nat → Value) (k : Nat) (hk : k < 4) (W : World) : (Instr.index 50 (.agg #[V 0, V 1, V 2, V 3]) (.int .i64 (k : Int))).run Try.prog W = .ok (V k) W := by
  have hz := size1_sl
  have hu : Try.prog.underlying 50 = some (.array 4 37) := Try.underlying50
  have hz2 : (Try.prog.info? 37).map (·.size) = some 1 := by kernel_rfl
  have he : Try.prog.underlying 37 = some (.slice 32) := Try.underlying37
  cases hq : Try.prog.info? 37 with
  | none => simp [hq] at hz2
  | some j =>
    simp [hq] at hz2
    have h1 : ((k : Int) < ((4 : Nat) : Int)) := by omega
    simp only [Instr.index, asIntOf, Sem.run_bind, Sem.run_pure, Result.andThen_ok, run_underlying hu, sizeOf, typeInfo]
    simp only [Int.natCast_nonneg, h1, and_self, if_true, Int.toNat_natCast]
    simp [hq, hz2]
    match k, hk with
    | 0, _ => simp [part, isAgg, run_underlying he, Sem.run_bind]
    | 1, _ => simp [part, isAgg, run_underlying he, Sem.run_bind]
    | 2, _ => simp [part, isAgg, run_underlying he, Sem.run_bind]
    | 3, _ => simp [part, isAgg, run_underlying he, Sem.run_bind]
theorem four_cells (w : World) (x y z u : Value) : (w.alloc (.cells #[x, y, z, u] 35)).cell? ⟨w.heap.size, 0, none⟩ = some x ∧ (w.alloc (.cells #[x, y, z, u] 35)).cell? ⟨w.heap.size, 1, none⟩ = some y ∧ (w.alloc (.cells #[x, y, z, u] 35)).cell? ⟨w.heap.size, 2, none⟩ = some z ∧ (w.alloc (.cells #[x, y, z, u] 35)).cell? ⟨w.heap.size, 3, none⟩ = some u := by
  have hlast := heap_alloc_last w (.cells #[x, y, z, u] 35)
  exact ⟨by rw [cell_of_row _ _ _ _ _ _ hlast]; rfl, by rw [cell_of_row _ _ _ _ _ _ hlast]; rfl, by rw [cell_of_row _ _ _ _ _ _ hlast]; rfl, by rw [cell_of_row _ _ _ _ _ _ hlast]; rfl⟩
/-- What stands while the law plays. -/
structure Play (w0 w : World) (g mb : Nat) (κ μ : Nat → Nat) (s : St) (V : Nat → Value) (M : Nat → List (List Nat)) : Prop where
  dsk : Dsk w g κ s
  may : MayV w mb κ μ 4 V M
  lo : ∀ k, κ k ≠ 0 → w0.heap.size ≤ k
  lom : ∀ k, μ k ≠ 0 → w0.heap.size ≤ k
  bel : Below w0.heap.size w0 w
section
variable {w0 w w' : World} {g mb : Nat} {κ κ' μ μ' : Nat → Nat} {s s' : St} {V V' : Nat → Value} {M M' : Nat → List (List Nat)}
theorem Play.below (h : Play w0 w g mb κ μ s V M) (hb : Below w.heap.size w w') : Play w0 w' g mb κ μ s V M := ⟨h.dsk.below hb, h.may.below hb, h.lo, h.lom, h.bel.trans (hb.mono h.bel.size)⟩
theorem Play.disk (h : Play w0 w g mb κ μ s V M) {u : Value} {en : Ending} (hp : DskP g κ s' u w en w') : en = .returned u ∧ Touch (fun k => κ k ≠ 0) w w' ∧ ∃ κ', Play w0 w' g mb κ' μ s' V M := by
  obtain ⟨e, κ', h1, h2, h3⟩ := hp
  refine ⟨e, h2, κ', h1, h.may.touch h2 (fun _ h => h) h3, fun k hk => ?_, h.lom, h.bel.trans (h2.below h.lo h.bel.size)⟩
  by_cases hkw : k < w.heap.size
  · rw [h3 k hkw] at hk; exact h.lo k hk
  · have := h.bel.size; omega
theorem Play.row (h : Play w0 w g mb κ μ s V M) (hm : MayV w' mb κ μ' 4 V' M') (ht : Touch (fun k => μ k ≠ 0) w w') (hμ : ∀ k, k < w.heap.size → μ' k = μ k) : Play w0 w' g mb κ μ' s V' M' := by
  refine ⟨h.dsk.touch ht (fun k hk hx => hk (h.may.dis k hx)), hm, h.lo, fun k hk => ?_, h.bel.trans (ht.below h.lom h.bel.size)⟩
  by_cases hkw : k < w.heap.size
  · rw [hμ k hkw] at hk; exact h.lom k hk
  · have := h.bel.size; omega
theorem Play.congr (h : Play w0 w g mb κ μ s V M) (hM : ∀ i, i < 4 → M i = M' i) : Play w0 w g mb κ μ s V M' := ⟨h.dsk, h.may.congr hM, h.lo, h.lom, h.bel⟩
/-- What came in is none of the disk's blocks. -/
theorem Play.out (h : Play w0 w g mb κ μ s V M) {A : Option Addr} {bs : List Nat} (hb : Bys w0 w0.heap.size A bs) : ByL w (fun k => κ k = 0 ∧ μ k = 0) A bs := by
  refine ByL.of (hb.below h.bel) (fun b hb => ⟨?_, ?_⟩) h.bel.size
  · by_cases h0 : κ b = 0
    · exact h0
    · have := h.lo b h0; omega
  · by_cases h0 : μ b = 0
    · exact h0
    · have := h.lom b h0; omega
theorem ByL.left {ok ok' : Nat → Prop} {A : Option Addr} {bs : List Nat} (h : ByL w (fun k => ok k ∧ ok' k) A bs) : ByL w ok A bs := ⟨h.1, fun hl => by obtain ⟨b, off, e, h1, h2, hc⟩ := h.2 hl; exact ⟨b, off, e, h1, h2.1, hc⟩⟩
end
end Go.Proofs.Ytfjaiolgbcindaa
