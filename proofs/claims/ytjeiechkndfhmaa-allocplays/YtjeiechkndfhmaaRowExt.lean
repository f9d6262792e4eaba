/-
  Own lemmas for rows: what came in as a slice of extents. No conditions.
-/
import Derived.Test.YtjeiechkndfhmaaRows
import Derived.Test.YtjeiechkndfhmaaExMem
import Derived.WalkKit
import Derived.Below
import Derived.Deep.Grids
import Derived.ChangeOld
import Derived.ProofKit
import Derived.OpenShut
namespace Go.Proofs.Ytjeiechkndfhmaa
open Go.ChangeShapes Go.WideShapes Go.ChangeAt Go.RowKit Go.Deep Arr

theorem own : ownKnob Try.prog.godebug = none := by kernel_rfl
theorem laidOut : laidOutB Try.prog = true := by kernel_rfl
theorem wf64 {n : Int} (h : (Lit.int .i64 n).wf = true) : -9223372036854775808 ≤ n ∧ n ≤ 9223372036854775807 := bounds_i64 h
theorem cellsExt : Try.prog.cellsOf 34 = 2 := by kernel_rfl
theorem cellsInt' : Try.prog.cellsOf 3 = 1 := by kernel_rfl
theorem trod_struct2' {H : Type} {enc : TypeId × Value → H} {P : Program} {w : World} {base : Nat} {spare : Nat → Bool} {held : Bool} {t : TypeId} {f0 f1 : Field} {fuel : Nat} {cs : List Value} {x : DataW H × List MemPlace} (ht : P.underlying t = some (.struct #[f0, f1])) (h : DataW.trod enc P w base spare held fuel t cs = some x) :
    ∃ y0 y1 n, cs.length = P.cellsOf t ∧ DataW.trod enc P w base spare held n f0.type ((cs.drop f0.offset).take (P.cellsOf f0.type)) = some y0 ∧ DataW.trod enc P w base spare held n f1.type ((cs.drop f1.offset).take (P.cellsOf f1.type)) = some y1 := by
  obtain ⟨xs, n, _, rfl, hl, hlen, hf⟩ := DataW.trod_struct ht h
  match xs, hlen with
  | [y0, y1], _ => exact ⟨y0, y1, n, hl, by simpa using hf 0 f0 rfl, by simpa using hf 1 f1 rfl⟩
set_option maxRecDepth 100000 in
/-- One extent, out of its two cells. -/
theorem ext_of_trod {H : Type} {enc : TypeId × Value → H} {W : World} {fuel : Nat} {cs : List Value} {x : DataW H × List MemPlace}
    (h : DataW.trod enc Try.prog W 0 (fun _ => true) true fuel 34 cs = some x) :
    ∃ e : Int × Int, cs = [.int .i64 e.1, .int .i64 e.2] ∧ I64 e := by
  obtain ⟨y0, y1, n, hl, h0, h1⟩ := trod_struct2' Try.underlying34 h
  rw [cellsExt] at hl
  match cs, hl with
  | [c0, c1], _ =>
      have k0 : DataW.trod enc Try.prog W 0 (fun _ => true) true n 3 (([c0, c1].drop 0).take (Try.prog.cellsOf 3)) = some y0 := h0
      have k1 : DataW.trod enc Try.prog W 0 (fun _ => true) true n 3 (([c0, c1].drop 1).take (Try.prog.cellsOf 3)) = some y1 := h1
      rw [cellsInt'] at k0 k1
      clear h0 h1
      have h0 : DataW.trod enc Try.prog W 0 (fun _ => true) true n 3 [c0] = some y0 := k0
      have h1 : DataW.trod enc Try.prog W 0 (fun _ => true) true n 3 [c1] = some y1 := k1
      obtain ⟨m0, e0, _, hw0⟩ := DataW.trod_int Try.underlying3 h0
      obtain ⟨m1, e1, _, hw1⟩ := DataW.trod_int Try.underlying3 h1
      simp only [List.cons.injEq, and_true] at e0 e1
      subst e0 e1
      exact ⟨(m0, m1), rfl, wf64 hw0, wf64 hw1⟩
set_option maxRecDepth 100000 in
/-- A slice of extents that came in, as its reading gives it. -/
theorem exts_of_trod {H : Type} {enc : TypeId × Value → H} {W : World} {fuel : Nat} {cs : List Value} {x : DataW H × List MemPlace} {A : Option Addr} {N c : Nat} (hcs : cs = [.slice A N c])
    (h : DataW.trod enc Try.prog W 0 (fun _ => true) true fuel 23 cs = some x) :
    ∃ l : List (Int × Int), l.length = N ∧ Exts W W.heap.size A l ∧ N ≤ c ∧ (A = none → c = 0) := by
  rcases DataW.trod_slice Try.underlying23 h with ⟨h0, _⟩ | ⟨a, len, cap, elems, rest, n, _, h0, _, _, hl, hmax, hlen, hel, _, _⟩
  · rw [h0] at hcs
    simp only [List.cons.injEq, Value.slice.injEq, and_true] at hcs
    obtain ⟨rfl, rfl, rfl⟩ := hcs
    exact ⟨[], rfl, Exts.nil _ _ _, Nat.le_refl _, fun _ => rfl⟩
  · rw [h0] at hcs
    simp only [List.cons.injEq, Value.slice.injEq, and_true] at hcs
    obtain ⟨rfl, rfl, rfl⟩ := hcs
    have key : ∀ i, ∃ e : Int × Int, i < len → (∀ j, j < 2 → W.cell? ((a.add (i * 2)).add j) = [Value.int .i64 e.1, .int .i64 e.2][j]?) ∧ I64 e := by
      intro i
      by_cases hi : i < len
      · have h1 := hel i hi
        rw [List.getElem?_eq_getElem (by omega), cellsExt, Option.bind_eq_some_iff] at h1
        obtain ⟨cs', hcs', hy⟩ := h1
        obtain ⟨e, rfl, h2⟩ := ext_of_trod hy
        obtain ⟨_, _, hc⟩ := World.cells?_some hcs'
        exact ⟨e, fun _ => ⟨hc, h2⟩⟩
      · exact ⟨(0, 0), fun h => absurd h hi⟩
    obtain ⟨f, hf⟩ := Classical.axiomOfChoice key
    have hpl : ((List.range len).map f).length = len := by simp
    refine ⟨(List.range len).map f, hpl, ⟨fun hp => ?_, fun e he => ?_⟩, hl, fun e => by cases e⟩
    · obtain ⟨b, off, spot⟩ := a
      have hc := (hf 0 (by omega)).1 0 (by omega)
      have hspot : spot = none := by
        have := World.cell?_spot hc
        simpa [Addr.add] using this
      subst hspot
      have ea : ∀ i j, (Addr.add (Addr.add ⟨b, off, none⟩ (i * 2)) j) = ⟨b, off + i * 2 + j, none⟩ := fun i j => by rw [add_nat2, add_nat2]
      refine ⟨b, off, rfl, ?_, fun i hi => ?_⟩
      · have := lt_of_cell hc
        rw [ea] at this
        exact this
      · have h4 := (hf i (by omega)).1
        have q0 := h4 0 (by omega)
        have q1 := h4 1 (by omega)
        rw [ea] at q0 q1
        simp only [List.getElem_map, List.getElem_range]
        exact ⟨q0, q1⟩
    · obtain ⟨i, hi, rfl⟩ := List.mem_map.1 he
      exact (hf i (List.mem_range.1 hi)).2
end Go.Proofs.Ytjeiechkndfhmaa
