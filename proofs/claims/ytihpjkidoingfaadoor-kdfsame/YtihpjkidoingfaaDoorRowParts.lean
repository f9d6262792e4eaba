/-
  Own lemmas for rows: what came in as a slice of slices of bytes. No conditions.
-/
import Derived.Test.YtihpjkidoingfaaDoorRowGen
import Derived.Test.YtihpjkidoingfaaDoorOwnVals
namespace Go.Proofs.YtihpjkidoingfaaDoor
open Go.ChangeShapes Go.WideShapes Go.ChangeAt Go.RowKit Arr Sh

theorem cellsBytes : Tryd.prog.cellsOf 22 = 1 := by kernel_rfl
/-- A slice of slices of bytes that came in, as its reading gives it. -/
theorem parts_of_trod {H : Type} {enc : TypeId × Value → H} {W : World} {fuel : Nat} {cs : List Value} {x : DataW H × List MemPlace} {A : Option Addr} {N c : Nat} (hcs : cs = [.slice A N c])
    (h : DataW.trod enc Tryd.prog W 0 (fun _ => true) true fuel 23 cs = some x) :
    ∃ ps : List Pt, ps.length = N ∧ Parts W W.heap.size A ps ∧ N ≤ c ∧ (A = none → c = 0) ∧ ∀ i (hi : i < ps.length), ps[i].A = none → ps[i].c = 0 := by
  rcases DataW.trod_slice Tryd.underlying23 h with ⟨h0, _⟩ | ⟨a, len, cap, elems, rest, n, _, h0, _, _, hl, _, hlen, hel, _, _⟩
  · rw [h0] at hcs
    simp only [List.cons.injEq, Value.slice.injEq, and_true] at hcs
    obtain ⟨rfl, rfl, rfl⟩ := hcs
    exact ⟨[], rfl, ⟨fun hp => by simp at hp, fun i hi => by simp at hi⟩, Nat.le_refl _, fun _ => rfl, fun i hi => by simp at hi⟩
  · rw [h0] at hcs
    simp only [List.cons.injEq, Value.slice.injEq, and_true] at hcs
    obtain ⟨rfl, rfl, rfl⟩ := hcs
    have key : ∀ i, ∃ p : Pt, i < len → W.cell? (a.add i) = some (.slice p.A p.bs.length p.c) ∧ p.bs.length ≤ p.c ∧ Bys W W.heap.size p.A p.bs ∧ (p.A = none → p.c = 0) := by
      intro i
      by_cases hi : i < len
      · have h1 := hel i hi
        rw [List.getElem?_eq_getElem (by omega), cellsBytes, Nat.mul_one, Option.bind_eq_some_iff] at h1
        obtain ⟨cs', hcs', hy⟩ := h1
        rcases open_ints Tryd.underlying22 Tryd.underlying5 cellsByte hy with ⟨rfl, _⟩ | ⟨x', l', c', zs, rfl, _, hl', _, hz, _, hcell, hwz⟩
        · exact ⟨⟨none, 0, []⟩, fun _ => ⟨cell_of_cells?_one hcs', Nat.le_refl _, Bys.nil _ _ _, fun _ => rfl⟩⟩
        · obtain ⟨bs, e1, e2⟩ := bys_of_ints hl' (by simpa using hz) hcell hwz
          refine ⟨⟨some x', c', bs⟩, fun _ => ⟨?_, by show bs.length ≤ c'; omega, e2, fun h => by cases h⟩⟩
          show W.cell? (a.add i) = some (.slice (some x') bs.length c')
          rw [e1]; exact cell_of_cells?_one hcs'
      · exact ⟨⟨none, 0, []⟩, fun h => absurd h hi⟩
    obtain ⟨f, hf⟩ := Classical.axiomOfChoice key
    have hpl : ((List.range len).map f).length = len := by simp
    have hg : ∀ i (h : i < ((List.range len).map f).length), ((List.range len).map f)[i] = f i := fun i h => by simp
    refine ⟨(List.range len).map f, hpl, ⟨fun hp => ?_, fun i hi => ?_⟩, hl, (fun h => by cases h), fun i hi => ?_⟩
    · obtain ⟨b, off, spot⟩ := a
      have hc := (hf 0 (by omega)).1
      have hspot : spot = none := by simpa [Addr.add] using World.cell?_spot hc
      subst hspot
      refine ⟨b, off, rfl, ?_, fun i hi => ?_⟩
      · have := lt_of_cell hc
        simpa [Addr.add] using this
      · rw [hg i hi, ← add_nat]
        exact (hf i (by omega)).1
    · rw [hg i hi]
      exact ⟨(hf i (by omega)).2.1, (hf i (by omega)).2.2.1⟩
    · rw [hg i hi]
      exact (hf i (by omega)).2.2.2
end Go.Proofs.YtihpjkidoingfaaDoor
