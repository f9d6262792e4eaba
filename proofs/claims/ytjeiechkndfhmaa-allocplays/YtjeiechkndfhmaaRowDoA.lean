/-
  Own lemmas for rows: what came in as a slice of what is done to a pool. No conditions.
-/
import Derived.Test.YtjeiechkndfhmaaRowExt
import Derived.Test.YtjeiechkndfhmaaAlFew
namespace Go.Proofs.Ytjeiechkndfhmaa
open Go.ChangeShapes Go.WideShapes Go.ChangeAt Go.RowKit Go.Deep Arr Ex

theorem cellsDoA : Try.prog.cellsOf 39 = 3 := by kernel_rfl
theorem cellsExts : Try.prog.cellsOf 23 = 1 := by kernel_rfl
theorem cellsIntA : Try.prog.cellsOf 3 = 1 := by kernel_rfl
theorem trod_struct3' {H : Type} {enc : TypeId × Value → H} {P : Program} {w : World} {base : Nat} {spare : Nat → Bool} {held : Bool} {t : TypeId} {f0 f1 f2 : Field} {fuel : Nat} {cs : List Value} {x : DataW H × List MemPlace} (ht : P.underlying t = some (.struct #[f0, f1, f2])) (h : DataW.trod enc P w base spare held fuel t cs = some x) :
    ∃ y0 y1 y2 n, cs.length = P.cellsOf t ∧ DataW.trod enc P w base spare held n f0.type ((cs.drop f0.offset).take (P.cellsOf f0.type)) = some y0 ∧ DataW.trod enc P w base spare held n f1.type ((cs.drop f1.offset).take (P.cellsOf f1.type)) = some y1 ∧
      DataW.trod enc P w base spare held n f2.type ((cs.drop f2.offset).take (P.cellsOf f2.type)) = some y2 := by
  obtain ⟨xs, n, _, rfl, hl, hlen, hf⟩ := DataW.trod_struct ht h
  match xs, hlen with
  | [y0, y1, y2], _ => exact ⟨y0, y1, y2, n, hl, by simpa using hf 0 f0 rfl, by simpa using hf 1 f1 rfl, by simpa using hf 2 f2 rfl⟩
theorem slice_of_trod {H : Type} {enc : TypeId × Value → H} {W : World} {fuel : Nat} {c0 : Value} {x : DataW H × List MemPlace}
    (h : DataW.trod enc Try.prog W 0 (fun _ => true) true fuel 23 [c0] = some x) : ∃ A N c, c0 = .slice A N c := by
  rcases DataW.trod_slice Try.underlying23 h with ⟨h0, _⟩ | ⟨a, len, cap, elems, rest, n, _, h0, _, _, hl, hmax, hlen, hel, _, _⟩
  · simp only [List.cons.injEq, and_true] at h0
    exact ⟨_, _, _, h0⟩
  · simp only [List.cons.injEq, and_true] at h0
    exact ⟨_, _, _, h0⟩
set_option maxRecDepth 100000 in
/-- One item, out of its three cells. -/
theorem doA_of_trod {H : Type} {enc : TypeId × Value → H} {W : World} {fuel : Nat} {cs : List Value} {x : DataW H × List MemPlace}
    (h : DataW.trod enc Try.prog W 0 (fun _ => true) true fuel 39 cs = some x) :
    ∃ d : Dd, cs = [.int .i64 d.kind, .int .i64 d.n, .slice d.A d.l.length d.c] ∧ DoOk W W.heap.size d := by
  obtain ⟨y0, y1, y2, n, hl, h0, h1, h2⟩ := trod_struct3' Try.underlying39 h
  rw [cellsDoA] at hl
  match cs, hl with
  | [c0, c1, c2], _ =>
      have k0 : DataW.trod enc Try.prog W 0 (fun _ => true) true n 3 (([c0, c1, c2].drop 0).take (Try.prog.cellsOf 3)) = some y0 := h0
      have k1 : DataW.trod enc Try.prog W 0 (fun _ => true) true n 3 (([c0, c1, c2].drop 1).take (Try.prog.cellsOf 3)) = some y1 := h1
      have k2 : DataW.trod enc Try.prog W 0 (fun _ => true) true n 23 (([c0, c1, c2].drop 2).take (Try.prog.cellsOf 23)) = some y2 := h2
      rw [cellsIntA] at k0 k1
      rw [cellsExts] at k2
      clear h0 h1 h2
      have h0 : DataW.trod enc Try.prog W 0 (fun _ => true) true n 3 [c0] = some y0 := k0
      have h1 : DataW.trod enc Try.prog W 0 (fun _ => true) true n 3 [c1] = some y1 := k1
      have h2 : DataW.trod enc Try.prog W 0 (fun _ => true) true n 23 [c2] = some y2 := k2
      obtain ⟨m0, e0, _⟩ := DataW.trod_int Try.underlying3 h0
      obtain ⟨m1, e1, _, hw1⟩ := DataW.trod_int Try.underlying3 h1
      simp only [List.cons.injEq, and_true] at e0 e1
      subst e0 e1
      have hr := wf64 hw1
      obtain ⟨A, N, c, rfl⟩ := slice_of_trod h2
      obtain ⟨l, hl, hx, hc, hn⟩ := exts_of_trod rfl h2
      subst hl
      exact ⟨⟨m0, m1, A, c, l⟩, rfl, hx, hc, hn, hr⟩
set_option maxRecDepth 100000 in
/-- A slice of them that came in, as its reading gives it. -/
theorem dds_of_trod {H : Type} {enc : TypeId × Value → H} {W : World} {fuel : Nat} {cs : List Value} {x : DataW H × List MemPlace} {A : Option Addr} {N c : Nat} (hcs : cs = [.slice A N c])
    (h : DataW.trod enc Try.prog W 0 (fun _ => true) true fuel 24 cs = some x) :
    ∃ ds : List Dd, ds.length = N ∧ Dds W W.heap.size A ds ∧ N ≤ 9223372036854775807 := by
  rcases DataW.trod_slice Try.underlying24 h with ⟨h0, _⟩ | ⟨a, len, cap, elems, rest, n, _, h0, _, _, hl, hmax, hlen, hel, _, _⟩
  · rw [h0] at hcs
    simp only [List.cons.injEq, Value.slice.injEq, and_true] at hcs
    obtain ⟨rfl, rfl, rfl⟩ := hcs
    exact ⟨[], rfl, ⟨fun hp => by simp at hp, fun i hi => by simp at hi⟩, by omega⟩
  · rw [h0] at hcs
    simp only [List.cons.injEq, Value.slice.injEq, and_true] at hcs
    obtain ⟨rfl, rfl, rfl⟩ := hcs
    have key : ∀ i, ∃ d : Dd, i < len → (∀ j, j < 3 → W.cell? ((a.add (i * 3)).add j) = [Value.int .i64 d.kind, .int .i64 d.n, .slice d.A d.l.length d.c][j]?) ∧ DoOk W W.heap.size d := by
      intro i
      by_cases hi : i < len
      · have h1 := hel i hi
        rw [List.getElem?_eq_getElem (by omega), cellsDoA, Option.bind_eq_some_iff] at h1
        obtain ⟨cs', hcs', hy⟩ := h1
        obtain ⟨d, rfl, h2⟩ := doA_of_trod hy
        obtain ⟨_, _, hc⟩ := World.cells?_some hcs'
        exact ⟨d, fun _ => ⟨hc, h2⟩⟩
      · exact ⟨⟨0, 0, none, 0, []⟩, fun h => absurd h hi⟩
    obtain ⟨f, hf⟩ := Classical.axiomOfChoice key
    have hpl : ((List.range len).map f).length = len := by simp
    have hg : ∀ i (h : i < ((List.range len).map f).length), ((List.range len).map f)[i] = f i := fun i h => by simp
    refine ⟨(List.range len).map f, hpl, ⟨fun hp => ?_, fun i hi => ?_⟩, by unfold maxLen at hmax; omega⟩
    · obtain ⟨b, off, spot⟩ := a
      have hc := (hf 0 (by omega)).1 0 (by omega)
      have hspot : spot = none := by
        have := World.cell?_spot hc
        simpa [Addr.add] using this
      subst hspot
      have ea : ∀ i j, (Addr.add (Addr.add ⟨b, off, none⟩ (i * 3)) j) = ⟨b, off + i * 3 + j, none⟩ := fun i j => by rw [add_nat2, add_nat2]
      refine ⟨b, off, rfl, ?_, fun i hi => ?_⟩
      · have := lt_of_cell hc
        rw [ea] at this
        exact this
      · rw [hg i hi]
        have h4 := (hf i (by omega)).1
        have q0 := h4 0 (by omega)
        have q1 := h4 1 (by omega)
        have q2 := h4 2 (by omega)
        rw [ea] at q0 q1 q2
        exact ⟨q0, q1, q2⟩
    · rw [hg i hi]
      exact (hf i (by omega)).2
end Go.Proofs.Ytjeiechkndfhmaa
