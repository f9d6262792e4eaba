/-
  Own lemmas for rows: what came in as a slice of pairs of 32 bytes. No conditions.
-/
import Derived.Test.YtoeboblkboillaaRows
import Derived.Test.YtoeboblkboillaaAnMem
import Derived.Test.YtoeboblkboillaaArrSlice
import Derived.WalkKit
import Derived.Below
import Derived.Deep.Grids
import Derived.ChangeOld
import Derived.ProofKit
import Derived.OpenShut
namespace Go.Proofs.Ytoeboblkboillaa
open Go.ChangeShapes Go.WideShapes Go.ChangeAt Go.RowKit Go.Deep Arr

theorem own : ownKnob Try.prog.godebug = none := by kernel_rfl
theorem laidOut : laidOutB Try.prog = true := by kernel_rfl
/-- A slice of pairs of 32 bytes in memory. -/
structure Kps (w : World) (B : Nat) (A : Option Addr) (l : List (List Nat × List Nat)) : Prop where
  cells : 0 < l.length → ∃ b off, A = some ⟨b, off, none⟩ ∧ b < B ∧ ∀ i (hi : i < l.length), w.rangeAt b (off + i * 64) (nv .u8 l[i].1 ++ nv .u8 l[i].2)
  each : ∀ e, e ∈ l → Two32 e.1 e.2
theorem Kps.below {w w' : World} {B : Nat} {A : Option Addr} {l : List (List Nat × List Nat)} (h : Kps w B A l) (hb : Below B w w') : Kps w' B A l :=
  ⟨fun hp => by
    obtain ⟨b, off, e, h1, h2⟩ := h.cells hp
    exact ⟨b, off, e, h1, fun i hi j v hv => (hb.cell (p := ⟨b, off + i * 64 + j, none⟩) h1).trans (h2 i hi j v hv)⟩, h.each⟩
/-- An array of bytes, out of its cells. -/
theorem bytes_of_trod {H : Type} {enc : TypeId × Value → H} {P : Program} {w : World} {base n : Nat} {spare : Nat → Bool} {held : Bool} {t e : TypeId} {fuel : Nat} {cs : List Value} {x : DataW H × List MemPlace} (ht : P.underlying t = some (.array n e)) (he : P.underlying e = some (.int .u8)) (hce : P.cellsOf e = 1) (hct : P.cellsOf t = n)
    (h : DataW.trod enc P w base spare held fuel t cs = some x) : ∃ l : List Nat, l.length = n ∧ cs = nv .u8 l := by
  obtain ⟨ys, m, _, hx, hcl, hyl, hg⟩ := DataW.trod_array ht h
  rw [hct] at hcl
  have key : ∀ i, ∃ z : Nat, i < n → cs[i]? = some (.int .u8 (z : Int)) := by
    intro i
    by_cases hi : i < n
    · have h1 := hg i hi
      rw [hce, Nat.mul_one] at h1
      have hyi : ys[i]? = some (ys[i]'(by omega)) := List.getElem?_eq_getElem (by omega)
      rw [hyi] at h1
      obtain ⟨z, e1, e2, e3⟩ := DataW.trod_int he h1
      have hb := bounds_u8 e3
      have hci : cs[i]? = some (.int .u8 z) := by
        have : (cs.drop i)[0]? = some (.int .u8 z) := by
          have := congrArg (fun l => l[0]?) e1
          simpa using this
        simpa using this
      exact ⟨z.toNat, fun _ => by rw [Int.toNat_of_nonneg (by omega)]; exact hci⟩
    · exact ⟨0, fun h => absurd h hi⟩
  obtain ⟨f, hf⟩ := Classical.axiomOfChoice key
  refine ⟨(List.range n).map f, by simp, ?_⟩
  apply List.ext_getElem?
  intro i
  by_cases hi : i < n
  · rw [hf i hi, nv_get _ _ _ (by simpa using hi)]
    simp [List.getD_eq_getElem?_getD, hi]
  · rw [List.getElem?_eq_none (by omega), List.getElem?_eq_none (by rw [length_nv]; simp; omega)]
theorem cells32 : Try.prog.cellsOf 22 = 32 := by kernel_rfl
theorem cells64 : Try.prog.cellsOf 33 = 64 := by kernel_rfl
theorem cells1 : Try.prog.cellsOf 5 = 1 := by kernel_rfl
/-- A pair, out of its cells. -/
theorem pair_of_trod {H : Type} {enc : TypeId × Value → H} {W : World} {fuel : Nat} {cs : List Value} {x : DataW H × List MemPlace}
    (h : DataW.trod enc Try.prog W 0 (fun _ => true) true fuel 33 cs = some x) : ∃ e : List Nat × List Nat, cs = nv .u8 e.1 ++ nv .u8 e.2 ∧ Two32 e.1 e.2 := by
  obtain ⟨ys, m, _, hx, hcl, hyl, hg⟩ := DataW.trod_array Try.underlying33 h
  rw [cells64] at hcl
  rw [cells32] at hg
  have h0 := hg 0 (by omega)
  have h1 := hg 1 (by omega)
  rw [List.getElem?_eq_getElem (by omega)] at h0 h1
  obtain ⟨a, la, ea⟩ := bytes_of_trod Try.underlying22 Try.underlying5 cells1 cells32 h0
  obtain ⟨b, lb, eb⟩ := bytes_of_trod Try.underlying22 Try.underlying5 cells1 cells32 h1
  refine ⟨(a, b), ?_, la, lb⟩
  show cs = nv .u8 a ++ nv .u8 b
  rw [← ea, ← eb, Nat.zero_mul, List.drop_zero, Nat.one_mul, List.take_of_length_le (l := cs.drop 32) (by rw [List.length_drop]; omega), List.take_append_drop]
set_option maxRecDepth 100000 in
/-- A slice of pairs that came in, as its reading gives it. -/
theorem kps_of_trod {H : Type} {enc : TypeId × Value → H} {W : World} {fuel : Nat} {cs : List Value} {x : DataW H × List MemPlace} {A : Option Addr} {N c : Nat} (hcs : cs = [.slice A N c])
    (h : DataW.trod enc Try.prog W 0 (fun _ => true) true fuel 23 cs = some x) :
    ∃ l : List (List Nat × List Nat), l.length = N ∧ Kps W W.heap.size A l ∧ N ≤ 9223372036854775807 := by
  rcases DataW.trod_slice Try.underlying23 h with ⟨h0, _⟩ | ⟨a, len, cap, elems, rest, n, _, h0, _, _, hl, hmax, hlen, hel, _, _⟩
  · rw [h0] at hcs
    simp only [List.cons.injEq, Value.slice.injEq, and_true] at hcs
    obtain ⟨rfl, rfl, rfl⟩ := hcs
    exact ⟨[], rfl, ⟨fun h => by simp at h, fun e h => by simp at h⟩, by omega⟩
  · rw [h0] at hcs
    simp only [List.cons.injEq, Value.slice.injEq, and_true] at hcs
    obtain ⟨rfl, rfl, rfl⟩ := hcs
    have hm : len ≤ 9223372036854775807 := by unfold maxLen at hmax; omega
    have key : ∀ i, ∃ e : List Nat × List Nat, i < len → (∀ j, j < 64 → W.cell? ((a.add (i * 64)).add j) = (nv .u8 e.1 ++ nv .u8 e.2)[j]?) ∧ Two32 e.1 e.2 := by
      intro i
      by_cases hi : i < len
      · have h1 := hel i hi
        rw [List.getElem?_eq_getElem (by omega), cells64, Option.bind_eq_some_iff] at h1
        obtain ⟨cs', hcs', hy⟩ := h1
        obtain ⟨e, rfl, h2⟩ := pair_of_trod hy
        obtain ⟨_, _, hc⟩ := World.cells?_some hcs'
        exact ⟨e, fun _ => ⟨hc, h2⟩⟩
      · exact ⟨([], []), fun h => absurd h hi⟩
    obtain ⟨f, hf⟩ := Classical.axiomOfChoice key
    have hpl : ((List.range len).map f).length = len := by simp
    refine ⟨(List.range len).map f, hpl, ⟨fun hp => ?_, fun e he => ?_⟩, hm⟩
    · obtain ⟨b, off, spot⟩ := a
      have h00 := hf 0 (by omega)
      have l0 : (nv .u8 (f 0).1 ++ nv .u8 (f 0).2).length = 64 := by simp [length_nv, h00.2.k, h00.2.s]
      have hc := h00.1 0 (by omega)
      rw [List.getElem?_eq_getElem (by omega)] at hc
      have hspot : spot = none := by
        have := World.cell?_spot hc
        simpa [Addr.add] using this
      subst hspot
      have ea : ∀ i j, (Addr.add (Addr.add ⟨b, off, none⟩ (i * 64)) j) = ⟨b, off + i * 64 + j, none⟩ := fun i j => by rw [add_nat, add_nat]
      refine ⟨b, off, rfl, ?_, fun i hi => ?_⟩
      · have := block_lt_of_cell hc
        rw [ea] at this
        exact this
      · have h4 := hf i (by omega)
        simp only [List.getElem_map, List.getElem_range]
        intro j v hv
        have hj : j < 64 := by
          have := (List.getElem?_eq_some_iff.1 hv).1
          simpa [length_nv, h4.2.k, h4.2.s] using this
        have := h4.1 j hj
        rw [ea] at this
        exact this.trans hv
    · obtain ⟨i, hi, rfl⟩ := List.mem_map.1 he
      exact (hf i (List.mem_range.1 hi)).2
end Go.Proofs.Ytoeboblkboillaa
