/-
  Own lemmas for every row: what came in as a slice of bytes. No conditions.
  What the listed variables hold (a row that lists word.shifts, sha.first and sha.kinds, in this order).
  Own lemmas for rows: what came in as a slice of slices of bytes. No conditions.
  Own lemmas on frames: the struct of a key, a label, a number and contexts comes in. No conditions.
-/
import Derived.Test.YtihpjkidoingfaaDoorCards
import Derived.Test.YtihpjkidoingfaaDoorTie
import Derived.Test.YtihpjkidoingfaaDoorBaseAll
import Derived.WalkKit
import Derived.ProofKit
import Derived.OpenShut
import Derived.ChangeOld
import Derived.Below
import Derived.Deep.DeepHandedRow
import Derived.Lib.LaidTab
import Derived.Test.YtihpjkidoingfaaDoorShaSum
import Derived.Stop.LaidErr
import Derived.Test.YtihpjkidoingfaaDoorOwnVals
namespace Go.Proofs.YtihpjkidoingfaaDoor
open Go.ChangeShapes Go.WideShapes Go.ChangeAt Go.RowKit

theorem own : ownKnob Tryd.prog.godebug = none := by kernel_rfl
theorem laidOut : laidOutB Tryd.prog = true := by kernel_rfl
/-- A block with other cells. -/
def relay (cs : Array Value) : Obj → Obj
  | .cells _ t frozen => .cells cs t frozen
  | o => o
theorem cellsByte : Tryd.prog.cellsOf 5 = 1 := by kernel_rfl
/-- A slice of bytes that came in, as its reading gives it. -/
theorem bys_of_ints {W : World} {x : Addr} {len cap : Nat} {zs : List Int} (hl : len ≤ cap) (hz : zs.length = cap)
    (hcell : ∀ i, i < zs.length → W.cell? (x.add i) = some (.int .u8 (zs.getD i 0))) (hw : ∀ n ∈ zs, (Lit.int .u8 n).wf = true) :
    ∃ bs : List Nat, bs.length = len ∧ Bys W W.heap.size (some x) bs := by
  have hr := range_u8 hw
  refine ⟨(zs.take len).map Int.toNat, by simp; omega, ?_, fun hp => ?_⟩
  · intro y hy
    simp only [List.mem_map] at hy
    obtain ⟨z, hz', rfl⟩ := hy
    obtain ⟨j, hj, rfl⟩ := List.getElem_of_mem (List.mem_of_mem_take hz')
    have := hr j
    simp only [List.getElem?_eq_getElem hj, Option.getD_some] at this
    omega
  · simp only [List.length_map, List.length_take] at hp
    obtain ⟨b, off, spot⟩ := x
    have hc := hcell 0 (by omega)
    have hspot : spot = none := by simpa [Addr.add] using World.cell?_spot hc
    subst hspot
    refine ⟨b, off, rfl, ?_, fun i hi => ?_⟩
    · have := lt_of_cell hc
      simpa [Addr.add] using this
    · simp only [List.length_map, List.length_take] at hi
      have hci := hcell i (by omega)
      have e : Addr.add ⟨b, off, none⟩ i = ⟨b, off + i, none⟩ := by
        unfold Addr.add; split <;> simp_all
      rw [e] at hci
      rw [hci]
      have hzi : i < zs.length := by omega
      have := hr i
      simp only [List.getElem?_eq_getElem hzi, Option.getD_some] at this
      have e2 : ((zs.take len).map Int.toNat).getD i 0 = zs[i].toNat := by
        have hil : i < len := by omega
        simp [hil, hzi]
      rw [e2]
      simp only [List.getD_eq_getElem?_getD, List.getElem?_eq_getElem hzi, Option.getD_some]
      rw [Int.toNat_of_nonneg this.1]
end Go.Proofs.YtihpjkidoingfaaDoor
namespace Go.Proofs.YtihpjkidoingfaaDoor
open Go.ChangeShapes Go.WideShapes Go.ChangeAt Go.RowKit Sh

/-- The rows' list. -/
def laidSha : List (String × DataW Unit) := [("chatelaine/word.shifts", Rows.laid_chatelaine_word_shifts), ("chatelaine/sha.first", Rows.laid_chatelaine_sha_first), ("chatelaine/sha.kinds", Rows.laid_chatelaine_sha_kinds)]
theorem gTab : Tryd.prog.globalNamed "chatelaine/word.shifts" = some 0 := by kernel_rfl
theorem gTabType : (Tryd.prog.globals[0]?).map (·.type) = some 65 := by kernel_rfl
theorem gFirst : Tryd.prog.globalNamed "chatelaine/sha.first" = some 2 := by kernel_rfl
theorem gFirstType : (Tryd.prog.globals[2]?).map (·.type) = some 70 := by kernel_rfl
theorem gKinds : Tryd.prog.globalNamed "chatelaine/sha.kinds" = some 3 := by kernel_rfl
theorem gKindsType : (Tryd.prog.globals[3]?).map (·.type) = some 78 := by kernel_rfl
theorem cellsTab : Tryd.prog.cellsOf 65 = 8 := by kernel_rfl
theorem cellsUint : Tryd.prog.cellsOf 64 = 1 := by kernel_rfl
theorem cells8 : Tryd.prog.cellsOf 70 = 8 := by kernel_rfl
theorem cells64 : Tryd.prog.cellsOf 78 = 64 := by kernel_rfl
theorem cellsWord : Tryd.prog.cellsOf 60 = 1 := by kernel_rfl

theorem vars_of {W : World} (h : laidMetH Tryd.prog laidSha W) : VarsS W := by
  have h1 : laidMet Tryd.prog laidSha W := h
  have h2 : laidMet Tryd.prog [("chatelaine/sha.first", Rows.laid_chatelaine_sha_first), ("chatelaine/sha.kinds", Rows.laid_chatelaine_sha_kinds)] W := laidMet.tail h1
  have h3 : laidMet Tryd.prog [("chatelaine/sha.kinds", Rows.laid_chatelaine_sha_kinds)] W := laidMet.tail h2
  have t1 : Lib.TabIs Tryd.prog W "chatelaine/word.shifts" .u64 [0, 8, 16, 24, 32, 40, 48, 56] := Lib.tabIs_of_head (rest := [("chatelaine/sha.first", Rows.laid_chatelaine_sha_first), ("chatelaine/sha.kinds", Rows.laid_chatelaine_sha_kinds)]) gTab gTabType Tryd.underlying65 Tryd.underlying64 cellsUint cellsTab h1
  have t2 : Lib.TabIs Tryd.prog W "chatelaine/sha.first" .u32 (H0.l.map fun (z : Nat) => (z : Int)) := Lib.tabIs_of_head (rest := [("chatelaine/sha.kinds", Rows.laid_chatelaine_sha_kinds)]) gFirst gFirstType Tryd.underlying70 Tryd.underlying60 cellsWord cells8 h2
  have t3 : Lib.TabIs Tryd.prog W "chatelaine/sha.kinds" .u32 (K.map fun (z : Nat) => (z : Int)) := Lib.tabIs_of_head (rest := []) gKinds gKindsType Tryd.underlying78 Tryd.underlying60 cellsWord cells64 h3
  refine ⟨⟨fun j hj => ?_, fun j hj => ?_⟩, fun j hj => ?_⟩
  · have := t1.cell gTab
    match j, hj with
    | 0, _ => exact this 0 (by decide)
    | 1, _ => exact this 1 (by decide)
    | 2, _ => exact this 2 (by decide)
    | 3, _ => exact this 3 (by decide)
    | 4, _ => exact this 4 (by decide)
    | 5, _ => exact this 5 (by decide)
    | 6, _ => exact this 6 (by decide)
    | 7, _ => exact this 7 (by decide)
    | j + 8, hj => omega
  · have := t3.cell gKinds j (by rw [List.length_map]; exact hj)
    rw [this]
    simp [hj]
  · have := t2.cell gFirst j (by rw [List.length_map]; exact hj)
    rw [this]
    simp [hj]
end Go.Proofs.YtihpjkidoingfaaDoor
namespace Go.Proofs.YtihpjkidoingfaaDoor
open Go.ChangeShapes Go.WideShapes Go.ChangeAt Go.RowKit Arr Sh

theorem cellsBytes : Tryd.prog.cellsOf 22 = 1 := by kernel_rfl
/-- A slice of slices of bytes that came in, as its reading gives it. -/
theorem parts_of_trod {H : Type} {enc : TypeId × Value → H} {W : World} {fuel : Nat} {cs : List Value} {x : DataW H × List MemPlace} {A : Option Addr} {N c : Nat} (hcs : cs = [.slice A N c])
    (h : DataW.trod enc Tryd.prog W 0 (fun _ => true) true fuel 23 cs = some x) :
    ∃ ps : List Pt, ps.length = N ∧ Parts W W.heap.size A ps ∧ N ≤ c ∧ (A = none → c = 0) ∧ ∀ i (hi : i < ps.length), ps[i].A = none → ps[i].c = 0 := by
  rcases DataW.trod_slice Tryd.underlying23 h with ⟨h0, _⟩ | ⟨a, len, cap, elems, rest, n, _, h0, _, _, hl, _, hlen, hel, _, _⟩
  · rw [h0] at hcs
    simp only [List.cons.injEq, Value.slice.injEq, and_true] at hcs
    obtain ⟨rfl, rfl, rfl⟩ := hcs
    exact ⟨[], rfl, ⟨fun hp => by simp at hp, fun i hi => by simp at hi⟩, Nat.le_refl _, fun _ => rfl, fun i hi => by simp at hi⟩
  · rw [h0] at hcs
    simp only [List.cons.injEq, Value.slice.injEq, and_true] at hcs
    obtain ⟨rfl, rfl, rfl⟩ := hcs
    have key : ∀ i, ∃ p : Pt, i < len → W.cell? (a.add i) = some (.slice p.A p.bs.length p.c) ∧ p.bs.length ≤ p.c ∧ Bys W W.heap.size p.A p.bs ∧ (p.A = none → p.c = 0) := by
      intro i
      by_cases hi : i < len
      · have h1 := hel i hi
        rw [List.getElem?_eq_getElem (by omega), cellsBytes, Nat.mul_one, Option.bind_eq_some_iff] at h1
        obtain ⟨cs', hcs', hy⟩ := h1
        rcases open_ints Tryd.underlying22 Tryd.underlying5 cellsByte hy with ⟨rfl, _⟩ | ⟨x', l', c', zs, rfl, _, hl', _, hz, _, hcell, hwz⟩
        · exact ⟨⟨none, 0, []⟩, fun _ => ⟨cell_of_cells?_one hcs', Nat.le_refl _, Bys.nil _ _ _, fun _ => rfl⟩⟩
        · obtain ⟨bs, e1, e2⟩ := bys_of_ints hl' (by simpa using hz) hcell hwz
          refine ⟨⟨some x', c', bs⟩, fun _ => ⟨?_, by show bs.length ≤ c'; omega, e2, fun h => by cases h⟩⟩
          show W.cell? (a.add i) = some (.slice (some x') bs.length c')
          rw [e1]; exact cell_of_cells?_one hcs'
      · exact ⟨⟨none, 0, []⟩, fun h => absurd h hi⟩
    obtain ⟨f, hf⟩ := Classical.axiomOfChoice key
    have hpl : ((List.range len).map f).length = len := by simp
    have hg : ∀ i (h : i < ((List.range len).map f).length), ((List.range len).map f)[i] = f i := fun i h => by simp
    refine ⟨(List.range len).map f, hpl, ⟨fun hp => ?_, fun i hi => ?_⟩, hl, (fun h => by cases h), fun i hi => ?_⟩
    · obtain ⟨b, off, spot⟩ := a
      have hc := (hf 0 (by omega)).1
      have hspot : spot = none := by simpa [Addr.add] using World.cell?_spot hc
      subst hspot
      refine ⟨b, off, rfl, ?_, fun i hi => ?_⟩
      · have := lt_of_cell hc
        simpa [Addr.add] using this
      · rw [hg i hi, ← add_nat]
        exact (hf i (by omega)).1
    · rw [hg i hi]
      exact ⟨(hf i (by omega)).2.1, (hf i (by omega)).2.2.1⟩
    · rw [hg i hi]
      exact (hf i (by omega)).2.2.2
end Go.Proofs.YtihpjkidoingfaaDoor
namespace Go.Proofs.YtihpjkidoingfaaDoor
open Go.ChangeShapes Go.WideShapes Go.ChangeAt Go.RowKit Arr Sh

theorem cellsAsk : Tryd.prog.cellsOf 25 = 4 := by kernel_rfl
theorem cellsStr : Tryd.prog.cellsOf 9 = 1 := by kernel_rfl
theorem cellsInt : Tryd.prog.cellsOf 3 = 1 := by kernel_rfl
theorem cellsRows : Tryd.prog.cellsOf 23 = 1 := by kernel_rfl
/-- What came in. -/
structure Asked (W : World) (cs : List Value) (bs : List Nat) (K : Option Addr) (d0 : Nat) (s : ByteArray) (n : Int) (ps : List Pt) (A : Option Addr) (c : Nat) : Prop where
  cells : cs = [.slice K bs.length d0, .string s, .int .i64 n, .slice A ps.length c]
  key : Bys W W.heap.size K bs
  room : bs.length ≤ d0
  knil : K = none → d0 = 0
  lab : s.size ≤ maxLen
  parts : Parts W W.heap.size A ps
  many : ps.length ≤ c
  most : c ≤ maxLen
  pnil : A = none → c = 0
  each : ∀ i (hi : i < ps.length), ps[i].A = none → ps[i].c = 0
theorem cap_of_trod {H : Type} {enc : TypeId × Value → H} {W : World} {fuel : Nat} {x : DataW H × List MemPlace} {A : Option Addr} {N c : Nat}
    (h : DataW.trod enc Tryd.prog W 0 (fun _ => true) true fuel 23 [.slice A N c] = some x) : c ≤ maxLen := by
  rcases DataW.trod_slice Tryd.underlying23 h with ⟨h0, _⟩ | ⟨a, len, cap, elems, rest, n, _, h0, _, _, _, hm, _, _, _, _⟩
  · simp only [List.cons.injEq, Value.slice.injEq, and_true] at h0
    rw [h0.2.2]; exact Nat.zero_le _
  · simp only [List.cons.injEq, Value.slice.injEq, and_true] at h0
    rw [h0.2.2]; exact hm
theorem trod_struct4 {H : Type} {enc : TypeId × Value → H} {P : Program} {w : World} {base : Nat} {spare : Nat → Bool} {held : Bool} {t : TypeId} {f0 f1 f2 f3 : Field} {fuel : Nat} {cs : List Value} {x : DataW H × List MemPlace} (ht : P.underlying t = some (.struct #[f0, f1, f2, f3])) (h : DataW.trod enc P w base spare held fuel t cs = some x) :
    ∃ y0 y1 y2 y3 n, cs.length = P.cellsOf t ∧ DataW.trod enc P w base spare held n f0.type ((cs.drop f0.offset).take (P.cellsOf f0.type)) = some y0 ∧ DataW.trod enc P w base spare held n f1.type ((cs.drop f1.offset).take (P.cellsOf f1.type)) = some y1 ∧
      DataW.trod enc P w base spare held n f2.type ((cs.drop f2.offset).take (P.cellsOf f2.type)) = some y2 ∧ DataW.trod enc P w base spare held n f3.type ((cs.drop f3.offset).take (P.cellsOf f3.type)) = some y3 := by
  obtain ⟨xs, n, _, rfl, hl, hlen, hf⟩ := DataW.trod_struct ht h
  match xs, hlen with
  | [y0, y1, y2, y3], _ => exact ⟨y0, y1, y2, y3, n, hl, by simpa using hf 0 f0 rfl, by simpa using hf 1 f1 rfl, by simpa using hf 2 f2 rfl, by simpa using hf 3 f3 rfl⟩
theorem ask_of_trod {H : Type} {enc : TypeId × Value → H} {W : World} {fuel : Nat} {cs : List Value} {x : DataW H × List MemPlace}
    (h : DataW.trod enc Tryd.prog W 0 (fun _ => true) true fuel 25 cs = some x) : ∃ bs K d0 s n ps A c, Asked W cs bs K d0 s n ps A c := by
  obtain ⟨y0, y1, y2, y3, n, hl, h0, h1, h2, h3⟩ := trod_struct4 Tryd.underlying25 h
  rw [cellsAsk] at hl
  match cs, hl with
  | [c0, c1, c2, c3], _ =>
      have k0 : DataW.trod enc Tryd.prog W 0 (fun _ => true) true n 22 (([c0, c1, c2, c3].drop 0).take (Tryd.prog.cellsOf 22)) = some y0 := h0
      have k1 : DataW.trod enc Tryd.prog W 0 (fun _ => true) true n 9 (([c0, c1, c2, c3].drop 1).take (Tryd.prog.cellsOf 9)) = some y1 := h1
      have k2 : DataW.trod enc Tryd.prog W 0 (fun _ => true) true n 3 (([c0, c1, c2, c3].drop 2).take (Tryd.prog.cellsOf 3)) = some y2 := h2
      have k3 : DataW.trod enc Tryd.prog W 0 (fun _ => true) true n 23 (([c0, c1, c2, c3].drop 3).take (Tryd.prog.cellsOf 23)) = some y3 := h3
      rw [cellsBytes] at k0
      rw [cellsStr] at k1
      rw [cellsInt] at k2
      rw [cellsRows] at k3
      clear h0 h1 h2 h3
      have h0 : DataW.trod enc Tryd.prog W 0 (fun _ => true) true n 22 [c0] = some y0 := k0
      have h1 : DataW.trod enc Tryd.prog W 0 (fun _ => true) true n 9 [c1] = some y1 := k1
      have h2 : DataW.trod enc Tryd.prog W 0 (fun _ => true) true n 3 [c2] = some y2 := k2
      have h3 : DataW.trod enc Tryd.prog W 0 (fun _ => true) true n 23 [c3] = some y3 := k3
      obtain ⟨s, es, _, hs⟩ := DataW.trod_string Tryd.underlying9 h1
      obtain ⟨m, em, _⟩ := DataW.trod_int Tryd.underlying3 h2
      have g0 : ∃ (bs : List Nat) (K : Option Addr) (d0 : Nat), c0 = .slice K bs.length d0 ∧ Bys W W.heap.size K bs ∧ bs.length ≤ d0 ∧ (K = none → d0 = 0) := by
        rcases open_ints Tryd.underlying22 Tryd.underlying5 cellsByte h0 with ⟨hcs, _⟩ | ⟨x, l, c, zs, hcs, _, hl, hm, hz, _, hcell, hwz⟩
        · simp only [List.cons.injEq, and_true] at hcs
          exact ⟨[], none, 0, hcs, Bys.nil _ _ _, Nat.le_refl _, fun _ => rfl⟩
        · simp only [List.cons.injEq, and_true] at hcs
          obtain ⟨bs, e1, e2⟩ := bys_of_ints hl (by simpa using hz) hcell hwz
          exact ⟨bs, some x, c, by rw [hcs, e1], e2, by omega, fun h => by cases h⟩
      have g3 : ∃ A N c, c3 = .slice A N c := by
        rcases DataW.trod_slice Tryd.underlying23 h3 with ⟨e, _⟩ | ⟨a, len, cap, _, _, _, _, e, _⟩
        · simp only [List.cons.injEq, and_true] at e; exact ⟨_, _, _, e⟩
        · simp only [List.cons.injEq, and_true] at e; exact ⟨_, _, _, e⟩
      obtain ⟨bs, K, d0, rfl, hb, hr, hk⟩ := g0
      obtain ⟨A, N, c, rfl⟩ := g3
      obtain ⟨ps, rfl, hp, hc, hn, hi⟩ := parts_of_trod rfl h3
      have hm := cap_of_trod h3
      simp only [List.cons.injEq, and_true] at es em
      subst es em
      exact ⟨bs, K, d0, s, m, ps, A, c, ⟨rfl, hb, hr, hk, hs, hp, hc, hm, hn, hi⟩⟩
end Go.Proofs.YtihpjkidoingfaaDoor
