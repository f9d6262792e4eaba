/-
  Own lemmas on frames: the struct of a key, a label, a number and contexts comes in. No conditions.
-/
import Derived.Test.YtihpjkidoingfaaDoorRowParts
namespace Go.Proofs.YtihpjkidoingfaaDoor
open Go.ChangeShapes Go.WideShapes Go.ChangeAt Go.RowKit Arr Sh

theorem cellsAsk : Tryd.prog.cellsOf 25 = 4 := by kernel_rfl
theorem cellsStr : Tryd.prog.cellsOf 9 = 1 := by kernel_rfl
theorem cellsInt : Tryd.prog.cellsOf 3 = 1 := by kernel_rfl
theorem cellsRows : Tryd.prog.cellsOf 23 = 1 := by kernel_rfl
/-- What came in. -/
structure Asked (W : World) (cs : List Value) (bs : List Nat) (K : Option Addr) (d0 : Nat) (s : ByteArray) (n : Int) (ps : List Pt) (A : Option Addr) (c : Nat) : Prop where
  cells : cs = [.slice K bs.length d0, .string s, .int .i64 n, .slice A ps.length c]
  key : Bys W W.heap.size K bs
  room : bs.length ≤ d0
  knil : K = none → d0 = 0
  lab : s.size ≤ maxLen
  parts : Parts W W.heap.size A ps
  many : ps.length ≤ c
  most : c ≤ maxLen
  pnil : A = none → c = 0
  each : ∀ i (hi : i < ps.length), ps[i].A = none → ps[i].c = 0
theorem cap_of_trod {H : Type} {enc : TypeId × Value → H} {W : World} {fuel : Nat} {x : DataW H × List MemPlace} {A : Option Addr} {N c : Nat}
    (h : DataW.trod enc Tryd.prog W 0 (fun _ => true) true fuel 23 [.slice A N c] = some x) : c ≤ maxLen := by
  rcases DataW.trod_slice Tryd.underlying23 h with ⟨h0, _⟩ | ⟨a, len, cap, elems, rest, n, _, h0, _, _, _, hm, _, _, _, _⟩
  · simp only [List.cons.injEq, Value.slice.injEq, and_true] at h0
    rw [h0.2.2]; exact Nat.zero_le _
  · simp only [List.cons.injEq, Value.slice.injEq, and_true] at h0
    rw [h0.2.2]; exact hm
theorem trod_struct4 {H : Type} {enc : TypeId × Value → H} {P : Program} {w : World} {base : Nat} {spare : Nat → Bool} {held : Bool} {t : TypeId} {f0 f1 f2 f3 : Field} {fuel : Nat} {cs : List Value} {x : DataW H × List MemPlace} (ht : P.underlying t = some (.struct #[f0, f1, f2, f3])) (h : DataW.trod enc P w base spare held fuel t cs = some x) :
    ∃ y0 y1 y2 y3 n, cs.length = P.cellsOf t ∧ DataW.trod enc P w base spare held n f0.type ((cs.drop f0.offset).take (P.cellsOf f0.type)) = some y0 ∧ DataW.trod enc P w base spare held n f1.type ((cs.drop f1.offset).take (P.cellsOf f1.type)) = some y1 ∧
      DataW.trod enc P w base spare held n f2.type ((cs.drop f2.offset).take (P.cellsOf f2.type)) = some y2 ∧ DataW.trod enc P w base spare held n f3.type ((cs.drop f3.offset).take (P.cellsOf f3.type)) = some y3 := by
  obtain ⟨xs, n, _, rfl, hl, hlen, hf⟩ := DataW.trod_struct ht h
  match xs, hlen with
  | [y0, y1, y2, y3], _ => exact ⟨y0, y1, y2, y3, n, hl, by simpa using hf 0 f0 rfl, by simpa using hf 1 f1 rfl, by simpa using hf 2 f2 rfl, by simpa using hf 3 f3 rfl⟩
theorem ask_of_trod {H : Type} {enc : TypeId × Value → H} {W : World} {fuel : Nat} {cs : List Value} {x : DataW H × List MemPlace}
    (h : DataW.trod enc Tryd.prog W 0 (fun _ => true) true fuel 25 cs = some x) : ∃ bs K d0 s n ps A c, Asked W cs bs K d0 s n ps A c := by
  obtain ⟨y0, y1, y2, y3, n, hl, h0, h1, h2, h3⟩ := trod_struct4 Tryd.underlying25 h
  rw [cellsAsk] at hl
  match cs, hl with
  | [c0, c1, c2, c3], _ =>
      have k0 : DataW.trod enc Tryd.prog W 0 (fun _ => true) true n 22 (([c0, c1, c2, c3].drop 0).take (Tryd.prog.cellsOf 22)) = some y0 := h0
      have k1 : DataW.trod enc Tryd.prog W 0 (fun _ => true) true n 9 (([c0, c1, c2, c3].drop 1).take (Tryd.prog.cellsOf 9)) = some y1 := h1
      have k2 : DataW.trod enc Tryd.prog W 0 (fun _ => true) true n 3 (([c0, c1, c2, c3].drop 2).take (Tryd.prog.cellsOf 3)) = some y2 := h2
      have k3 : DataW.trod enc Tryd.prog W 0 (fun _ => true) true n 23 (([c0, c1, c2, c3].drop 3).take (Tryd.prog.cellsOf 23)) = some y3 := h3
      rw [cellsBytes] at k0
      rw [cellsStr] at k1
      rw [cellsInt] at k2
      rw [cellsRows] at k3
      clear h0 h1 h2 h3
      have h0 : DataW.trod enc Tryd.prog W 0 (fun _ => true) true n 22 [c0] = some y0 := k0
      have h1 : DataW.trod enc Tryd.prog W 0 (fun _ => true) true n 9 [c1] = some y1 := k1
      have h2 : DataW.trod enc Tryd.prog W 0 (fun _ => true) true n 3 [c2] = some y2 := k2
      have h3 : DataW.trod enc Tryd.prog W 0 (fun _ => true) true n 23 [c3] = some y3 := k3
      obtain ⟨s, es, _, hs⟩ := DataW.trod_string Tryd.underlying9 h1
      obtain ⟨m, em, _⟩ := DataW.trod_int Tryd.underlying3 h2
      have g0 : ∃ (bs : List Nat) (K : Option Addr) (d0 : Nat), c0 = .slice K bs.length d0 ∧ Bys W W.heap.size K bs ∧ bs.length ≤ d0 ∧ (K = none → d0 = 0) := by
        rcases open_ints Tryd.underlying22 Tryd.underlying5 cellsByte h0 with ⟨hcs, _⟩ | ⟨x, l, c, zs, hcs, _, hl, hm, hz, _, hcell, hwz⟩
        · simp only [List.cons.injEq, and_true] at hcs
          exact ⟨[], none, 0, hcs, Bys.nil _ _ _, Nat.le_refl _, fun _ => rfl⟩
        · simp only [List.cons.injEq, and_true] at hcs
          obtain ⟨bs, e1, e2⟩ := bys_of_ints hl (by simpa using hz) hcell hwz
          exact ⟨bs, some x, c, by rw [hcs, e1], e2, by omega, fun h => by cases h⟩
      have g3 : ∃ A N c, c3 = .slice A N c := by
        rcases DataW.trod_slice Tryd.underlying23 h3 with ⟨e, _⟩ | ⟨a, len, cap, _, _, _, _, e, _⟩
        · simp only [List.cons.injEq, and_true] at e; exact ⟨_, _, _, e⟩
        · simp only [List.cons.injEq, and_true] at e; exact ⟨_, _, _, e⟩
      obtain ⟨bs, K, d0, rfl, hb, hr, hk⟩ := g0
      obtain ⟨A, N, c, rfl⟩ := g3
      obtain ⟨ps, rfl, hp, hc, hn, hi⟩ := parts_of_trod rfl h3
      have hm := cap_of_trod h3
      simp only [List.cons.injEq, and_true] at es em
      subst es em
      exact ⟨bs, K, d0, s, m, ps, A, c, ⟨rfl, hb, hr, hk, hs, hp, hc, hm, hn, hi⟩⟩
end Go.Proofs.YtihpjkidoingfaaDoor
