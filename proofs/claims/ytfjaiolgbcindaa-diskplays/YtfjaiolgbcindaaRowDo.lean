/-
  Own lemmas for rows: what came in as a slice of what is done to a disk. No conditions.
-/
import Derived.Test.YtfjaiolgbcindaaRowBys
import Derived.Test.YtfjaiolgbcindaaDkDo
import Derived.Deep.Grids
namespace Go.Proofs.Ytfjaiolgbcindaa
open Go.ChangeShapes Go.WideShapes Go.ChangeAt Go.RowKit Go.Deep Arr Dsk

theorem wf64 {n : Int} (h : (Lit.int .i64 n).wf = true) : -9223372036854775808 ≤ n ∧ n ≤ 9223372036854775807 := bounds_i64 h
theorem cellsItem : Try.prog.cellsOf 35 = 4 := by kernel_rfl
theorem cellsInt' : Try.prog.cellsOf 3 = 1 := by kernel_rfl
theorem cellsBytes' : Try.prog.cellsOf 32 = 1 := by kernel_rfl
theorem cellsBools' : Try.prog.cellsOf 33 = 1 := by kernel_rfl
theorem cellsBool' : Try.prog.cellsOf 4 = 1 := by kernel_rfl
/-- A slice of bools that came in, as its reading gives it. -/
theorem bools_of_trod {H : Type} {enc : TypeId × Value → H} {W : World} {fuel : Nat} {cs : List Value} {x : DataW H × List MemPlace} (h : DataW.trod enc Try.prog W 0 (fun _ => true) true fuel 33 cs = some x) :
    ∃ (A : Option Addr) (l : List Bool) (c : Nat), cs = [.slice A l.length c] ∧ l.length ≤ c ∧ (A = none → c = 0) ∧ Bls W (fun b => b < W.heap.size) A l := by
  rcases open_bools Try.underlying33 Try.underlying4 cellsBool' h with ⟨hcs, _⟩ | ⟨a, len, cap, B, hcs, _, hl, _, _, hcell⟩
  · exact ⟨none, [], 0, hcs, Nat.le_refl _, fun _ => rfl, Bls.nil _ _ _⟩
  · have hlen : ((List.range len).map B).length = len := by simp
    refine ⟨some a, (List.range len).map B, cap, by rw [hlen]; exact hcs, by rw [hlen]; exact hl, fun e => (by cases e), fun hp => ?_⟩
    rw [hlen] at hp
    obtain ⟨b, off, spot⟩ := a
    have hc := hcell 0 (by omega)
    have hspot : spot = none := by
      have := World.cell?_spot hc
      simpa [Addr.add] using this
    subst hspot
    have hlt := lt_of_cell hc
    rw [add_nat] at hlt
    refine ⟨b, off, rfl, hlt, hlt, fun i hi => ?_⟩
    rw [hlen] at hi
    have hci := hcell i (by omega)
    rw [add_nat] at hci
    rw [hci]
    simp [hi]
theorem trod_struct4' {H : Type} {enc : TypeId × Value → H} {P : Program} {w : World} {base : Nat} {spare : Nat → Bool} {held : Bool} {t : TypeId} {f0 f1 f2 f3 : Field} {fuel : Nat} {cs : List Value} {x : DataW H × List MemPlace} (ht : P.underlying t = some (.struct #[f0, f1, f2, f3])) (h : DataW.trod enc P w base spare held fuel t cs = some x) :
    ∃ y0 y1 y2 y3 n, cs.length = P.cellsOf t ∧ DataW.trod enc P w base spare held n f0.type ((cs.drop f0.offset).take (P.cellsOf f0.type)) = some y0 ∧ DataW.trod enc P w base spare held n f1.type ((cs.drop f1.offset).take (P.cellsOf f1.type)) = some y1 ∧
      DataW.trod enc P w base spare held n f2.type ((cs.drop f2.offset).take (P.cellsOf f2.type)) = some y2 ∧ DataW.trod enc P w base spare held n f3.type ((cs.drop f3.offset).take (P.cellsOf f3.type)) = some y3 := by
  obtain ⟨xs, n, _, rfl, hl, hlen, hf⟩ := DataW.trod_struct ht h
  match xs, hlen with
  | [y0, y1, y2, y3], _ => exact ⟨y0, y1, y2, y3, n, hl, by simpa using hf 0 f0 rfl, by simpa using hf 1 f1 rfl, by simpa using hf 2 f2 rfl, by simpa using hf 3 f3 rfl⟩
/-- One item, out of its four cells. -/
theorem item_of_trod {H : Type} {enc : TypeId × Value → H} {W : World} {fuel : Nat} {cs : List Value} {x : DataW H × List MemPlace}
    (h : DataW.trod enc Try.prog W 0 (fun _ => true) true fuel 35 cs = some x) :
    ∃ it : It, cs = [.int .i64 it.kind, .int .i64 it.sec, .slice it.A it.bs.length it.c, .slice it.KA it.kl.length it.kc] ∧ it.bs.length ≤ it.c ∧ (it.A = none → it.c = 0) ∧ Bys W W.heap.size it.A it.bs ∧ it.kl.length ≤ it.kc ∧ (it.KA = none → it.kc = 0) ∧ Bls W (fun b => b < W.heap.size) it.KA it.kl ∧ (-9223372036854775808 ≤ it.sec ∧ it.sec ≤ 9223372036854775807) := by
  obtain ⟨y0, y1, y2, y3, n, hl, h0, h1, h2, h3⟩ := trod_struct4' Try.underlying35 h
  rw [cellsItem] at hl
  match cs, hl with
  | [c0, c1, c2, c3], _ =>
      have k0 : DataW.trod enc Try.prog W 0 (fun _ => true) true n 3 (([c0, c1, c2, c3].drop 0).take (Try.prog.cellsOf 3)) = some y0 := h0
      have k1 : DataW.trod enc Try.prog W 0 (fun _ => true) true n 3 (([c0, c1, c2, c3].drop 1).take (Try.prog.cellsOf 3)) = some y1 := h1
      have k2 : DataW.trod enc Try.prog W 0 (fun _ => true) true n 32 (([c0, c1, c2, c3].drop 2).take (Try.prog.cellsOf 32)) = some y2 := h2
      have k3 : DataW.trod enc Try.prog W 0 (fun _ => true) true n 33 (([c0, c1, c2, c3].drop 3).take (Try.prog.cellsOf 33)) = some y3 := h3
      rw [cellsInt'] at k0 k1
      rw [cellsBytes'] at k2
      rw [cellsBools'] at k3
      clear h0 h1 h2 h3
      have h0 : DataW.trod enc Try.prog W 0 (fun _ => true) true n 3 [c0] = some y0 := k0
      have h1 : DataW.trod enc Try.prog W 0 (fun _ => true) true n 3 [c1] = some y1 := k1
      have h2 : DataW.trod enc Try.prog W 0 (fun _ => true) true n 32 [c2] = some y2 := k2
      have h3 : DataW.trod enc Try.prog W 0 (fun _ => true) true n 33 [c3] = some y3 := k3
      obtain ⟨m0, e0, _⟩ := DataW.trod_int Try.underlying3 h0
      obtain ⟨m1, e1, _, hw1⟩ := DataW.trod_int Try.underlying3 h1
      simp only [List.cons.injEq, and_true] at e0 e1
      subst e0 e1
      have hr := wf64 hw1
      obtain ⟨KA, kl, kc, hk, hk1, hk2, hk3⟩ := bools_of_trod h3
      simp only [List.cons.injEq, and_true] at hk
      subst hk
      rcases open_ints Try.underlying32 Try.underlying5 cellsByte h2 with ⟨hcs, _⟩ | ⟨x, l, c, zs, hcs, _, hl, hm, hz, _, hcell, hwz⟩
      · simp only [List.cons.injEq, and_true] at hcs
        subst hcs
        exact ⟨⟨m0, m1, none, 0, [], KA, kc, kl⟩, rfl, Nat.le_refl _, fun _ => rfl, Bys.nil _ _ _, hk1, hk2, hk3, hr⟩
      · simp only [List.cons.injEq, and_true] at hcs
        subst hcs
        obtain ⟨bs, e1, e2⟩ := bys_of_ints hl (by simpa using hz) hcell hwz
        exact ⟨⟨m0, m1, some x, c, bs, KA, kc, kl⟩, by rw [← e1], by rw [e1]; exact hl, (fun h => by cases h), e2, hk1, hk2, hk3, hr⟩
/-- A slice of items that came in, as its reading gives it. -/
theorem items_of_trod {H : Type} {enc : TypeId × Value → H} {W : World} {fuel : Nat} {cs : List Value} {x : DataW H × List MemPlace} {A : Option Addr} {N c : Nat} (hcs : cs = [.slice A N c])
    (h : DataW.trod enc Try.prog W 0 (fun _ => true) true fuel 22 cs = some x) :
    ∃ its : List It, its.length = N ∧ Items W W.heap.size A its ∧ N ≤ 9223372036854775807 := by
  rcases DataW.trod_slice Try.underlying22 h with ⟨h0, _⟩ | ⟨a, len, cap, elems, rest, n, _, h0, _, _, hl, hmax, hlen, hel, _, _⟩
  · rw [h0] at hcs
    simp only [List.cons.injEq, Value.slice.injEq, and_true] at hcs
    obtain ⟨rfl, rfl, rfl⟩ := hcs
    exact ⟨[], rfl, ⟨fun hp => by simp at hp, fun i hi => by simp at hi⟩, by omega⟩
  · rw [h0] at hcs
    simp only [List.cons.injEq, Value.slice.injEq, and_true] at hcs
    obtain ⟨rfl, rfl, rfl⟩ := hcs
    have key : ∀ i, ∃ it : It, i < len → (∀ j, j < 4 → W.cell? ((a.add (i * 4)).add j) = [Value.int .i64 it.kind, .int .i64 it.sec, .slice it.A it.bs.length it.c, .slice it.KA it.kl.length it.kc][j]?) ∧ it.bs.length ≤ it.c ∧ (it.A = none → it.c = 0) ∧ Bys W W.heap.size it.A it.bs ∧ it.kl.length ≤ it.kc ∧ (it.KA = none → it.kc = 0) ∧ Bls W (fun b => b < W.heap.size) it.KA it.kl ∧ (-9223372036854775808 ≤ it.sec ∧ it.sec ≤ 9223372036854775807) := by
      intro i
      by_cases hi : i < len
      · have h1 := hel i hi
        rw [List.getElem?_eq_getElem (by omega), cellsItem, Option.bind_eq_some_iff] at h1
        obtain ⟨cs', hcs', hy⟩ := h1
        obtain ⟨it, rfl, h2⟩ := item_of_trod hy
        obtain ⟨_, _, hc⟩ := World.cells?_some hcs'
        exact ⟨it, fun _ => ⟨hc, h2⟩⟩
      · exact ⟨⟨0, 0, none, 0, [], none, 0, []⟩, fun h => absurd h hi⟩
    obtain ⟨f, hf⟩ := Classical.axiomOfChoice key
    have hpl : ((List.range len).map f).length = len := by simp
    have hg : ∀ i (h : i < ((List.range len).map f).length), ((List.range len).map f)[i] = f i := fun i h => by simp
    refine ⟨(List.range len).map f, hpl, ⟨fun hp => ?_, fun i hi => ?_⟩, by unfold maxLen at hmax; omega⟩
    · obtain ⟨b, off, spot⟩ := a
      have hc := (hf 0 (by omega)).1 0 (by omega)
      have hspot : spot = none := by
        have := World.cell?_spot hc
        simpa [Addr.add] using this
      subst hspot
      have ea : ∀ i j, (Addr.add (Addr.add ⟨b, off, none⟩ (i * 4)) j) = ⟨b, off + i * 4 + j, none⟩ := fun i j => by rw [add_nat, add_nat]
      refine ⟨b, off, rfl, ?_, fun i hi => ?_⟩
      · have := lt_of_cell hc
        rw [ea] at this
        exact this
      · rw [hg i hi]
        have h4 := (hf i (by omega)).1
        have q0 := h4 0 (by omega)
        have q1 := h4 1 (by omega)
        have q2 := h4 2 (by omega)
        have q3 := h4 3 (by omega)
        rw [ea] at q0 q1 q2 q3
        exact ⟨q0, q1, q2, q3⟩
    · rw [hg i hi]
      exact (hf i (by omega)).2
end Go.Proofs.Ytfjaiolgbcindaa
