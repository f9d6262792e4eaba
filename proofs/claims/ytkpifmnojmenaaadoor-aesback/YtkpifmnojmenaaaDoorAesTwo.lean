/-
  AesBack's statement that enciphers two blocks and draws its order: what holds whatever has come up (written by tools/gen_back4.py). No conditions.
-/
import Derived.Test.YtkpifmnojmenaaaDoorAesAwake
namespace Go.Proofs.YtkpifmnojmenaaaDoor
open Go.RowKit Arr Gf Sb Ae

/-- A new block of noughts, as one operation. -/
theorem wp_alloc16 {dst : Option Tmp} {ty : TypeId} {pos : String} {after : Array Edge} {a : Act} {w : World} {K : Act → World → Prop} {Q : Exit → Act → World → Prop}
    (h : K (a.put dst (.pointer (some ⟨w.heap.size, 0, none⟩))) (w.alloc (.cells (na .u8 (zs 16)) 32))) : Oper.wp Tryd.prog { dst := dst, op := .alloc 32, type := ty, pos := pos, after := after, guard := none } a w K Q := by
  have hz := z16
  cases hq : Tryd.prog.info? 32 with
  | none => simp [hq] at hz
  | some i =>
    simp only [hq, Option.bind_some] at hz
    unfold Oper.wp execOp
    have e : (Instr.alloc 32 true (.tuple #[])).run Tryd.prog w = .ok (.pointer (some ⟨w.heap.size, 0, none⟩)) (w.alloc (.cells (na .u8 (zs 16)) 32)) := by
      simp [Instr.alloc, zeroValue, typeInfo, hq, hz, Value.cells, newVar, newRow]
    simp only [Sem.run_bind, e, Sem.run_pure, Result.andThen_ok]
    exact h

/-- What stands in the law: the cipher, the two blocks that came in; nothing that was there is changed. -/
structure Bs (w w' : World) (g r : Nat) (K a b : List Nat) : Prop where
  ciph : Ciph w' g r K
  hA : Holds w' w.heap.size .u8 a
  hB : Holds w' (w.heap.size + 1) .u8 b
  bel : Below w.heap.size w w'
theorem Bs.after {w w' w'' : World} {g r : Nat} {K a b : List Nat} (s : Bs w w' g r K a b) (ha : a.length = 16) (hb : b.length = 16) (h : Below w'.heap.size w' w'') : Bs w w'' g r K a b :=
  ⟨s.ciph.below h s.ciph.lt, s.hA.below h (s.hA.lt (by omega)), s.hB.below h (s.hB.lt (by omega)), s.bel.trans (h.mono s.bel.size)⟩
theorem Bs.drew {w w' : World} {g r : Nat} {K a b : List Nat} (s : Bs w w' g r K a b) (ha : a.length = 16) (hb : b.length = 16) : Bs w w'.drew g r K a b := s.after ha hb (below_drew (Below.refl _ _))
theorem Bs.apart {w w' : World} {g r h0 : Nat} {K a b : List Nat} (s : Bs w w' g r K a b) (hg : g < h0) (hB : w.heap.size + 1 < h0) (gx : Nat) (hx : h0 ≤ gx) (vs : List Value) : Bs w (w'.setCells gx 0 vs) g r K a b :=
  ⟨⟨cell_apart 0 _ _ _ _ s.ciph.rounds (by omega), s.ciph.len, s.ciph.keys.apart _ _ _ (by omega), s.ciph.box.apart _ _ _ (by omega), s.ciph.back.apart _ _ _ (by omega), s.ciph.twice.apart _ _ _ (by omega)⟩,
    s.hA.apart _ _ _ (by omega), s.hB.apart _ _ _ (by omega), below_setCells (by omega) _ _ _ s.bel⟩

structure In6 (w : World) (g r h0 : Nat) (K a b x y : List Nat) (D : Nat → Bool) (w' : World) (v0 v1 v2 v3 v4 v5 v6 v7 : Value) : Prop where
  bs : Bs w w' g r K a b
  hi : h0 ≤ w'.heap.size
  l0 : D 0 = true → v0 = .pointer (some ⟨g, 0, none⟩)
  l1 : D 1 = true → v1 = .agg (na .u8 a)
  l2 : D 2 = true → v2 = .agg (na .u8 x)
  l3 : D 3 = true → v3 = .pointer (some ⟨g, 0, none⟩)
  l4 : D 4 = true → v4 = .agg (na .u8 b)
  l5 : D 5 = true → v5 = .agg (na .u8 y)
  l6 : D 6 = true → ∃ gx, v6 = .pointer (some ⟨gx, 0, none⟩) ∧ h0 ≤ gx ∧ Holds w' gx .u8 (if D 8 then x else zs 16)
  l7 : D 7 = true → ∃ gy, v7 = .pointer (some ⟨gy, 0, none⟩) ∧ h0 ≤ gy ∧ Holds w' gy .u8 (if D 9 then y else zs 16)
  l67 : D 6 = true → D 7 = true → v6 ≠ v7
section
variable {w w' : World} {g r h0 : Nat} {K a b x y : List Nat} {D : Nat → Bool} {v0 v1 v2 v3 v4 v5 v6 v7 : Value}
theorem two_len (hx : x.length = 16) (c : Bool) : 0 < (if c then x else zs 16).length := by cases c <;> simp [hx, length_zs]
theorem In6.carry {w'' : World} (s : In6 w g r h0 K a b x y D w' v0 v1 v2 v3 v4 v5 v6 v7) (ha : a.length = 16) (hb : b.length = 16) (hx : x.length = 16) (hy : y.length = 16) (h : Below w'.heap.size w' w'') : In6 w g r h0 K a b x y D w'' v0 v1 v2 v3 v4 v5 v6 v7 :=
  { bs := s.bs.after ha hb h, hi := Nat.le_trans s.hi h.size, l0 := s.l0, l1 := s.l1, l2 := s.l2, l3 := s.l3, l4 := s.l4, l5 := s.l5
    l6 := fun d => by obtain ⟨q, e, hq, hk⟩ := s.l6 d; exact ⟨q, e, hq, hk.below h (hk.lt (two_len hx _))⟩
    l7 := fun d => by obtain ⟨q, e, hq, hk⟩ := s.l7 d; exact ⟨q, e, hq, hk.below h (hk.lt (two_len hy _))⟩
    l67 := s.l67 }
theorem In6.did0 (s : In6 w g r h0 K a b x y D w' v0 v1 v2 v3 v4 v5 v6 v7) : In6 w g r h0 K a b x y (fun j => j == 0 || D j) w' (.pointer (some ⟨g, 0, none⟩)) v1 v2 v3 v4 v5 v6 v7 :=
  { bs := s.bs, hi := s.hi, l0 := fun _ => rfl, l1 := (by simpa using s.l1), l2 := (by simpa using s.l2), l3 := (by simpa using s.l3), l4 := (by simpa using s.l4), l5 := (by simpa using s.l5), l6 := (by simpa using s.l6), l7 := (by simpa using s.l7), l67 := (by simpa using s.l67) }
theorem In6.did1 (s : In6 w g r h0 K a b x y D w' v0 v1 v2 v3 v4 v5 v6 v7) : In6 w g r h0 K a b x y (fun j => j == 1 || D j) w' v0 (.agg (na .u8 a)) v2 v3 v4 v5 v6 v7 :=
  { bs := s.bs, hi := s.hi, l0 := (by simpa using s.l0), l1 := fun _ => rfl, l2 := (by simpa using s.l2), l3 := (by simpa using s.l3), l4 := (by simpa using s.l4), l5 := (by simpa using s.l5), l6 := (by simpa using s.l6), l7 := (by simpa using s.l7), l67 := (by simpa using s.l67) }
theorem In6.did2 (s : In6 w g r h0 K a b x y D w' v0 v1 v2 v3 v4 v5 v6 v7) : In6 w g r h0 K a b x y (fun j => j == 2 || D j) w' v0 v1 (.agg (na .u8 x)) v3 v4 v5 v6 v7 :=
  { bs := s.bs, hi := s.hi, l0 := (by simpa using s.l0), l1 := (by simpa using s.l1), l2 := fun _ => rfl, l3 := (by simpa using s.l3), l4 := (by simpa using s.l4), l5 := (by simpa using s.l5), l6 := (by simpa using s.l6), l7 := (by simpa using s.l7), l67 := (by simpa using s.l67) }
theorem In6.did3 (s : In6 w g r h0 K a b x y D w' v0 v1 v2 v3 v4 v5 v6 v7) : In6 w g r h0 K a b x y (fun j => j == 3 || D j) w' v0 v1 v2 (.pointer (some ⟨g, 0, none⟩)) v4 v5 v6 v7 :=
  { bs := s.bs, hi := s.hi, l0 := (by simpa using s.l0), l1 := (by simpa using s.l1), l2 := (by simpa using s.l2), l3 := fun _ => rfl, l4 := (by simpa using s.l4), l5 := (by simpa using s.l5), l6 := (by simpa using s.l6), l7 := (by simpa using s.l7), l67 := (by simpa using s.l67) }
theorem In6.did4 (s : In6 w g r h0 K a b x y D w' v0 v1 v2 v3 v4 v5 v6 v7) : In6 w g r h0 K a b x y (fun j => j == 4 || D j) w' v0 v1 v2 v3 (.agg (na .u8 b)) v5 v6 v7 :=
  { bs := s.bs, hi := s.hi, l0 := (by simpa using s.l0), l1 := (by simpa using s.l1), l2 := (by simpa using s.l2), l3 := (by simpa using s.l3), l4 := fun _ => rfl, l5 := (by simpa using s.l5), l6 := (by simpa using s.l6), l7 := (by simpa using s.l7), l67 := (by simpa using s.l67) }
theorem In6.did5 (s : In6 w g r h0 K a b x y D w' v0 v1 v2 v3 v4 v5 v6 v7) : In6 w g r h0 K a b x y (fun j => j == 5 || D j) w' v0 v1 v2 v3 v4 (.agg (na .u8 y)) v6 v7 :=
  { bs := s.bs, hi := s.hi, l0 := (by simpa using s.l0), l1 := (by simpa using s.l1), l2 := (by simpa using s.l2), l3 := (by simpa using s.l3), l4 := (by simpa using s.l4), l5 := fun _ => rfl, l6 := (by simpa using s.l6), l7 := (by simpa using s.l7), l67 := (by simpa using s.l67) }
theorem In6.did6 (s : In6 w g r h0 K a b x y D w' v0 v1 v2 v3 v4 v5 v6 v7) (h8 : D 8 = false) (h9 : D 9 = false) (ha : a.length = 16) (hb : b.length = 16) (hx : x.length = 16) (hy : y.length = 16) : In6 w g r h0 K a b x y (fun j => j == 6 || D j) (w'.alloc (.cells (na .u8 (zs 16)) 32)) v0 v1 v2 v3 v4 v5 (.pointer (some ⟨w'.heap.size, 0, none⟩)) v7 := by
  have c := s.carry ha hb hx hy (below_alloc w' (.cells (na .u8 (zs 16)) 32))
  exact { bs := c.bs, hi := c.hi, l0 := (by simpa using s.l0), l1 := (by simpa using s.l1), l2 := (by simpa using s.l2), l3 := (by simpa using s.l3), l4 := (by simpa using s.l4), l5 := (by simpa using s.l5)
          l6 := fun _ => ⟨w'.heap.size, rfl, s.hi, by simpa [h8] using Holds.new w' 32 .u8 (zs 16)⟩
          l7 := by simpa [h9] using c.l7
          l67 := fun _ d7 e => by
            obtain ⟨q, rfl, _, hk⟩ := s.l7 (by simpa using d7)
            have := hk.lt (two_len hy _)
            injection e with e; injection e with e; injection e with e
            omega }
theorem In6.did7 (s : In6 w g r h0 K a b x y D w' v0 v1 v2 v3 v4 v5 v6 v7) (h8 : D 8 = false) (h9 : D 9 = false) (ha : a.length = 16) (hb : b.length = 16) (hx : x.length = 16) (hy : y.length = 16) : In6 w g r h0 K a b x y (fun j => j == 7 || D j) (w'.alloc (.cells (na .u8 (zs 16)) 32)) v0 v1 v2 v3 v4 v5 v6 (.pointer (some ⟨w'.heap.size, 0, none⟩)) := by
  have c := s.carry ha hb hx hy (below_alloc w' (.cells (na .u8 (zs 16)) 32))
  exact { bs := c.bs, hi := c.hi, l0 := (by simpa using s.l0), l1 := (by simpa using s.l1), l2 := (by simpa using s.l2), l3 := (by simpa using s.l3), l4 := (by simpa using s.l4), l5 := (by simpa using s.l5)
          l6 := by simpa [h8] using c.l6
          l7 := fun _ => ⟨w'.heap.size, rfl, s.hi, by simpa [h9] using Holds.new w' 32 .u8 (zs 16)⟩
          l67 := fun d6 _ e => by
            obtain ⟨q, rfl, _, hk⟩ := s.l6 (by simpa using d6)
            have := hk.lt (two_len hx _)
            injection e with e; injection e with e; injection e with e
            omega }
theorem In6.did8 (s : In6 w g r h0 K a b x y D w' v0 v1 v2 v3 v4 v5 v6 v7) (d6 : D 6 = true) (d7 : D 7 = true) (d8 : D 8 = false) (hg : g < h0) (hB : w.heap.size + 1 < h0) (hx : x.length = 16) (q : Nat) (e6 : v6 = .pointer (some ⟨q, 0, none⟩)) : In6 w g r h0 K a b x y (fun j => j == 8 || D j) (w'.setCells q 0 (nv .u8 x)) v0 v1 v2 v3 v4 v5 v6 v7 := by
  obtain ⟨q', e6', hq, hk⟩ := s.l6 d6
  obtain rfl : q' = q := by rw [e6] at e6'; injection e6' with e; injection e with e; injection e with e; exact e.symm
  obtain ⟨q2, e7, hq2, hk2⟩ := s.l7 d7
  have hne : q2 ≠ q' := fun e => s.l67 d6 d7 (by rw [e6', e7, e])
  exact { bs := s.bs.apart hg hB q' hq _, hi := by rw [size_setCells]; exact s.hi, l0 := (by simpa using s.l0), l1 := (by simpa using s.l1), l2 := (by simpa using s.l2), l3 := (by simpa using s.l3), l4 := (by simpa using s.l4), l5 := (by simpa using s.l5)
          l6 := fun _ => ⟨q', e6', hq, by simpa using hk.put x (by rw [d8]; simp [hx, length_zs])⟩
          l7 := fun _ => ⟨q2, e7, hq2, by simpa using hk2.apart q' 0 (nv .u8 x) hne⟩
          l67 := by simpa using s.l67 }
theorem In6.did9 (s : In6 w g r h0 K a b x y D w' v0 v1 v2 v3 v4 v5 v6 v7) (d6 : D 6 = true) (d7 : D 7 = true) (d9 : D 9 = false) (hg : g < h0) (hB : w.heap.size + 1 < h0) (hy : y.length = 16) (q : Nat) (e7 : v7 = .pointer (some ⟨q, 0, none⟩)) : In6 w g r h0 K a b x y (fun j => j == 9 || D j) (w'.setCells q 0 (nv .u8 y)) v0 v1 v2 v3 v4 v5 v6 v7 := by
  obtain ⟨q', e7', hq, hk⟩ := s.l7 d7
  obtain rfl : q' = q := by rw [e7] at e7'; injection e7' with e; injection e with e; injection e with e; exact e.symm
  obtain ⟨q2, e6, hq2, hk2⟩ := s.l6 d6
  have hne : q2 ≠ q' := fun e => s.l67 d6 d7 (by rw [e7', e6, e])
  exact { bs := s.bs.apart hg hB q' hq _, hi := by rw [size_setCells]; exact s.hi, l0 := (by simpa using s.l0), l1 := (by simpa using s.l1), l2 := (by simpa using s.l2), l3 := (by simpa using s.l3), l4 := (by simpa using s.l4), l5 := (by simpa using s.l5)
          l6 := fun _ => ⟨q2, e6, hq2, by simpa using hk2.apart q' 0 (nv .u8 y) hne⟩
          l7 := fun _ => ⟨q', e7', hq, by simpa using hk.put y (by rw [d9]; simp [hy, length_zs])⟩
          l67 := by simpa using s.l67 }
end
end Go.Proofs.YtkpifmnojmenaaaDoor
