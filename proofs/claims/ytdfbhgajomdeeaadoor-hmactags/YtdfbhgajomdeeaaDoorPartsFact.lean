/-
  Facts about parts that a statement lays on its way, and about bytes. No conditions.
-/
import Derived.Test.YtdfbhgajomdeeaaDoorFacts
import Derived.Test.YtdfbhgajomdeeaaDoorOwnVals
namespace Go.Proofs.YtdfbhgajomdeeaaDoor
open Go.RowKit Arr Sh
/-- The answer is a new slice of these parts. -/
def Fact.parts (ps : List Pt) (N : Nat) : Fact := ⟨fun v w => ∃ g, v = .slice (some ⟨g, 0, none⟩) N N ∧ Parts w w.heap.size (some ⟨g, 0, none⟩) ps, fun _ _ _ h hb => by
  obtain ⟨g, e, hp⟩ := h
  exact ⟨g, e, hp.later hb⟩⟩
/-- The answer is a slice of these bytes. -/
def Fact.bys (bs : List Nat) : Fact := ⟨fun v w => ∃ A c, v = .slice A bs.length c ∧ Bys w w.heap.size A bs, fun _ _ _ h hb => by
  obtain ⟨A, c, e, hp⟩ := h
  exact ⟨A, c, e, (hp.below hb).more hb.size⟩⟩
/-- The answer is a slice of these bytes, n of them. -/
def Fact.bysN (bs : List Nat) (n : Nat) : Fact := ⟨fun v w => ∃ A c, v = .slice A n c ∧ Bys w w.heap.size A bs, fun _ _ _ h hb => by
  obtain ⟨A, c, e, hp⟩ := h
  exact ⟨A, c, e, (hp.below hb).more hb.size⟩⟩
/-- A whole array is read, as one operation. -/
theorem op_load {P : Program} {Q : Exit → Act → World → Prop} {t e : TypeId} {n : Nat} {k : IntKind} {op : Oper} {a : Act} {w : World} {K : Act → World → Prop} (o : Of P t e n k) (g i : Nat) (l : List Nat) (hl : l.length = n) (hb : w.rangeAt g i (nv k l)) (x : Operand) (ho : op.op = .load t x)
    (hx : a.eval x = .pointer (some ⟨g, i, none⟩)) (h : K (a.put op.dst (.agg (na k l))) w) : op.wp P a w K Q :=
  wp_load_mid t x ho g i hx (nv k l) _ hb o.hu rfl (by rw [length_nv, hl]; exact o.hi) h
end Go.Proofs.YtdfbhgajomdeeaaDoor
