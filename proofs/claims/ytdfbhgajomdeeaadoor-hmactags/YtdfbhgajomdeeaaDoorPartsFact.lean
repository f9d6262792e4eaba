/-
  Facts about parts that a statement lays on its way, and about bytes. No conditions.
-/
import Derived.Test.YtdfbhgajomdeeaaDoorFacts
import Derived.Test.YtdfbhgajomdeeaaDoorOwnVals
namespace Go.Proofs.YtdfbhgajomdeeaaDoor
open Go.RowKit Arr Sh
/-- The answer is a new slice of these parts. -/
def Fact.parts (ps : List Pt) (N : Nat) : Fact := ⟨fun v w => ∃ g, v = .slice (some ⟨g, 0, none⟩) N N ∧ Parts w w.heap.size (some ⟨g, 0, none⟩) ps, fun _ _ _ h hb => by
  obtain ⟨g, e, hp⟩ := h
  exact ⟨g, e, hp.later hb⟩⟩
/-- The answer is a slice of these bytes. -/
def Fact.bys (bs : List Nat) : Fact := ⟨fun v w => ∃ A c, v = .slice A bs.length c ∧ Bys w w.heap.size A bs, fun _ _ _ h hb => by
  obtain ⟨A, c, e, hp⟩ := h
  exact ⟨A, c, e, (hp.below hb).more hb.size⟩⟩
/-- The answer is a slice of these bytes, n of them. -/
def Fact.bysN (bs : List Nat) (n : Nat) : Fact := ⟨fun v w => ∃ A c, v = .slice A n c ∧ Bys w w.heap.size A bs, fun _ _ _ h hb => by
  obtain ⟨A, c, e, hp⟩ := h
  exact ⟨A, c, e, (hp.below hb).more hb.size⟩⟩
/-- A whole array is read, as one operation. -/
theorem op_load {P : Program} {Q : Exit → Act → World → Prop} {t e : TypeId} {n : Nat} {k : IntKind} {op : Oper} {a : Act} {w : World} {K : Act → World → Prop} (o : Of P t e n k) (g i : Nat) (l : List Nat) (hl : l.length = n) (hb : w.rangeAt g i (nv k l)) (x : Operand) (ho : op.op = .load t x)
    (hx : a.eval x = .pointer (some ⟨g, i, none⟩)) (h : K (a.put op.dst (.agg (na k l))) w) : op.wp P a w K Q :=
  wp_load_mid t x ho g i hx (nv k l) _ hb o.hu rfl (by rw [length_nv, hl]; exact o.hi) h
/-- One part, laid anew. -/
theorem Parts.one (w : World) (bs : List Nat) (A : Option Addr) (n c : Nat) (hn : bs.length = n) (hc : n ≤ c) (hb : Bys w w.heap.size A bs) :
    Parts (w.alloc (.cells #[.slice A n c] 22)) (w.alloc (.cells #[.slice A n c] 22)).heap.size (some ⟨w.heap.size, 0, none⟩) [⟨A, c, bs⟩] := by
  subst hn
  refine Parts.new w 22 _ (fun j hj => ?_) _ rfl
  obtain rfl : j = 0 := by simpa using hj
  exact ⟨hc, hb⟩
theorem Parts.two (w : World) (bs cs : List Nat) (A C : Option Addr) (n c m d : Nat) (hn : bs.length = n) (hc : n ≤ c) (hb : Bys w w.heap.size A bs) (hm : cs.length = m) (hd : m ≤ d) (hb' : Bys w w.heap.size C cs) :
    Parts (w.alloc (.cells #[.slice A n c, .slice C m d] 22)) (w.alloc (.cells #[.slice A n c, .slice C m d] 22)).heap.size (some ⟨w.heap.size, 0, none⟩) [⟨A, c, bs⟩, ⟨C, d, cs⟩] := by
  subst hn hm
  refine Parts.new w 22 _ (fun j hj => ?_) _ rfl
  match j, hj with
  | 0, _ => exact ⟨hc, hb⟩
  | 1, _ => exact ⟨hd, hb'⟩
theorem Parts.three (w : World) (bs cs ds : List Nat) (A C D : Option Addr) (n c m d l e : Nat) (hn : bs.length = n) (hc : n ≤ c) (hb : Bys w w.heap.size A bs) (hm : cs.length = m) (hd : m ≤ d) (hb' : Bys w w.heap.size C cs) (hl : ds.length = l) (he : l ≤ e) (hb'' : Bys w w.heap.size D ds) :
    Parts (w.alloc (.cells #[.slice A n c, .slice C m d, .slice D l e] 22)) (w.alloc (.cells #[.slice A n c, .slice C m d, .slice D l e] 22)).heap.size (some ⟨w.heap.size, 0, none⟩) [⟨A, c, bs⟩, ⟨C, d, cs⟩, ⟨D, e, ds⟩] := by
  subst hn hm hl
  refine Parts.new w 22 _ (fun j hj => ?_) _ rfl
  match j, hj with
  | 0, _ => exact ⟨hc, hb⟩
  | 1, _ => exact ⟨hd, hb'⟩
  | 2, _ => exact ⟨he, hb''⟩
theorem textTwo (A C : Option Addr) (c d : Nat) (bs cs : List Nat) : textOf [⟨A, c, bs⟩, ⟨C, d, cs⟩] = bs ++ cs := by simp [textOf]
theorem textThree (A C D : Option Addr) (c d e : Nat) (bs cs ds : List Nat) : textOf [⟨A, c, bs⟩, ⟨C, d, cs⟩, ⟨D, e, ds⟩] = bs ++ (cs ++ ds) := by simp [textOf]
/-- A text, cut. -/
theorem cut_all (bs : List Nat) (n i : Nat) (hn : bs.length = n) : (bs.drop 0).take i ++ (bs.drop i).take (n - i) = bs := by
  subst hn
  rw [List.drop_zero, List.take_of_length_le (l := bs.drop i) (by simp), List.take_append_drop]
/-- What a law's walk ends with. -/
def True' (w : World) (e : Ending) (w' : World) : Prop := e = .returned (.bool true) ∧ Below w.heap.size w w'
end Go.Proofs.YtdfbhgajomdeeaaDoor
