/-
  Arrays of numbers of one kind, of whatever length: how they are laid, read, written, compared, opened and shut. No program is named here; no conditions.
-/
import Derived.WalkKit
import Derived.ProofKit
import Derived.OpenShut
import Derived.Below
import Derived.Lib.Hide
import Derived.Deep.WholeRow
import Derived.Deep.MidRow
import Derived.ChangeKeysEq
import Derived.Laws.StructEq
import Derived.DataBytes
import Derived.Laws.Tables
namespace Go.Proofs.Ytoeboblkboillaa.Arr
open Go.ChangeShapes Go.WideShapes Go.ChangeAt Go.RowKit

/-- Numbers as values of one kind. -/
def nv (k : IntKind) (l : List Nat) : List Value := l.map fun (z : Nat) => Value.int k (z : Int)
abbrev na (k : IntKind) (l : List Nat) : Array Value := (nv k l).toArray
theorem length_nv (k : IntKind) (l : List Nat) : (nv k l).length = l.length := by simp [nv]
theorem size_na (k : IntKind) (l : List Nat) : (na k l).size = l.length := by simp [na, nv]
theorem nv_get (k : IntKind) (l : List Nat) (i : Nat) (h : i < l.length) : (nv k l)[i]? = some (.int k ((l.getD i 0 : Nat) : Int)) := by simp [nv, h]
theorem na_get (k : IntKind) (l : List Nat) (i : Nat) (h : i < l.length) : (na k l)[i]? = some (.int k ((l.getD i 0 : Nat) : Int)) := by simp [na, nv, h]
theorem nv_one (k : IntKind) (l : List Nat) : ∀ v ∈ nv k l, v.oneCell' = true := by
  intro v hv
  simp only [nv, List.mem_map] at hv
  obtain ⟨z, _, rfl⟩ := hv
  rfl
theorem nv_set (k : IntKind) (l : List Nat) (i c : Nat) : nv k (l.set i c) = (nv k l).set i (.int k (c : Int)) := by simp [nv, List.map_set]
theorem addr_ne {b b' o o' : Nat} (h : b ≠ b') : (⟨b, o, none⟩ : Addr) ≠ ⟨b', o', none⟩ := fun e => h (congrArg Addr.block e)

/-- The array's type in the program: n elements of kind k. Closed facts: 'by kernel_rfl'. -/
structure Of (P : Program) (t e : TypeId) (n : Nat) (k : IntKind) : Prop where
  hu : P.underlying t = some (.array n e)
  hi : (P.info? t).map (·.size) = some n
  he : P.underlying e = some (.int k)
  hz : (P.info? e).map (·.size) = some 1

section
variable {P : Program} {t e : TypeId} {n : Nat} {k : IntKind}

theorem Of.cellsE (o : Of P t e n k) : P.cellsOf e = 1 := by
  have h := o.hz
  cases hq : P.info? e with
  | none => simp [hq] at h
  | some i => simp [hq] at h; simp [Program.cellsOf, hq, h]
theorem Of.cellsT (o : Of P t e n k) : P.cellsOf t = n := by
  have h := o.hi
  cases hq : P.info? t with
  | none => simp [hq] at h
  | some i => simp [hq] at h; simp [Program.cellsOf, hq, h]

/-- Block g holds the numbers l from its beginning on, and they may be written. -/
def Holds (w : World) (g : Nat) (k : IntKind) (l : List Nat) : Prop := w.rangeAt g 0 (nv k l) ∧ w.there g 0 l.length

section
variable {w w' : World} {B g : Nat} {l : List Nat}
theorem Holds.cell (h : Holds w g k l) (i : Nat) (hi : i < l.length) : w.cell? ⟨g, i, none⟩ = some (.int k ((l.getD i 0 : Nat) : Int)) := by
  have := h.1 i _ (nv_get k l i hi)
  simpa using this
theorem Holds.frozen (h : Holds w g k l) (i : Nat) (hi : i < l.length) : w.frozen? ⟨g, i, none⟩ = false := by
  have := (h.2 i hi).2
  simpa using this
theorem Holds.lt (h : Holds w g k l) (hl : 0 < l.length) : g < w.heap.size := block_lt_of_cell (h.cell 0 hl)
theorem Holds.alloc (h : Holds w g k l) (o : Obj) : Holds (w.alloc o) g k l := ⟨World.rangeAt_alloc h.1 o, World.there_alloc h.2 o⟩
theorem Holds.drew (h : Holds w g k l) : Holds w.drew g k l := ⟨(World.rangeAt_drew ..).2 h.1, (World.there_drew ..).2 h.2⟩
theorem Holds.below (h : Holds w g k l) (hb : Below B w w') (hg : g < B) : Holds w' g k l :=
  ⟨fun j v hv => (hb.cell (p := ⟨g, 0 + j, none⟩) hg).trans (h.1 j v hv), fun j hj => by
    rw [hb.cell (p := ⟨g, 0 + j, none⟩) hg, hb.frozen (p := ⟨g, 0 + j, none⟩) hg]; exact h.2 j hj⟩
theorem Holds.new (w : World) (t : TypeId) (k : IntKind) (l : List Nat) : Holds (w.alloc (.cells (na k l) t)) w.heap.size k l := by
  have hg := heap_alloc_last w (.cells (na k l) t)
  refine ⟨fun j v hv => ?_, fun j hj => ⟨?_, ?_⟩⟩
  · rw [cell_of_row _ _ _ _ _ _ hg, Nat.zero_add]; simpa [na] using hv
  · rw [cell_of_row _ _ _ _ _ _ hg, Nat.zero_add, na_get k l j hj]; rfl
  · exact frozen_of_row _ _ _ _ _ hg
theorem Holds.set (h : Holds w g k l) (i c : Nat) (hi : i < l.length) : Holds (w.setCell ⟨g, i, none⟩ (.int k (c : Int))) g k (l.set i c) := by
  refine ⟨fun j v hv => ?_, fun j hj => ?_⟩
  · rw [nv_set] at hv
    by_cases e : j = i
    · subst e
      have hlt : j < (nv k l).length := by rw [length_nv]; exact hi
      rw [List.getElem?_set_self hlt] at hv
      rw [Nat.zero_add, World.cell?_setCell_same _ _ _ (h.cell j hi)]
      exact hv
    · rw [List.getElem?_set_ne (fun x => e x.symm)] at hv
      rw [World.cell?_setCell_other _ _ _ _ (fun x => e (by simpa using (Addr.mk.inj x).2.1.symm))]
      exact h.1 j v hv
  · have hj' : j < l.length := by simpa using hj
    rw [World.frozen?_setCell]
    refine ⟨?_, (h.2 j hj').2⟩
    by_cases e : j = i
    · subst e
      rw [Nat.zero_add, World.cell?_setCell_same _ _ _ (h.cell j hi)]; rfl
    · rw [World.cell?_setCell_other _ _ _ _ (fun x => e (by simpa using (Addr.mk.inj x).2.1.symm))]
      exact (h.2 j hj').1
theorem Holds.beside (h : Holds w g k l) (a : Addr) (v : Value) (hne : a.block ≠ g) : Holds (w.setCell a v) g k l := by
  have e : ∀ j, (w.setCell a v).cell? ⟨g, j, none⟩ = w.cell? ⟨g, j, none⟩ := fun j => World.cell?_setCell_other _ _ _ _ (fun x => hne (by rw [x]))
  refine ⟨fun j u hu => by rw [e]; exact h.1 j u hu, fun j hj => ?_⟩
  rw [World.frozen?_setCell, e]; exact h.2 j hj
theorem Holds.put (h : Holds w g k l) (m : List Nat) (hm : m.length = l.length) : Holds (w.setCells g 0 (nv k m)) g k m :=
  ⟨World.rangeAt_setCells_same _ _ _ _ (by rw [length_nv, hm]; exact h.2), by rw [hm]; exact World.there_setCells h.2 _ _ _⟩
theorem Holds.apart (h : Holds w g k l) (g' o : Nat) (vs : List Value) (hne : g ≠ g') : Holds (w.setCells g' o vs) g k l :=
  ⟨World.rangeAt_setCells_apart h.1 _ _ _ (.inl hne), World.there_setCells h.2 _ _ _⟩
end
theorem size_setCells (b : Nat) : ∀ (vs : List Value) (o : Nat) (w : World), (w.setCells b o vs).heap.size = w.heap.size
  | [], _, _ => rfl
  | v :: vs, o, w => by rw [World.setCells, size_setCells b vs]; simp
theorem below_setCells {B : Nat} {a : World} {b : Nat} (hb : B ≤ b) : ∀ (vs : List Value) (o : Nat) (w : World), Below B a w → Below B a (w.setCells b o vs)
  | [], _, _, h => h
  | v :: vs, o, w, h => by rw [World.setCells]; exact below_setCells hb vs _ _ (h.setCell (p := ⟨b, o, none⟩) hb v)
theorem below_alloc (w : World) (o : Obj) : Below w.heap.size w (w.alloc o) := (Below.refl _ _).alloc (Nat.le_refl _) o

/-- A whole array is read. -/
theorem load {ops : Array Oper} {rest : List Oper} {dst : Option Tmp} {ty : TypeId} {pos : String} {after : Array Edge} {x : Operand} {a : Act} {w : World} {Q : Exit → Act → World → Prop} (o : Of P t e n k) (g : Nat) (l : List Nat) (hl : l.length = n) (hb : Holds w g k l)
    (hx : a.eval x = .pointer (some ⟨g, 0, none⟩)) (h : wpList P ops Q rest (a.put dst (.agg (na k l))) w) : wpList P ops Q ({ dst := dst, op := .load t x, type := ty, pos := pos, after := after, guard := none } :: rest) a w :=
  wpList_load_mid rfl _ x rfl g 0 hx (nv k l) _ hb.1 o.hu rfl (by rw [length_nv, hl]; exact o.hi) h
/-- A whole array is read, under a guard or not. -/
theorem loadG {ops : Array Oper} {rest : List Oper} {dst : Option Tmp} {ty : TypeId} {pos : String} {after : Array Edge} {gd : Option (Nat × Bool)} {x : Operand} {a : Act} {w : World} {Q : Exit → Act → World → Prop} (o : Of P t e n k) (g : Nat) (l : List Nat) (hl : l.length = n) (hb : Holds w g k l)
    (hw : Region.wanted { dst := dst, op := .load t x, type := ty, pos := pos, after := after, guard := gd } (yielded ops a.tmps) = true)
    (hx : a.eval x = .pointer (some ⟨g, 0, none⟩)) (h : wpList P ops Q rest (a.put dst (.agg (na k l))) w) : wpList P ops Q ({ dst := dst, op := .load t x, type := ty, pos := pos, after := after, guard := gd } :: rest) a w :=
  wpList_step fun _ hK => by
    rw [if_pos hw]
    exact wp_load_mid t x rfl g 0 hx (nv k l) _ hb.1 o.hu rfl (by rw [length_nv, hl]; exact o.hi) (hK _ _ h)
/-- A whole array is written. -/
theorem store {ops : Array Oper} {rest : List Oper} {dst : Option Tmp} {ty : TypeId} {pos : String} {after : Array Edge} {x y : Operand} {a : Act} {w : World} {Q : Exit → Act → World → Prop} (o : Of P t e n k) (g : Nat) (l m : List Nat) (hl : l.length = n) (hb : Holds w g k l) (hm : m.length = n)
    (hx : a.eval x = .pointer (some ⟨g, 0, none⟩)) (hy : a.eval y = .agg (na k m)) (h : wpList P ops Q rest (a.put dst undef) (w.setCells g 0 (nv k m))) :
    wpList P ops Q ({ dst := dst, op := .store t x y, type := ty, pos := pos, after := after, guard := none } :: rest) a w :=
  wpList_store_mid rfl _ x y rfl g 0 (na k m) hx hy (by rw [size_na, hm, ← hl]; exact hb.2) (by rw [size_na, hm]; exact o.hi) (all_oneCell_toArray (nv_one k m)) (by simpa [na] using h)
theorem run_part (o : Of P t e n k) (w : World) (l : List Nat) (i : Nat) (hi : i < l.length) : (part e (na k l) (i * 1)).run P w = .ok (.int k ((l.getD i 0 : Nat) : Int)) w := by
  have h := nv_get k l i hi
  rw [Nat.mul_one]
  simp [part, isAgg, run_underlying o.he, h, Sem.run_bind]
/-- An element of an array that is a value. -/
theorem index (o : Of P t e n k) (w : World) (l : List Nat) (hl : l.length = n) (ik : IntKind) (i : Nat) (hi : i < n) : (Instr.index t (.agg (na k l)) (.int ik (i : Int))).run P w = .ok (.int k ((l.getD i 0 : Nat) : Int)) w := by
  have hp := run_part o w l i (by omega)
  have hz := o.hz
  cases hq : P.info? e with
  | none => simp [hq] at hz
  | some j =>
    simp [hq] at hz
    have h1 : ((i : Int) < (n : Int)) := by omega
    simp only [Instr.index, asIntOf, Sem.run_bind, Sem.run_pure, Result.andThen_ok, run_underlying o.hu, sizeOf, typeInfo]
    simp only [Int.natCast_nonneg, h1, and_self, if_true, Int.toNat_natCast]
    simp [hq, hz]
    simpa using hp
/-- Two arrays, compared. -/
theorem eqItems (o : Of P t e n k) (w : World) (d : Nat) (l m : List Nat) (hl : l.length = n) (hm : m.length = n) : ∀ (is : List Nat), (∀ i ∈ is, i < n) →
    (Op.eqItems (d + 1) e 1 (na k l) (na k m) is).run P w = .ok (is.all fun i => l.getD i 0 == m.getD i 0) w
  | [], _ => by simp [Op.eqItems]
  | i :: is, h => by
    have hi := h i (by simp)
    have p1 := run_part o w l i (by omega)
    have p2 := run_part o w m i (by omega)
    have p3 := run_equalIn_int (P := P) w d e k k ((l.getD i 0 : Nat) : Int) ((m.getD i 0 : Nat) : Int) o.he
    have ih := eqItems o w d l m hl hm is (fun j hj => h j (by simp [hj]))
    have e : ((((l.getD i 0 : Nat) : Int)) == ((m.getD i 0 : Nat) : Int)) = (l.getD i 0 == m.getD i 0) := by
      rw [Bool.eq_iff_iff]; simp only [beq_iff_eq]; omega
    rw [e] at p3
    simp only [Op.eqItems, Sem.run_bind, p1, p2, p3, Result.andThen_ok, List.all_cons]
    cases hb : (l.getD i 0 == m.getD i 0)
    · simp
    · simpa using ih
theorem list_eq {l m : List Nat} (h1 : l.length = n) (h2 : m.length = n) (h : ∀ i, i < n → l.getD i 0 = m.getD i 0) : l = m := by
  apply List.ext_getElem (by omega)
  intro i a b
  have := h i (by omega)
  simpa [a, b] using this
theorem all_eq {l m : List Nat} (hl : l.length = n) (hm : m.length = n) : ((List.range n).all fun i => l.getD i 0 == m.getD i 0) = decide (l = m) := by
  rw [Bool.eq_iff_iff]
  simp only [List.all_eq_true, List.mem_range, beq_iff_eq, decide_eq_true_eq]
  exact ⟨fun h => list_eq hl hm h, fun h => by subst h; simp⟩
theorem eql (o : Of P t e n k) (w : World) (l m : List Nat) (hl : l.length = n) (hm : m.length = n) : (Op.equalIn 10000 t (.agg (na k l)) (.agg (na k m))).run P w = .ok (decide (l = m)) w := by
  have hz := o.hz
  cases hq : P.info? e with
  | none => simp [hq] at hz
  | some i => rw [run_equalIn_array w 9999 (na k l) (na k m) o.hu hq, o.cellsE, eqItems o w 9998 l m hl hm _ (fun i h => List.mem_range.1 h), all_eq hl hm]
/-- An array handed back by a cell. -/
theorem results_arr (o : Of P t e n k) {fn : Func} {p : Tmp} (h : fn.results = #[.cell p t]) (tmps : Array Value) (w : World) (g : Nat) (l : List Nat) (hl : l.length = n) (hb : Holds w g k l) (hp : tmps.getD p undef = .pointer (some ⟨g, 0, none⟩)) :
    (results fn tmps).run P w = .ok (.agg (na k l)) w := by
  have hp' : tmps[p]?.getD undef = .pointer (some ⟨g, 0, none⟩) := by simpa using hp
  have := run_loadVar_mid (P := P) w g 0 t (nv k l) _ hb.1 o.hu rfl (by rw [length_nv, hl]; exact o.hi)
  simp [results, h, hp', asAddr, this, na]
/-! values of any kind of one cell -/
/-- Block g holds the values vs from its beginning on, and they may be written. -/
def HV (w : World) (g : Nat) (vs : List Value) : Prop := w.rangeAt g 0 vs ∧ w.there g 0 vs.length
section
variable {w w' : World} {B g : Nat} {vs : List Value}
theorem HV.cell (h : HV w g vs) (i : Nat) (v : Value) (hv : vs[i]? = some v) : w.cell? ⟨g, i, none⟩ = some v := by
  have := h.1 i _ hv
  simpa using this
theorem HV.frozen (h : HV w g vs) (i : Nat) (hi : i < vs.length) : w.frozen? ⟨g, i, none⟩ = false := by
  have := (h.2 i hi).2
  simpa using this
theorem HV.alloc (h : HV w g vs) (o : Obj) : HV (w.alloc o) g vs := ⟨World.rangeAt_alloc h.1 o, World.there_alloc h.2 o⟩
theorem HV.below (h : HV w g vs) (hb : Below B w w') (hg : g < B) : HV w' g vs :=
  ⟨fun j v hv => (hb.cell (p := ⟨g, 0 + j, none⟩) hg).trans (h.1 j v hv), fun j hj => by
    rw [hb.cell (p := ⟨g, 0 + j, none⟩) hg, hb.frozen (p := ⟨g, 0 + j, none⟩) hg]; exact h.2 j hj⟩
theorem HV.new (w : World) (t : TypeId) (vs : List Value) : HV (w.alloc (.cells vs.toArray t)) w.heap.size vs := by
  have hg := heap_alloc_last w (.cells vs.toArray t)
  refine ⟨fun j v hv => ?_, fun j hj => ⟨?_, ?_⟩⟩
  · rw [cell_of_row _ _ _ _ _ _ hg, Nat.zero_add]; simpa using hv
  · rw [cell_of_row _ _ _ _ _ _ hg, Nat.zero_add]; simp [hj]
  · exact frozen_of_row _ _ _ _ _ hg
theorem HV.set (h : HV w g vs) (i : Nat) (c : Value) (hi : i < vs.length) : HV (w.setCell ⟨g, i, none⟩ c) g (vs.set i c) := by
  have hc : w.cell? ⟨g, i, none⟩ = some vs[i] := h.cell i _ (List.getElem?_eq_getElem hi)
  refine ⟨fun j v hv => ?_, fun j hj => ?_⟩
  · by_cases e : j = i
    · subst e
      rw [List.getElem?_set_self hi] at hv
      rw [Nat.zero_add, World.cell?_setCell_same _ _ _ hc]
      exact hv
    · rw [List.getElem?_set_ne (fun x => e x.symm)] at hv
      rw [World.cell?_setCell_other _ _ _ _ (fun x => e (by simpa using (Addr.mk.inj x).2.1.symm))]
      exact h.1 j v hv
  · have hj' : j < vs.length := by simpa using hj
    rw [World.frozen?_setCell]
    refine ⟨?_, (h.2 j hj').2⟩
    by_cases e : j = i
    · subst e
      rw [Nat.zero_add, World.cell?_setCell_same _ _ _ hc]; rfl
    · rw [World.cell?_setCell_other _ _ _ _ (fun x => e (by simpa using (Addr.mk.inj x).2.1.symm))]
      exact (h.2 j hj').1
theorem HV.beside (h : HV w g vs) (a : Addr) (v : Value) (hne : a.block ≠ g) : HV (w.setCell a v) g vs := by
  have e : ∀ j, (w.setCell a v).cell? ⟨g, j, none⟩ = w.cell? ⟨g, j, none⟩ := fun j => World.cell?_setCell_other _ _ _ _ (fun x => hne (by rw [x]))
  refine ⟨fun j u hu => by rw [e]; exact h.1 j u hu, fun j hj => ?_⟩
  rw [World.frozen?_setCell, e]; exact h.2 j hj
theorem HV.apart (h : HV w g vs) (g' o : Nat) (us : List Value) (hne : g ≠ g') : HV (w.setCells g' o us) g vs :=
  ⟨World.rangeAt_setCells_apart h.1 _ _ _ (.inl hne), World.there_setCells h.2 _ _ _⟩
end
/-- Noughts. -/
def zs (n : Nat) : List Nat := List.replicate n 0
theorem length_zs (n : Nat) : (zs n).length = n := by simp [zs]
theorem zs_get (n i : Nat) : (zs n).getD i 0 = 0 := by
  unfold zs
  by_cases h : i < n
  · simp [h]
  · simp [h]
/-- A new variable, what it begins with told. -/
theorem alloc {ops : Array Oper} {rest : List Oper} {dst : Option Tmp} {ty : TypeId} {pos : String} {after : Array Edge} {a : Act} {w : World} {Q : Exit → Act → World → Prop} (cs : Array Value) (hz : (P.info? t).bind (·.zero) = some (.agg cs))
    (h : wpList P ops Q rest (a.put dst (.pointer (some ⟨w.heap.size, 0, none⟩))) (w.alloc (.cells cs t))) : wpList P ops Q ({ dst := dst, op := .alloc t, type := ty, pos := pos, after := after, guard := none } :: rest) a w := by
  refine wpList_plain rfl fun K hK => ?_
  cases hq : P.info? t with
  | none => simp [hq] at hz
  | some i =>
    simp only [hq, Option.bind_some] at hz
    unfold Oper.wp execOp
    have e : (Instr.alloc t true (.tuple #[])).run P w = .ok (.pointer (some ⟨w.heap.size, 0, none⟩)) (w.alloc (.cells cs t)) := by
      simp [Instr.alloc, zeroValue, typeInfo, hq, hz, Value.cells, newVar, newRow]
    simp only [Sem.run_bind, e, Sem.run_pure, Result.andThen_ok]
    exact hK _ _ h
/-- An array that is nothing but noughts, as a value. -/
theorem build_none {ops : Array Oper} {rest : List Oper} {dst : Option Tmp} {ty : TypeId} {pos : String} {after : Array Edge} {a : Act} {w : World} {Q : Exit → Act → World → Prop} (cs : Array Value) (hz : P.built t [] = some cs)
    (h : wpList P ops Q rest (a.put dst (.agg cs)) w) : wpList P ops Q ({ dst := dst, op := .build t #[], type := ty, pos := pos, after := after, guard := none } :: rest) a w :=
  wpList_build rfl t #[] rfl (by simp [hz]) (by simpa [hz] using h)
/-- An array handed back by a cell, and a second answer behind it. -/
theorem results_arr2 (o : Of P t e n k) {fn : Func} {p q : Tmp} (h : fn.results = #[.cell p t, .tmp q]) (tmps : Array Value) (w : World) (g : Nat) (l : List Nat) (hl : l.length = n) (hb : Holds w g k l) (hp : tmps.getD p undef = .pointer (some ⟨g, 0, none⟩)) (v : Value) (hq : tmps.getD q undef = v) :
    (results fn tmps).run P w = .ok (.tuple #[.agg (na k l), v]) w := by
  have hp' : tmps[p]?.getD undef = .pointer (some ⟨g, 0, none⟩) := by simpa using hp
  have hq' : tmps[q]?.getD undef = v := by simpa using hq
  have := run_loadVar_mid (P := P) w g 0 t (nv k l) _ hb.1 o.hu rfl (by rw [length_nv, hl]; exact o.hi)
  simp [results, h, hp', hq', asAddr, this, na]
end
section
variable {H : Type} {enc : TypeId × Value → H} {P : Program} {w : World} {base : Nat} {spare : Nat → Bool} {held : Bool}

/-- Bytes as data. -/
def bdat (H : Type) (l : List Nat) : DataW H := .agg (l.map fun (z : Nat) => .lit (.int .u8 (z : Int)))

theorem wf_u8 (z : Nat) (h : z < 256) : (Lit.int .u8 (z : Int)).wf = true := by
  have : ∀ z : Nat, z < 256 → (Lit.int .u8 (z : Int)).wf = true := by decide +kernel
  exact this z h

theorem open_arr {r : Reach} {b0 n : Nat} {t e : TypeId} {v : Value} {d : DataW H} {p : List MemPlace} (ht : P.underlying t = some (.array n e)) (he : P.underlying e = some (.int .u8)) (hce : P.cellsOf e = 1) (hct : P.cellsOf t = n)
    (hv : Value.okWide P w r b0 t v) (h : DataW.Trod enc P w base spare held t v d p) :
    ∃ l : List Nat, l.length = n ∧ (∀ i, l.getD i 0 < 256) ∧ v = .agg (na .u8 l) ∧ d = bdat H l ∧ p = [] := by
  obtain ⟨cs, rfl, hsz⟩ : ∃ cs, v = .agg cs ∧ cs.size = P.cellsOf t := by
    simp only [Value.okWide, ht] at hv
    obtain ⟨cs, h1, h2, _⟩ := hv
    exact ⟨cs, h1, h2⟩
  rw [hct] at hsz
  obtain ⟨fuel, hf⟩ := h
  obtain ⟨ys, m, _, hx, _, hyl, hg⟩ := DataW.trod_array ht hf
  have hcs : (Value.agg cs).cells.toList = cs.toList := rfl
  rw [hcs] at hg
  have key : ∀ i, ∃ z : Nat, i < n → z < 256 ∧ cs[i]? = some (.int .u8 (z : Int)) ∧ ys[i]? = some (.lit (.int .u8 (z : Int)), []) := by
    intro i
    by_cases hi : i < n
    · have h1 := hg i hi
      rw [hce, Nat.mul_one] at h1
      have hyi : ys[i]? = some (ys[i]'(by omega)) := List.getElem?_eq_getElem (by omega)
      rw [hyi] at h1
      obtain ⟨z, e1, e2, e3⟩ := DataW.trod_int he h1
      have hb := bounds_u8 e3
      have hci : cs.toList[i]? = some (.int .u8 z) := by
        have : (cs.toList.drop i)[0]? = some (.int .u8 z) := by
          have := congrArg (fun l => l[0]?) e1
          simpa using this
        simpa using this
      refine ⟨z.toNat, fun _ => ⟨by omega, ?_, ?_⟩⟩
      · rw [Int.toNat_of_nonneg (by omega)]; simpa using hci
      · rw [hyi, e2, Int.toNat_of_nonneg (by omega)]
    · exact ⟨0, fun h => absurd h hi⟩
  obtain ⟨f, hf'⟩ := Classical.axiomOfChoice key
  have hl : ((List.range n).map f).length = n := by simp
  have hgl : ∀ i, i < n → ((List.range n).map f)[i]? = some (f i) := fun i hi => by simp [hi]
  refine ⟨(List.range n).map f, hl, fun i => ?_, ?_, ?_, ?_⟩
  · by_cases hi : i < n
    · rw [List.getD_eq_getElem?_getD, hgl i hi]; exact (hf' i hi).1
    · rw [List.getD_eq_getElem?_getD, List.getElem?_eq_none (by omega)]; simp
  · congr 1
    apply Array.ext_getElem?
    intro i
    by_cases hi : i < n
    · rw [(hf' i hi).2.1]
      simp [na, nv, hi]
    · rw [Array.getElem?_eq_none (by omega), Array.getElem?_eq_none (by simp [na, nv]; omega)]
  · simp only [Prod.mk.injEq] at hx
    rw [hx.1]
    unfold bdat
    congr 1
    apply List.ext_getElem?
    intro i
    by_cases hi : i < n
    · rw [List.getElem?_map, (hf' i hi).2.2]
      simp [hi]
    · rw [List.getElem?_eq_none (by simp; omega), List.getElem?_eq_none (by simp; omega)]
  · simp only [Prod.mk.injEq] at hx
    rw [hx.2]
    rw [List.flatMap_eq_nil_iff]
    intro y hy
    obtain ⟨i, hi⟩ := List.getElem?_of_mem hy
    have hin : i < n := by
      have := (List.getElem?_eq_some_iff.1 hi).1
      omega
    rw [(hf' i hin).2.2] at hi
    cases hi
    rfl

theorem shut_arr {n : Nat} {t e : TypeId} {l : List Nat} (ht : P.underlying t = some (.array n e)) (he : P.underlying e = some (.int .u8)) (hce : P.cellsOf e = 1) (hct : P.cellsOf t = n)
    (hl : l.length = n) (hb : ∀ i, l.getD i 0 < 256) : DataW.Trod enc P w base spare held t (.agg (na .u8 l)) (bdat H l) [] := by
  refine ⟨2, ?_⟩
  have hcs : (Value.agg (na .u8 l)).cells.toList = nv .u8 l := by simp [Value.cells, na]
  rw [hcs]
  have hmap : (List.range n).mapM (fun i => DataW.trod enc P w base spare held 1 e (((nv .u8 l).drop (i * P.cellsOf e)).take (P.cellsOf e))) = some ((List.range n).map fun i => ((.lit (.int .u8 ((l.getD i 0 : Nat) : Int)), []) : DataW H × List MemPlace)) := by
    refine mapM_some_of_forall _ (fun i hi => ?_)
    have hin := List.mem_range.1 hi
    have h1 : ((nv .u8 l).drop (i * P.cellsOf e)).take (P.cellsOf e) = [.int .u8 ((l.getD i 0 : Nat) : Int)] := by
      rw [hce, Nat.mul_one]
      have hlt : i < (nv .u8 l).length := by rw [length_nv]; omega
      rw [List.drop_eq_getElem_cons hlt]
      have := nv_get .u8 l i (by omega)
      rw [List.getElem?_eq_getElem hlt] at this
      simp only [Option.some.injEq] at this
      rw [this]
      rfl
    rw [h1]
    have hw := wf_u8 _ (hb i)
    unfold DataW.trod
    rw [he]
    simp only [true_and, hw, if_true]
  have e2 : (List.range n).map (fun i => ((.lit (.int .u8 ((l.getD i 0 : Nat) : Int)), []) : DataW H × List MemPlace)) = l.map fun (z : Nat) => ((.lit (.int .u8 (z : Int)), []) : DataW H × List MemPlace) := by
    apply List.ext_getElem (by simp [hl])
    intro i h1 h2
    have : i < l.length := by simpa using h2
    simp [this]
  unfold DataW.trod
  rw [ht]
  simp only [length_nv, hl, hct, if_true, hmap, e2, Option.map_some]
  simp [bdat, List.flatMap, List.map_map, Function.comp_def]
end

end Go.Proofs.Ytoeboblkboillaa.Arr
