/-
  Blocks: arrays of 16 bytes, by value. Own lemmas: how they are laid, read, written and shut. No conditions.
-/
import Derived.Test.YtaibegafoncddaaRows
import Derived.WalkKit
import Derived.ProofKit
import Derived.OpenShut
import Derived.Below
import Derived.Lib.Hide
import Derived.Deep.WholeRow
import Derived.Deep.MidRow
import Derived.ChangeKeysEq
import Derived.Laws.StructEq
namespace Go.Proofs.Ytaibegafoncddaa
open Go.ChangeShapes Go.WideShapes Go.ChangeAt Go.RowKit

/-- Bytes as values. -/
def bv (l : List Nat) : List Value := l.map fun (z : Nat) => Value.int .u8 (z : Int)
abbrev blk (l : List Nat) : Array Value := (bv l).toArray
theorem length_bv (l : List Nat) : (bv l).length = l.length := by simp [bv]
theorem size_blk (l : List Nat) : (blk l).size = l.length := by simp [blk, bv]
theorem bv_get (l : List Nat) (i : Nat) (h : i < l.length) : (bv l)[i]? = some (.int .u8 ((l.getD i 0 : Nat) : Int)) := by simp [bv, h]
theorem blk_get (l : List Nat) (i : Nat) (h : i < l.length) : (blk l)[i]? = some (.int .u8 ((l.getD i 0 : Nat) : Int)) := by simp [blk, bv, h]
theorem bv_one (l : List Nat) : ∀ v ∈ bv l, v.oneCell' = true := by
  intro v hv
  simp only [bv, List.mem_map] at hv
  obtain ⟨z, _, rfl⟩ := hv
  rfl
theorem bv_set (l : List Nat) (k c : Nat) : bv (l.set k c) = (bv l).set k (.int .u8 (c : Int)) := by simp [bv, List.map_set]
theorem bv_inj {l m : List Nat} (h : bv l = bv m) : l = m := by
  refine (List.map_inj_right (fun a b hab => ?_)).1 h
  simp only [Value.int.injEq, true_and] at hab
  omega
theorem info_blk : (Try.prog.info? 29).map (·.size) = some 16 := by kernel_rfl
theorem info_blk' (l : List Nat) (hl : l.length = 16) : (Try.prog.info? 29).map (·.size) = some (bv l).length := by rw [length_bv, hl]; exact info_blk
theorem cells_blk : Try.prog.cellsOf 29 = 16 := by kernel_rfl
theorem cells_byte : Try.prog.cellsOf 5 = 1 := by kernel_rfl
def zeros : List Nat := List.replicate 16 0
theorem blk_zeros : blk zeros = #[.int .u8 0, .int .u8 0, .int .u8 0, .int .u8 0, .int .u8 0, .int .u8 0, .int .u8 0, .int .u8 0, .int .u8 0, .int .u8 0, .int .u8 0, .int .u8 0, .int .u8 0, .int .u8 0, .int .u8 0, .int .u8 0] := rfl

/-- Block g holds the bytes l, and may be written. -/
def Blk (w : World) (g : Nat) (l : List Nat) : Prop := l.length = 16 ∧ w.rangeAt g 0 (bv l) ∧ w.there g 0 16

theorem Blk.cell {w : World} {g : Nat} {l : List Nat} (h : Blk w g l) (k : Nat) (hk : k < 16) : w.cell? ⟨g, k, none⟩ = some (.int .u8 ((l.getD k 0 : Nat) : Int)) := by
  have := h.2.1 k _ (bv_get l k (by rw [h.1]; exact hk))
  simpa using this
theorem Blk.frozen {w : World} {g : Nat} {l : List Nat} (h : Blk w g l) (k : Nat) (hk : k < 16) : w.frozen? ⟨g, k, none⟩ = false := by
  have := (h.2.2 k hk).2
  simpa using this
theorem Blk.lt {w : World} {g : Nat} {l : List Nat} (h : Blk w g l) : g < w.heap.size := block_lt_of_cell (h.cell 0 (by omega))
theorem Blk.alloc {w : World} {g : Nat} {l : List Nat} (h : Blk w g l) (o : Obj) : Blk (w.alloc o) g l := ⟨h.1, World.rangeAt_alloc h.2.1 o, World.there_alloc h.2.2 o⟩
theorem Blk.drew {w : World} {g : Nat} {l : List Nat} (h : Blk w g l) : Blk w.drew g l := ⟨h.1, (World.rangeAt_drew ..).2 h.2.1, (World.there_drew ..).2 h.2.2⟩
theorem Blk.below {w w' : World} {B g : Nat} {l : List Nat} (h : Blk w g l) (hb : Below B w w') (hg : g < B) : Blk w' g l :=
  ⟨h.1, fun j v hv => (hb.cell (p := ⟨g, 0 + j, none⟩) hg).trans (h.2.1 j v hv), fun j hj => by
    rw [hb.cell (p := ⟨g, 0 + j, none⟩) hg, hb.frozen (p := ⟨g, 0 + j, none⟩) hg]; exact h.2.2 j hj⟩
theorem Blk.new (w : World) (l : List Nat) (hl : l.length = 16) : Blk (w.alloc (.cells (blk l) 29)) w.heap.size l := by
  have hg := heap_alloc_last w (.cells (blk l) 29)
  refine ⟨hl, fun j v hv => ?_, fun j hj => ⟨?_, ?_⟩⟩
  · rw [cell_of_row _ _ _ _ _ _ hg, Nat.zero_add]; simpa [blk] using hv
  · rw [cell_of_row _ _ _ _ _ _ hg, Nat.zero_add, blk_get l j (by omega)]; rfl
  · exact frozen_of_row _ _ _ _ _ hg
theorem Blk.set {w : World} {g : Nat} {l : List Nat} (h : Blk w g l) (k c : Nat) (hk : k < 16) : Blk (w.setCell ⟨g, k, none⟩ (.int .u8 (c : Int))) g (l.set k c) := by
  refine ⟨by simp [h.1], fun j v hv => ?_, fun j hj => ?_⟩
  · rw [bv_set] at hv
    by_cases e : j = k
    · subst e
      have hlt : j < (bv l).length := by rw [length_bv, h.1]; exact hk
      rw [List.getElem?_set_self hlt] at hv
      rw [Nat.zero_add, World.cell?_setCell_same _ _ _ (h.cell j hk)]
      exact hv
    · rw [List.getElem?_set_ne (fun x => e x.symm)] at hv
      rw [World.cell?_setCell_other _ _ _ _ (fun x => e (by simpa using (Addr.mk.inj x).2.1.symm))]
      exact h.2.1 j v hv
  · rw [World.frozen?_setCell]
    refine ⟨?_, (h.2.2 j hj).2⟩
    by_cases e : j = k
    · subst e
      rw [Nat.zero_add, World.cell?_setCell_same _ _ _ (h.cell j hk)]; rfl
    · rw [World.cell?_setCell_other _ _ _ _ (fun x => e (by simpa using (Addr.mk.inj x).2.1.symm))]
      exact (h.2.2 j hj).1
theorem addr_ne {b b' o o' : Nat} (h : b ≠ b') : (⟨b, o, none⟩ : Addr) ≠ ⟨b', o', none⟩ := fun e => h (congrArg Addr.block e)
theorem Blk.beside {w : World} {g : Nat} {l : List Nat} (h : Blk w g l) (a : Addr) (v : Value) (hne : a.block ≠ g) : Blk (w.setCell a v) g l := by
  have e : ∀ j, (w.setCell a v).cell? ⟨g, j, none⟩ = w.cell? ⟨g, j, none⟩ := fun j => World.cell?_setCell_other _ _ _ _ (fun x => hne (by rw [x]))
  refine ⟨h.1, fun j u hu => by rw [e]; exact h.2.1 j u hu, fun j hj => ?_⟩
  rw [World.frozen?_setCell, e]; exact h.2.2 j hj
theorem Blk.put {w : World} {g : Nat} {l : List Nat} (h : Blk w g l) (m : List Nat) (hm : m.length = 16) : Blk (w.setCells g 0 (bv m)) g m :=
  ⟨hm, World.rangeAt_setCells_same _ _ _ _ (by rw [length_bv, hm]; exact h.2.2), World.there_setCells h.2.2 _ _ _⟩
theorem Blk.apart {w : World} {g : Nat} {l : List Nat} (h : Blk w g l) (g' o : Nat) (vs : List Value) (hne : g ≠ g') : Blk (w.setCells g' o vs) g l :=
  ⟨h.1, World.rangeAt_setCells_apart h.2.1 _ _ _ (.inl hne), World.there_setCells h.2.2 _ _ _⟩
theorem size_setCells (b : Nat) : ∀ (vs : List Value) (o : Nat) (w : World), (w.setCells b o vs).heap.size = w.heap.size
  | [], _, _ => rfl
  | v :: vs, o, w => by rw [World.setCells, size_setCells b vs]; simp
theorem Below.setCells {B : Nat} {a : World} {b : Nat} (hb : B ≤ b) : ∀ (vs : List Value) (o : Nat) (w : World), Below B a w → Below B a (w.setCells b o vs)
  | [], _, _, h => h
  | v :: vs, o, w, h => by rw [World.setCells]; exact Below.setCells hb vs _ _ (h.setCell (p := ⟨b, o, none⟩) hb v)

/-- A whole block is read. -/
theorem load_blk {ops : Array Oper} {rest : List Oper} {dst : Option Tmp} {ty : TypeId} {pos : String} {after : Array Edge} {x : Operand} {a : Act} {w : World} {Q : Exit → Act → World → Prop} (g : Nat) (l : List Nat) (hb : Blk w g l)
    (hx : a.eval x = .pointer (some ⟨g, 0, none⟩)) (h : wpList Try.prog ops Q rest (a.put dst (.agg (blk l))) w) : wpList Try.prog ops Q ({ dst := dst, op := .load 29 x, type := ty, pos := pos, after := after, guard := none } :: rest) a w :=
  wpList_load_mid rfl _ x rfl g 0 hx (bv l) _ hb.2.1 Try.underlying29 rfl (info_blk' l hb.1) h
/-- A whole block is written. -/
theorem store_blk {ops : Array Oper} {rest : List Oper} {dst : Option Tmp} {ty : TypeId} {pos : String} {after : Array Edge} {x y : Operand} {a : Act} {w : World} {Q : Exit → Act → World → Prop} (g : Nat) (l m : List Nat) (hb : Blk w g l) (hm : m.length = 16)
    (hx : a.eval x = .pointer (some ⟨g, 0, none⟩)) (hy : a.eval y = .agg (blk m)) (h : wpList Try.prog ops Q rest (a.put dst undef) (w.setCells g 0 (bv m))) :
    wpList Try.prog ops Q ({ dst := dst, op := .store 29 x y, type := ty, pos := pos, after := after, guard := none } :: rest) a w :=
  wpList_store_mid rfl _ x y rfl g 0 (blk m) hx hy (by rw [size_blk, hm]; exact hb.2.2) (by rw [size_blk, hm]; exact info_blk) (all_oneCell_toArray (bv_one m)) (by simpa [blk] using h)
/-- A byte of a block that is a value. -/
theorem index_blk (w : World) (l : List Nat) (hl : l.length = 16) (k : Nat) (hk : k < 16) : (Instr.index 29 (.agg (blk l)) (.int .i64 (k : Int))).run Try.prog w = .ok (.int .u8 ((l.getD k 0 : Nat) : Int)) w := by
  have h := bv_get l k (by omega)
  simp [Instr.index, asIntOf, part, h, hk, Sem.run_bind]
/-- Two blocks, compared. -/
theorem eqItems_blk (w : World) (d : Nat) (l m : List Nat) (hl : l.length = 16) (hm : m.length = 16) : ∀ (is : List Nat), (∀ i ∈ is, i < 16) →
    (Op.eqItems (d + 1) 5 1 (blk l) (blk m) is).run Try.prog w = .ok (is.all fun i => l.getD i 0 == m.getD i 0) w
  | [], _ => by simp [Op.eqItems]
  | i :: is, h => by
    have hi := h i (by simp)
    have h1 := blk_get l i (by omega)
    have h2 := blk_get m i (by omega)
    have p1 : (part 5 (blk l) (i * 1)).run Try.prog w = .ok (.int .u8 ((l.getD i 0 : Nat) : Int)) w := by rw [Nat.mul_one]; simp [part, h1, Sem.run_bind]
    have p2 : (part 5 (blk m) (i * 1)).run Try.prog w = .ok (.int .u8 ((m.getD i 0 : Nat) : Int)) w := by rw [Nat.mul_one]; simp [part, h2, Sem.run_bind]
    have p3 := run_equalIn_int (P := Try.prog) w d 5 .u8 .u8 ((l.getD i 0 : Nat) : Int) ((m.getD i 0 : Nat) : Int) Try.underlying5
    have ih := eqItems_blk w d l m hl hm is (fun j hj => h j (by simp [hj]))
    have e : ((((l.getD i 0 : Nat) : Int)) == ((m.getD i 0 : Nat) : Int)) = (l.getD i 0 == m.getD i 0) := by
      rw [Bool.eq_iff_iff]; simp only [beq_iff_eq]; omega
    rw [e] at p3
    simp only [Op.eqItems, Sem.run_bind, p1, p2, p3, Result.andThen_ok, List.all_cons]
    cases hb : (l.getD i 0 == m.getD i 0)
    · simp
    · simpa using ih
theorem info_byte : ∃ i, Try.prog.info? 5 = some i := by
  have : (Try.prog.info? 5).isSome = true := by kernel_rfl
  exact Option.isSome_iff_exists.1 this
theorem all_eq {l m : List Nat} (hl : l.length = 16) (hm : m.length = 16) : ((List.range 16).all fun i => l.getD i 0 == m.getD i 0) = decide (l = m) := by
  rw [Bool.eq_iff_iff]
  simp only [List.all_eq_true, List.mem_range, beq_iff_eq, decide_eq_true_eq]
  constructor
  · intro h
    apply List.ext_getElem (by omega)
    intro i h1 h2
    have := h i (by omega)
    simpa [h1, h2] using this
  · intro h; subst h; simp
theorem eql_blk (w : World) (l m : List Nat) (hl : l.length = 16) (hm : m.length = 16) : (Op.equalIn 10000 29 (.agg (blk l)) (.agg (blk m))).run Try.prog w = .ok (decide (l = m)) w := by
  obtain ⟨i, hi⟩ := info_byte
  rw [run_equalIn_array w 9999 (blk l) (blk m) Try.underlying29 hi, cells_byte, eqItems_blk w 9998 l m hl hm _ (fun i h => List.mem_range.1 h), all_eq hl hm]
/-- A block handed back by a cell. -/
theorem results_blk {fn : Func} {p : Tmp} (h : fn.results = #[.cell p 29]) (tmps : Array Value) (w : World) (g : Nat) (l : List Nat) (hb : Blk w g l) (hp : tmps.getD p undef = .pointer (some ⟨g, 0, none⟩)) :
    (results fn tmps).run Try.prog w = .ok (.agg (blk l)) w := by
  have hp' : tmps[p]?.getD undef = .pointer (some ⟨g, 0, none⟩) := by simpa using hp
  have := run_loadVar_mid (P := Try.prog) w g 0 29 (bv l) _ hb.2.1 Try.underlying29 rfl (info_blk' l hb.1)
  simp [results, h, hp', asAddr, this, blk]
end Go.Proofs.Ytaibegafoncddaa
