/-
  Blocks: arrays of 16 bytes, by value. Own lemmas: how they are laid, read, written and shut. No conditions.
  The contract of gf.Double.
-/
import Derived.Test.YtdjknmnmacppdaaDoorRows
import Derived.WalkKit
import Derived.ProofKit
import Derived.OpenShut
import Derived.Below
import Derived.Lib.Hide
import Derived.Deep.WholeRow
import Derived.Deep.MidRow
import Derived.ChangeKeysEq
import Derived.Laws.StructEq
import Derived.Test.YtdjknmnmacppdaaDoorBoxAll
namespace Go.Proofs.YtdjknmnmacppdaaDoor
open Go.ChangeShapes Go.WideShapes Go.ChangeAt Go.RowKit

/-- Bytes as values. -/
def bv (l : List Nat) : List Value := l.map fun (z : Nat) => Value.int .u8 (z : Int)
abbrev blk (l : List Nat) : Array Value := (bv l).toArray
theorem length_bv (l : List Nat) : (bv l).length = l.length := by simp [bv]
theorem size_blk (l : List Nat) : (blk l).size = l.length := by simp [blk, bv]
theorem bv_get (l : List Nat) (i : Nat) (h : i < l.length) : (bv l)[i]? = some (.int .u8 ((l.getD i 0 : Nat) : Int)) := by simp [bv, h]
theorem blk_get (l : List Nat) (i : Nat) (h : i < l.length) : (blk l)[i]? = some (.int .u8 ((l.getD i 0 : Nat) : Int)) := by simp [blk, bv, h]
theorem bv_one (l : List Nat) : ∀ v ∈ bv l, v.oneCell' = true := by
  intro v hv
  simp only [bv, List.mem_map] at hv
  obtain ⟨z, _, rfl⟩ := hv
  rfl
theorem bv_set (l : List Nat) (k c : Nat) : bv (l.set k c) = (bv l).set k (.int .u8 (c : Int)) := by simp [bv, List.map_set]
theorem bv_inj {l m : List Nat} (h : bv l = bv m) : l = m := by
  refine (List.map_inj_right (fun a b hab => ?_)).1 h
  simp only [Value.int.injEq, true_and] at hab
  omega
theorem info_blk : (Tryd.prog.info? 34).map (·.size) = some 16 := by kernel_rfl
theorem info_blk' (l : List Nat) (hl : l.length = 16) : (Tryd.prog.info? 34).map (·.size) = some (bv l).length := by rw [length_bv, hl]; exact info_blk
theorem cells_blk : Tryd.prog.cellsOf 34 = 16 := by kernel_rfl
theorem cells_byte : Tryd.prog.cellsOf 5 = 1 := by kernel_rfl
def zeros : List Nat := List.replicate 16 0
theorem blk_zeros : blk zeros = #[.int .u8 0, .int .u8 0, .int .u8 0, .int .u8 0, .int .u8 0, .int .u8 0, .int .u8 0, .int .u8 0, .int .u8 0, .int .u8 0, .int .u8 0, .int .u8 0, .int .u8 0, .int .u8 0, .int .u8 0, .int .u8 0] := rfl

/-- Block g holds the bytes l, and may be written. -/
def Blk (w : World) (g : Nat) (l : List Nat) : Prop := l.length = 16 ∧ w.rangeAt g 0 (bv l) ∧ w.there g 0 16

theorem Blk.cell {w : World} {g : Nat} {l : List Nat} (h : Blk w g l) (k : Nat) (hk : k < 16) : w.cell? ⟨g, k, none⟩ = some (.int .u8 ((l.getD k 0 : Nat) : Int)) := by
  have := h.2.1 k _ (bv_get l k (by rw [h.1]; exact hk))
  simpa using this
theorem Blk.frozen {w : World} {g : Nat} {l : List Nat} (h : Blk w g l) (k : Nat) (hk : k < 16) : w.frozen? ⟨g, k, none⟩ = false := by
  have := (h.2.2 k hk).2
  simpa using this
theorem Blk.lt {w : World} {g : Nat} {l : List Nat} (h : Blk w g l) : g < w.heap.size := block_lt_of_cell (h.cell 0 (by omega))
theorem Blk.alloc {w : World} {g : Nat} {l : List Nat} (h : Blk w g l) (o : Obj) : Blk (w.alloc o) g l := ⟨h.1, World.rangeAt_alloc h.2.1 o, World.there_alloc h.2.2 o⟩
theorem Blk.drew {w : World} {g : Nat} {l : List Nat} (h : Blk w g l) : Blk w.drew g l := ⟨h.1, (World.rangeAt_drew ..).2 h.2.1, (World.there_drew ..).2 h.2.2⟩
theorem Blk.below {w w' : World} {B g : Nat} {l : List Nat} (h : Blk w g l) (hb : Below B w w') (hg : g < B) : Blk w' g l :=
  ⟨h.1, fun j v hv => (hb.cell (p := ⟨g, 0 + j, none⟩) hg).trans (h.2.1 j v hv), fun j hj => by
    rw [hb.cell (p := ⟨g, 0 + j, none⟩) hg, hb.frozen (p := ⟨g, 0 + j, none⟩) hg]; exact h.2.2 j hj⟩
theorem Blk.new (w : World) (l : List Nat) (hl : l.length = 16) : Blk (w.alloc (.cells (blk l) 34)) w.heap.size l := by
  have hg := heap_alloc_last w (.cells (blk l) 34)
  refine ⟨hl, fun j v hv => ?_, fun j hj => ⟨?_, ?_⟩⟩
  · rw [cell_of_row _ _ _ _ _ _ hg, Nat.zero_add]; simpa [blk] using hv
  · rw [cell_of_row _ _ _ _ _ _ hg, Nat.zero_add, blk_get l j (by omega)]; rfl
  · exact frozen_of_row _ _ _ _ _ hg
theorem Blk.set {w : World} {g : Nat} {l : List Nat} (h : Blk w g l) (k c : Nat) (hk : k < 16) : Blk (w.setCell ⟨g, k, none⟩ (.int .u8 (c : Int))) g (l.set k c) := by
  refine ⟨by simp [h.1], fun j v hv => ?_, fun j hj => ?_⟩
  · rw [bv_set] at hv
    by_cases e : j = k
    · subst e
      have hlt : j < (bv l).length := by rw [length_bv, h.1]; exact hk
      rw [List.getElem?_set_self hlt] at hv
      rw [Nat.zero_add, World.cell?_setCell_same _ _ _ (h.cell j hk)]
      exact hv
    · rw [List.getElem?_set_ne (fun x => e x.symm)] at hv
      rw [World.cell?_setCell_other _ _ _ _ (fun x => e (by simpa using (Addr.mk.inj x).2.1.symm))]
      exact h.2.1 j v hv
  · rw [World.frozen?_setCell]
    refine ⟨?_, (h.2.2 j hj).2⟩
    by_cases e : j = k
    · subst e
      rw [Nat.zero_add, World.cell?_setCell_same _ _ _ (h.cell j hk)]; rfl
    · rw [World.cell?_setCell_other _ _ _ _ (fun x => e (by simpa using (Addr.mk.inj x).2.1.symm))]
      exact (h.2.2 j hj).1
theorem addr_ne {b b' o o' : Nat} (h : b ≠ b') : (⟨b, o, none⟩ : Addr) ≠ ⟨b', o', none⟩ := fun e => h (congrArg Addr.block e)
theorem Blk.beside {w : World} {g : Nat} {l : List Nat} (h : Blk w g l) (a : Addr) (v : Value) (hne : a.block ≠ g) : Blk (w.setCell a v) g l := by
  have e : ∀ j, (w.setCell a v).cell? ⟨g, j, none⟩ = w.cell? ⟨g, j, none⟩ := fun j => World.cell?_setCell_other _ _ _ _ (fun x => hne (by rw [x]))
  refine ⟨h.1, fun j u hu => by rw [e]; exact h.2.1 j u hu, fun j hj => ?_⟩
  rw [World.frozen?_setCell, e]; exact h.2.2 j hj
theorem Blk.put {w : World} {g : Nat} {l : List Nat} (h : Blk w g l) (m : List Nat) (hm : m.length = 16) : Blk (w.setCells g 0 (bv m)) g m :=
  ⟨hm, World.rangeAt_setCells_same _ _ _ _ (by rw [length_bv, hm]; exact h.2.2), World.there_setCells h.2.2 _ _ _⟩
theorem Blk.apart {w : World} {g : Nat} {l : List Nat} (h : Blk w g l) (g' o : Nat) (vs : List Value) (hne : g ≠ g') : Blk (w.setCells g' o vs) g l :=
  ⟨h.1, World.rangeAt_setCells_apart h.2.1 _ _ _ (.inl hne), World.there_setCells h.2.2 _ _ _⟩
theorem size_setCells (b : Nat) : ∀ (vs : List Value) (o : Nat) (w : World), (w.setCells b o vs).heap.size = w.heap.size
  | [], _, _ => rfl
  | v :: vs, o, w => by rw [World.setCells, size_setCells b vs]; simp
theorem Below.setCells {B : Nat} {a : World} {b : Nat} (hb : B ≤ b) : ∀ (vs : List Value) (o : Nat) (w : World), Below B a w → Below B a (w.setCells b o vs)
  | [], _, _, h => h
  | v :: vs, o, w, h => by rw [World.setCells]; exact Below.setCells hb vs _ _ (h.setCell (p := ⟨b, o, none⟩) hb v)

/-- A whole block is read. -/
theorem load_blk {ops : Array Oper} {rest : List Oper} {dst : Option Tmp} {ty : TypeId} {pos : String} {after : Array Edge} {x : Operand} {a : Act} {w : World} {Q : Exit → Act → World → Prop} (g : Nat) (l : List Nat) (hb : Blk w g l)
    (hx : a.eval x = .pointer (some ⟨g, 0, none⟩)) (h : wpList Tryd.prog ops Q rest (a.put dst (.agg (blk l))) w) : wpList Tryd.prog ops Q ({ dst := dst, op := .load 34 x, type := ty, pos := pos, after := after, guard := none } :: rest) a w :=
  wpList_load_mid rfl _ x rfl g 0 hx (bv l) _ hb.2.1 Tryd.underlying34 rfl (info_blk' l hb.1) h
/-- A whole block is written. -/
theorem store_blk {ops : Array Oper} {rest : List Oper} {dst : Option Tmp} {ty : TypeId} {pos : String} {after : Array Edge} {x y : Operand} {a : Act} {w : World} {Q : Exit → Act → World → Prop} (g : Nat) (l m : List Nat) (hb : Blk w g l) (hm : m.length = 16)
    (hx : a.eval x = .pointer (some ⟨g, 0, none⟩)) (hy : a.eval y = .agg (blk m)) (h : wpList Tryd.prog ops Q rest (a.put dst undef) (w.setCells g 0 (bv m))) :
    wpList Tryd.prog ops Q ({ dst := dst, op := .store 34 x y, type := ty, pos := pos, after := after, guard := none } :: rest) a w :=
  wpList_store_mid rfl _ x y rfl g 0 (blk m) hx hy (by rw [size_blk, hm]; exact hb.2.2) (by rw [size_blk, hm]; exact info_blk) (all_oneCell_toArray (bv_one m)) (by simpa [blk] using h)
/-- A byte of a block that is a value. -/
theorem index_blk (w : World) (l : List Nat) (hl : l.length = 16) (k : Nat) (hk : k < 16) : (Instr.index 34 (.agg (blk l)) (.int .i64 (k : Int))).run Tryd.prog w = .ok (.int .u8 ((l.getD k 0 : Nat) : Int)) w := by
  have h := bv_get l k (by omega)
  simp [Instr.index, asIntOf, part, h, hk, Sem.run_bind]
/-- Two blocks, compared. -/
theorem eqItems_blk (w : World) (d : Nat) (l m : List Nat) (hl : l.length = 16) (hm : m.length = 16) : ∀ (is : List Nat), (∀ i ∈ is, i < 16) →
    (Op.eqItems (d + 1) 5 1 (blk l) (blk m) is).run Tryd.prog w = .ok (is.all fun i => l.getD i 0 == m.getD i 0) w
  | [], _ => by simp [Op.eqItems]
  | i :: is, h => by
    have hi := h i (by simp)
    have h1 := blk_get l i (by omega)
    have h2 := blk_get m i (by omega)
    have p1 : (part 5 (blk l) (i * 1)).run Tryd.prog w = .ok (.int .u8 ((l.getD i 0 : Nat) : Int)) w := by rw [Nat.mul_one]; simp [part, h1, Sem.run_bind]
    have p2 : (part 5 (blk m) (i * 1)).run Tryd.prog w = .ok (.int .u8 ((m.getD i 0 : Nat) : Int)) w := by rw [Nat.mul_one]; simp [part, h2, Sem.run_bind]
    have p3 := run_equalIn_int (P := Tryd.prog) w d 5 .u8 .u8 ((l.getD i 0 : Nat) : Int) ((m.getD i 0 : Nat) : Int) Tryd.underlying5
    have ih := eqItems_blk w d l m hl hm is (fun j hj => h j (by simp [hj]))
    have e : ((((l.getD i 0 : Nat) : Int)) == ((m.getD i 0 : Nat) : Int)) = (l.getD i 0 == m.getD i 0) := by
      rw [Bool.eq_iff_iff]; simp only [beq_iff_eq]; omega
    rw [e] at p3
    simp only [Op.eqItems, Sem.run_bind, p1, p2, p3, Result.andThen_ok, List.all_cons]
    cases hb : (l.getD i 0 == m.getD i 0)
    · simp
    · simpa using ih
theorem info_byte : ∃ i, Tryd.prog.info? 5 = some i := by
  have : (Tryd.prog.info? 5).isSome = true := by kernel_rfl
  exact Option.isSome_iff_exists.1 this
theorem all_eq {l m : List Nat} (hl : l.length = 16) (hm : m.length = 16) : ((List.range 16).all fun i => l.getD i 0 == m.getD i 0) = decide (l = m) := by
  rw [Bool.eq_iff_iff]
  simp only [List.all_eq_true, List.mem_range, beq_iff_eq, decide_eq_true_eq]
  constructor
  · intro h
    apply List.ext_getElem (by omega)
    intro i h1 h2
    have := h i (by omega)
    simpa [h1, h2] using this
  · intro h; subst h; simp
theorem eql_blk (w : World) (l m : List Nat) (hl : l.length = 16) (hm : m.length = 16) : (Op.equalIn 10000 34 (.agg (blk l)) (.agg (blk m))).run Tryd.prog w = .ok (decide (l = m)) w := by
  obtain ⟨i, hi⟩ := info_byte
  rw [run_equalIn_array w 9999 (blk l) (blk m) Tryd.underlying34 hi, cells_byte, eqItems_blk w 9998 l m hl hm _ (fun i h => List.mem_range.1 h), all_eq hl hm]
/-- A block handed back by a cell. -/
theorem results_blk {fn : Func} {p : Tmp} (h : fn.results = #[.cell p 34]) (tmps : Array Value) (w : World) (g : Nat) (l : List Nat) (hb : Blk w g l) (hp : tmps.getD p undef = .pointer (some ⟨g, 0, none⟩)) :
    (results fn tmps).run Tryd.prog w = .ok (.agg (blk l)) w := by
  have hp' : tmps[p]?.getD undef = .pointer (some ⟨g, 0, none⟩) := by simpa using hp
  have := run_loadVar_mid (P := Tryd.prog) w g 0 34 (bv l) _ hb.2.1 Tryd.underlying34 rfl (info_blk' l hb.1)
  simp [results, h, hp', asAddr, this, blk]
end Go.Proofs.YtdjknmnmacppdaaDoor
namespace Go.Proofs.YtdjknmnmacppdaaDoor
open Go.RowKit Gf

/-- What byte i of a block is when all its bits are one place up. -/
def up (l : List Nat) (i : Nat) : Nat := 2 * l.getD i 0 % 256 + (if i = 0 then 0 else l.getD (i - 1) 0 / 128)
/-- The first k bytes done. -/
def st (l : List Nat) : Nat → List Nat
  | 0 => l
  | k + 1 => (st l k).set k (up l k)
theorem length_st (l : List Nat) (k : Nat) : (st l k).length = l.length := by
  induction k with
  | zero => rfl
  | succ k ih => simp [st, ih]
theorem getD_set (l : List Nat) (k c i : Nat) (hk : k < l.length) : (l.set k c).getD i 0 = if i = k then c else l.getD i 0 := by
  by_cases h : i = k
  · subst h; simp [hk]
  · simp [h, List.getElem?_set_ne (fun e => h e.symm)]
theorem st_get (l : List Nat) (hl : l.length = 16) (k : Nat) (hk : k ≤ 16) (i : Nat) : (st l k).getD i 0 = if i < k then up l i else l.getD i 0 := by
  induction k with
  | zero => simp [st]
  | succ k ih =>
    simp only [st]
    rw [getD_set _ _ _ _ (by rw [length_st, hl]; omega), ih (by omega)]
    by_cases h : i = k
    · subst h; simp
    · rw [if_neg h]
      by_cases h2 : i < k
      · rw [if_pos h2, if_pos (by omega)]
      · rw [if_neg h2, if_neg (by omega)]
/-- A block, doubled. -/
def dbl (l : List Nat) : List Nat := if l.getD 15 0 / 128 = 1 then (st l 16).set 0 ((st l 16).getD 0 0 ^^^ 135) else st l 16
theorem length_dbl (l : List Nat) (hl : l.length = 16) : (dbl l).length = 16 := by unfold dbl; split <;> simp [length_st, hl]
/-- All are bytes. -/
def Bytes (l : List Nat) : Prop := ∀ i, l.getD i 0 < 256
theorem up_lt (l : List Nat) (hb : Bytes l) (i : Nat) : up l i < 256 := by
  unfold up
  have := hb (i - 1)
  split <;> omega
theorem dbl_get (l : List Nat) (hl : l.length = 16) (i : Nat) (hi : i < 16) : (dbl l).getD i 0 = if i = 0 ∧ l.getD 15 0 / 128 = 1 then up l 0 ^^^ 135 else up l i := by
  have e : ∀ j, j < 16 → (st l 16).getD j 0 = up l j := fun j hj => by rw [st_get l hl 16 (by omega), if_pos hj]
  unfold dbl
  split
  · next h =>
    rw [getD_set _ _ _ _ (by rw [length_st, hl]; omega), e 0 (by omega), e i hi]
    by_cases h0 : i = 0
    · rw [if_pos h0, if_pos ⟨h0, h⟩]
    · rw [if_neg h0, if_neg (fun x => h0 x.1)]
  · next h => rw [e i hi, if_neg (fun x => h x.2)]
theorem getD_out (l : List Nat) (i : Nat) (h : l.length ≤ i) : l.getD i 0 = 0 := by simp [List.getElem?_eq_none h]
theorem dbl_bytes (l : List Nat) (hl : l.length = 16) (hb : Bytes l) : Bytes (dbl l) := by
  intro i
  by_cases hi : i < 16
  · rw [dbl_get l hl i hi]
    split
    · exact xor_lt (up_lt l hb 0) (by omega)
    · exact up_lt l hb i
  · rw [getD_out _ _ (by rw [length_dbl l hl]; omega)]; omega
/-- n times. -/
def dblN (l : List Nat) : Nat → List Nat
  | 0 => l
  | n + 1 => dbl (dblN l n)
theorem dblN_ok (l : List Nat) (hl : l.length = 16) (hb : Bytes l) (n : Nat) : (dblN l n).length = 16 ∧ Bytes (dblN l n) := by
  induction n with
  | zero => exact ⟨hl, hb⟩
  | succ n ih => exact ⟨length_dbl _ ih.1, dbl_bytes _ ih.1 ih.2⟩

theorem or_low (v c : Nat) (hc : c < 2) : bits .or .u8 ((v : Int) * 2 % 256) (c : Int) = ((2 * v % 256 + c : Nat) : Int) := by
  have e1 : ((v : Int) * 2 % 256) = ((2 * v % 256 : Nat) : Int) := by omega
  have h1 : 2 * v % 256 < 256 := Nat.mod_lt _ (by omega)
  rw [e1, u8_or_nat _ _ h1 (by omega)]
  have e2 : 2 * v % 256 = 2 ^ 1 * (v % 128) := by omega
  rw [e2, ← Nat.two_pow_add_eq_or_of_lt (show c < 2 ^ 1 by omega)]
/-- The bit that goes on into byte k. -/
def car (l : List Nat) (k : Nat) : Nat := if k = 0 then 0 else l.getD (k - 1) 0 / 128

set_option maxHeartbeats 1000000 in
theorem double_any (l : List Nat) (hl : l.length = 16) (hb : Bytes l) (w : World) : Calls Tryd.prog 34 #[.agg (blk l)] w fun e w' => e = .returned (.agg (blk (dbl l))) ∧ Below w.heap.size w w' := by
  have B1 := Lib.hid ((Blk.new w l hl).alloc (.cells (blk zeros) 34))
  have B2 := Lib.hid (Blk.new (w.alloc (.cells (blk l) 34)) zeros rfl)
  have B3 := Lib.hid (((Below.refl w.heap.size w).alloc (Nat.le_refl _) (.cells (blk l) 34)).alloc (by simp) (.cells (blk zeros) 34))
  rw [blk_zeros] at B1 B2 B3
  rw [World.size_alloc] at B2
  go_enter Tryd.func34, Tryd.ntmps34
  go_wp2_with (with_reducible refine load_blk w.heap.size l B1.out rfl ?_)
  go_loopw [3, 7] (fun c i wr => ∃ k : Nat, k ≤ 16 ∧ i = .int .i64 (k : Nat) ∧ c = .int .u8 (car l k : Nat) ∧ Blk wr w.heap.size (st l k) ∧ Blk wr (w.heap.size + 1) zeros ∧ Below w.heap.size w wr) (fun _ i _ => 16 - (intOf i).toNat)
  case atStart => exact ⟨0, by omega, rfl, rfl, B1.out, B2.out, B3.out⟩
  case round =>
    clear B1 B2 B3
    obtain ⟨k, hk, rfl, rfl, h1, h2, h3⟩ := hrel
    have H1 := Lib.hid h1; clear h1
    have H2 := Lib.hid h2; clear h2
    have H3 := Lib.hid h3; clear h3
    by_cases hlt : k < 16
    · have hc := H1.out.cell k hlt
      have hf := H1.out.frozen k hlt
      have hg := index_blk wr l hl k hlt
      have hv := hb k
      have hcar : car l k < 2 := by unfold car; have := hb (k - 1); split <;> omega
      have hor := or_low (l.getD k 0) (car l k) hcar
      have HC := Lib.hid (show car l (k + 1) = l.getD k 0 / 128 by simp [car])
      have HS := Lib.hid (show st l (k + 1) = (st l k).set k (2 * l.getD k 0 % 256 + car l k) from rfl)
      generalize (st l k).getD k 0 = old at *
      generalize hu : 2 * l.getD k 0 % 256 + car l k = u at *
      clear hu
      generalize l.getD k 0 = v at *
      generalize car l k = c at *
      go_wp2
      go_roundw
      case rel => exact ⟨k + 1, by omega, by go_num, by rw [HC.out]; go_num, by rw [HS.out]; exact H1.out.set k u hlt, H2.out.beside _ _ (by simp), H3.out.setCell (Nat.le_refl _) _⟩
      case measure => simp [intOf]; omega
    · obtain rfl : k = 16 := by omega
      have hcar : car l 16 < 2 := by show l.getD 15 0 / 128 < 2; have := hb 15; omega
      have HD := Lib.hid (show dbl l = if car l 16 = 1 then (st l 16).set 0 ((st l 16).getD 0 0 ^^^ 135) else st l 16 from rfl)
      have hD := length_dbl l hl
      rcases (show car l 16 = 0 ∨ car l 16 = 1 by omega) with h0 | h0
      · have HD := HD.out
        rw [h0, if_neg (by omega)] at HD
        have HD := Lib.hid HD
        rw [h0]
        clear h0 hcar
        rw [← HD.out] at H1
        go_wp2_with (first | (with_reducible refine load_blk w.heap.size (dbl l) H1.out rfl ?_) | (with_reducible refine store_blk (w.heap.size + 1) zeros (dbl l) H2.out hD rfl rfl ?_))
        exact bodyPost_ret (v := .agg (blk (dbl l))) (results_blk rfl _ _ (w.heap.size + 1) (dbl l) (H2.out.put _ hD) rfl) rfl ⟨rfl, Below.setCells (by omega) _ _ _ H3.out⟩
      · have HD := HD.out
        rw [if_pos h0] at HD
        have hx : (st l 16).getD 0 0 < 256 := by rw [st_get l hl 16 (by omega) 0, if_pos (by omega)]; exact up_lt l hb 0
        have hxor : bits .xor .u8 (((st l 16).getD 0 0 : Nat) : Int) 135 = (((st l 16).getD 0 0 ^^^ 135 : Nat) : Int) := u8_xor_nat _ 135 hx (by omega)
        have hc0 := H1.out.cell 0 (by omega)
        have hf0 := H1.out.frozen 0 (by omega)
        have N1 := H1.out.set 0 ((st l 16).getD 0 0 ^^^ 135) (by omega)
        rw [← HD] at N1
        have HD := Lib.hid HD
        rw [h0]
        clear h0 hcar
        generalize (st l 16).getD 0 0 ^^^ 135 = y at *
        have hyi : (0 : Int) ≤ (y : Int) := by omega
        generalize (st l 16).getD 0 0 = x at *
        have N1 := Lib.hid N1
        have N2 := Lib.hid (H2.out.beside ⟨w.heap.size, 0, none⟩ (.int .u8 (y : Int)) (by simp))
        have N3 := Lib.hid (H3.out.setCell (p := ⟨w.heap.size, 0, none⟩) (Nat.le_refl _) (.int .u8 (y : Int)))
        go_wp2_with (first | (with_reducible refine load_blk w.heap.size (dbl l) N1.out rfl ?_) | (with_reducible refine store_blk (w.heap.size + 1) zeros (dbl l) N2.out hD rfl rfl ?_))
        exact bodyPost_ret (v := .agg (blk (dbl l))) (results_blk rfl _ _ (w.heap.size + 1) (dbl l) (N2.out.put _ hD) rfl) rfl ⟨rfl, Below.setCells (by omega) _ _ _ N3.out⟩

/-- What a call that hands a block back leaves. -/
def Gives (m : List Nat) (w : World) (e : Ending) (w' : World) : Prop := e = .returned (.agg (blk m)) ∧ Below w.heap.size w w'

theorem doubled_out (l : List Nat) (hl : l.length = 16) (n : Int) (hn : n < 0 ∨ 65536 < n) (w : World) : Calls Tryd.prog 24 #[.agg (blk l), .int .i64 n] w (Gives l w) := by
  have B1 := Lib.hid ((Blk.new w l hl).alloc (.cells (blk zeros) 34))
  have B2 := Lib.hid (Blk.new (w.alloc (.cells (blk l) 34)) zeros rfl)
  have B3 := Lib.hid (((Below.refl w.heap.size w).alloc (Nat.le_refl _) (.cells (blk l) 34)).alloc (by simp) (.cells (blk zeros) 34))
  rw [blk_zeros] at B1 B2 B3
  rw [World.size_alloc] at B2
  rcases hn with hn | hn
  · have t1 : decide (n < 0) = true := by simp; omega
    go_enter Tryd.func24, Tryd.ntmps24
    go_wp2_with (first | (with_reducible refine load_blk w.heap.size l B1.out rfl ?_) | (with_reducible refine store_blk (w.heap.size + 1) zeros l B2.out hl rfl rfl ?_))
    exact bodyPost_ret (v := .agg (blk l)) (results_blk rfl _ _ (w.heap.size + 1) l (B2.out.put _ hl) rfl) rfl ⟨rfl, Below.setCells (by omega) _ _ _ B3.out⟩
  · have t1 : decide (n < 0) = false := by simp; omega
    have t2 : decide (65536 < n) = true := by simp; omega
    go_enter Tryd.func24, Tryd.ntmps24
    go_wp2_with (first | (with_reducible refine load_blk w.heap.size l B1.out rfl ?_) | (with_reducible refine store_blk (w.heap.size + 1) zeros l B2.out hl rfl rfl ?_))
    exact bodyPost_ret (v := .agg (blk l)) (results_blk rfl _ _ (w.heap.size + 1) l (B2.out.put _ hl) rfl) rfl ⟨rfl, Below.setCells (by omega) _ _ _ B3.out⟩

set_option maxHeartbeats 1000000 in
theorem doubled_in (l : List Nat) (hl : l.length = 16) (hb : Bytes l) (n : Nat) (hn : n ≤ 65536) (w : World) : Calls Tryd.prog 24 #[.agg (blk l), .int .i64 (n : Int)] w (Gives (dblN l n) w) := by
  have B1 := Lib.hid ((Blk.new w l hl).alloc (.cells (blk zeros) 34))
  have B2 := Lib.hid (Blk.new (w.alloc (.cells (blk l) 34)) zeros rfl)
  have B3 := Lib.hid (((Below.refl w.heap.size w).alloc (Nat.le_refl _) (.cells (blk l) 34)).alloc (by simp) (.cells (blk zeros) 34))
  rw [blk_zeros] at B1 B2 B3
  rw [World.size_alloc] at B2
  have t1 : decide ((n : Int) < 0) = false := by simp
  have t2 : decide (65536 < (n : Int)) = false := by simp; omega
  go_enter Tryd.func24, Tryd.ntmps24
  go_wp2
  go_loopw [13] (fun i wr => ∃ k : Nat, k ≤ n ∧ i = .int .i64 (k : Nat) ∧ Blk wr w.heap.size (dblN l k) ∧ Blk wr (w.heap.size + 1) zeros ∧ Below w.heap.size w wr) (fun i _ => n - (intOf i).toNat)
  case atStart => exact ⟨0, by omega, rfl, B1.out, B2.out, B3.out⟩
  case round =>
    clear B1 B2 B3
    obtain ⟨k, hk, rfl, h1, h2, h3⟩ := hrel
    have H1 := Lib.hid h1; clear h1
    have H2 := Lib.hid h2; clear h2
    have H3 := Lib.hid h3; clear h3
    obtain ⟨hL, hB⟩ := dblN_ok l hl hb k
    by_cases hlt : k < n
    · have HC := Lib.hid (double_any (dblN l k) hL hB wr)
      have hM := length_dbl _ hL
      have HS := Lib.hid (show dblN l (k + 1) = dbl (dblN l k) from rfl)
      generalize dbl (dblN l k) = m at *
      go_wp2_with (first | (with_reducible refine load_blk w.heap.size (dblN l k) H1.out rfl ?_) | fail)
      refine HC.out.mono ?_
      rintro e w1 ⟨rfl, hbel⟩
      have N1 := Lib.hid (H1.out.below hbel H1.out.lt)
      have N2 := Lib.hid (H2.out.below hbel H2.out.lt)
      have N3 := Lib.hid (H3.out.trans (hbel.mono H3.out.size))
      clear hbel
      go_wp2_with (first | (with_reducible refine store_blk w.heap.size (dblN l k) m N1.out hM rfl rfl ?_) | fail)
      go_roundw
      case rel => exact ⟨k + 1, by omega, by go_num, by rw [HS.out]; exact N1.out.put m hM, N2.out.apart _ _ _ (by omega), Below.setCells (Nat.le_refl _) _ _ _ N3.out⟩
      case measure => simp [intOf]; omega
    · obtain rfl : k = n := by omega
      go_wp2_with (first | (with_reducible refine load_blk w.heap.size (dblN l k) H1.out rfl ?_) | (with_reducible refine store_blk (w.heap.size + 1) zeros (dblN l k) H2.out hL rfl rfl ?_))
      exact bodyPost_ret (v := .agg (blk (dblN l k))) (results_blk rfl _ _ (w.heap.size + 1) (dblN l k) (H2.out.put _ hL) rfl) rfl ⟨rfl, Below.setCells (by omega) _ _ _ H3.out⟩
end Go.Proofs.YtdjknmnmacppdaaDoor
