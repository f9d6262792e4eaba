/-
  Roots and slots in memory: how they are made, read, written and compared. Own lemmas; no conditions.
-/
import Derived.Test.YtoeboblkboillaaRows
import Derived.Test.YtoeboblkboillaaArrAt
import Derived.Great.FillDense
import Derived.Shelf.SlSortCmp.QuietGrown
namespace Go.Proofs.Ytoeboblkboillaa
open Go.ChangeShapes Go.WideShapes Go.ChangeAt Go.RowKit Arr Go.Sort

/-- A root's cells: the count, the key, the sum. -/
def rc (n : Int) (k s : List Nat) : List Value := .int .i64 n :: (nv .u8 k ++ nv .u8 s)
def ra (n : Int) (k s : List Nat) : Array Value := (rc n k s).toArray
/-- A slot's cells: the root, the limit. -/
def sc (n : Int) (k s : List Nat) (m : Int) : List Value := rc n k s ++ [.int .i64 m]
def sa (n : Int) (k s : List Nat) (m : Int) : Array Value := (sc n k s m).toArray
/-- 32 bytes each. -/
structure Two32 (k s : List Nat) : Prop where
  k : k.length = 32
  s : s.length = 32
theorem length_rc {n : Int} {k s : List Nat} (h : Two32 k s) : (rc n k s).length = 65 := by simp [rc, length_nv, h.k, h.s]
theorem length_sc {n m : Int} {k s : List Nat} (h : Two32 k s) : (sc n k s m).length = 66 := by simp [sc, length_rc h]
theorem rc_one (n : Int) (k s : List Nat) : ∀ v ∈ rc n k s, v.oneCell' = true := by
  intro v hv
  simp only [rc, List.mem_cons, List.mem_append] at hv
  rcases hv with rfl | hv | hv
  · rfl
  · exact nv_one _ _ v hv
  · exact nv_one _ _ v hv
theorem two_zs : Two32 (zs 32) (zs 32) := ⟨rfl, rfl⟩

/-- One part goes into its place. -/
theorem fill_one {place : Nat → Option (Nat × Nat)} (A old C vs : List Value) (i off size : Nat) (v : Value) (rest : List (Nat × Value)) (hp : place i = some (off, size)) (hA : A.length = off) (ho : old.length = size) (hv : v.cells = vs.toArray) (hl : vs.length = size) :
    Instr.fill place (A ++ (old ++ C)).toArray ((i, v) :: rest) = Instr.fill place (A ++ (vs ++ C)).toArray rest := by
  have h1 : v.cells.size = size := by rw [hv]; simpa using hl
  conv => lhs; unfold Instr.fill
  simp only [hp, h1]
  rw [if_neg (by simp; omega)]
  congr 1
  obtain ⟨g1, g2⟩ := Go.Great.foldl_set off vs 0 (A ++ (old ++ C)).toArray
  have e : v.cells.zipIdx.foldl (fun cs (x : Value × Nat) => cs.setIfInBounds (off + x.2) x.1) (A ++ (old ++ C)).toArray = ((vs.zipIdx 0).foldl (fun cs (x : Value × Nat) => cs.setIfInBounds (off + x.2) x.1) (A ++ (old ++ C)).toArray) := by
    rw [hv, ← Array.foldl_toList]; simp
  refine e.trans ?_
  apply Array.ext_getElem?
  intro j
  rw [g2 j]
  simp only [Nat.add_zero, List.size_toArray, List.length_append, List.getElem?_toArray]
  by_cases h2 : off ≤ j ∧ j < off + vs.length
  · rw [if_pos ⟨h2.1, h2.2, by omega⟩, List.getElem?_append_right (by omega), List.getElem?_append_left (by omega), hA]
  · rw [if_neg (by omega)]
    by_cases h3 : j < off
    · rw [List.getElem?_append_left (by omega), List.getElem?_append_left (by omega)]
    · rw [List.getElem?_append_right (by omega), List.getElem?_append_right (by omega), List.getElem?_append_right (by omega), List.getElem?_append_right (by omega), ho, hl]

/-- Where a root's and a slot's parts lie. -/
def pR : Nat → Option (Nat × Nat) := fun i => (#[(0, 1), (1, 32), (33, 32)] : Array (Nat × Nat))[i]?
def pS : Nat → Option (Nat × Nat) := fun i => (#[(0, 65), (65, 1)] : Array (Nat × Nat))[i]?
theorem built_pR (parts : List (Nat × Value)) : Try.prog.built 30 parts = Instr.fill pR (ra 0 (zs 32) (zs 32)) parts := by kernel_rfl
theorem fill_key (n : Int) (k s x : List Nat) (h : Two32 k s) (hx : x.length = 32) (rest : List (Nat × Value)) : Instr.fill pR (ra n k s) ((1, .agg (na .u8 x)) :: rest) = Instr.fill pR (ra n x s) rest := by
  have := fill_one (place := pR) [.int .i64 n] (nv .u8 k) (nv .u8 s) (nv .u8 x) 1 1 32 (.agg (na .u8 x)) rest rfl rfl (by rw [length_nv, h.k]) rfl (by rw [length_nv, hx])
  simpa [ra, rc] using this
theorem fill_sum (n : Int) (k s x : List Nat) (h : Two32 k s) (hx : x.length = 32) (rest : List (Nat × Value)) : Instr.fill pR (ra n k s) ((2, .agg (na .u8 x)) :: rest) = Instr.fill pR (ra n k x) rest := by
  have := fill_one (place := pR) (.int .i64 n :: nv .u8 k) (nv .u8 s) [] (nv .u8 x) 2 33 32 (.agg (na .u8 x)) rest rfl (by simp [length_nv, h.k]) (by rw [length_nv, h.s]) rfl (by rw [length_nv, hx])
  simpa [ra, rc] using this
theorem fill_count (n x : Int) (k s : List Nat) (rest : List (Nat × Value)) : Instr.fill pR (ra n k s) ((0, .int .i64 x) :: rest) = Instr.fill pR (ra x k s) rest := by
  have := fill_one (place := pR) [] [.int .i64 n] (nv .u8 k ++ nv .u8 s) [.int .i64 x] 0 0 1 (.int .i64 x) rest rfl rfl rfl rfl rfl
  simpa [ra, rc] using this
theorem built_none' : Try.prog.built 30 [] = some (ra 0 (zs 32) (zs 32)) := by rw [built_pR]; rfl
theorem built_key (x : List Nat) (hx : x.length = 32) : Try.prog.built 30 [(1, .agg (na .u8 x))] = some (ra 0 x (zs 32)) := by
  rw [built_pR, fill_key _ _ _ _ two_zs hx]; rfl
theorem built_root (n : Int) (k s : List Nat) (h : Two32 k s) : Try.prog.built 30 [(0, .int .i64 n), (1, .agg (na .u8 k)), (2, .agg (na .u8 s))] = some (ra n k s) := by
  rw [built_pR, fill_count, fill_key _ _ _ _ two_zs h.k, fill_sum _ _ _ _ ⟨h.k, rfl⟩ h.s]; rfl
theorem built_pS (parts : List (Nat × Value)) : Try.prog.built 38 parts = Instr.fill pS (sa 0 (zs 32) (zs 32) 0) parts := by kernel_rfl
theorem built_slot (n m : Int) (k s : List Nat) (h : Two32 k s) : Try.prog.built 38 [(0, .agg (ra n k s)), (1, .int .i64 m)] = some (sa n k s m) := by
  rw [built_pS]
  have h1 := fill_one (place := pS) [] (rc 0 (zs 32) (zs 32)) [.int .i64 0] (rc n k s) 0 0 65 (.agg (ra n k s)) [(1, .int .i64 m)] rfl rfl (length_rc two_zs) rfl (length_rc h)
  have h2 := fill_one (place := pS) (rc n k s) [.int .i64 0] [] [.int .i64 m] 1 65 1 (.int .i64 m) [] rfl (length_rc h) rfl rfl rfl
  simp only [List.nil_append, List.append_nil] at h1 h2
  exact h1.trans (h2.trans rfl)

/-- The types' facts. -/
theorem info_root : (Try.prog.info? 30).map (·.size) = some 65 := by kernel_rfl
theorem info_slot : (Try.prog.info? 38).map (·.size) = some 66 := by kernel_rfl
theorem key32 : Of Try.prog 22 5 32 .u8 := ⟨by kernel_rfl, by kernel_rfl, by kernel_rfl, by kernel_rfl⟩
theorem run_part32 (w : World) (l : List Nat) (hl : l.length = 32) (off : Nat) (pre : List Value) (hpre : pre.length = off) (post : List Value) :
    (part 22 (pre ++ (nv .u8 l ++ post)).toArray off).run Try.prog w = .ok (.agg (na .u8 l)) w := by
  have hs : (Try.prog.info? 22).map (·.size) = some 32 := key32.hi
  cases hq : Try.prog.info? 22 with
  | none => simp [hq] at hs
  | some i =>
    have hi : i.size = 32 := by simpa [hq] using hs
    have e : List.take 32 (List.drop off (pre ++ (nv .u8 l ++ post))) = nv .u8 l := by
      rw [List.drop_append_of_le_length (by omega), List.drop_of_length_le (by omega), List.nil_append, List.take_append_of_le_length (by rw [length_nv]; omega), List.take_of_length_le (by rw [length_nv]; omega)]
    simp [part, isAgg, run_underlying key32.hu, sizeOf, typeInfo, hq, hi, Sem.run_bind, e]
theorem run_field_count (w : World) (n : Int) (k s : List Nat) : (Instr.field 30 (.agg (ra n k s)) 0).run Try.prog w = .ok (.int .i64 n) w := by kernel_rfl
theorem part_count (w : World) (n : Int) (k s : List Nat) : (part 3 (ra n k s) 0).run Try.prog w = .ok (.int .i64 n) w := by kernel_rfl
theorem part_key (w : World) (n : Int) (k s : List Nat) (h : Two32 k s) : (part 22 (ra n k s) 1).run Try.prog w = .ok (.agg (na .u8 k)) w := run_part32 w k h.k 1 [.int .i64 n] rfl (nv .u8 s)
theorem part_sum (w : World) (n : Int) (k s : List Nat) (h : Two32 k s) : (part 22 (ra n k s) 33).run Try.prog w = .ok (.agg (na .u8 s)) w := by
  have := run_part32 w s h.s 33 (.int .i64 n :: nv .u8 k) (by simp [length_nv, h.k]) []
  simpa [ra, rc] using this
/-- A root's fields, as the program lists them. -/
theorem fields_root : ∃ f1 f2 f3 : Field, (Try.prog.fieldsOf 30).toList = [f1, f2, f3] ∧ (f1.name ≠ "_" ∧ f1.type = 3 ∧ f1.offset = 0) ∧ (f2.name ≠ "_" ∧ f2.type = 22 ∧ f2.offset = 1) ∧ (f3.name ≠ "_" ∧ f3.type = 22 ∧ f3.offset = 33) := by
  have hn : ∀ f : Field, (f.name == "_") = false → f.name ≠ "_" := fun f h e => by rw [e] at h; cases h
  refine ⟨(Try.prog.fieldsOf 30).toList.getD 0 default, (Try.prog.fieldsOf 30).toList.getD 1 default, (Try.prog.fieldsOf 30).toList.getD 2 default, by kernel_rfl, ⟨hn _ (by kernel_rfl), by kernel_rfl, by kernel_rfl⟩, ⟨hn _ (by kernel_rfl), by kernel_rfl, by kernel_rfl⟩, ⟨hn _ (by kernel_rfl), by kernel_rfl, by kernel_rfl⟩⟩
/-- Two32 arrays, compared, at any depth. -/
theorem eqlD (w : World) (d : Nat) (l m : List Nat) (hl : l.length = 32) (hm : m.length = 32) : (Op.equalIn (d + 2) 22 (.agg (na .u8 l)) (.agg (na .u8 m))).run Try.prog w = .ok (decide (l = m)) w := by
  have hz := key32.hz
  cases hq : Try.prog.info? 5 with
  | none => simp [hq] at hz
  | some i => rw [run_equalIn_array w (d + 1) (na .u8 l) (na .u8 m) key32.hu hq, key32.cellsE, eqItems key32 w d l m hl hm _ (fun i h => List.mem_range.1 h), all_eq hl hm]
/-- Three fields, held against each other. -/
theorem eq_three {P : Program} {w : World} {f1 f2 f3 : Field} {d : Nat} {xs ys : Array Value} {u1 u2 u3 v1 v2 v3 : Value} {d1 d2 d3 : Bool} (n1 : f1.name ≠ "_") (n2 : f2.name ≠ "_") (n3 : f3.name ≠ "_")
    (x1 : (part f1.type xs f1.offset).run P w = .ok u1 w) (x2 : (part f2.type xs f2.offset).run P w = .ok u2 w) (x3 : (part f3.type xs f3.offset).run P w = .ok u3 w)
    (y1 : (part f1.type ys f1.offset).run P w = .ok v1 w) (y2 : (part f2.type ys f2.offset).run P w = .ok v2 w) (y3 : (part f3.type ys f3.offset).run P w = .ok v3 w)
    (e1 : (Op.equalIn d f1.type u1 v1).run P w = .ok d1 w) (e2 : (Op.equalIn d f2.type u2 v2).run P w = .ok d2 w) (e3 : (Op.equalIn d f3.type u3 v3).run P w = .ok d3 w) :
    (Op.eqFields d xs ys [f1, f2, f3]).run P w = .ok (d1 && (d2 && d3)) w := by
  cases d1 <;> cases d2 <;> cases d3 <;> simp [Op.eqFields, n1, n2, n3, Sem.run_bind, x1, x2, x3, y1, y2, y3, e1, e2, e3, Result.andThen_ok]
/-- Two32 roots, held against each other. -/
theorem run_eq_root (w : World) (n n' : Int) (k s k' s' : List Nat) (h : Two32 k s) (h' : Two32 k' s') :
    (Op.equalIn 10000 30 (.agg (ra n k s)) (.agg (ra n' k' s'))).run Try.prog w = .ok (decide (n = n' ∧ k = k' ∧ s = s')) w := by
  obtain ⟨f1, f2, f3, hf, ⟨a1, a2, a3⟩, ⟨b1, b2, b3⟩, c1, c2, c3⟩ := fields_root
  have t1 : (n == n') = decide (n = n') := by rw [Bool.eq_iff_iff]; simp
  have q1 := run_equalIn_int (P := Try.prog) w 9998 3 .i64 .i64 n n' (by kernel_rfl)
  rw [t1] at q1
  have e : decide (n = n' ∧ k = k' ∧ s = s') = (decide (n = n') && (decide (k = k') && decide (s = s'))) := by rw [Bool.eq_iff_iff]; simp
  rw [run_equalIn_struct w 9999 30 _ _ (by kernel_rfl) (by kernel_rfl), hf, e]
  exact eq_three a1 b1 c1 (by rw [a2, a3]; exact part_count w n k s) (by rw [b2, b3]; exact part_key w n k s h) (by rw [c2, c3]; exact part_sum w n k s h)
    (by rw [a2, a3]; exact part_count w n' k' s') (by rw [b2, b3]; exact part_key w n' k' s' h') (by rw [c2, c3]; exact part_sum w n' k' s' h')
    (by rw [a2]; exact q1) (by rw [b2]; exact eqlD w 9997 k k' h.k h'.k) (by rw [c2]; exact eqlD w 9997 s s' h.s h'.s)
/-- The root that a new variable has. -/
theorem zRoot : (Try.prog.info? 30).bind (·.zero) = some (.agg (ra 0 (zs 32) (zs 32))) := by kernel_rfl

section
variable {w w' : World} {g : Nat} {vs us : List Value}
theorem HV.putV (h : HV w g vs) (hl : us.length = vs.length) : HV (w.setCells g 0 us) g us :=
  ⟨World.rangeAt_setCells_same _ _ _ _ (by rw [hl]; exact h.2), by rw [hl]; exact World.there_setCells h.2 _ _ _⟩
/-- The first part of what is held is written. -/
theorem HV.putHead {rest : List Value} (h : HV w g (vs ++ rest)) (hl : us.length = vs.length) : HV (w.setCells g 0 us) g (us ++ rest) := by
  have ht : w.there g 0 us.length := by
    intro j hj
    exact h.2 j (by rw [List.length_append]; omega)
  have hs := World.rangeAt_setCells_same w g 0 us ht
  refine ⟨fun j v hv => ?_, by rw [List.length_append, hl, ← List.length_append]; exact World.there_setCells h.2 _ _ _⟩
  by_cases hj : j < us.length
  · rw [List.getElem?_append_left hj] at hv
    exact hs j v hv
  · rw [List.getElem?_append_right (by omega)] at hv
    rw [World.cell?_setCells_out g us 0 w ⟨g, 0 + j, none⟩ (fun _ _ => by show 0 + j < 0 ∨ 0 + us.length ≤ 0 + j; omega)]
    refine h.1 j v ?_
    rw [List.getElem?_append_right (by omega), ← hl]
    exact hv
theorem HV.head {rest : List Value} (h : HV w g (vs ++ rest)) : w.rangeAt g 0 vs := fun j v hv => h.1 j v (by
  have hj : j < vs.length := (List.getElem?_eq_some_iff.1 hv).1
  rw [List.getElem?_append_left hj]; exact hv)
theorem HV.headThere {rest : List Value} (h : HV w g (vs ++ rest)) : w.there g 0 vs.length := fun j hj => h.2 j (by rw [List.length_append]; omega)
theorem HV.drewN (h : HV w g vs) (n : Nat) : HV (w.drewN n) g vs := ⟨h.1, h.2⟩
theorem HV.ltV (h : HV w g vs) (hl : 0 < vs.length) : g < w.heap.size := by
  have := h.cell 0 vs[0] (List.getElem?_eq_getElem hl)
  exact block_lt_of_cell this
end

/-- A row of cells is read, under a guard or not. -/
theorem loadRow {P : Program} {T : TypeId} {ops : Array Oper} {rest : List Oper} {dst : Option Tmp} {ty : TypeId} {pos : String} {after : Array Edge} {gd : Option (Nat × Bool)} {x : Operand} {a : Act} {w : World} {Q : Exit → Act → World → Prop} (g o : Nat) (cs : List Value) (d : TypeDesc)
    (hc : w.rangeAt g o cs) (hu : P.underlying T = some d) (hd : d.isRow = true) (hi : (P.info? T).map (·.size) = some cs.length)
    (hw : Region.wanted { dst := dst, op := .load T x, type := ty, pos := pos, after := after, guard := gd } (yielded ops a.tmps) = true)
    (hx : a.eval x = .pointer (some ⟨g, o, none⟩)) (h : wpList P ops Q rest (a.put dst (.agg cs.toArray)) w) : wpList P ops Q ({ dst := dst, op := .load T x, type := ty, pos := pos, after := after, guard := gd } :: rest) a w :=
  wpList_step fun _ hK => by
    rw [if_pos hw]
    exact wp_load_mid T x rfl g o hx cs _ hc hu hd hi (hK _ _ h)
/-- A root is read. -/
theorem loadRoot {ops : Array Oper} {rest : List Oper} {dst : Option Tmp} {ty : TypeId} {pos : String} {after : Array Edge} {gd : Option (Nat × Bool)} {x : Operand} {a : Act} {w : World} {Q : Exit → Act → World → Prop} (g : Nat) (n : Int) (k s : List Nat) (h2 : Two32 k s)
    (hc : w.rangeAt g 0 (rc n k s))
    (hw : Region.wanted { dst := dst, op := .load 30 x, type := ty, pos := pos, after := after, guard := gd } (yielded ops a.tmps) = true)
    (hx : a.eval x = .pointer (some ⟨g, 0, none⟩)) (h : wpList Try.prog ops Q rest (a.put dst (.agg (ra n k s))) w) : wpList Try.prog ops Q ({ dst := dst, op := .load 30 x, type := ty, pos := pos, after := after, guard := gd } :: rest) a w :=
  loadRow g 0 (rc n k s) _ hc Try.underlying30 rfl (by rw [length_rc h2]; exact info_root) hw hx h
/-- A root is written. -/
theorem storeR {ops : Array Oper} {rest : List Oper} {dst : Option Tmp} {ty : TypeId} {pos : String} {after : Array Edge} {x y : Operand} {a : Act} {w : World} {Q : Exit → Act → World → Prop} (g : Nat) (n : Int) (k s : List Nat) (h2 : Two32 k s)
    (ht : w.there g 0 65) (hx : a.eval x = .pointer (some ⟨g, 0, none⟩)) (hy : a.eval y = .agg (ra n k s)) (h : wpList Try.prog ops Q rest (a.put dst undef) (w.setCells g 0 (rc n k s))) :
    wpList Try.prog ops Q ({ dst := dst, op := .store 30 x y, type := ty, pos := pos, after := after, guard := none } :: rest) a w :=
  wpList_store_mid rfl _ x y rfl g 0 (ra n k s) hx hy (by rw [show (ra n k s).size = 65 by simp [ra, length_rc h2]]; exact ht) (by rw [show (ra n k s).size = 65 by simp [ra, length_rc h2]]; exact info_root) (all_oneCell_toArray (rc_one n k s)) (by simpa [ra] using h)
/-- A root of noughts. -/
theorem buildR0 {ops : Array Oper} {rest : List Oper} {dst : Option Tmp} {ty : TypeId} {pos : String} {after : Array Edge} {gd : Option (Nat × Bool)} {a : Act} {w : World} {Q : Exit → Act → World → Prop} 
    (hw : Region.wanted { dst := dst, op := .build 30 #[], type := ty, pos := pos, after := after, guard := gd } (yielded ops a.tmps) = true) 
    (h : wpList Try.prog ops Q rest (a.put dst (.agg (ra 0 (zs 32) (zs 32)))) w) : wpList Try.prog ops Q ({ dst := dst, op := .build 30 #[], type := ty, pos := pos, after := after, guard := gd } :: rest) a w :=
  wpList_step fun _ hK => by
    rw [if_pos hw]
    have hz : Try.prog.built 30 ((#[] : Array (Nat × Operand)).map fun (i, x) => (i, a.eval x)).toList = some (ra 0 (zs 32) (zs 32)) := by
      simpa using built_none'
    exact wp_build 30 #[] rfl (by rw [hz]; rfl) (by rw [hz]; exact hK _ _ h)
/-- A root of a key. -/
theorem buildR1 {ops : Array Oper} {rest : List Oper} {dst : Option Tmp} {ty : TypeId} {pos : String} {after : Array Edge} {gd : Option (Nat × Bool)} {a : Act} {w : World} {Q : Exit → Act → World → Prop} {y : Operand} (k : List Nat) (hk : k.length = 32)
    (hw : Region.wanted { dst := dst, op := .build 30 #[(1, y)], type := ty, pos := pos, after := after, guard := gd } (yielded ops a.tmps) = true) (hy : a.eval y = .agg (na .u8 k))
    (h : wpList Try.prog ops Q rest (a.put dst (.agg (ra 0 k (zs 32)))) w) : wpList Try.prog ops Q ({ dst := dst, op := .build 30 #[(1, y)], type := ty, pos := pos, after := after, guard := gd } :: rest) a w :=
  wpList_step fun _ hK => by
    rw [if_pos hw]
    have hz : Try.prog.built 30 ((#[(1, y)] : Array (Nat × Operand)).map fun (i, x) => (i, a.eval x)).toList = some (ra 0 k (zs 32)) := by
      simpa [hy] using built_key k hk
    exact wp_build 30 #[(1, y)] rfl (by rw [hz]; rfl) (by rw [hz]; exact hK _ _ h)
/-- A root of three parts. -/
theorem buildR3 {ops : Array Oper} {rest : List Oper} {dst : Option Tmp} {ty : TypeId} {pos : String} {after : Array Edge} {gd : Option (Nat × Bool)} {a : Act} {w : World} {Q : Exit → Act → World → Prop} {x y z : Operand} (n : Int) (k s : List Nat) (h2 : Two32 k s)
    (hw : Region.wanted { dst := dst, op := .build 30 #[(0, x), (1, y), (2, z)], type := ty, pos := pos, after := after, guard := gd } (yielded ops a.tmps) = true) (hx : a.eval x = .int .i64 n) (hy : a.eval y = .agg (na .u8 k)) (hz : a.eval z = .agg (na .u8 s))
    (h : wpList Try.prog ops Q rest (a.put dst (.agg (ra n k s))) w) : wpList Try.prog ops Q ({ dst := dst, op := .build 30 #[(0, x), (1, y), (2, z)], type := ty, pos := pos, after := after, guard := gd } :: rest) a w :=
  wpList_step fun _ hK => by
    rw [if_pos hw]
    have hz : Try.prog.built 30 ((#[(0, x), (1, y), (2, z)] : Array (Nat × Operand)).map fun (i, x) => (i, a.eval x)).toList = some (ra n k s) := by
      simpa [hx, hy, hz] using built_root n k s h2
    exact wp_build 30 #[(0, x), (1, y), (2, z)] rfl (by rw [hz]; rfl) (by rw [hz]; exact hK _ _ h)
/-- A slot. -/
theorem buildS {ops : Array Oper} {rest : List Oper} {dst : Option Tmp} {ty : TypeId} {pos : String} {after : Array Edge} {gd : Option (Nat × Bool)} {a : Act} {w : World} {Q : Exit → Act → World → Prop} {x y : Operand} (n m : Int) (k s : List Nat) (h2 : Two32 k s)
    (hw : Region.wanted { dst := dst, op := .build 38 #[(0, x), (1, y)], type := ty, pos := pos, after := after, guard := gd } (yielded ops a.tmps) = true) (hx : a.eval x = .agg (ra n k s)) (hy : a.eval y = .int .i64 m)
    (h : wpList Try.prog ops Q rest (a.put dst (.agg (sa n k s m))) w) : wpList Try.prog ops Q ({ dst := dst, op := .build 38 #[(0, x), (1, y)], type := ty, pos := pos, after := after, guard := gd } :: rest) a w :=
  wpList_step fun _ hK => by
    rw [if_pos hw]
    have hz : Try.prog.built 38 ((#[(0, x), (1, y)] : Array (Nat × Operand)).map fun (i, x) => (i, a.eval x)).toList = some (sa n k s m) := by
      simpa [hx, hy] using built_slot n m k s h2
    exact wp_build 38 #[(0, x), (1, y)] rfl (by rw [hz]; rfl) (by rw [hz]; exact hK _ _ h)

/-- Two32 roots, held against each other, as an operation. -/
theorem eqlR {ops : Array Oper} {rest : List Oper} {dst : Option Tmp} {ty yt : TypeId} {pos : String} {after : Array Edge} {gd : Option (Nat × Bool)} {a : Act} {w : World} {Q : Exit → Act → World → Prop} {x y : Operand} {X Y : Array Value} (b : Bool) (he : (Op.equalIn 10000 30 (.agg X) (.agg Y)).run Try.prog w = .ok b w)
    (hw : Region.wanted { dst := dst, op := .binOp .eql 30 x y yt, type := ty, pos := pos, after := after, guard := gd } (yielded ops a.tmps) = true) (hx : a.eval x = .agg X) (hy : a.eval y = .agg Y)
    (h : wpList Try.prog ops Q rest (a.put dst (.bool (b))) w) : wpList Try.prog ops Q ({ dst := dst, op := .binOp .eql 30 x y yt, type := ty, pos := pos, after := after, guard := gd } :: rest) a w :=
  wpList_step fun _ hK => by
    rw [if_pos hw]
    unfold Oper.wp execOp
    have hg := fun X Y : Array Value => run_eqGuard_agg (P := Try.prog) w .eql 30 x y X Y (by kernel_rfl)
    simp only [hx, hy, Sem.run_bind, Sem.run_pure, hg, Result.andThen_ok, run_eql_struct, he]
    exact hK _ _ h
/-- Two32 roots, held against each other, as an operation. -/
theorem neqR {ops : Array Oper} {rest : List Oper} {dst : Option Tmp} {ty yt : TypeId} {pos : String} {after : Array Edge} {gd : Option (Nat × Bool)} {a : Act} {w : World} {Q : Exit → Act → World → Prop} {x y : Operand} {X Y : Array Value} (b : Bool) (he : (Op.equalIn 10000 30 (.agg X) (.agg Y)).run Try.prog w = .ok b w)
    (hw : Region.wanted { dst := dst, op := .binOp .neq 30 x y yt, type := ty, pos := pos, after := after, guard := gd } (yielded ops a.tmps) = true) (hx : a.eval x = .agg X) (hy : a.eval y = .agg Y)
    (h : wpList Try.prog ops Q rest (a.put dst (.bool (!b))) w) : wpList Try.prog ops Q ({ dst := dst, op := .binOp .neq 30 x y yt, type := ty, pos := pos, after := after, guard := gd } :: rest) a w :=
  wpList_step fun _ hK => by
    rw [if_pos hw]
    unfold Oper.wp execOp
    have hg := fun X Y : Array Value => run_eqGuard_agg (P := Try.prog) w .neq 30 x y X Y (by kernel_rfl)
    simp only [hx, hy, Sem.run_bind, Sem.run_pure, hg, Result.andThen_ok, run_neq_struct, he]
    exact hK _ _ h

theorem HV.there65 {w : World} {g : Nat} {n : Int} {k s : List Nat} (h : HV w g (rc n k s)) (h2 : Two32 k s) : w.there g 0 65 := by have := h.2; rwa [length_rc h2] at this
/-- A root handed back by a cell. -/
theorem results_root {fn : Func} {p : Tmp} (h : fn.results = #[.cell p 30]) (tmps : Array Value) (w : World) (g : Nat) (n : Int) (k s : List Nat) (h2 : Two32 k s) (hb : w.rangeAt g 0 (rc n k s)) (hp : tmps.getD p undef = .pointer (some ⟨g, 0, none⟩)) :
    (results fn tmps).run Try.prog w = .ok (.agg (ra n k s)) w := by
  have hp' : tmps[p]?.getD undef = .pointer (some ⟨g, 0, none⟩) := by simpa using hp
  have := run_loadVar_mid (P := Try.prog) w g 0 30 (rc n k s) _ hb Try.underlying30 rfl (by rw [length_rc h2]; exact info_root)
  simp [results, h, hp', asAddr, this, ra]

/-- New blocks alone have come. -/
def Gr (w w' : World) : Prop := ∃ os, w' = grow w os
theorem Gr.refl (w : World) : Gr w w := ⟨#[], (grow_empty w).symm⟩
theorem Gr.trans {a b c : World} (h : Gr a b) (h' : Gr b c) : Gr a c := by
  obtain ⟨x, rfl⟩ := h
  obtain ⟨y, rfl⟩ := h'
  exact ⟨x ++ y, grow_grow _ _ _⟩
theorem Gr.alloc {a b : World} (h : Gr a b) (o : Obj) : Gr a (b.alloc o) := h.trans ⟨#[o], alloc_eq_grow _ _⟩
theorem Gr.size {a b : World} (h : Gr a b) : a.heap.size ≤ b.heap.size := by
  obtain ⟨x, rfl⟩ := h
  rw [size_grow]; omega
theorem Gr.setCell {a b : World} (h : Gr a b) {g : Nat} (hg : a.heap.size ≤ g) (o : Nat) (v : Value) : Gr a (b.setCell ⟨g, o, none⟩ v) := by
  obtain ⟨x, rfl⟩ := h
  unfold World.setCell grow Gr
  simp only
  rw [modify_append_right _ _ _ _ hg]
  exact ⟨_, rfl⟩
theorem Gr.setCells {a : World} {g : Nat} (hg : a.heap.size ≤ g) : ∀ (vs : List Value) (o : Nat) (b : World), Gr a b → Gr a (b.setCells g o vs)
  | [], _, _, h => h
  | v :: vs, o, _, h => Gr.setCells hg vs (o + 1) _ (h.setCell hg o v)
theorem Gr.below {a b : World} (h : Gr a b) : Below a.heap.size a b := by
  obtain ⟨x, rfl⟩ := h
  exact ⟨rfl, rfl, rfl, by rw [size_grow]; omega, fun k hk => heap_grow_old _ _ hk⟩

/-- Block g is a slot: its count, its key, its sum, its limit. -/
structure Slt (w : World) (g : Nat) (n : Nat) (k s : List Nat) (m : Nat) : Prop where
  two : Two32 k s
  hv : HV w g (sc ((n : Int) + 1) k s (m : Int))
section
variable {w w' : World} {g n m : Nat} {k s : List Nat}
theorem Slt.root (h : Slt w g n k s m) : w.rangeAt g 0 (rc ((n : Int) + 1) k s) := HV.head h.hv
theorem Slt.count (h : Slt w g n k s m) : w.cell? ⟨g, 0, none⟩ = some (.int .i64 ((n : Int) + 1)) := h.hv.cell 0 _ rfl
theorem Slt.limit (h : Slt w g n k s m) : w.cell? ⟨g, 65, none⟩ = some (.int .i64 (m : Int)) := h.hv.cell 65 _ (by
  unfold sc
  rw [List.getElem?_append_right (by rw [length_rc h.two]; omega), length_rc h.two]; rfl)
theorem Slt.frozen (h : Slt w g n k s m) (i : Nat) (hi : i < 66) : w.frozen? ⟨g, i, none⟩ = false := h.hv.frozen i (by rw [length_sc h.two]; exact hi)
theorem Slt.there (h : Slt w g n k s m) : w.there g 0 65 := by have := HV.headThere h.hv; rwa [length_rc h.two] at this
theorem Slt.lt (h : Slt w g n k s m) : g < w.heap.size := block_lt_of_cell h.count
theorem Slt.below (h : Slt w g n k s m) (hb : Below w.heap.size w w') : Slt w' g n k s m := ⟨h.two, h.hv.below hb h.lt⟩
theorem Slt.alloc (h : Slt w g n k s m) (o : Obj) : Slt (w.alloc o) g n k s m := ⟨h.two, h.hv.alloc o⟩
theorem Slt.drewN (h : Slt w g n k s m) (q : Nat) : Slt (w.drewN q) g n k s m := ⟨h.two, HV.drewN h.hv q⟩
theorem Slt.set (h : Slt w g n k s m) {x y : List Nat} (h2 : Two32 x y) (i : Nat) : Slt (w.setCells g 0 (rc ((i : Int) + 1) x y)) g i x y m :=
  ⟨h2, HV.putHead h.hv (by rw [length_rc h2, length_rc h.two])⟩
theorem Slt.new (w : World) (h2 : Two32 k s) (n m : Nat) : Slt (w.alloc (.cells (sa ((n : Int) + 1) k s (m : Int)) 38)) w.heap.size n k s m := ⟨h2, HV.new w _ _⟩
end
end Go.Proofs.Ytoeboblkboillaa
