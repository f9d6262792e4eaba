/-
  More on arrays inside blocks: stretches, values of two parts, copy as one operation. No program is named here; no conditions.
-/
import Derived.Test.YtoeboblkboillaaDoorArrSlice
import Derived.Laws.IdiomCopy
namespace Go.Proofs.YtoeboblkboillaaDoor.Arr
open Go.ChangeShapes Go.WideShapes Go.ChangeAt Go.RowKit
/-- A stretch of the values of a block. -/
theorem HV.seg {w : World} {g : Nat} (pre : List Value) (k : IntKind) (l : List Nat) (post : List Value) (h : HV w g (pre ++ (nv k l ++ post))) : HAt w g pre.length k l := by
  refine ⟨fun j v hv => ?_, fun j hj => ?_⟩
  · have hj : j < (nv k l).length := (List.getElem?_eq_some_iff.1 hv).1
    refine h.cell _ _ ?_
    rw [List.getElem?_append_right (by omega), List.getElem?_append_left (by omega), Nat.add_sub_cancel_left]
    exact hv
  · have := h.2 (pre.length + j) (by simp [length_nv]; omega)
    simpa using this
/-- A stretch of what is held is written. -/
theorem HAt.splice {w : World} {g o : Nat} {k : IntKind} {l : List Nat} (h : HAt w g o k l) (i : Nat) (m L : List Nat) (hi : i + m.length ≤ l.length) (hL : L.length = l.length)
    (hv : ∀ j, j < l.length → L.getD j 0 = if i ≤ j ∧ j < i + m.length then m.getD (j - i) 0 else l.getD j 0) : HAt (w.setCells g (o + i) (nv k m)) g o k L := by
  have ht : w.there g (o + i) (nv k m).length := by
    intro j hj
    rw [length_nv] at hj
    have := h.2 (i + j) (by omega)
    rw [Nat.add_assoc]; exact this
  have hs := World.rangeAt_setCells_same w g (o + i) (nv k m) ht
  refine ⟨fun j v hjv => ?_, by rw [hL]; exact World.there_setCells h.2 _ _ _⟩
  have hj : j < L.length := by have := (List.getElem?_eq_some_iff.1 hjv).1; rwa [length_nv] at this
  have hv' := nv_get k L j hj
  rw [hjv] at hv'
  rw [hv', hv j (by omega)]
  by_cases hin : i ≤ j ∧ j < i + m.length
  · rw [if_pos hin]
    have := hs (j - i) _ (nv_get k m (j - i) (by omega))
    rw [show o + i + (j - i) = o + j by omega] at this
    exact this
  · rw [if_neg hin, World.cell?_setCells_out g (nv k m) (o + i) w ⟨g, o + j, none⟩ (fun _ _ => by
      rw [length_nv]
      show o + j < o + i ∨ o + i + m.length ≤ o + j
      omega)]
    exact h.cell j (by omega)
variable {P : Program}
/-- A value of two parts, the others noughts. -/
theorem build2 {ops : Array Oper} {rest : List Oper} {dst : Option Tmp} {t ty : TypeId} {pos : String} {after : Array Edge} {a : Act} {w : World} {Q : Exit → Act → World → Prop} {i j : Nat} {x y : Operand} (cs : Array Value) (vx vy : Value) (hx : a.eval x = vx) (hy : a.eval y = vy) (hz : P.built t [(i, vx), (j, vy)] = some cs)
    (h : wpList P ops Q rest (a.put dst (.agg cs)) w) : wpList P ops Q ({ dst := dst, op := .build t #[(i, x), (j, y)], type := ty, pos := pos, after := after, guard := none } :: rest) a w :=
  wpList_build rfl t #[(i, x), (j, y)] rfl (by simp [hx, hy, hz]) (by simpa [hx, hy, hz] using h)
/-- copy, as one operation. -/
theorem wp_copy {o : Oper} {a : Act} {w : World} {K : Act → World → Prop} {Q : Exit → Act → World → Prop} (d s : Operand) (dT sT : TypeId) (ho : o.op = .call { callee := .builtin .copy, args := #[d, s], argTypes := #[dT, sT] }) (v u : Value) (hd : a.eval d = v) (hs : a.eval s = u) {v' : Value} {w' : World}
    (hr : (Builtin.copy_ #[dT, sT] o.type #[v, u]).run P w = .ok v' w') (h : K (a.put o.dst v') w') : o.wp P a w K Q := by
  unfold Oper.wp
  simp [execOp, ho, resolve, invoke, builtin, hd, hs, hr, Result.andThen]
  exact h
theorem step_copy {ops : Array Oper} {o : Oper} {a : Act} {w : World} {K : Act → World → Prop} {Q : Exit → Act → World → Prop} {E : Prop} (hg : o.guard = none) (d s : Operand) (dT sT : TypeId) (ho : o.op = .call { callee := .builtin .copy, args := #[d, s], argTypes := #[dT, sT] }) (v u : Value) (hd : a.eval d = v) (hs : a.eval s = u) {v' : Value} {w' : World}
    (hr : (Builtin.copy_ #[dT, sT] o.type #[v, u]).run P w = .ok v' w') (h : K (a.put o.dst v') w') : if Region.wanted o (yielded ops a.tmps) = true then Oper.wp P o a w K Q else E := by
  have hw : Region.wanted o (yielded ops a.tmps) = true := by simp [Region.wanted, hg]
  rw [if_pos hw]
  exact wp_copy d s dT sT ho v u hd hs hr h
/-- copy, in a list of operations. -/
theorem list_copy {ops : Array Oper} {rest : List Oper} {dst : Option Tmp} {ty : TypeId} {pos : String} {after : Array Edge} {a : Act} {w : World} {Q : Exit → Act → World → Prop} {d s : Operand} {dT sT : TypeId} (v u v' : Value) (w' : World) (hd : a.eval d = v) (hs : a.eval s = u)
    (hr : (Builtin.copy_ #[dT, sT] ty #[v, u]).run P w = .ok v' w') (h : wpList P ops Q rest (a.put dst v') w') : wpList P ops Q ({ dst := dst, op := .call { callee := .builtin .copy, args := #[d, s], argTypes := #[dT, sT] }, type := ty, pos := pos, after := after, guard := none } :: rest) a w :=
  wpList_step fun _ hK => step_copy rfl d s dT sT rfl v u hd hs hr (hK _ _ h)
/-- Bytes are copied from one place to another: the run. -/
theorem run_copy_bytes (w : World) (dT sT ty e : TypeId) (hu : P.underlying dT = some (.slice e)) (hs : (P.info? e).map (·.size) = some 1) (b o dLen dCap sb so sLen sCap : Nat) (l m : List Nat) (hd : HAt w b o .u8 l) (hn : m.length = Nat.min sLen dLen) (hl : m.length ≤ l.length)
    (hsrc : ∀ i, i < m.length → w.cell? ⟨sb, so + i, none⟩ = some (.int .u8 ((m.getD i 0 : Nat) : Int))) :
    (Builtin.copy_ #[dT, sT] ty #[.slice (some ⟨b, o, none⟩) dLen dCap, .slice (some ⟨sb, so, none⟩) sLen sCap]).run P w = .ok (goInt m.length) (w.setCells b o (nv .u8 m)) := by
  have := run_copy_cells (P := P) w dT sT ty e b o dLen dCap ⟨sb, so, none⟩ sLen sCap (nv .u8 m) hu hs (by rw [length_nv, hn]) (fun j v hv => by
    have hj : j < m.length := by
      have := (List.getElem?_eq_some_iff.1 hv).1
      rwa [length_nv] at this
    rw [nv_get .u8 m j hj] at hv
    rw [add_nat, hsrc j hj]; exact hv) (fun j hj => (hd.2 j (by rw [length_nv] at hj; omega)).1) (fun j hj => (hd.2 j (by rw [length_nv] at hj; omega)).2) (nv_one _ _)
  rwa [length_nv] at this
/-- A list, a stretch of it another. -/
def spl (l : List Nat) (i : Nat) (m : List Nat) : List Nat := l.take i ++ (m ++ l.drop (i + m.length))
theorem length_spl (l : List Nat) (i : Nat) (m : List Nat) (h : i + m.length ≤ l.length) : (spl l i m).length = l.length := by simp [spl]; omega
theorem spl_get (l : List Nat) (i : Nat) (m : List Nat) (h : i + m.length ≤ l.length) (j : Nat) : (spl l i m).getD j 0 = if i ≤ j ∧ j < i + m.length then m.getD (j - i) 0 else l.getD j 0 := by
  have h1 : (l.take i).length = i := by simp; omega
  simp only [spl, List.getD_eq_getElem?_getD]
  by_cases h2 : j < i
  · rw [if_neg (by omega), List.getElem?_append_left (by omega), List.getElem?_take, if_pos h2]
  · rw [List.getElem?_append_right (by omega), h1]
    by_cases h3 : j < i + m.length
    · rw [if_pos (by omega), List.getElem?_append_left (by omega)]
    · rw [if_neg (by omega), List.getElem?_append_right (by omega), List.getElem?_drop]
      congr 2; omega
theorem HAt.spliced {w : World} {g o : Nat} {k : IntKind} {l : List Nat} (h : HAt w g o k l) (i : Nat) (m : List Nat) (hi : i + m.length ≤ l.length) : HAt (w.setCells g (o + i) (nv k m)) g o k (spl l i m) :=
  h.splice i m _ hi (length_spl l i m hi) (fun j _ => spl_get l i m hi j)
end Go.Proofs.YtoeboblkboillaaDoor.Arr
