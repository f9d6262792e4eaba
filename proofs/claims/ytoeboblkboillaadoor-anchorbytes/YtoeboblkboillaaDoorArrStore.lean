/-
  A whole array is written, as one operation of a statement that draws its order. No program is named here; no conditions.
-/
import Derived.Test.YtoeboblkboillaaDoorArrMore
namespace Go.Proofs.YtoeboblkboillaaDoor.Arr
open Go.ChangeShapes Go.WideShapes Go.ChangeAt Go.RowKit
variable {P : Program} {t e : TypeId} {n : Nat} {k : IntKind}
theorem op_store {o' : Oper} {x y : Operand} {a : Act} {w : World} {K : Act → World → Prop} {Q : Exit → Act → World → Prop} (o : Of P t e n k) (g : Nat) (l m : List Nat) (hl : l.length = n) (hb : Holds w g k l) (hm : m.length = n)
    (ho : o'.op = .store t x y) (hx : a.eval x = .pointer (some ⟨g, 0, none⟩)) (hy : a.eval y = .agg (na k m)) (h : K (a.put o'.dst undef) (w.setCells g 0 (nv k m))) : Oper.wp P o' a w K Q :=
  wp_store_mid t x y ho g 0 (na k m) hx hy (by rw [size_na, hm, ← hl]; exact hb.2) (by rw [size_na, hm]; exact o.hi) (all_oneCell_toArray (nv_one k m)) (by simpa [na] using h)
theorem if_store {ops : Array Oper} {o' : Oper} {x y : Operand} {a : Act} {w : World} {K : Act → World → Prop} {Q : Exit → Act → World → Prop} {E : Prop} (o : Of P t e n k) (hg : o'.guard = none) (g : Nat) (l m : List Nat) (hl : l.length = n) (hb : Holds w g k l) (hm : m.length = n)
    (ho : o'.op = .store t x y) (hx : a.eval x = .pointer (some ⟨g, 0, none⟩)) (hy : a.eval y = .agg (na k m)) (h : K (a.put o'.dst undef) (w.setCells g 0 (nv k m))) : if Region.wanted o' (yielded ops a.tmps) = true then Oper.wp P o' a w K Q else E := by
  have hw : Region.wanted o' (yielded ops a.tmps) = true := by simp [Region.wanted, hg]
  rw [if_pos hw]
  exact op_store o g l m hl hb hm ho hx hy h
/-- All of an array, as a slice. -/
theorem sliceAll (o : Of P t e n k) (w : World) (g i : Nat) :
    (Instr.sliceAt t (.pointer (some ⟨g, i, none⟩)) none none none).run P w = .ok (.slice (some ⟨g, i, none⟩) n n) w := by
  rw [run_sliceAt_array_all w t _ o.under, o.size]
  have h0 : (⟨g, i, none⟩ : Addr).add 0 = ⟨g, i, none⟩ := by simp [Addr.add]
  simp only [Result.andThen_ok, slicedAt, o.arrayLen, Nat.zero_mul, h0, Nat.sub_zero]
  split <;> rfl
end Go.Proofs.YtoeboblkboillaaDoor.Arr
