/-
  Own laws for statements that draw their order, whose head only reads: whole arrays read on the way; what is behind the head goes in one order. No program is named here; no conditions.
-/
import Derived.Test.YtoeboblkboillaaArrAt
import Derived.StillTailTactics
namespace Go.Proofs.Ytoeboblkboillaa.Arr
open Go.ChangeShapes Go.WideShapes Go.ChangeAt Go.RowKit
variable {P : Program} {t e : TypeId} {n : Nat} {k : IntKind}
/-- A whole array is read in the head. -/
theorem stillLoad {ops : Array Oper} {rest : List Oper} {dst : Option Tmp} {ty : TypeId} {pos : String} {after : Array Edge} {x : Operand} {a : Act} {w : World} {Q : Act → Prop} (o : Of P t e n k) (g i : Nat) (l : List Nat) (hl : l.length = n) (hb : HAt w g i k l)
    (hx : a.eval x = .pointer (some ⟨g, i, none⟩)) (h : wpStill P ops w Q rest (a.put dst (.agg (na k l)))) : wpStill P ops w Q ({ dst := dst, op := .load t x, type := ty, pos := pos, after := after, guard := none } :: rest) a := by
  refine wpStill_step fun K hK => ?_
  have hw : Region.wanted { dst := dst, op := .load t x, type := ty, pos := pos, after := after, guard := none } (yielded ops a.tmps) = true := rfl
  rw [if_pos hw]
  unfold Oper.still execOp
  simp only [hx, Instr.loadAt, Instr.sureAddr, Sem.run_bind, Sem.run_pure, Result.andThen_ok, run_loadVar_mid w g i t (nv k l) _ hb.1 o.hu rfl (by rw [length_nv, hl]; exact o.hi)]
  rw [Oper.stillUpon_value]
  exact hK _ h
/-- The region, its draw made: the world behind it is a letter. -/
theorem region_tail {id : Nat} {Q : Exit → Act → World → Prop} {a : Act} {w : World} {l : List Oper} (n : Nat) (hm : P.follows .mixedOrders = true) (hB : Region.lexTailB .any l.toArray n = true)
    (h : ∀ wd, wd = w.drew → wpStill P l.toArray wd (fun a' => wpList P l.toArray Q (l.drop n) a' wd) (l.take n) a) : (Code.region id l.toArray true).wp P Q a w :=
  wp_region_still_tail n hm hB (h _ rfl)
/-- The same where nothing but reading is in it. -/
theorem region_still {id : Nat} {Q : Exit → Act → World → Prop} {a : Act} {w : World} {l : List Oper} (hm : P.follows .mixedOrders = true) (hB : Region.lexB .any l.toArray = true)
    (h : ∀ wd, wd = w.drew → wpStill P l.toArray wd (fun a' => Q .normal a' wd) l a) : (Code.region id l.toArray true).wp P Q a w :=
  wp_region_still_lit hm hB (h _ rfl)
theorem below_drew {B : Nat} {a w : World} (h : Below B a w) : Below B a w.drew := ⟨h.os, h.tape, h.output, h.size, h.block⟩
end Go.Proofs.Ytoeboblkboillaa.Arr
