/-
  The two rows of the pool's gather in memory, and what a longer one leaves; the set's join. No conditions.
-/
import Derived.Test.YtjeiechkndfhmaaAlRise
import Derived.Test.YtjeiechkndfhmaaAlNum
import Derived.Test.YtjeiechkndfhmaaExCut
import Derived.Test.YtjeiechkndfhmaaHeldList
namespace Go.Proofs.Ytjeiechkndfhmaa
open Go.RowKit Arr Ex

/-- append, as one operation. -/
theorem op_append {P : Program} {w w' : World} {o : Oper} {a : Act} {K : Act → World → Prop} {Q : Exit → Act → World → Prop} {v' : Value} (s x : Operand) (t : TypeId) (ho : o.op = .call { callee := .builtin .append, args := #[s, x], argTypes := #[t, t] }) (v u : Value) (hs : a.eval s = v) (hx : a.eval x = u)
    (hr : (Builtin.append_ #[t, t] o.type #[v, u]).run P w = .ok v' w') (h : K (a.put o.dst v') w') : o.wp P a w K Q := by
  unfold Oper.wp execOp
  simp only [ho, resolve, invoke, builtin, Sem.run_bind, Sem.run_pure, Result.andThen_ok, List.map_toArray, List.map_cons, List.map_nil, hs, hx, hr]
  exact h
/-- One extent more, in a row of the pool's type. -/
theorem run_append_set {w : World} (base : Nat) (v : Value) (l : List (Int × Int)) (hown : Own2 w base v l) (x : Int × Int) (hn : l.length ≤ 1000000) (hbase : base ≤ w.heap.size) (ty : TypeId) (B : Nat) (hB : B = w.heap.size) :
    ∃ v' w', (Builtin.append_ #[57, 57] ty #[v, .slice (some ⟨B, 0, none⟩) 1 1]).run Try.prog (w.alloc (.cells #[.int .i64 x.1, .int .i64 x.2] 34)) = .ok v' w' ∧ Own2 w' base v' (l ++ [x]) ∧ (w.alloc (.cells #[.int .i64 x.1, .int .i64 x.2] 34)).grownBy w' v.ownBlock ∧ (v'.ownBlock = v.ownBlock ∨ v'.ownBlock = some (B + 1)) := by
  subst hB
  obtain ⟨i0, hi, hz0, hz1, hz2⟩ := info_parts info_ext
  obtain ⟨v', w', hr, h2, h3, _, h5⟩ := run_append_own_at (P := Try.prog) (w.alloc (.cells #[.int .i64 x.1, .int .i64 x.2] 34)) base 57 ty 34 i0 _ 2 16 Try.underlying57 hi hz0 hz1 hz2 rfl (by decide) v l.length (cs2 l) (hown.alloc _) ⟨w.heap.size, 0, none⟩ 1 1 [.int .i64 x.1, .int .i64 x.2] rfl (cell_two_new _ _ _ _)
    (by simp [Value.oneCell']) (by unfold maxLen; omega) (by omega) (by simp; omega)
  refine ⟨v', w', hr, ?_, h3, by simpa using h5⟩
  unfold Own2
  rw [List.length_append, cs2_append]
  exact h2

/-- The two rows, and the block that holds both. -/
structure Tur (w5 wr : World) (g : Nat) (V : Bool → Value) (L : Bool → List (Int × Int)) : Prop where
  cell : ∀ b : Bool, wr.cell? ⟨g, b.toNat, none⟩ = some (V b)
  frz : ∀ b : Bool, wr.frozen? ⟨g, b.toNat, none⟩ = false
  own : ∀ b, Own2 wr w5.heap.size (V b) (L b)
  ne : ∀ k, (V false).ownBlock = some k → (V true).ownBlock ≠ some k
  only : Only g w5 wr
  gl : g < w5.heap.size
theorem Tur.cast {w5 wr : World} {g : Nat} {V : Bool → Value} {L L' : Bool → List (Int × Int)} (h : Tur w5 wr g V L) (e : L = L') : Tur w5 wr g V L' := e ▸ h
/-- A row is longer, and stands in its cell. -/
theorem Tur.put {w5 wr wa wb : World} {g : Nat} {V : Bool → Value} {L : Bool → List (Int × Int)} (h : Tur w5 wr g V L) (b : Bool) {v' : Value} {l' : List (Int × Int)} (ha : Below wr.heap.size wr wa) (ho : Own2 wb w5.heap.size v' l') (hg : wa.grownBy wb (V b).ownBlock)
    (hloc : v'.ownBlock = (V b).ownBlock ∨ v'.ownBlock = some wa.heap.size) :
    Tur w5 (wb.setCell ⟨g, b.toNat, none⟩ v') g (fun c => if c = b then v' else V c) (fun c => if c = b then l' else L c) := by
  have hgl := h.gl
  have hs := h.only.size
  have hsa := ha.size
  have hsb := hg.size
  have hlt := fun c => (h.own c).lt
  have hgb : g < wr.heap.size := Nat.lt_of_lt_of_le hgl hs
  have hne : some g ≠ (V b).ownBlock := fun e => by have := (hlt b g e.symm).1; omega
  have eg : wb.heap[g]? = wr.heap[g]? := (hg.block g (by omega) hne).trans (ha.block g hgb)
  have hcb : ∀ c : Bool, wb.cell? ⟨g, c.toNat, none⟩ = some (V c) := fun c => (heap_cell2 eg).trans (h.cell c)
  have hother : ∀ c : Bool, c ≠ b → c.toNat ≠ b.toNat := by intro c hc; cases c <;> cases b <;> simp_all
  have hnn : ∀ c : Bool, c ≠ b → ∀ k, (V c).ownBlock = some k → (V b).ownBlock ≠ some k := fun c hc k hk e => by
    cases c <;> cases b
    · exact hc rfl
    · exact h.ne k hk e
    · exact h.ne k e hk
    · exact hc rfl
  refine ⟨fun c => ?_, fun c => ?_, fun c => ?_, ?_, ?_, hgl⟩
  · by_cases hc : c = b
    · subst hc
      rw [if_pos rfl]
      exact World.cell?_setCell_same' _ _ _ (by rw [hcb c]; rfl)
    · rw [if_neg hc]
      exact (World.cell?_setCell_other _ _ _ _ (fun e => hother c hc (by simpa using (Addr.mk.inj e).2.1.symm))).trans (hcb c)
  · rw [World.frozen?_setCell]
    exact (World.frozen?_of_block (w := wr) (a := ⟨g, c.toNat, none⟩) eg).trans (h.frz c)
  · by_cases hc : c = b
    · subst hc
      rw [if_pos rfl, if_pos rfl]
      refine ho.kept fun k hk => ?_
      have := (ho.lt k hk).1
      exact Below.heap_setCell wb ⟨g, c.toNat, none⟩ v' k (show k ≠ g by omega)
    · rw [if_neg hc, if_neg hc]
      refine (h.own c).kept fun k hk => ?_
      have hk1 := hlt c k hk
      have e1 := Below.heap_setCell wb ⟨g, b.toNat, none⟩ v' k (show k ≠ g by omega)
      rw [e1, hg.block k (by omega) (fun e => hnn c hc k hk e.symm)]
      exact ha.block k hk1.2
  · have hv' : ∀ c : Bool, c ≠ b → ∀ k, v'.ownBlock = some k → (V c).ownBlock ≠ some k := fun c hc k hk e => by
      rcases hloc with h1 | h1
      · rw [h1] at hk; exact hnn c hc k e hk
      · rw [h1] at hk
        simp only [Option.some.injEq] at hk
        have := (hlt c k e).2
        omega
    intro k
    cases b
    · simp only [if_true, Bool.true_eq_false, if_false]
      exact hv' true (by simp) k
    · simp only [Bool.false_eq_true, if_false, if_true]
      intro h1 h2
      exact hv' false (by simp) k h2 h1
  · have h1 : Only g w5 wa := h.only.trans (Only.of ha)
    have h2 : Only g w5 wb := ⟨hg.os.trans h1.os, hg.tape.trans h1.tape, hg.output.trans h1.output, Nat.le_trans h1.size hsb, fun k hk hn => (hg.block k (by have := h1.size; omega) (fun e => by have := (hlt b k e.symm).1; omega)).trans (h1.block k hk hn)⟩
    exact h2.setCell _ _
theorem Exts.only {w w' : World} {B g : Nat} {A : Option Addr} {l : List (Int × Int)} (h : Exts w B A l) (hb : Only g w w') (hB : B ≤ w.heap.size) (hA : ∀ b, Option.map Addr.block A = some b → b ≠ g) : Exts w' B A l :=
  ⟨fun hp => by
    obtain ⟨b, off, e, hb', hc⟩ := h.cells hp
    have hn := hA b (by rw [e]; rfl)
    exact ⟨b, off, e, hb', fun i hi => ⟨(hb.cell (p := ⟨b, _, none⟩) (Nat.lt_of_lt_of_le hb' hB) hn).trans (hc i hi).1, (hb.cell (p := ⟨b, _, none⟩) (Nat.lt_of_lt_of_le hb' hB) hn).trans (hc i hi).2⟩⟩, h.int⟩
/-- The set's join is extent's. -/
theorem ajoin_any {w : World} {e0 e1 : Value} {a b : List (Int × Int)} (h : Calls Try.prog 34 #[e0, e1] w (JoinP a b w)) : Calls Try.prog 28 #[e0, e1] w (JoinP a b w) := by
  have C := Lib.hid h
  clear h
  go_enter Try.func28, Try.ntmps28
  go_wp2_with fail
  refine C.out.mono ?_
  rintro e w' ⟨v, l, rfl, rest⟩
  have HF := Lib.hid rest
  clear rest
  go_wp2
  go_ret2
  exact ⟨v, l, rfl, HF.out⟩
/-- What gather leaves. -/
def GatherP (l : List (Int × Int)) (w : World) (e : Ending) (w' : World) : Prop :=
  ∃ v m, e = .returned (.tuple #[v, .bool (chain l)]) ∧ Own2 w' w.heap.size v m ∧ Below w.heap.size w w' ∧ (chain l = true → right m = true ∧ (∀ u, Mem u m ↔ Mem u l) ∧ total m = total l) ∧ (chain l = false → m = []) ∧ m.length ≤ l.length
end Go.Proofs.Ytjeiechkndfhmaa
