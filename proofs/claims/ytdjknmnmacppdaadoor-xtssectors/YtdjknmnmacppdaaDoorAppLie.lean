/-
  append of one element onto a row of the call's own, with the block that it then lies in. No conditions.
-/
import Derived.Test.YtdjknmnmacppdaaDoorOwnAll
import Derived.Test.YtdjknmnmacppdaaDoorArrAll
import Derived.Deep.Onto
import Derived.Laws.OwnMore
import Derived.Deep.AppendLies
namespace Go.Proofs.YtdjknmnmacppdaaDoor
open Go.RowKit

/-- One element more, and which block it lies in: 'v = append(v, u)'. -/
theorem append_lie {P : Program} {w : World} {ops : Array Oper} {rest : List Oper} {o : Oper} {a : Act} {Q : Exit → Act → World → Prop} (hgd : o.guard = none) (s x : Operand) (t : TypeId)
    (ho : o.op = .call { callee := .builtin .append, args := #[s, x], argTypes := #[t, t] })
    (base : Nat) (e : TypeId) (z : Value) (bytes : Nat) (ht : P.underlying t = some (.slice e)) (hinfo : (P.info? e).map (fun i => (i.zero, i.size, i.bytes)) = some (some z, 1, bytes)) (hzs : z.cells.size = 1)
    (v : Value) (n : Nat) (xs : List Value) (u : Value) (hs : a.eval s = v) (hown : w.ownsRow base e 1 v n xs) (hx : a.eval x = .slice (some ⟨w.heap.size, 0, none⟩) 1 1)
    (hu : u.oneCell' = true) (hn : n ≤ 4294967296) (hby : bytes ≤ 64) (hbase : base ≤ w.heap.size)
    (h : ∀ g cap w', w'.ownsRow base e 1 (.slice (some ⟨g, 0, none⟩) (n + 1) cap) (n + 1) (xs ++ [u]) → w.grownBy w' v.ownBlock → (v.ownBlock = some g ∨ w.heap.size < g) → g < w'.heap.size → wpList P ops Q rest (a.put o.dst (.slice (some ⟨g, 0, none⟩) (n + 1) cap)) w') : wpList P ops Q (o :: rest) a (w.alloc (.cells #[u] e)) := by
  obtain ⟨i0, hi, hz0, hz1, hz2⟩ := info_parts hinfo
  have hmul : (n + 1) * bytes ≤ 4294967297 * 64 := Nat.mul_le_mul (by omega) hby
  refine wpList_append_lies _ hgd s x t ho base e i0 z 1 bytes ht hi hz0 hz1 hz2 hzs (by decide) v n xs hs (hown.alloc _) ⟨w.heap.size, 0, none⟩ 1 1 [u] hx rfl ?_ ?_ (by omega) ?_ ?_ ?_ (w.heap.size + 1) (World.size_alloc ..) ?_
  · intro j y hj
    match j, hj with
    | 0, hj => simp at hj; subst hj; simp [Addr.add]
    | j + 1, hj => simp at hj
  · intro y hy; simp at hy; subst hy; exact hu
  · unfold maxLen; omega
  · omega
  · simp; omega
  · intro g cap w' h1 h2 h3 h4
    refine h g cap w' h1 ⟨h2.os, h2.tape, h2.output, ?_, fun k hk hne => ?_⟩ (h3.imp id (fun e => by omega)) h4
    · have := h2.size; rw [World.size_alloc] at this; omega
    · rw [h2.block k (by rw [World.size_alloc]; omega) hne]; exact heap_alloc_old w _ hk

/-- What a row's growing leaves as it was. -/
theorem Arr.Holds.grown {w w' : World} {g : Nat} {k : IntKind} {l : List Nat} {row : Option Nat} (h : Arr.Holds w g k l) (hl : 0 < l.length) (hgr : w.grownBy w' row) (hne : row ≠ some g) : Arr.Holds w' g k l := by
  have hb : w'.heap[g]? = w.heap[g]? := hgr.block g (h.lt hl) (fun e => hne e.symm)
  exact ⟨fun j v hv => (World.cell?_of_block (w := w) (a := ⟨g, 0 + j, none⟩) hb).trans (h.1 j v hv), fun j hj => by
    rw [World.cell?_of_block (w := w) (a := ⟨g, 0 + j, none⟩) hb, World.frozen?_of_block (w := w) (a := ⟨g, 0 + j, none⟩) hb]; exact h.2 j hj⟩
/-- A row of the call's own stands where nothing below the top is changed. -/
theorem own_below {w w' : World} {base e n : Nat} {v : Value} {xs : List Value} (h : w.ownsRow base e 1 v n xs) (hb : Below w.heap.size w w') : w'.ownsRow base e 1 v n xs := by
  refine h.kept (row := none) ⟨hb.os, hb.tape, hb.output, hb.size, fun k hk _ => hb.block k hk⟩ ?_
  cases hq : v.ownBlock with
  | none => exact .inl rfl
  | some g => exact .inr (by simp)
end Go.Proofs.YtdjknmnmacppdaaDoor
