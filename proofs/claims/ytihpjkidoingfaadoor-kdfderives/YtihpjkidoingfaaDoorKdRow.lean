/-
  Own lemmas on a row of parts that a call makes by append: 'PRow w base v qs'. No conditions.
-/
import Derived.Test.YtihpjkidoingfaaDoorOwnVals
import Derived.Maps.AppendAt
namespace Go.Proofs.YtihpjkidoingfaaDoor
open Go.RowKit Arr Sh

/-- The bytes of a part lie in no block of which 'no' speaks. -/
def Off (q : Pt) (no : Nat → Prop) : Prop := 0 < q.bs.length → ∀ b off s, q.A = some ⟨b, off, s⟩ → ¬ no b
/-- A row of parts, of the call's own; no part lies in the row's own block. -/
structure PRow (w : World) (base : Nat) (v : Value) (qs : List Pt) : Prop where
  own : w.ownsRow base 22 1 v qs.length (hdsV qs)
  each : ∀ q ∈ qs, q.bs.length ≤ q.c ∧ Bys w w.heap.size q.A q.bs ∧ Off q (fun b => v.ownBlock = some b)
theorem Bys.grown {w w' : World} {q : Pt} {row : Option Nat} (h : Bys w w.heap.size q.A q.bs) (hg : w.grownBy w' row) (ho : Off q (fun b => row = some b)) : Bys w' w'.heap.size q.A q.bs :=
  ⟨h.1, fun hl => by
    obtain ⟨b, off, e, hb, hc⟩ := h.2 hl
    have hne : some b ≠ row := fun h' => ho hl b off none e h'.symm
    exact ⟨b, off, e, Nat.lt_of_lt_of_le hb hg.size, fun i hi => hg.cell (hc i hi) hne⟩⟩
theorem Bys.later {w w' : World} {A : Option Addr} {bs : List Nat} (h : Bys w w.heap.size A bs) (hb : Below w.heap.size w w') : Bys w' w'.heap.size A bs := (h.below hb).more hb.size
theorem PRow.later {w w' : World} {base : Nat} {v : Value} {qs : List Pt} (h : PRow w base v qs) (hb : Below w.heap.size w w') : PRow w' base v qs :=
  ⟨owns_below h.own hb, fun q hq => ⟨(h.each q hq).1, (h.each q hq).2.1.later hb, (h.each q hq).2.2⟩⟩
theorem PRow.drew {w : World} {base : Nat} {v : Value} {qs : List Pt} (h : PRow w base v qs) : PRow w.drew base v qs := ⟨h.own, h.each⟩
theorem PRow.parts {w : World} {base : Nat} {v : Value} {qs : List Pt} (h : PRow w base v qs) : ∃ A c, v = .slice A qs.length c ∧ (A = none → c = 0) ∧ Parts w w.heap.size A qs ∧ (∀ b off s, A = some ⟨b, off, s⟩ → base ≤ b ∧ b < w.heap.size) := by
  obtain ⟨A, c, e, _, hA, hp⟩ := Parts.of_owns h.own (fun i hi => ⟨(h.each _ (List.getElem_mem hi)).1, (h.each _ (List.getElem_mem hi)).2.1⟩)
  subst e
  exact ⟨A, c, rfl, hA, hp, fun b off s e => h.own.lt b (by rw [e]; rfl)⟩
/-- Parts more: 'v = append(v, x...)'. -/
theorem append_parts {w : World} {ops : Array Oper} {rest : List Oper} {o : Oper} {a : Act} {Q : Exit → Act → World → Prop} (hgd : o.guard = none) (s x : Operand)
    (ho : o.op = .call { callee := .builtin .append, args := #[s, x], argTypes := #[23, 23] })
    (base : Nat) (v : Value) (qs rs : List Pt) (hs : a.eval s = v) (hrow : PRow w base v qs) (A : Option Addr) (m c : Nat) (hx : a.eval x = .slice A m c) (hm : rs.length = m) (hc : A = none → c = 0)
    (hp : Parts w w.heap.size A rs) (hoff : ∀ q ∈ rs, Off q (fun b => v.ownBlock = some b)) (hn : qs.length + m ≤ 4294967296) (hbase : base ≤ w.heap.size)
    (h : ∀ v' w', PRow w' base v' (qs ++ rs) → w.grownBy w' v.ownBlock → Below base w w' → wpList Tryd.prog ops Q rest (a.put o.dst v') w') : wpList Tryd.prog ops Q (o :: rest) a w := by
  obtain ⟨i0, hi, hz0, hz1, hz2⟩ := info_parts info_bytes
  have hl : (hdsV rs).length = m := by rw [length_hdsV]; exact hm
  have goal : ∃ v' w', (Builtin.append_ #[23, 23] o.type #[v, .slice A m c]).run Tryd.prog w = .ok v' w' ∧ w'.ownsRow base 22 1 v' (qs.length + m) (hdsV qs ++ hdsV rs) ∧ w.grownBy w' v.ownBlock ∧ (v'.ownBlock = v.ownBlock ∨ v'.ownBlock = some w.heap.size) := by
    rcases A with _ | ad
    · have hm0 : rs = [] := by
        rcases Nat.eq_zero_or_pos rs.length with h0 | h0
        · exact List.eq_nil_of_length_eq_zero h0
        · obtain ⟨_, _, he, _⟩ := hp.heads h0; cases he
      subst hm0
      obtain rfl : m = 0 := hm.symm
      obtain rfl : c = 0 := hc rfl
      exact ⟨v, w, run_append_owned_none (P := Tryd.prog) (w := w) base 23 o.type 22 i0 1 Tryd.underlying23 hi v qs.length _ hrow.own, by simpa [hdsV] using hrow.own, World.grownBy.refl _ _, .inl rfl⟩
    · have hnews : ∀ j u, (hdsV rs)[j]? = some u → w.cell? (ad.add j) = some u := by
        intro j u hu
        have hj : j < (hdsV rs).length := (List.getElem?_eq_some_iff.1 hu).1
        obtain ⟨b, off, he, hcell⟩ := hp.cells (by omega)
        simp only [Option.some.injEq] at he
        subst he
        rw [add_nat]; exact hcell j u hu
      obtain ⟨v', w', hr, h2, h3, _, h5⟩ := run_append_own_at (P := Tryd.prog) w base 23 o.type 22 i0 (.slice none 0 0) 1 24 Tryd.underlying23 hi hz0 hz1 hz2 rfl (by decide) v qs.length _ hrow.own ad m c (hdsV rs) (by rw [hl, Nat.mul_one]) hnews
        (hdsV_one rs) (by unfold maxLen; omega) (by omega) hbase
      exact ⟨v', w', hr, h2, h3, h5⟩
  obtain ⟨v', w', hr, h2, h3, h5⟩ := goal
  have hbel : Below base w w' := (Below.refl base w).grown h3 hbase (fun k hk => (hrow.own.lt k hk).1)
  refine wpList_plain hgd fun K hK => ?_
  unfold Oper.wp execOp
  simp only [ho, resolve, invoke, builtin, Sem.run_bind, Sem.run_pure, Result.andThen_ok, List.map_toArray, List.map_cons, List.map_nil, hs, hx, hr]
  refine hK _ _ (h v' w' ⟨?_, ?_⟩ h3 hbel)
  · rw [List.length_append, hm, show hdsV (qs ++ rs) = hdsV qs ++ hdsV rs from List.map_append ..]; exact h2
  · have key : ∀ q : Pt, q.bs.length ≤ q.c → Bys w w.heap.size q.A q.bs → Off q (fun b => v.ownBlock = some b) → q.bs.length ≤ q.c ∧ Bys w' w'.heap.size q.A q.bs ∧ Off q (fun b => v'.ownBlock = some b) := by
      intro q h1 hb hO
      refine ⟨h1, hb.grown h3 hO, fun hl b off s e he => ?_⟩
      rcases h5 with h5 | h5
      · exact hO hl b off s e (h5 ▸ he)
      · obtain ⟨b', off', e', hlt, _⟩ := hb.2 hl
        rw [e] at e'
        cases e'
        rw [h5] at he
        cases he
        omega
    intro q hq
    rcases List.mem_append.1 hq with hq | hq
    · exact key q (hrow.each q hq).1 (hrow.each q hq).2.1 (hrow.each q hq).2.2
    · obtain ⟨i, hi, rfl⟩ := List.getElem_of_mem hq
      exact key _ (hp.each i hi).1 (hp.each i hi).2 (hoff _ hq)
end Go.Proofs.YtihpjkidoingfaaDoor
