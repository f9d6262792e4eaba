/-
  Own lemma on rows that a call makes: appending many elements of one kind, the row nil or not. No conditions.
-/
import Derived.Test.YtmookhbijmibiaaDoorOwn
import Derived.Laws.AppendOwnNone
namespace Go.Proofs.YtmookhbijmibiaaDoor
open Go.RowKit

/-- A slice of numbers of kind k, below block B. -/
def Nums (w : World) (B : Nat) (k : IntKind) (A : Option Addr) (l : List Nat) : Prop :=
  0 < l.length → ∃ b off, A = some ⟨b, off, none⟩ ∧ b < B ∧ ∀ i, i < l.length → w.cell? ⟨b, off + i, none⟩ = some (.int k ((l.getD i 0 : Nat) : Int))
theorem Bys.nums {w : World} {B : Nat} {A : Option Addr} {bs : List Nat} (h : Bys w B A bs) : Nums w B .u8 A bs := h.2
theorem Nums.below {w w' : World} {B : Nat} {k : IntKind} {A : Option Addr} {l : List Nat} (h : Nums w B k A l) (hb : Below B w w') : Nums w' B k A l := fun hl => by
  obtain ⟨b, off, e, h1, h2⟩ := h hl
  exact ⟨b, off, e, h1, fun i hi => (hb.cell (p := ⟨b, off + i, none⟩) h1).trans (h2 i hi)⟩
/-- Many elements more: 'v = append(v, x...)', v a row of the call's own (nil or not), x whatever slice. -/
theorem append_many {P : Program} {w : World} {ops : Array Oper} {rest : List Oper} {o : Oper} {a : Act} {Q : Exit → Act → World → Prop} (hgd : Region.wanted o (yielded ops a.tmps) = true) (s x : Operand) (t : TypeId)
    (ho : o.op = .call { callee := .builtin .append, args := #[s, x], argTypes := #[t, t] })
    (base : Nat) (e : TypeId) (k : IntKind) (bytes : Nat) (ht : P.underlying t = some (.slice e)) (hinfo : (P.info? e).map (fun i => (i.zero, i.size, i.bytes)) = some (some (.int k 0), 1, bytes)) (hby : bytes ≤ 64)
    (v : Value) (n : Nat) (xs : List Nat) (hs : a.eval s = v) (hown : w.ownsRow base e 1 v n (vals k xs))
    (A : Option Addr) (m c : Nat) (bs : List Nat) (hx : a.eval x = .slice A m c) (hc : A = none → c = 0) (hl : bs.length = m) (B : Nat) (hb : Nums w B k A bs)
    (hn : n + m ≤ 4294967296) (hbase : base ≤ w.heap.size)
    (h : ∀ v' w', w'.ownsRow base e 1 v' (n + m) (vals k (xs ++ bs)) → Below base w w' → wpList P ops Q rest (a.put o.dst v') w') : wpList P ops Q (o :: rest) a w := by
  obtain ⟨i0, hi, hz0, hz1, hz2⟩ := info_parts hinfo
  have hva : vals k (xs ++ bs) = vals k xs ++ vals k bs := by simp [vals]
  have hmul : (n + m) * bytes ≤ 4294967296 * 64 := Nat.mul_le_mul hn hby
  refine wpList_step fun K hK => ?_
  rw [if_pos hgd]
  have goal : ∃ v' w', (Builtin.append_ #[t, t] o.type #[v, .slice A m c]).run P w = .ok v' w' ∧ w'.ownsRow base e 1 v' (n + m) (vals k (xs ++ bs)) ∧ Below base w w' := by
    rcases A with _ | ad
    · have hm : bs = [] := by
        rcases Nat.eq_zero_or_pos bs.length with h0 | h0
        · exact List.eq_nil_of_length_eq_zero h0
        · obtain ⟨_, _, he, _⟩ := hb h0; cases he
      subst hm
      obtain rfl : m = 0 := hl.symm
      obtain rfl : c = 0 := hc rfl
      exact ⟨v, w, run_append_owned_none (P := P) (w := w) base t o.type e i0 1 ht hi v n _ hown, by simpa using hown, Below.refl _ _⟩
    · have hnews : ∀ j u, (vals k bs)[j]? = some u → w.cell? (ad.add j) = some u := by
        intro j u hu
        have hj : j < bs.length := by
          rcases Nat.lt_or_ge j bs.length with h1 | h1
          · exact h1
          · rw [List.getElem?_eq_none (by simpa [vals] using h1)] at hu; cases hu
        obtain ⟨b, off, he, _, hcell⟩ := hb (by omega)
        simp only [Option.some.injEq] at he
        subst he
        rw [vals_get k bs j hj] at hu
        simp only [Option.some.injEq] at hu
        subst hu
        have e : Addr.add ⟨b, off, none⟩ j = ⟨b, off + j, none⟩ := by
          unfold Addr.add; split <;> simp_all
        rw [e]; exact hcell j hj
      obtain ⟨v', w', hr, h2, h3, h4⟩ := run_append_own (P := P) w base t o.type e i0 (.int k 0) 1 bytes ht hi hz0 hz1 hz2 rfl (by decide) v n _ hown ad m c (vals k bs) (by simp [vals, hl]) hnews
        (by intro u hu; simp only [vals, List.mem_map] at hu; obtain ⟨z, _, rfl⟩ := hu; rfl) (by unfold maxLen; omega) (by omega) hbase
      exact ⟨v', w', hr, by rw [hva]; exact h2, (Below.refl base w).grown h3 hbase (fun k hk => (hown.lt k hk).1)⟩
  obtain ⟨v', w', hr, h2, h4⟩ := goal
  unfold Oper.wp execOp
  simp only [ho, resolve, invoke, builtin, Sem.run_bind, Sem.run_pure, Result.andThen_ok, List.map_toArray, List.map_cons, List.map_nil, hs, hx, hr]
  exact hK _ _ (h v' w' h2 h4)
/-- A row stands where nothing below its end has changed. -/
theorem owns_below {w w' : World} {base e n : Nat} {v : Value} {xs : List Value} (h : w.ownsRow base e 1 v n xs) (hb : Below w.heap.size w w') : w'.ownsRow base e 1 v n xs := by
  obtain ⟨hl, hor⟩ := h
  refine ⟨hl, ?_⟩
  rcases hor with h | ⟨g', cap, cur, e, h1, h2, h3⟩
  · exact .inl h
  · refine .inr ⟨g', cap, cur, e, h1, ?_, h3⟩
    rw [hb.block g' (Array.getElem?_eq_some_iff.1 h2).1]; exact h2
end Go.Proofs.YtmookhbijmibiaaDoor
