/-
  Own lemma on rows of bytes that a call makes: appending many bytes. No conditions.
-/
import Derived.Test.YtoeboblkboillaaDoorOwn
import Derived.Laws.AppendOwnNone
namespace Go.Proofs.YtoeboblkboillaaDoor
open Go.RowKit

/-- Many bytes more: 'v = append(v, x...)', v a row of bytes of the call's own, x whatever slice of bytes. -/
theorem append_bys {P : Program} {w : World} {ops : Array Oper} {rest : List Oper} {o : Oper} {a : Act} {Q : Exit → Act → World → Prop} (hgd : Region.wanted o (yielded ops a.tmps) = true) (s x : Operand) (t : TypeId)
    (ho : o.op = .call { callee := .builtin .append, args := #[s, x], argTypes := #[t, t] })
    (base : Nat) (e : TypeId) (ht : P.underlying t = some (.slice e)) (hinfo : (P.info? e).map (fun i => (i.zero, i.size, i.bytes)) = some (some (.int .u8 0), 1, 1))
    (v : Value) (n : Nat) (xs : List Nat) (hs : a.eval s = v) (hown : w.ownsRow base e 1 v n (vals .u8 xs))
    (A : Option Addr) (m c : Nat) (bs : List Nat) (hx : a.eval x = .slice A m c) (hc : A = none → c = 0) (hl : bs.length = m) (B : Nat) (hb : Bys w B A bs)
    (hn : n + m ≤ 4294967296) (hbase : base ≤ w.heap.size) (hv : v ≠ .slice none 0 0)
    (h : ∀ v' w', w'.ownsRow base e 1 v' (n + m) (vals .u8 (xs ++ bs)) → v' ≠ .slice none 0 0 → Below base w w' → wpList P ops Q rest (a.put o.dst v') w') : wpList P ops Q (o :: rest) a w := by
  obtain ⟨i0, hi, hz0, hz1, hz2⟩ := info_parts hinfo
  have hva : vals .u8 (xs ++ bs) = vals .u8 xs ++ vals .u8 bs := by simp [vals]
  refine wpList_step fun K hK => ?_
  rw [if_pos hgd]
  have goal : ∃ v' w', (Builtin.append_ #[t, t] o.type #[v, .slice A m c]).run P w = .ok v' w' ∧ w'.ownsRow base e 1 v' (n + m) (vals .u8 (xs ++ bs)) ∧ v' ≠ .slice none 0 0 ∧ Below base w w' := by
    rcases A with _ | ad
    · have hm : bs = [] := by
        rcases Nat.eq_zero_or_pos bs.length with h0 | h0
        · exact List.eq_nil_of_length_eq_zero h0
        · obtain ⟨_, _, he, _⟩ := hb.2 h0; cases he
      subst hm
      obtain rfl : m = 0 := hl.symm
      obtain rfl : c = 0 := hc rfl
      exact ⟨v, w, run_append_owned_none (P := P) (w := w) base t o.type e i0 1 ht hi v n _ hown, by simpa using hown, hv, Below.refl _ _⟩
    · have hnews : ∀ j u, (vals .u8 bs)[j]? = some u → w.cell? (ad.add j) = some u := by
        intro j u hu
        have hj : j < bs.length := by
          rcases Nat.lt_or_ge j bs.length with h1 | h1
          · exact h1
          · rw [List.getElem?_eq_none (by simpa [vals] using h1)] at hu; cases hu
        obtain ⟨b, off, he, _, hcell⟩ := hb.2 (by omega)
        simp only [Option.some.injEq] at he
        subst he
        rw [vals_get .u8 bs j hj] at hu
        simp only [Option.some.injEq] at hu
        subst hu
        have e : Addr.add ⟨b, off, none⟩ j = ⟨b, off + j, none⟩ := by
          unfold Addr.add; split <;> simp_all
        rw [e]; exact hcell j hj
      obtain ⟨v', w', hr, h2, h3, h4⟩ := run_append_own (P := P) w base t o.type e i0 (.int .u8 0) 1 1 ht hi hz0 hz1 hz2 rfl (by decide) v n _ hown ad m c (vals .u8 bs) (by simp [vals, hl]) hnews
        (by intro u hu; simp only [vals, List.mem_map] at hu; obtain ⟨z, _, rfl⟩ := hu; rfl) (by unfold maxLen; omega) (by omega) hbase
      refine ⟨v', w', hr, by rw [hva]; exact h2, fun hnil => hv (h4.1 hnil).1, (Below.refl base w).grown h3 hbase (fun k hk => (hown.lt k hk).1)⟩
  obtain ⟨v', w', hr, h2, h3, h4⟩ := goal
  unfold Oper.wp execOp
  simp only [ho, resolve, invoke, builtin, Sem.run_bind, Sem.run_pure, Result.andThen_ok, List.map_toArray, List.map_cons, List.map_nil, hs, hx, hr]
  exact hK _ _ (h v' w' h2 h3 h4)
end Go.Proofs.YtoeboblkboillaaDoor
