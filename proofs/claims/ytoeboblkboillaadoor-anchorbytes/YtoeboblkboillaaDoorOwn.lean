/-
  Own lemmas on rows that a call makes: appending one element, and a row of bytes read as bytes. No conditions.
-/
import Derived.Test.YtoeboblkboillaaDoorBytes
import Derived.Deep.AppendLies
import Derived.OwnWalk
namespace Go.Proofs.YtoeboblkboillaaDoor
open Go.RowKit

/-- Numbers as values of one kind. -/
def vals (k : IntKind) (l : List Nat) : List Value := l.map fun (z : Nat) => Value.int k (z : Int)
theorem vals_nil (k : IntKind) : vals k [] = [] := rfl
theorem vals_snoc (k : IntKind) (l : List Nat) (c : Nat) : vals k (l ++ [c]) = vals k l ++ [.int k (c : Int)] := by simp [vals]
theorem vals_get (k : IntKind) (l : List Nat) (i : Nat) (h : i < l.length) : (vals k l)[i]? = some (.int k ((l.getD i 0 : Nat) : Int)) := by simp [vals, h]

/-- One element more: 'v = append(v, u)', v a row of the call's own, the element's type of one cell. -/
theorem append_one {P : Program} {w : World} {ops : Array Oper} {rest : List Oper} {o : Oper} {a : Act} {Q : Exit → Act → World → Prop} (hgd : o.guard = none) (s x : Operand) (t : TypeId)
    (ho : o.op = .call { callee := .builtin .append, args := #[s, x], argTypes := #[t, t] })
    (base : Nat) (e : TypeId) (z : Value) (bytes : Nat) (ht : P.underlying t = some (.slice e)) (hinfo : (P.info? e).map (fun i => (i.zero, i.size, i.bytes)) = some (some z, 1, bytes)) (hzs : z.cells.size = 1)
    (v : Value) (n : Nat) (xs : List Value) (u : Value) (hs : a.eval s = v) (hown : w.ownsRow base e 1 v n xs) (hx : a.eval x = .slice (some ⟨w.heap.size, 0, none⟩) 1 1)
    (hu : u.oneCell' = true) (hn : n ≤ 4294967296) (hby : bytes ≤ 64) (hbase : base ≤ w.heap.size)
    (h : ∀ v' w', w'.ownsRow base e 1 v' (n + 1) (xs ++ [u]) → Below base w w' → wpList P ops Q rest (a.put o.dst v') w') : wpList P ops Q (o :: rest) a (w.alloc (.cells #[u] e)) := by
  obtain ⟨i0, hi, hz0, hz1, hz2⟩ := info_parts hinfo
  have hmul : (n + 1) * bytes ≤ 4294967297 * 64 := Nat.mul_le_mul (by omega) hby
  refine wpList_append_own _ hgd s x t ho base e i0 z 1 bytes ht hi hz0 hz1 hz2 hzs (by decide) v n xs hs (hown.alloc _) ⟨w.heap.size, 0, none⟩ 1 1 [u] hx rfl ?_ ?_ ?_ ?_ ?_ ?_
  · intro j y hj
    match j, hj with
    | 0, hj => simp at hj; subst hj; simp [Addr.add]
    | j + 1, hj => simp at hj
  · intro y hy; simp at hy; subst hy; exact hu
  · unfold maxLen; omega
  · omega
  · simp; omega
  · intro v' w' h1 h2 _
    exact h v' w' h1 (((Below.refl base w).alloc hbase _).grown h2 (by simp; omega) (fun k hk => (hown.lt k hk).1))

/-- A row of bytes that the call owns reads as its bytes. -/
theorem bys_of_owns {w : World} {base e n : Nat} {v : Value} {bs : List Nat} (h : w.ownsRow base e 1 v n (vals .u8 bs)) (hb : ∀ x, x ∈ bs → x < 256) :
    ∃ A c, v = .slice A n c ∧ bs.length = n ∧ Bys w w.heap.size A bs := by
  have hl : bs.length = n := by have := h.1; simpa [vals] using this
  rcases Nat.eq_zero_or_pos n with h0 | h0
  · subst h0
    obtain rfl : bs = [] := List.eq_nil_of_length_eq_zero hl
    rcases h.2 with ⟨rfl, _⟩ | ⟨g, cap, cur, rfl, _⟩
    · exact ⟨_, _, rfl, rfl, Bys.nil _ _ _⟩
    · exact ⟨_, _, rfl, rfl, Bys.nil _ _ _⟩
  · obtain ⟨g, cap, rfl, _, hlt⟩ := h.form h0
    refine ⟨_, _, rfl, hl, hb, fun _ => ⟨g, 0, rfl, hlt, fun i hi => ?_⟩⟩
    rw [Nat.zero_add, h.cellAt i (by omega), vals_get .u8 bs i hi]

/-- A row of numbers that the call owns, its cells. -/
theorem cells_of_owns {w : World} {base e n : Nat} {v : Value} {k : IntKind} {l : List Nat} (h : w.ownsRow base e 1 v n (vals k l)) (hn : 0 < n) :
    ∃ g c, v = .slice (some ⟨g, 0, none⟩) n c ∧ g < w.heap.size ∧ ∀ i, i < n → w.cell? ⟨g, i, none⟩ = some (.int k ((l.getD i 0 : Nat) : Int)) := by
  have hl : l.length = n := by have := h.1; simpa [vals] using this
  obtain ⟨g, cap, rfl, _, hlt⟩ := h.form hn
  refine ⟨g, cap, rfl, hlt, fun i hi => ?_⟩
  rw [h.cellAt i (by omega), vals_get k l i (by omega)]
end Go.Proofs.YtoeboblkboillaaDoor
