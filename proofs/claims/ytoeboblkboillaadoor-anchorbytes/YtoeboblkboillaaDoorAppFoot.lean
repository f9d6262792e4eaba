/-
  Own laws: one world and a later one, between which some blocks alone, of those that were there, have changed; appending many bytes onto a row of the call's own, and which blocks that touches. No program is named here; no conditions.
-/
import Derived.Test.YtoeboblkboillaaDoorOnly
import Derived.Test.YtoeboblkboillaaDoorOwn
import Derived.Maps.AppendAt
import Derived.Laws.AppendOwnNone
namespace Go.Proofs.YtoeboblkboillaaDoor
open Go.RowKit Arr

/-- Of the blocks that were there, those of F alone may have changed. -/
structure Touch (F : Nat → Prop) (w w' : World) : Prop where
  os : w'.os = w.os
  tape : w'.tape = w.tape
  output : w'.output = w.output
  size : w.heap.size ≤ w'.heap.size
  block : ∀ k, k < w.heap.size → ¬ F k → w'.heap[k]? = w.heap[k]?
section
variable {F F' : Nat → Prop} {w w' w'' : World}
theorem Touch.refl (F : Nat → Prop) (w : World) : Touch F w w := ⟨rfl, rfl, rfl, Nat.le_refl _, fun _ _ _ => rfl⟩
theorem Touch.trans (h : Touch F w w') (k : Touch F' w' w'') (hF : ∀ x, F' x → F x ∨ w.heap.size ≤ x) : Touch F w w'' :=
  ⟨k.os.trans h.os, k.tape.trans h.tape, k.output.trans h.output, Nat.le_trans h.size k.size, fun i hi hn =>
    (k.block i (Nat.lt_of_lt_of_le hi h.size) (fun hx => (hF i hx).elim hn (fun h1 => by omega))).trans (h.block i hi hn)⟩
theorem Touch.of (F : Nat → Prop) (h : Below w.heap.size w w') : Touch F w w' := ⟨h.os, h.tape, h.output, h.size, fun k hk _ => h.block k hk⟩
theorem Touch.below (h : Touch F w w') {B : Nat} (h1 : ∀ k, F k → B ≤ k) (h2 : B ≤ w.heap.size) : Below B w w' :=
  ⟨h.os, h.tape, h.output, h.size, fun k hk => h.block k (by omega) (fun hx => by have := h1 k hx; omega)⟩
theorem Touch.drewN (h : Touch F w w') (n : Nat) : Touch F w (w'.drewN n) := ⟨h.os, h.tape, h.output, h.size, h.block⟩
theorem Touch.drew (h : Touch F w w') : Touch F w w'.drew := ⟨h.os, h.tape, h.output, h.size, h.block⟩
theorem Touch.alloc (h : Touch F w w') (o : Obj) : Touch F w (w'.alloc o) := h.trans (F' := fun _ => False) (Touch.of _ (below_alloc w' o)) (fun _ h => h.elim)
theorem Touch.setCell (h : Touch F w w') {b : Nat} (hb : F b ∨ w.heap.size ≤ b) (o : Nat) (v : Value) : Touch F w (w'.setCell ⟨b, o, none⟩ v) :=
  ⟨h.os, h.tape, h.output, by simpa using h.size, fun k hk hn => (Below.heap_setCell w' ⟨b, o, none⟩ v k (fun e => by
    have e' : k = b := e
    subst e'
    rcases hb with hb | hb
    · exact hn hb
    · omega)).trans (h.block k hk hn)⟩
theorem Touch.grown (h : Touch F w w') {row : Option Nat} (hg : w'.grownBy w'' row) (hr : ∀ b, row = some b → F b ∨ w.heap.size ≤ b) : Touch F w w'' :=
  ⟨hg.os.trans h.os, hg.tape.trans h.tape, hg.output.trans h.output, Nat.le_trans h.size hg.size, fun k hk hn =>
    (hg.block k (Nat.lt_of_lt_of_le hk h.size) (fun e => (hr k e.symm).elim hn (fun h1 => by omega))).trans (h.block k hk hn)⟩
theorem Touch.cell (h : Touch F w w') {p : Addr} (h1 : p.block < w.heap.size) (h2 : ¬ F p.block) : w'.cell? p = w.cell? p := World.cell?_of_block (w := w) (h.block p.block h1 h2)
theorem Touch.frozen (h : Touch F w w') {p : Addr} (h1 : p.block < w.heap.size) (h2 : ¬ F p.block) : w'.frozen? p = w.frozen? p := World.frozen?_of_block (w := w) (h.block p.block h1 h2)
theorem Touch.only {g : Nat} (h : Only g w w') (hg : F g) : Touch F w w' := ⟨h.os, h.tape, h.output, h.size, fun k hk hn => h.block k hk (fun e => hn (e ▸ hg))⟩
theorem Touch.more (h : Touch F w w') (hF : ∀ x, F x → F' x) : Touch F' w w' := ⟨h.os, h.tape, h.output, h.size, fun k hk hn => h.block k hk (fun hx => hn (hF k hx))⟩
theorem Tab.touch {b : Nat} (h : Tab w b) (hb : Touch F w w') (h2 : ¬ F b) : Tab w' b := fun j hj => (hb.cell (p := ⟨b, j, none⟩) h.lt h2).trans (h j hj)
end

/-- A slice of bytes that lies in none of the blocks of F. -/
def BysX (w : World) (F : Nat → Prop) (A : Option Addr) (bs : List Nat) : Prop :=
  (∀ x, x ∈ bs → x < 256) ∧ (0 < bs.length → ∃ b off, A = some ⟨b, off, none⟩ ∧ b < w.heap.size ∧ ¬ F b ∧ ∀ i, i < bs.length → w.cell? ⟨b, off + i, none⟩ = some (.int .u8 ((bs.getD i 0 : Nat) : Int)))
section
variable {F F' : Nat → Prop} {w w' : World} {A : Option Addr} {bs : List Nat}
theorem BysX.of {B : Nat} (h : Bys w B A bs) (hB : ∀ k, F k → B ≤ k) (hw : B ≤ w.heap.size) : BysX w F A bs :=
  ⟨h.1, fun hl => by obtain ⟨b, off, e, hb, hc⟩ := h.2 hl; exact ⟨b, off, e, by omega, fun hx => by have := hB b hx; omega, hc⟩⟩
theorem BysX.touch (h : BysX w F A bs) (ht : Touch F w w') (hF : ∀ x, F' x → F x ∨ w.heap.size ≤ x) : BysX w' F' A bs :=
  ⟨h.1, fun hl => by
    obtain ⟨b, off, e, h1, h2, hc⟩ := h.2 hl
    exact ⟨b, off, e, Nat.lt_of_lt_of_le h1 ht.size, fun hx => (hF b hx).elim h2 (fun h3 => by omega), fun i hi => (ht.cell (p := ⟨b, off + i, none⟩) h1 h2).trans (hc i hi)⟩⟩
theorem BysX.nil (w : World) (F : Nat → Prop) (A : Option Addr) : BysX w F A [] := ⟨by simp, by simp⟩
theorem BysX.bys (h : BysX w F A bs) : Bys w w.heap.size A bs := ⟨h.1, fun hl => by obtain ⟨b, off, e, h1, _, hc⟩ := h.2 hl; exact ⟨b, off, e, h1, hc⟩⟩
end

section
variable {P : Program} {w : World}
/-- Many bytes more: what is left, and where it lies. -/
theorem run_foot (base : Nat) (t ty e : TypeId) (ht : P.underlying t = some (.slice e)) (hinfo : (P.info? e).map (fun i => (i.zero, i.size, i.bytes)) = some (some (.int .u8 0), 1, 1))
    (v : Value) (n : Nat) (xs : List Nat) (hown : w.ownsRow base e 1 v n (vals .u8 xs)) (A : Option Addr) (m c : Nat) (bs : List Nat) (hc : A = none → c = 0) (hl : bs.length = m) (hb : Bys w w.heap.size A bs)
    (hn : n + m ≤ 4294967296) (hbase : base ≤ w.heap.size) :
    ∃ v' w', (Builtin.append_ #[t, t] ty #[v, .slice A m c]).run P w = .ok v' w' ∧ w'.ownsRow base e 1 v' (n + m) (vals .u8 (xs ++ bs)) ∧ w.grownBy w' v.ownBlock ∧ (v'.ownBlock = v.ownBlock ∨ v'.ownBlock = some w.heap.size) := by
  obtain ⟨i0, hi, hz0, hz1, hz2⟩ := info_parts hinfo
  have hva : vals .u8 (xs ++ bs) = vals .u8 xs ++ vals .u8 bs := by simp [vals]
  rcases A with _ | ad
  · have hm : bs = [] := by
      rcases Nat.eq_zero_or_pos bs.length with h0 | h0
      · exact List.eq_nil_of_length_eq_zero h0
      · obtain ⟨_, _, he, _⟩ := hb.2 h0; cases he
    subst hm
    obtain rfl : m = 0 := hl.symm
    obtain rfl : c = 0 := hc rfl
    exact ⟨v, w, run_append_owned_none (P := P) (w := w) base t ty e i0 1 ht hi v n _ hown, by simpa using hown, ⟨rfl, rfl, rfl, Nat.le_refl _, fun _ _ _ => rfl⟩, .inl rfl⟩
  · have hnews : ∀ j u, (vals .u8 bs)[j]? = some u → w.cell? (ad.add j) = some u := by
      intro j u hu
      have hj : j < bs.length := by
        rcases Nat.lt_or_ge j bs.length with h1 | h1
        · exact h1
        · rw [List.getElem?_eq_none (by simpa [vals] using h1)] at hu; cases hu
      obtain ⟨b, off, he, _, hcell⟩ := hb.2 (by omega)
      simp only [Option.some.injEq] at he
      subst he
      rw [vals_get .u8 bs j hj] at hu
      simp only [Option.some.injEq] at hu
      subst hu
      have e : Addr.add ⟨b, off, none⟩ j = ⟨b, off + j, none⟩ := by
        unfold Addr.add; split <;> simp_all
      rw [e]; exact hcell j hj
    obtain ⟨v', w', hr, h2, h3, _, h5⟩ := run_append_own_at (P := P) w base t ty e i0 (.int .u8 0) 1 1 ht hi hz0 hz1 hz2 rfl (by decide) v n _ hown ad m c (vals .u8 bs) (by simp [vals, hl]) hnews
      (by intro u hu; simp only [vals, List.mem_map] at hu; obtain ⟨z, _, rfl⟩ := hu; rfl) (by unfold maxLen; omega) (by omega) hbase
    exact ⟨v', w', hr, by rw [hva]; exact h2, h3, h5⟩
/-- At the operation. -/
theorem wp_foot {o : Oper} {a : Act} {K : Act → World → Prop} {Q : Exit → Act → World → Prop} (s x : Operand) (t : TypeId)
    (ho : o.op = .call { callee := .builtin .append, args := #[s, x], argTypes := #[t, t] })
    (base : Nat) (e : TypeId) (ht : P.underlying t = some (.slice e)) (hinfo : (P.info? e).map (fun i => (i.zero, i.size, i.bytes)) = some (some (.int .u8 0), 1, 1))
    (v : Value) (n : Nat) (xs : List Nat) (hs : a.eval s = v) (hown : w.ownsRow base e 1 v n (vals .u8 xs)) (A : Option Addr) (m c : Nat) (bs : List Nat) (hx : a.eval x = .slice A m c) (hc : A = none → c = 0) (hl : bs.length = m) (hb : Bys w w.heap.size A bs)
    (hn : n + m ≤ 4294967296) (hbase : base ≤ w.heap.size)
    (h : ∀ v' w', w'.ownsRow base e 1 v' (n + m) (vals .u8 (xs ++ bs)) → w.grownBy w' v.ownBlock → (v'.ownBlock = v.ownBlock ∨ v'.ownBlock = some w.heap.size) → K (a.put o.dst v') w') : o.wp P a w K Q := by
  obtain ⟨v', w', hr, h2, h3, h4⟩ := run_foot (P := P) (w := w) base t o.type e ht hinfo v n xs hown A m c bs hc hl hb hn hbase
  unfold Oper.wp execOp
  simp only [ho, resolve, invoke, builtin, Sem.run_bind, Sem.run_pure, Result.andThen_ok, List.map_toArray, List.map_cons, List.map_nil, hs, hx, hr]
  exact h v' w' h2 h3 h4
/-- At a plain statement's list. -/
theorem list_foot {ops : Array Oper} {rest : List Oper} {o : Oper} {a : Act} {Q : Exit → Act → World → Prop} (hgd : o.guard = none) (s x : Operand) (t : TypeId)
    (ho : o.op = .call { callee := .builtin .append, args := #[s, x], argTypes := #[t, t] })
    (base : Nat) (e : TypeId) (ht : P.underlying t = some (.slice e)) (hinfo : (P.info? e).map (fun i => (i.zero, i.size, i.bytes)) = some (some (.int .u8 0), 1, 1))
    (v : Value) (n : Nat) (xs : List Nat) (hs : a.eval s = v) (hown : w.ownsRow base e 1 v n (vals .u8 xs)) (A : Option Addr) (m c : Nat) (bs : List Nat) (hx : a.eval x = .slice A m c) (hc : A = none → c = 0) (hl : bs.length = m) (hb : Bys w w.heap.size A bs)
    (hn : n + m ≤ 4294967296) (hbase : base ≤ w.heap.size)
    (h : ∀ v' w', w'.ownsRow base e 1 v' (n + m) (vals .u8 (xs ++ bs)) → w.grownBy w' v.ownBlock → (v'.ownBlock = v.ownBlock ∨ v'.ownBlock = some w.heap.size) → wpList P ops Q rest (a.put o.dst v') w') : wpList P ops Q (o :: rest) a w :=
  wpList_plain hgd fun _ hK => wp_foot s x t ho base e ht hinfo v n xs hs hown A m c bs hx hc hl hb hn hbase fun v' w' h1 h2 h3 => hK _ _ (h v' w' h1 h2 h3)
end
end Go.Proofs.YtoeboblkboillaaDoor
