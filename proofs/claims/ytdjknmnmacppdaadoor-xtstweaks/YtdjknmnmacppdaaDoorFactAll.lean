/-
  Own law: a statement that draws its order, by a fact about each operation's answer. Each operation is looked at once, whatever the order; what is known of it is that all that it waits for has come up, each with its fact. No program is named here; no conditions.
  A whole array is read, as one operation of a statement that is walked by facts; slices of bytes as facts. No conditions.
-/
import Derived.Test.YtdjknmnmacppdaaDoorAnyInv
import Derived.Below
import Derived.Test.YtdjknmnmacppdaaDoorArrAll
import Derived.Test.YtdjknmnmacppdaaDoorBytes
namespace Go.Proofs.YtdjknmnmacppdaaDoor
open Go.RowKit
section
variable {P : Program} {ops : Array Oper} {Q : Exit → Act → World → Prop}

/-- A fact about an operation's answer, that stands when more is laid behind. -/
structure Fact where
  p : Value → World → Prop
  mono : ∀ v w w', p v w → Below w.heap.size w w' → p v w'
/-- Nothing is said. -/
def Fact.top : Fact := ⟨fun _ _ => True, fun _ _ _ _ _ => True.intro⟩
/-- The answer is this value. -/
def Fact.is (u : Value) : Fact := ⟨fun v _ => v = u, fun _ _ _ h _ => h⟩
/-- The fact of operation i, out of a list. -/
def factOf (Fs : List Fact) (i : Nat) : Fact := Fs.getD i Fact.top

/-- Which slot operation i writes. -/
def dstOf (ops : Array Oper) (i : Nat) : Option Tmp := (ops[i]?).bind (·.dst)
/-- Operation i waits for operation j. -/
def waitsB (ops : Array Oper) (i j : Nat) : Bool := ((ops[i]?).map fun o => o.after.any fun e => Region.binds .any e && (e.on == j)).getD false
/-- No two operations write one slot, and the slots are there. -/
def dstB (ops : Array Oper) (n : Nat) : Bool := (List.range ops.size).all fun i => match dstOf ops i with | none => true | some d => decide (d < n) && (List.range ops.size).all fun j => decide (i = j) || dstOf ops j != some d
/-- Slot s is as it was when operation i comes up: whoever writes it waits for i. -/
def freeB (ops : Array Oper) (i s : Nat) : Bool := (List.range ops.size).all fun j => dstOf ops j != some s || waitsB ops j i

theorem dstOf_lt {i d : Nat} (h : dstOf ops i = some d) : i < ops.size := by
  unfold dstOf at h
  cases ho : ops[i]? with
  | none => rw [ho] at h; cases h
  | some o => exact (Array.getElem?_eq_some_iff.1 ho).1
theorem dstB_lt {n i d : Nat} (h : dstB ops n = true) (hd : dstOf ops i = some d) : d < n := by
  unfold dstB at h
  rw [List.all_eq_true] at h
  have h1 := h i (List.mem_range.2 (dstOf_lt hd))
  rw [hd] at h1
  simp only [Bool.and_eq_true, decide_eq_true_eq] at h1
  exact h1.1
theorem dstB_inj {n i j d : Nat} (h : dstB ops n = true) (hd : dstOf ops i = some d) (hj : dstOf ops j = some d) : i = j := by
  unfold dstB at h
  rw [List.all_eq_true] at h
  have h1 := h i (List.mem_range.2 (dstOf_lt hd))
  rw [hd] at h1
  simp only [Bool.and_eq_true, decide_eq_true_eq, List.all_eq_true] at h1
  have h2 := h1.2 j (List.mem_range.2 (dstOf_lt hj))
  rw [hj] at h2
  simpa using h2
theorem waits_of {i j : Nat} (h : waitsB ops i j = true) : ∃ o, ops[i]? = some o ∧ ∃ e ∈ o.after, Region.binds .any e = true ∧ e.on = j := by
  unfold waitsB at h
  cases ho : ops[i]? with
  | none => rw [ho] at h; cases h
  | some o =>
    rw [ho] at h
    simp only [Option.map_some, Option.getD_some, Array.any_eq_true'] at h
    obtain ⟨e, he, h1⟩ := h
    simp only [Bool.and_eq_true, beq_iff_eq] at h1
    exact ⟨o, rfl, e, he, h1.1, h1.2⟩

/-- What is known when operation i comes up. -/
structure Known (ops : Array Oper) (a0 : Act) (Fs : List Fact) (S : World → Prop) (i : Nat) (a : Act) (w : World) : Prop where
  hS : S w
  slot : ∀ s, freeB ops i s = true → a.tmps[s]?.getD undef = a0.tmps[s]?.getD undef
  fact : ∀ j d, waitsB ops i j = true → dstOf ops j = some d → (factOf Fs j).p (a.tmps[d]?.getD undef) w

/-- What holds, D having come up. -/
structure FSt (ops : Array Oper) (a0 : Act) (Fs : List Fact) (S : World → Prop) (D : Nat → Bool) (a : Act) (w : World) : Prop where
  hS : S w
  size : a.tmps.size = a0.tmps.size
  defers : a.defers = a0.defers
  slot : ∀ s, (∀ j, dstOf ops j = some s → D j = false) → a.tmps[s]?.getD undef = a0.tmps[s]?.getD undef
  fact : ∀ j d, D j = true → dstOf ops j = some d → (factOf Fs j).p (a.tmps[d]?.getD undef) w

/-- THE LAW. -/
theorem wp_region_facts {id : Nat} {a0 : Act} {w0 : World} (hm : P.follows .mixedOrders = true) (hback : backB ops = true) (n m : Nat) (hn : a0.tmps.size = n) (hsz : ops.size = m) (hdst : dstB ops n = true) (Fs : List Fact) (S : World → Prop) (hS : S w0.drew)
    (step : ∀ i, i < m → ∀ a w, Known ops a0 Fs S i a w → ∀ K : Act → World → Prop, (∀ v w', (factOf Fs i).p v w' → S w' → Below w.heap.size w w' → K (a.put (dstOf ops i) v) w') → wpOp P ops Q i K a w)
    (fin : ∀ a w, S w → a.tmps.size = n → a.defers = a0.defers → (∀ s, (∀ j, j < m → dstOf ops j ≠ some s) → a.tmps[s]?.getD undef = a0.tmps[s]?.getD undef) → (∀ j d, j < m → dstOf ops j = some d → (factOf Fs j).p (a.tmps[d]?.getD undef) w) → Q .normal a w) :
    (Code.region id ops true).wp P Q a0 w0 := by
  refine wp_region_inv_closed hm hback (FSt ops a0 Fs S) ⟨hS, rfl, rfl, fun _ _ => rfl, fun _ _ h => by cases h⟩ (fun D a w hI hC i o ho hd he => ?_) (fun D a w hI hall => ?_)
  · have hi : i < ops.size := (Array.getElem?_eq_some_iff.1 ho).1
    have hdo : dstOf ops i = o.dst := by unfold dstOf; rw [ho]; rfl
    refine step i (by omega) a w ⟨hI.hS, fun s hs => hI.slot s (fun j hj => ?_), fun j d hj hjd => ?_⟩ _ (fun v w' hv hS' hB => ?_)
    · unfold freeB at hs
      rw [List.all_eq_true] at hs
      have h1 := hs j (List.mem_range.2 (dstOf_lt hj))
      rw [hj] at h1
      simp only [bne_self_eq_false, Bool.false_or] at h1
      obtain ⟨oj, hoj, e, hej, hb, hon⟩ := waits_of h1
      exact hC.no hoj hej hb (by rw [hon]; exact hd)
    · obtain ⟨oi, hoi, e, hei, hb, hon⟩ := waits_of hj
      rw [ho] at hoi
      cases hoi
      exact hI.fact j d (by rw [← hon]; exact he e hei hb) hjd
    · cases hq : dstOf ops i with
      | none =>
        refine ⟨hS', hI.size, hI.defers, fun s hs => hI.slot s (fun j hj => ?_), fun j d hj hjd => ?_⟩
        · have := hs j hj
          simp only [Bool.or_eq_false_iff] at this
          exact this.2
        · refine (factOf Fs j).mono _ w w' (hI.fact j d ?_ hjd) hB
          by_cases hji : j = i
          · subst hji; rw [hq] at hjd; cases hjd
          · simpa [hji] using hj
      | some d0 =>
        have hlt : d0 < a.tmps.size := by rw [hI.size, hn]; exact dstB_lt hdst hq
        refine ⟨hS', by simpa [Act.put] using hI.size, hI.defers, fun s hs => ?_, fun j d hj hjd => ?_⟩
        · have hne : s ≠ d0 := fun e => by
            have := hs i (by rw [e]; exact hq)
            simp at this
          have : (a.put (some d0) v).tmps[s]? = a.tmps[s]? := by simp [Act.put, Array.getElem?_setIfInBounds_ne (fun x => hne x.symm)]
          rw [this]
          exact hI.slot s (fun j hj => by have := hs j hj; simp only [Bool.or_eq_false_iff] at this; exact this.2)
        · by_cases hji : j = i
          · subst hji
            rw [hq] at hjd
            cases hjd
            have : (a.put (some d0) v).tmps[d0]? = some v := by simp [Act.put, hlt]
            rw [this]
            exact hv
          · have hne : d ≠ d0 := fun e => hji (dstB_inj hdst hjd (by rw [e]; exact hq))
            have : (a.put (some d0) v).tmps[d]? = a.tmps[d]? := by simp [Act.put, Array.getElem?_setIfInBounds_ne (fun x => hne x.symm)]
            rw [this]
            exact (factOf Fs j).mono _ w w' (hI.fact j d (by simpa [hji] using hj) hjd) hB
  · refine fin a w hI.hS (by rw [hI.size, hn]) hI.defers (fun s hs => hI.slot s (fun j hj => ?_)) (fun j d hj hjd => hI.fact j d (hall j (by omega)) hjd)
    exact absurd hj (hs j (by have := dstOf_lt hj; omega))

/-- One operation that is wanted. -/
theorem wpOp_go {i : Nat} {o : Oper} {a : Act} {w : World} {K : Act → World → Prop} (ho : ops[i]? = some o) (hg : o.guard = none) (h : o.wp P a w K Q) : wpOp P ops Q i K a w := wpOp_of ho hg h
theorem wpOp_if {i j d : Nat} {b : Bool} {o : Oper} {a : Act} {w : World} {K : Act → World → Prop} (ho : ops[i]? = some o) (hg : o.guard = some (j, b)) (hd : dstOf ops j = some d) (hv : a.tmps[d]?.getD undef = .bool b) (h : o.wp P a w K Q) : wpOp P ops Q i K a w := by
  have hw : Region.wanted o (yielded ops a.tmps) = true := by
    have hy : yielded ops a.tmps j = some b := by
      unfold yielded
      unfold dstOf at hd
      rw [hd]
      simp only [Option.bind_some]
      cases ht : a.tmps[d]? with
      | none => rw [ht] at hv; cases hv
      | some v => rw [ht] at hv; simp only [Option.getD_some] at hv; rw [hv]
    simp [Region.wanted, hg, hy]
  unfold wpOp
  simp only [ho, hw, if_true]
  exact .inl h
/-- Step by step. -/
theorem lt_zero {p : Nat → Prop} : ∀ i, i < 0 → p i := fun _ h => absurd h (Nat.not_lt_zero _)
theorem lt_step {p : Nat → Prop} {n : Nat} (h : ∀ i, i < n → p i) (hn : p n) : ∀ i, i < n + 1 → p i := fun i hi => by
  rcases Nat.lt_or_ge i n with h1 | h1
  · exact h i h1
  · obtain rfl : i = n := by omega
    exact hn
/-- An operation whose run is known. -/
theorem op_run {o : Oper} {a : Act} {w : World} {K : Act → World → Prop} {v : Value} {w' : World} (hr : (execOp a.eval o).run P w = .ok (.value v) w') (h : K (a.put o.dst v) w') : o.wp P a w K Q := by
  unfold Oper.wp
  rw [hr]
  exact h
/-- What a slot hands back. -/
theorem results_slot {fn : Func} {p : Tmp} (h : fn.results = #[.tmp p]) (tmps : Array Value) (w : World) (v : Value) (hp : tmps[p]?.getD undef = v) : (results fn tmps).run P w = .ok v w := by
  simp [results, h, hp]
end
end Go.Proofs.YtdjknmnmacppdaaDoor
namespace Go.Proofs.YtdjknmnmacppdaaDoor
open Go.RowKit Arr
/-- The answer is a slice of these bytes. -/
def Fact.bys (bs : List Nat) : Fact := ⟨fun v w => ∃ A c, v = .slice A bs.length c ∧ Bys w w.heap.size A bs, fun _ _ _ h hb => by
  obtain ⟨A, c, e, hp⟩ := h
  exact ⟨A, c, e, (hp.below hb).more hb.size⟩⟩
/-- The answer is a slice of these bytes, n of them. -/
def Fact.bysN (bs : List Nat) (n : Nat) : Fact := ⟨fun v w => ∃ A c, v = .slice A n c ∧ Bys w w.heap.size A bs, fun _ _ _ h hb => by
  obtain ⟨A, c, e, hp⟩ := h
  exact ⟨A, c, e, (hp.below hb).more hb.size⟩⟩
/-- A whole array is read, as one operation. -/
theorem op_load {P : Program} {Q : Exit → Act → World → Prop} {t e : TypeId} {n : Nat} {k : IntKind} {op : Oper} {a : Act} {w : World} {K : Act → World → Prop} (o : Of P t e n k) (g i : Nat) (l : List Nat) (hl : l.length = n) (hb : w.rangeAt g i (nv k l)) (x : Operand) (ho : op.op = .load t x)
    (hx : a.eval x = .pointer (some ⟨g, i, none⟩)) (h : K (a.put op.dst (.agg (na k l))) w) : op.wp P a w K Q :=
  wp_load_mid t x ho g i hx (nv k l) _ hb o.hu rfl (by rw [length_nv, hl]; exact o.hi) h
/-- An array that is nothing but noughts, as a value, under a guard. -/
theorem buildG {P : Program} {t : TypeId} {ops : Array Oper} {rest : List Oper} {dst : Option Tmp} {ty : TypeId} {pos : String} {after : Array Edge} {gd : Option (Nat × Bool)} {a : Act} {w : World} {Q : Exit → Act → World → Prop} (cs : Array Value) (hz : P.built t [] = some cs)
    (hw : Region.wanted { dst := dst, op := .build t #[], type := ty, pos := pos, after := after, guard := gd } (yielded ops a.tmps) = true)
    (h : wpList P ops Q rest (a.put dst (.agg cs)) w) : wpList P ops Q ({ dst := dst, op := .build t #[], type := ty, pos := pos, after := after, guard := gd } :: rest) a w :=
  wpList_step fun K hK => by
    rw [if_pos hw]
    exact wp_build t #[] rfl (by simp [hz]) (hK _ _ (by simpa [hz] using h))
end Go.Proofs.YtdjknmnmacppdaaDoor
