/-
  Own law: a statement that draws its order, under conditions on the world each of which holds till an operation that is named with it has come up. No program is named here; no conditions.
-/
import Derived.Deep.RegionHeld3
namespace Go.Proofs.Ytoeboblkboillaa
section
variable {P : Program} {ops : Array Oper} {Q : Exit → Act → World → Prop} {ps : List (Nat × (World → Prop))}

/-- What is asked of the world, 'listed' having come up. -/
def Asked (ps : List (Nat × (World → Prop))) (listed : Array Bool) (w : World) : Prop := ∀ p ∈ ps, listed.getD p.1 false = false → p.2 w
/-- Number z waits for number i. -/
def waitsL (ops : Array Oper) (z i : Nat) : Bool := ((ops[z]?).map fun o => o.after.any fun e => Region.binds .any e && e.on == i).getD false
/-- .. by way of others, too. -/
def reachB (ops : Array Oper) : Nat → Nat → Nat → Bool
  | 0, z, i => waitsL ops z i
  | n + 1, z, i => waitsL ops z i || (List.range ops.size).any fun j => waitsL ops z j && reachB ops n j i
/-- What has come up has had all come up that it waits for. -/
def Whole (ops : Array Oper) (listed : Array Bool) : Prop := ∀ z i, waitsL ops z i = true → listed.getD z false = true → listed.getD i false = true
theorem Whole.reach {listed : Array Bool} (h : Whole ops listed) : ∀ (n z i : Nat), reachB ops n z i = true → listed.getD z false = true → listed.getD i false = true
  | 0, z, i, hr, hz => h z i hr hz
  | n + 1, z, i, hr, hz => by
    simp only [reachB, Bool.or_eq_true, List.any_eq_true, Bool.and_eq_true] at hr
    rcases hr with hr | ⟨j, _, h1, h2⟩
    · exact h z i hr hz
    · exact h.reach n j i h2 (h z j h1 hz)
theorem Whole.none (ops : Array Oper) (n : Nat) : Whole ops (Array.replicate n false) := fun z i _ hz => by
  rw [Array.getD_eq_getD_getElem?] at hz
  by_cases h : z < n
  · simp [h] at hz
  · rw [Array.getElem?_eq_none (by simp; omega)] at hz; cases hz
theorem getD_up {listed : Array Bool} {i j : Nat} (h : listed.getD j false = true) : (listed.setIfInBounds i true).getD j false = true := by
  rw [Array.getD_eq_getD_getElem?] at h ⊢
  by_cases e : i = j
  · subst e
    by_cases hl : i < listed.size
    · simp [hl]
    · rw [Array.getElem?_eq_none (by omega)] at h; cases h
  · rw [Array.getElem?_setIfInBounds_ne e]; exact h
theorem getD_same {listed : Array Bool} {i j : Nat} (e : i ≠ j) : (listed.setIfInBounds i true).getD j false = listed.getD j false := by
  rw [Array.getD_eq_getD_getElem?, Array.getD_eq_getD_getElem?, Array.getElem?_setIfInBounds_ne e]
theorem waits_some {z i : Nat} (h : waitsL ops z i = true) : ∃ o, ops[z]? = some o ∧ ∃ e ∈ o.after, Region.binds .any e = true ∧ e.on = i := by
  unfold waitsL at h
  cases hz : ops[z]? with
  | none => rw [hz] at h; cases h
  | some o =>
    rw [hz] at h
    simp only [Option.map_some, Option.getD_some] at h
    obtain ⟨e, he, hb⟩ := Array.any_eq_true'.1 h
    simp only [Bool.and_eq_true, beq_iff_eq] at hb
    exact ⟨o, rfl, e, he, hb.1, hb.2⟩
theorem Whole.next {listed : Array Bool} {j : Nat} (h : Whole ops listed) (hj : j ∈ Region.ready .any ops listed) : Whole ops (listed.setIfInBounds j true) := by
  intro z i hw hz
  by_cases e : j = z
  · subst e
    obtain ⟨_, oj, hoj, hall⟩ := mem_ready.1 hj
    obtain ⟨o, ho, ed, hed, hb, rfl⟩ := waits_some hw
    rw [hoj] at ho
    cases ho
    exact getD_up (hall ed hed hb)
  · rw [getD_same e] at hz
    exact getD_up (h z i hw hz)

/-- Whatever comes up: behind each holds what is then asked. -/
def wpAnyL (P : Program) (ops : Array Oper) (Q : Exit → Act → World → Prop) (ps : List (Nat × (World → Prop))) : Nat → Array Bool → Act → World → Prop
  | 0, listed, a, w => Region.ready .any ops listed = [] ∧ Q .normal a w
  | n + 1, listed, a, w => (Region.ready .any ops listed = [] → Q .normal a w) ∧
      ∀ i ∈ Region.ready .any ops listed, wpOp P ops Q i (fun a' w' => Asked ps (listed.setIfInBounds i true) w' ∧ wpAnyL P ops Q ps n (listed.setIfInBounds i true) a' w') a w
theorem wpAny_of_L : ∀ (n : Nat) (listed : Array Bool) (a : Act) (w : World), wpAnyL P ops Q ps n listed a w → wpAny P .any ops Q n listed a w
  | 0, _, _, _, h => h
  | n + 1, _, _, _, h => ⟨h.1, fun i hi => wpOp_mono (fun a' w' h' => wpAny_of_L n _ a' w' h'.2) (h.2 i hi)⟩

/-- What may be asked of a world while number i has not come up. -/
def Before (ops : Array Oper) (ps : List (Nat × (World → Prop))) (i : Nat) (w : World) : Prop := ∃ listed, Whole ops listed ∧ listed.getD i false = false ∧ Asked ps listed w
theorem Before.get {i : Nat} {w : World} (h : Before ops ps i w) (p : Nat × (World → Prop)) (hp : p ∈ ps) (n : Nat) (hr : reachB ops n p.1 i = true) : p.2 w := by
  obtain ⟨L, hL, hi, hA⟩ := h
  refine hA p hp ?_
  cases hz : L.getD p.1 false with
  | false => rfl
  | true => rw [hL.reach n _ _ hr hz] at hi; cases hi
theorem asked_same {listed : Array Bool} {i : Nat} (hi : ps.all (fun p => p.1 != i) = true) (w : World) : Asked ps (listed.setIfInBounds i true) w ↔ Asked ps listed w := by
  rw [List.all_eq_true] at hi
  have e : ∀ p ∈ ps, (listed.setIfInBounds i true).getD p.1 false = listed.getD p.1 false := fun p hp => getD_same (fun e => (bne_iff_ne.1 (hi p hp)) e.symm)
  exact ⟨fun h p hp hl => h p hp (by rw [e p hp]; exact hl), fun h p hp hl => h p hp (by rw [e p hp] at hl; exact hl)⟩
theorem unlisted {listed : Array Bool} {i : Nat} (h : i ∈ Region.ready .any ops listed) : listed.getD i false = false := by
  have h0 := (mem_ready.1 h).1
  rw [Array.getD_eq_getD_getElem?] at h0 ⊢
  cases hq : listed[i]? with
  | none => rfl
  | some b => rw [hq] at h0; exact h0

/-- What yields its value wherever it may come up is taken first. -/
theorem wpAnyL_first {i : Nat} {oi : Oper} {v : Value} (hi : ops[i]? = some oi) (hsel : Region.noSelect ops = true) (hne : ps.all (fun p => p.1 != i) = true)
    (hQ : ∀ c a w, Q (.panic c) (a.put oi.dst v) w → Q (.panic c) a w) : ∀ (n : Nat) (listed : Array Bool) (a : Act) (w : World), Whole ops listed →
      (∀ j oj, ops[j]? = some oj → j ≠ i → listed.getD j true = false → (∀ e ∈ oj.after, Region.binds .any e = true → e.on ≠ i) → oi.apart ops oj = true) →
      i ∈ Region.ready .any ops listed → YieldsIf P ops (Before ops ps i) oi v a → Asked ps listed w → wpAnyL P ops Q ps n (listed.setIfInBounds i true) (a.put oi.dst v) w → wpAnyL P ops Q ps (n + 1) listed a w := by
  have hs := Region.noSelect_spec hsel
  intro n
  induction n with
  | zero =>
    intro listed a w hW _ hr hy hS H
    refine ⟨fun h => (by rw [h] at hr; cases hr), fun j hj => ?_⟩
    by_cases hji : j = i
    · subst hji; exact hy.wpOp hi ⟨listed, hW, unlisted hr, hS⟩ ⟨(asked_same hne w).2 hS, H⟩
    · have h0 := ready_mono hj hji
      rw [H.1] at h0
      cases h0
  | succ n ih =>
    intro listed a w hW hfree hr hy hS H
    refine ⟨fun h => (by rw [h] at hr; cases hr), fun j hj => ?_⟩
    by_cases hji : j = i
    · subst hji; exact hy.wpOp hi ⟨listed, hW, unlisted hr, hS⟩ ⟨(asked_same hne w).2 hS, H⟩
    · obtain ⟨hjun, oj, hoj, hall⟩ := mem_ready.1 hj
      have hnot : ∀ e ∈ oj.after, Region.binds .any e = true → e.on ≠ i := fun e he hb heq => by
        have h1 := hall e he hb
        rw [heq, unlisted hr] at h1
        cases h1
      have h2 := wpOp_putIf hoj (hfree j oj hoj hji hjun hnot) (fun cs b => hs i oi cs b hi) (fun cs b => hs j oj cs b hoj) hQ hy (H.2 j (ready_mono hj hji))
      refine wpOp_mono (fun a' w' h3 => ?_) h2
      have h4 := h3.2.1
      have h5 := h3.2.2
      rw [Array.setIfInBounds_comm _ _ (Ne.symm hji)] at h4 h5
      refine ⟨(asked_same hne w').1 h4, ih (listed.setIfInBounds j true) a' w' (hW.next hj) ?_ (ready_mono hr (Ne.symm hji)) h3.1 ((asked_same hne w').1 h4) h5⟩
      intro k ok hk hki hun hno
      refine hfree k ok hk hki ?_ hno
      by_cases hjk : j = k
      · subst hjk; exact hjun
      · rw [getD_set_ne true hjk] at hun; exact hun
theorem wpAnyL_take {i : Nat} {oi : Oper} {v : Value} {n : Nat} {listed : Array Bool} {a : Act} {w : World} (hi : ops[i]? = some oi)
    (hs : Region.noSelect ops = true) (hf : Region.free .any ops listed i = true) (hr : (Region.ready .any ops listed).contains i = true) (hne : ps.all (fun p => p.1 != i) = true)
    (hQ : ∀ c a w, Q (.panic c) (a.put oi.dst v) w → Q (.panic c) a w) (hy : YieldsIf P ops (Before ops ps i) oi v a) (hS : Whole ops listed ∧ Asked ps listed w)
    (h : Whole ops (listed.setIfInBounds i true) ∧ Asked ps (listed.setIfInBounds i true) w → wpAnyL P ops Q ps n (listed.setIfInBounds i true) (a.put oi.dst v) w) : wpAnyL P ops Q ps (n + 1) listed a w :=
  wpAnyL_first hi hs hne hQ n listed a w hS.1 (Region.free_spec hi hf) (by simpa using hr) hy hS.2 (h ⟨hS.1.next (by simpa using hr), (asked_same hne w).2 hS.2⟩)
/-- One alone may come up. -/
theorem wpAnyL_one {i : Nat} {o : Oper} {n : Nat} {listed : Array Bool} {a : Act} {w : World} (hr : Region.ready .any ops listed = [i]) (ho : ops[i]? = some o) (hg : o.guard = none) (hS : Whole ops listed ∧ Asked ps listed w)
    (h : ∀ K : Act → World → Prop, Shut (∀ a w, Asked ps (listed.setIfInBounds i true) w → (Whole ops (listed.setIfInBounds i true) ∧ Asked ps (listed.setIfInBounds i true) w → wpAnyL P ops Q ps n (listed.setIfInBounds i true) a w) → K a w) → o.wp P a w K Q) : wpAnyL P ops Q ps (n + 1) listed a w := by
  refine ⟨fun h0 => absurd (hr.symm.trans h0) (by simp), fun j hj => ?_⟩
  have hj' := hj
  rw [hr] at hj
  obtain rfl : j = i := by simpa using hj
  unfold wpOp
  simp only [ho, Region.wanted, hg, if_true]
  exact .inl (h _ fun a' w' h1 h2 => ⟨h1, h2 ⟨hS.1.next hj', h1⟩⟩)
theorem wpAnyL_done {listed : Array Bool} {a : Act} {w : World} (hr : Region.ready .any ops listed = []) (h : Q .normal a w) : ∀ n, wpAnyL P ops Q ps n listed a w
  | 0 => ⟨hr, h⟩
  | _ + 1 => ⟨fun _ => h, by rw [hr]; simp⟩
theorem wp_region_L {id : Nat} {a : Act} {w : World} (ps : List (Nat × (World → Prop))) (n : Nat) (L0 : Array Bool) (hn : ops.size = n) (h0 : Array.replicate n false = L0) (hm : P.follows .mixedOrders = true) (hS : ∀ p ∈ ps, p.2 w.drew)
    (h : Whole ops L0 ∧ Asked ps L0 w.drew → wpAnyL P ops Q ps n L0 a w.drew) : (Code.region id ops true).wp P Q a w := by
  subst hn h0
  exact wp_region_any hm (wpAny_of_L _ _ _ _ (h ⟨Whole.none _ _, fun p hp _ => hS p hp⟩))
end
end Go.Proofs.Ytoeboblkboillaa
