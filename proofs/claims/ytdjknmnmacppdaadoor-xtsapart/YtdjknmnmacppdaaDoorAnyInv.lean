/-
  Own lemma: a statement that draws its order, by an invariant over what has come up: one walk, whatever the order. No program is named here; no conditions.
-/
import Derived.Orders
import Derived.Laws.World
namespace Go.Proofs.YtdjknmnmacppdaaDoor
section
variable {P : Program} {ops : Array Oper} {Q : Exit → Act → World → Prop}

/-- Each waits only for what stands ahead of it in the text. -/
def backB (ops : Array Oper) : Bool := (List.range ops.size).all fun i => ((ops[i]?).map (·.after.all fun e => !Region.binds .any e || decide (e.on < i))).getD true

theorem back_of (h : backB ops = true) {i : Nat} {o : Oper} (ho : ops[i]? = some o) {e : Edge} (he : e ∈ o.after) (hb : Region.binds .any e = true) : e.on < i := by
  unfold backB at h
  rw [List.all_eq_true] at h
  have hi : i < ops.size := (Array.getElem?_eq_some_iff.1 ho).1
  have h1 := h i (List.mem_range.2 hi)
  rw [ho] at h1
  simp only [Option.map_some, Option.getD_some] at h1
  have h2 := Array.all_eq_true_iff_forall_mem.1 h1 e he
  simpa [hb] using h2

theorem ready_mem {listed : Array Bool} {i : Nat} (h : i ∈ Region.ready .any ops listed) : i < ops.size ∧ listed.getD i true = false ∧ ∀ o, ops[i]? = some o → ∀ e ∈ o.after, Region.binds .any e = true → listed.getD e.on false = true := by
  unfold Region.ready at h
  rw [List.mem_filter] at h
  obtain ⟨h1, h2⟩ := h
  simp only [Bool.and_eq_true, Bool.not_eq_true'] at h2
  refine ⟨List.mem_range.1 h1, h2.1, fun o ho e he hb => ?_⟩
  have h3 := h2.2
  rw [ho] at h3
  simp only [Option.map_some, Option.getD_some] at h3
  have h4 := Array.all_eq_true_iff_forall_mem.1 h3 e he
  simpa [hb] using h4

theorem all_listed (hback : backB ops = true) {listed : Array Bool} (hr : Region.ready .any ops listed = []) : ∀ i, i < ops.size → listed.getD i true = true := by
  intro i
  induction i using Nat.strongRecOn with
  | ind i ih =>
    intro hi
    cases hl : listed.getD i true with
    | true => rfl
    | false =>
      exfalso
      have hm : i ∈ Region.ready .any ops listed := by
        unfold Region.ready
        rw [List.mem_filter]
        refine ⟨List.mem_range.2 hi, ?_⟩
        rw [hl]
        have ho : ops[i]? = some ops[i] := Array.getElem?_eq_getElem hi
        rw [ho]
        simp only [Option.map_some, Option.getD_some, Bool.not_false, Bool.true_and]
        rw [Array.all_eq_true_iff_forall_mem]
        intro e he
        cases hb : Region.binds .any e with
        | false => rfl
        | true =>
          have hlt := back_of hback ho he hb
          have := ih e.on hlt (by omega)
          have hin : i < listed.size := by
            by_cases hs : i < listed.size
            · exact hs
            · rw [Array.getD_eq_getD_getElem?, Array.getElem?_eq_none (by omega)] at hl; cases hl
          have : listed.getD e.on false = true := by
            rw [Array.getD_eq_getD_getElem?, Array.getElem?_eq_getElem (by omega)] at this ⊢
            exact this
          simpa using this
      rw [hr] at hm
      cases hm

theorem count_zero {listed : Array Bool} (h : listed.toList.count false = 0) : ∀ i, listed.getD i true = true := by
  intro i
  rw [Array.getD_eq_getD_getElem?]
  cases hi : listed[i]? with
  | none => rfl
  | some b =>
    cases b with
    | true => rfl
    | false =>
      have hm : false ∈ listed.toList := by
        have := Array.mem_of_getElem? hi
        exact Array.mem_toList_iff.2 this
      have := List.count_pos_iff.2 hm
      omega

/-- THE LAW. I tells of what has come up, the frame and the world. -/
theorem wpAny_inv (hback : backB ops = true) (I : (Nat → Bool) → Act → World → Prop)
    (step : ∀ D a w, I D a w → ∀ i o, ops[i]? = some o → D i = false → (∀ e ∈ o.after, Region.binds .any e = true → D e.on = true) → wpOp P ops Q i (I (fun j => j == i || D j)) a w)
    (fin : ∀ D a w, I D a w → (∀ i, i < ops.size → D i = true) → Q .normal a w) :
    ∀ (fuel : Nat) (listed : Array Bool) (a : Act) (w : World), listed.size = ops.size → listed.toList.count false ≤ fuel → I (fun i => listed.getD i false) a w → wpAny P .any ops Q fuel listed a w := by
  have same : ∀ {listed : Array Bool} {i : Nat}, i < listed.size → listed.getD i false = listed.getD i true := fun h => by
    rw [Array.getD_eq_getD_getElem?, Array.getD_eq_getD_getElem?, Array.getElem?_eq_getElem h]; rfl
  have ended : ∀ {listed : Array Bool} {a : Act} {w : World}, listed.size = ops.size → I (fun i => listed.getD i false) a w → Region.ready .any ops listed = [] → Q .normal a w := fun hs hI hr =>
    fin _ _ _ hI (fun i hi => (same (by omega)).trans (all_listed hback hr i hi))
  intro fuel
  induction fuel with
  | zero =>
    intro listed a w hs hc hI
    have hr : Region.ready .any ops listed = [] := by
      cases hq : Region.ready .any ops listed with
      | nil => rfl
      | cons i r =>
        have hm : i ∈ Region.ready .any ops listed := by rw [hq]; simp
        have h1 := (ready_mem hm).2.1
        have h2 := count_zero (Nat.le_zero.1 hc) i
        rw [h1] at h2
        cases h2
    exact ⟨hr, ended hs hI hr⟩
  | succ fuel ih =>
    intro listed a w hs hc hI
    refine ⟨ended hs hI, fun i hi => ?_⟩
    obtain ⟨h1, h2, h3⟩ := ready_mem hi
    have hsi : i < listed.size := by omega
    have ho : ops[i]? = some ops[i] := Array.getElem?_eq_getElem h1
    have hfi : listed[i] = false := by
      rw [Array.getD_eq_getD_getElem?, Array.getElem?_eq_getElem hsi] at h2; exact h2
    refine wpOp_mono (fun a' w' hI' => ?_) (step _ a w hI i _ ho ((same hsi).trans h2) (h3 _ ho))
    refine ih _ a' w' (by simpa using hs) ?_ ?_
    · rw [Array.toList_setIfInBounds, List.count_set (by simpa using hsi)]
      have : listed.toList[i] = false := by simpa using hfi
      rw [this]
      change listed.toList.count false - 1 + 0 ≤ fuel
      omega
    · have e : (fun j => j == i || listed.getD j false) = (fun j => (listed.setIfInBounds i true).getD j false) := by
        funext j
        rw [Array.getD_eq_getD_getElem?, Array.getD_eq_getD_getElem?]
        by_cases hj : j = i
        · subst hj; simp [hsi]
        · have : (j == i) = false := by simpa using hj
          rw [this, Array.getElem?_setIfInBounds_ne (fun x => hj x.symm)]
          rfl
      rw [← e]
      exact hI'

theorem wp_region_inv {id : Nat} {a : Act} {w : World} (hm : P.follows .mixedOrders = true) (hback : backB ops = true) (I : (Nat → Bool) → Act → World → Prop)
    (start : I (fun _ => false) a w.drew)
    (step : ∀ D a w, I D a w → ∀ i o, ops[i]? = some o → D i = false → (∀ e ∈ o.after, Region.binds .any e = true → D e.on = true) → wpOp P ops Q i (I (fun j => j == i || D j)) a w)
    (fin : ∀ D a w, I D a w → (∀ i, i < ops.size → D i = true) → Q .normal a w) : (Code.region id ops true).wp P Q a w := by
  refine wp_region_any hm (wpAny_inv hback I step fin ops.size _ a _ (by simp) ?_ ?_)
  · refine Nat.le_trans List.count_le_length ?_
    simp
  · have e : (fun _ => false) = (fun i => (Array.replicate ops.size false).getD i false) := by
      funext i
      rw [Array.getD_eq_getD_getElem?]
      by_cases hi : i < ops.size
      · simp [hi]
      · rw [Array.getElem?_eq_none (by simp; omega)]; rfl
    rw [← e]
    exact start

/-- What has come up has had all come up that it waits for. -/
def Closed (ops : Array Oper) (D : Nat → Bool) : Prop := ∀ i o, ops[i]? = some o → D i = true → ∀ e ∈ o.after, Region.binds .any e = true → D e.on = true
theorem Closed.no {D : Nat → Bool} (h : Closed ops D) {i : Nat} {o : Oper} (ho : ops[i]? = some o) {e : Edge} (he : e ∈ o.after) (hb : Region.binds .any e = true) (hn : D e.on = false) : D i = false := by
  cases hd : D i with
  | false => rfl
  | true => rw [h i o ho hd e he hb] at hn; cases hn

/-- THE LAW, as it is used. -/
theorem wp_region_inv_closed {id : Nat} {a : Act} {w : World} (hm : P.follows .mixedOrders = true) (hback : backB ops = true) (I : (Nat → Bool) → Act → World → Prop)
    (start : I (fun _ => false) a w.drew)
    (step : ∀ D a w, I D a w → Closed ops D → ∀ i o, ops[i]? = some o → D i = false → (∀ e ∈ o.after, Region.binds .any e = true → D e.on = true) → wpOp P ops Q i (I (fun j => j == i || D j)) a w)
    (fin : ∀ D a w, I D a w → (∀ i, i < ops.size → D i = true) → Q .normal a w) : (Code.region id ops true).wp P Q a w := by
  refine wp_region_inv hm hback (fun D a w => I D a w ∧ Closed ops D) ⟨start, fun _ _ _ h => by cases h⟩ (fun D a w hI i o ho hd he => ?_) (fun D a w hI => fin D a w hI.1)
  refine wpOp_mono (fun a' w' hI' => ⟨hI', fun j oj hoj hj e hej hb => ?_⟩) (step D a w hI.1 hI.2 i o ho hd he)
  by_cases hji : j = i
  · subst hji
    rw [ho] at hoj
    cases hoj
    simp [he e hej hb]
  · have : D j = true := by simpa [hji] using hj
    simp [hI.2 j oj hoj this e hej hb]

/-- One operation that is not guarded. -/
theorem wpOp_of {i : Nat} {o : Oper} {a : Act} {w : World} {K : Act → World → Prop} (ho : ops[i]? = some o) (hg : o.guard = none) (h : o.wp P a w K Q) : wpOp P ops Q i K a w := by
  unfold wpOp
  simp only [ho, Region.wanted, hg, if_true]
  exact .inl h
end
end Go.Proofs.YtdjknmnmacppdaaDoor
