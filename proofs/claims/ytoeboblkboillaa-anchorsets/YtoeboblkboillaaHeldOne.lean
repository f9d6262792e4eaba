/-
  Own law: a statement that draws its order: one operation alone may come up, guarded or not. No program is named here; no conditions.
-/
import Derived.Test.YtoeboblkboillaaHeldList
namespace Go.Proofs.Ytoeboblkboillaa
theorem asked_none {ops : Array Oper} {L : Array Bool} {w w' : World} (h : Whole ops L ∧ Asked [] L w) : Whole ops L ∧ Asked [] L w' := ⟨h.1, fun p hp => by cases hp⟩
/-- One alone may come up, and is wanted. -/
theorem wpAnyL_oneW {P : Program} {ops : Array Oper} {Q : Exit → Act → World → Prop} {ps : List (Nat × (World → Prop))} {i : Nat} {o : Oper} {n : Nat} {listed : Array Bool} {a : Act} {w : World} (hr : Region.ready .any ops listed = [i]) (ho : ops[i]? = some o) (hg : Region.wanted o (yielded ops a.tmps) = true) (hS : Whole ops listed ∧ Asked ps listed w)
    (h : ∀ K : Act → World → Prop, Shut (∀ a w, Asked ps (listed.setIfInBounds i true) w → (Whole ops (listed.setIfInBounds i true) ∧ Asked ps (listed.setIfInBounds i true) w → wpAnyL P ops Q ps n (listed.setIfInBounds i true) a w) → K a w) → o.wp P a w K Q) : wpAnyL P ops Q ps (n + 1) listed a w := by
  refine ⟨fun h0 => absurd (hr.symm.trans h0) (by simp), fun j hj => ?_⟩
  have hj' := hj
  rw [hr] at hj
  obtain rfl : j = i := by simpa using hj
  unfold wpOp
  simp only [ho, hg, if_true]
  exact .inl (h _ fun a' w' h1 h2 => ⟨h1, h2 ⟨hS.1.next hj', h1⟩⟩)
end Go.Proofs.Ytoeboblkboillaa
