/-
  A map from ints to bools that the call makes, as the list of the numbers that are in it: the look-up, the store of true, delete, len. No conditions.
-/
import Derived.Test.YtjeiechkndfhmaaAppFoot
import Derived.Maps.OwnSet
import Derived.Maps.OwnOps
import Derived.Test.YtjeiechkndfhmaaChecked
namespace Go.Proofs.Ytjeiechkndfhmaa
open Go.RowKit Go.Maps Go.ChangeMaps Go.MapKept
open Go.WideElems (rg)

noncomputable def mR : Value → Option (DataW Unit × List MemPlace) := plainElem (H := Unit) Try.prog 4
theorem bool_inv {P : Program} {e : TypeId} (he : P.underlying e = some .bool) {v : Value} {x : Bool} {ps : List MemPlace} (h : plainElem (H := Unit) P e v = some (.lit (.bool x), ps)) : v = .bool x := by
  unfold plainElem at h
  rw [he] at h
  cases v <;> simp at h
  rw [h.1]
/-- Block b is a map that holds just these numbers, each with true. -/
structure MapD (w : World) (b : Nat) (os : List Int) (D : DataW Unit) : Prop where
  own : w.ownsMap Try.prog 3 mR b os.length D
  at' : ∀ u : Int, D.atKey (.int .i64 u) (.lit (.bool false)) = .lit (.bool (decide (u ∈ os)))
  has : ∀ u : Int, Maps.has D (.int .i64 u) = decide (u ∈ os)
  size : Maps.size D = os.length
def MapS (w : World) (b : Nat) (os : List Int) : Prop := ∃ D, MapD w b os D
theorem klaw : Keyed Try.prog 3 := int_keyed Try.underlying3
theorem kzero (w : World) : (zeroValue 4).run Try.prog w = .ok (.bool false) w := by kernel_rfl
theorem wf_of {u : Int} (h : -9223372036854775808 ≤ u ∧ u ≤ 9223372036854775807) : (Lit.int .i64 u).wf = true := WalkArith.wf_i64 h
section
variable {w w' : World} {b : Nat} {os : List Int}
theorem MapS.made (w : World) : MapS (w.alloc (.map #[] 0)) w.heap.size [] :=
  ⟨_, World.ownsMap_made _ _ _ _, fun _ => rfl, fun _ => rfl, rfl⟩
theorem MapS.lt (h : MapS w b os) : b < w.heap.size := by obtain ⟨D, h⟩ := h; exact h.own.lt
theorem MapS.kept (h : MapS w b os) (hk : w'.heap[b]? = w.heap[b]?) : MapS w' b os := by
  obtain ⟨D, ⟨es, clock, hb, rest⟩, h2, h3, h4⟩ := h
  exact ⟨D, ⟨es, clock, hk.trans hb, rest⟩, h2, h3, h4⟩
theorem MapS.below (h : MapS w b os) (hb : Below w.heap.size w w') : MapS w' b os := h.kept (hb.block b h.lt)
theorem MapS.perm {os' : List Int} (h : MapS w b os) (hl : os'.length = os.length) (hm : ∀ u, u ∈ os' ↔ u ∈ os) : MapS w b os' := by
  obtain ⟨D, h1, h2, h3, h4⟩ := h
  exact ⟨D, by rw [hl]; exact h1, fun u => by rw [h2 u]; simp only [hm u], fun u => by rw [h3 u]; simp only [hm u], by rw [hl]; exact h4⟩
end
section
variable {w : World} {ops : Array Oper} {rest : List Oper} {o : Oper} {a : Act} {Q : Exit → Act → World → Prop} {b : Nat} {os : List Int}
/-- 'm[u]'. -/
theorem map_look (hg : o.guard = none) (m x : Operand) (hop : o.op = Op.lookup 54 m x false) (hm : a.eval m = .map (some b)) (h : MapS w b os) (u : Int) (hu : -9223372036854775808 ≤ u ∧ u ≤ 9223372036854775807) (hx : a.eval x = .int .i64 u)
    (hK : wpList Try.prog ops Q rest (a.put o.dst (.bool (decide (u ∈ os)))) w) : wpList Try.prog ops Q (o :: rest) a w := by
  obtain ⟨D, h1, h2, _, _⟩ := h
  obtain ⟨v, ps, hrun, hv⟩ := h1.lookup klaw Try.underlying54 (kzero w) (zd := .lit (.bool false)) (zp := []) (plainElem_bool Try.underlying4 false) (keyOf_int_mk Try.underlying3 (wf_of hu))
  rw [h2 u] at hv
  have ev : v = .bool (decide (u ∈ os)) := bool_inv Try.underlying4 hv
  subst ev
  refine wpList_plain hg fun K' hK' => ?_
  unfold Oper.wp
  simp [execOp, hop, hm, hx, hrun, Result.andThen]
  exact hK' _ _ hK
/-- 'm[u] = true', where u is not in it. -/
theorem map_store (hg : o.guard = none) (m x v : Operand) (hop : o.op = Op.mapUpdate 54 m x v) (hm : a.eval m = .map (some b)) (h : MapS w b os) (hn : os.length ≤ 1000000) (u : Int) (hu : -9223372036854775808 ≤ u ∧ u ≤ 9223372036854775807) (hx : a.eval x = .int .i64 u) (hv : a.eval v = .bool true)
    (hnot : u ∉ os) (hK : ∀ w', MapS w' b (os ++ [u]) → w.grownBy w' (some b) → wpList Try.prog ops Q rest (a.put o.dst undef) w') : wpList Try.prog ops Q (o :: rest) a w := by
  obtain ⟨D, h1, h2, h3, h4⟩ := h
  refine wpList_mapUpdate_own w hg m x v 54 hop 3 4 klaw Try.underlying54 mR b os.length D hm h1 (by unfold maxLen; omega) _ _ (.int .i64 u) hx hv (keyOf_int_mk Try.underlying3 (wf_of hu)) (.lit (.bool true)) [] (plainElem_bool Try.underlying4 true) ?_
  intro w' hown hgr
  have hT := h1.tidy klaw
  refine hK w' ⟨D.put (.int .i64 u) (.lit (.bool true)), by rw [List.length_append]; exact hown, fun y => ?_, fun y => ?_, ?_⟩ hgr
  · by_cases e : y = u
    · subst e
      rw [atKey_put_same hT.isMap (k := .int .i64 y) trivial]; simp
    · rw [atKey_put_other (by simpa using e), h2 y]; simp [e]
  · by_cases e : y = u
    · subst e
      rw [has_put_same hT.isMap (k := .int .i64 y) trivial]; simp
    · rw [has_put_other (by simpa using e), h3 y]; simp [e]
  · rw [size_put hT, h3 u, if_neg (by simpa using hnot), h4, List.length_append]; rfl
/-- 'delete(m, u)', u in it, and once alone. -/
theorem map_del (hg : o.guard = none) (m x : Operand) (hop : o.op = Op.call { callee := Callee.builtin Builtin.delete, args := #[m, x], argTypes := #[54, 3] }) (hm : a.eval m = .map (some b)) (u : Int) (h : MapS w b (u :: os)) (hu : -9223372036854775808 ≤ u ∧ u ≤ 9223372036854775807) (hx : a.eval x = .int .i64 u)
    (hnot : u ∉ os) (hK : ∀ w', MapS w' b os → w.grownBy w' (some b) → wpList Try.prog ops Q rest (a.put o.dst (.tuple #[])) w') : wpList Try.prog ops Q (o :: rest) a w := by
  obtain ⟨D, h1, h2, h3, h4⟩ := h
  have hT := h1.tidy klaw
  refine wpList_delete_own _ hg m x 54 3 hop 4 klaw Try.underlying54 mR b (u :: os).length D hm h1 _ (.int .i64 u) hx (keyOf_int_mk Try.underlying3 (wf_of hu)) ?_
  intro w' hown hturn
  have hsz : Maps.size (D.del (.int .i64 u)) = os.length := by
    have := size_del (k := .int .i64 u) hT
    rw [h3 u, if_pos (by simp), h4, List.length_cons] at this
    omega
  have hown2 : w'.ownsMap Try.prog 3 mR b os.length (D.del (.int .i64 u)) := by
    obtain ⟨es, clock, q1, q2, _, q4⟩ := hown
    refine ⟨es, clock, q1, q2, ?_, q4⟩
    have e1 : Maps.size (DataW.map ((es.toList.map (rg Try.prog 3 mR)).foldr DataW.insert [])) = es.size := by simp [Maps.size, length_sorted]
    rw [← e1, ← q4, hsz]
    exact Nat.le_refl _
  obtain ⟨es, clock, es', clock', hb, hw⟩ := hturn
  have hgr : w.grownBy w' (some b) := by
    rw [hw]
    exact ⟨rfl, rfl, rfl, by simp [setBlock], fun i _ hi => heap_setBlock_other hb _ (fun e => hi (by rw [e]))⟩
  refine hK w' ⟨_, hown2, fun y => ?_, fun y => ?_, hsz⟩ hgr
  · by_cases e : y = u
    · subst e
      rw [atKey_del_same]; simp [hnot]
    · rw [atKey_del_other (by simpa using e), h2 y]; simp [e]
  · by_cases e : y = u
    · subst e
      rw [has_del_same]; simp [hnot]
    · rw [has_del_other (by simpa using e), h3 y]; simp [e]
/-- 'len(m)'. -/
theorem map_len (hg : o.guard = none) (m : Operand) (hop : o.op = Op.call { callee := Callee.builtin Builtin.len, args := #[m], argTypes := #[54] }) (hm : a.eval m = .map (some b)) (h : MapS w b os)
    (hK : wpList Try.prog ops Q rest (a.put o.dst (.int .i64 (os.length : Nat))) w) : wpList Try.prog ops Q (o :: rest) a w := by
  obtain ⟨D, h1, _, _, h4⟩ := h
  refine wpList_len_own _ hg m 54 hop 3 4 Try.underlying54 mR b os.length D hm h1 ?_
  rw [h4]
  exact hK
theorem map_lenN (n : Nat) (hn : os.length = n) (hg : o.guard = none) (m : Operand) (hop : o.op = Op.call { callee := Callee.builtin Builtin.len, args := #[m], argTypes := #[54] }) (hm : a.eval m = .map (some b)) (h : MapS w b os)
    (hK : wpList Try.prog ops Q rest (a.put o.dst (.int .i64 (n : Int))) w) : wpList Try.prog ops Q (o :: rest) a w := by
  subst hn
  exact map_len hg m hop hm h hK
end
end Go.Proofs.Ytjeiechkndfhmaa
