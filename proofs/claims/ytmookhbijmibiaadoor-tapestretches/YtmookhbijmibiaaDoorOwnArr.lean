/-
  A row of numbers that the call owns, as an array is held (Arr). No program is named here; no conditions.
-/
import Derived.Test.YtmookhbijmibiaaDoorOwn
import Derived.Test.YtmookhbijmibiaaDoorArr
namespace Go.Proofs.YtmookhbijmibiaaDoor
open Go.RowKit Arr

theorem vals_nv (k : IntKind) (l : List Nat) : vals k l = nv k l := rfl

theorem holds_of_owns {w : World} {base e n : Nat} {v : Value} {k : IntKind} {l : List Nat} (h : w.ownsRow base e 1 v n (vals k l)) (hn : 0 < n) :
    ∃ g c, v = .slice (some ⟨g, 0, none⟩) n c ∧ base ≤ g ∧ n ≤ c ∧ l.length = n ∧ Holds w g k l := by
  have hl : l.length = n := by have := h.1; simpa [vals] using this
  rcases h.2 with ⟨_, h0⟩ | ⟨g, cap, cur, rfl, hb, hg, h1, h2, h3, h4⟩
  · omega
  · have key : ∀ i, i < l.length → w.cell? ⟨g, i, none⟩ = some (.int k ((l.getD i 0 : Nat) : Int)) := fun i hi => by
      rw [cell_of_row _ _ _ _ _ _ hg]
      have h5 : (cur.toList.take (n * 1))[i]? = (vals k l)[i]? := by rw [h4]
      rw [vals_get k l i hi, List.getElem?_take, if_pos (by omega)] at h5
      simpa using h5
    refine ⟨g, cap, rfl, hb, h1, hl, fun j v hv => ?_, fun j hj => ⟨?_, ?_⟩⟩
    · have hj : j < l.length := by
        have := (List.getElem?_eq_some_iff.1 hv).1
        rwa [length_nv] at this
      rw [nv_get k l j hj] at hv
      rw [Nat.zero_add, key j hj]
      exact hv
    · rw [Nat.zero_add, key j hj]; rfl
    · rw [Nat.zero_add]; exact frozen_of_row _ _ _ _ _ hg
end Go.Proofs.YtmookhbijmibiaaDoor
