/-
  The contract of the reference's Make. Condition: the key's bytes lie in its slice. (Written by tools/gen_make4.py.)
-/
import Derived.Test.YtdjknmnmacppdaaDoorAesRefRow
import Derived.Test.YtdjknmnmacppdaaDoorAesExp
namespace Go.Proofs.YtdjknmnmacppdaaDoor
open Go.RowKit Arr Gf Sb Ae
set_option linter.unusedSimpArgs false

/-- What a call of the reference's Make leaves. -/
def RMade (bs : List Nat) (k : Nat) (w : World) (e : Ending) (w' : World) : Prop :=
  ∃ g gB cB gb cb, e = .returned (.pointer (some ⟨g, 0, none⟩)) ∧ RKey w' g (k + 6) gB cB (allB (words bs k) (4 * (k + 7))) gb cb ∧ Below w.heap.size w w'
theorem bytes_of {bs : List Nat} (h : ∀ x, x ∈ bs → x < 256) (i : Nat) : bs.getD i 0 < 256 := by
  by_cases hi : i < bs.length
  · have e : bs.getD i 0 = bs[i] := by simp [hi]
    rw [e]; exact h _ (List.getElem_mem hi)
  · rw [getD_out _ _ (by omega)]; omega
theorem take_more' (l : List Nat) (k : Nat) (hk : k < l.length) : l.take (k + 1) = l.take k ++ [l.getD k 0] := Sw.take_more l k hk

end Go.Proofs.YtdjknmnmacppdaaDoor
