/-
  Own lemmas: a slice of numbers of kind int that comes in, whatever their signs. No program is named here; no conditions.
-/
import Derived.Test.YtjeiechkndfhmaaBytes
import Derived.ProofKit
import Derived.OpenShut
namespace Go.Proofs.Ytjeiechkndfhmaa
open Go.ChangeShapes Go.WideShapes Go.ChangeAt Go.RowKit

/-- The slice at A holds the numbers zs, in blocks below B. -/
def IntsI (w : World) (B : Nat) (A : Option Addr) (zs : List Int) : Prop :=
  (∀ z, z ∈ zs → -9223372036854775808 ≤ z ∧ z ≤ 9223372036854775807) ∧ (0 < zs.length → ∃ b off, A = some ⟨b, off, none⟩ ∧ b < B ∧ ∀ i, i < zs.length → w.cell? ⟨b, off + i, none⟩ = some (.int .i64 (zs.getD i 0)))
theorem IntsI.nil (w : World) (B : Nat) (A : Option Addr) : IntsI w B A [] := ⟨by simp, by simp⟩
theorem IntsI.below {w w' : World} {B : Nat} {A : Option Addr} {zs : List Int} (h : IntsI w B A zs) (hb : Below B w w') : IntsI w' B A zs :=
  ⟨h.1, fun hl => by obtain ⟨b, off, e, h1, h2⟩ := h.2 hl; exact ⟨b, off, e, h1, fun i hi => (hb.cell (p := ⟨b, off + i, none⟩) h1).trans (h2 i hi)⟩⟩
theorem IntsI.bounds {w : World} {B : Nat} {A : Option Addr} {zs : List Int} (h : IntsI w B A zs) (i : Nat) : -9223372036854775808 ≤ zs.getD i 0 ∧ zs.getD i 0 ≤ 9223372036854775807 := by
  by_cases hi : i < zs.length
  · have e : zs.getD i 0 = zs[i] := by simp [hi]
    rw [e]; exact h.1 _ (List.getElem_mem hi)
  · have e : zs.getD i 0 = 0 := by simp [List.getElem?_eq_none (Nat.le_of_not_lt hi)]
    omega
/-- A slice of ints that came in, as its reading gives it. -/
theorem intsI_of_ints {W : World} {x : Addr} {len cap : Nat} {zs : List Int} (hl : len ≤ cap) (hz : zs.length = cap)
    (hcell : ∀ i, i < zs.length → W.cell? (x.add i) = some (.int .i64 (zs.getD i 0))) (hw : ∀ n ∈ zs, (Lit.int .i64 n).wf = true) :
    ∃ l : List Int, l.length = len ∧ IntsI W W.heap.size (some x) l := by
  refine ⟨zs.take len, by simp; omega, fun z hz' => ?_, fun hp => ?_⟩
  · have := bounds_i64 (hw z (List.mem_of_mem_take hz')); omega
  · simp only [List.length_take] at hp
    obtain ⟨b, off, spot⟩ := x
    have hc := hcell 0 (by omega)
    have hspot : spot = none := by simpa [Addr.add] using World.cell?_spot hc
    subst hspot
    refine ⟨b, off, rfl, ?_, fun i hi => ?_⟩
    · have := lt_of_cell hc
      simpa [Addr.add] using this
    · simp only [List.length_take] at hi
      have hci := hcell i (by omega)
      have e : Addr.add ⟨b, off, none⟩ i = ⟨b, off + i, none⟩ := by
        unfold Addr.add; split <;> simp_all
      rw [e] at hci
      rw [hci]
      have hil : i < len := by omega
      simp [hil]
end Go.Proofs.Ytjeiechkndfhmaa
