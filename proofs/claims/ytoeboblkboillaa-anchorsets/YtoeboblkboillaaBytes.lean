/-
  Own lemmas on bytes in memory: 'Bys w B A bs' says that a slice that begins at A reads as the bytes bs and lies below block B. No conditions.
-/
import Derived.WalkKit
import Derived.Deep.Draws
namespace Go.Proofs.Ytoeboblkboillaa
open Go.RowKit

/-- The slice at A holds the bytes bs, in blocks below B. -/
def Bys (w : World) (B : Nat) (A : Option Addr) (bs : List Nat) : Prop :=
  (∀ x, x ∈ bs → x < 256) ∧ (0 < bs.length → ∃ b off, A = some ⟨b, off, none⟩ ∧ b < B ∧ ∀ i, i < bs.length → w.cell? ⟨b, off + i, none⟩ = some (.int .u8 ((bs.getD i 0 : Nat) : Int)))

section
variable {w w' : World} {B B' : Nat} {A : Option Addr} {bs : List Nat}

theorem Bys.lt (h : Bys w B A bs) (i : Nat) : bs.getD i 0 < 256 := by
  by_cases hi : i < bs.length
  · have e : bs.getD i 0 = bs[i] := by simp [hi]
    rw [e]; exact h.1 _ (List.getElem_mem hi)
  · have e : bs.getD i 0 = 0 := by simp [List.getElem?_eq_none (Nat.le_of_not_lt hi)]
    omega
theorem Bys.nil (w : World) (B : Nat) (A : Option Addr) : Bys w B A [] := ⟨by simp, by simp⟩
theorem Bys.keep (h : Bys w B A bs) (hk : ∀ p : Addr, p.block < B → w'.cell? p = w.cell? p) : Bys w' B A bs :=
  ⟨h.1, fun hl => by
    obtain ⟨b, off, e, hb, hc⟩ := h.2 hl
    exact ⟨b, off, e, hb, fun i hi => (hk ⟨b, off + i, none⟩ hb).trans (hc i hi)⟩⟩
theorem Bys.below (h : Bys w B A bs) (hb : Below B w w') : Bys w' B A bs := h.keep fun _ hp => hb.cell hp
theorem Bys.more (h : Bys w B A bs) (hB : B ≤ B') : Bys w B' A bs :=
  ⟨h.1, fun hl => by
    obtain ⟨b, off, e, hb, hc⟩ := h.2 hl
    exact ⟨b, off, e, by omega, hc⟩⟩
theorem Bys.drewN (h : Bys w B A bs) (n : Nat) : Bys (w.drewN n) B A bs := h
end

/-- A stretch of a slice. -/
theorem Bys.part {w : World} {B b off : Nat} {bs : List Nat} (h : Bys w B (some ⟨b, off, none⟩) bs) (i m : Nat) (hm : i + m ≤ bs.length) : Bys w B (some ⟨b, off + i, none⟩) ((bs.drop i).take m) := by
  refine ⟨fun x hx => h.1 x (List.mem_of_mem_drop (List.mem_of_mem_take hx)), fun hl => ?_⟩
  have hlen : ((bs.drop i).take m).length = m := by simp; omega
  obtain ⟨b', off', e, hb, hc⟩ := h.2 (by omega)
  simp only [Option.some.injEq, Addr.mk.injEq, and_true] at e
  obtain ⟨rfl, rfl⟩ := e
  refine ⟨b, off + i, rfl, hb, fun j hj => ?_⟩
  rw [hlen] at hj
  have := hc (i + j) (by omega)
  rw [Nat.add_assoc, this]
  congr 3
  simp [hj]
theorem wrap_nat (n : Nat) (h : n < 1000000) : IntKind.i64.wrap (n : Int) = (n : Int) := by rw [IntKind.wrap_i64]; omega
theorem below_drewN {B : Nat} {a w : World} (h : Below B a w) (n : Nat) : Below B a (w.drewN n) := ⟨h.os, h.tape, h.output, h.size, h.block⟩
theorem below_drewN_self (w : World) (n : Nat) : Below w.heap.size w (w.drewN n) := ⟨rfl, rfl, rfl, Nat.le_refl _, fun _ _ => rfl⟩

/-- The table of widths stands in block g. -/
def Tab (w : World) (g : Nat) : Prop := ∀ j, j < 8 → w.cell? ⟨g, j, none⟩ = some (.int .u64 ((8 * j : Nat) : Int))

theorem lt_of_cell {w : World} {p : Addr} {v : Value} (h : w.cell? p = some v) : p.block < w.heap.size := by
  rcases Nat.lt_or_ge p.block w.heap.size with hlt | hge
  · exact hlt
  · exfalso
    have e : w.heap[p.block]? = none := Array.getElem?_eq_none hge
    simp [World.cell?, e] at h
theorem Tab.lt {w : World} {g : Nat} (h : Tab w g) : g < w.heap.size := lt_of_cell (h 0 (by omega))
theorem Tab.below {w w' : World} {g B : Nat} (h : Tab w g) (hb : Below B w w') (hg : g < B) : Tab w' g := fun j hj => (hb.cell (p := ⟨g, j, none⟩) hg).trans (h j hj)

end Go.Proofs.Ytoeboblkboillaa
