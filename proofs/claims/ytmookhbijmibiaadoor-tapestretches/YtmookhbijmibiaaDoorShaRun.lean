/-
  Own lemmas: a sum on its way, by lists: what is held when more bytes come. No program is named here.
-/
import Derived.Test.YtmookhbijmibiaaDoorShaNum
import Derived.Test.YtmookhbijmibiaaDoorArrMore
namespace Go.Proofs.YtmookhbijmibiaaDoor.Sh
open Arr

/-- What is held of text m: R's first bytes are what is no whole piece yet. -/
def Held (R m : List Nat) : Prop := R.length = 64 ∧ (∀ x, x ∈ R → x < 256) ∧ R.take (m.length % 64) = m.drop (64 * (m.length / 64))
/-- The numbers behind the whole pieces of text m. -/
def now (m : List Nat) : St := feed (m.length / 64) H0 m
theorem now_ok (m : List Nat) : (now m).Ok := feed_ok _ _ H0_ok
theorem held_nil (R : List Nat) (h : R.length = 64) (hb : ∀ x, x ∈ R → x < 256) : Held R [] := ⟨h, hb, by simp⟩
theorem spl_mem (R : List Nat) (i : Nat) (x : List Nat) (hR : ∀ y, y ∈ R → y < 256) (hx : ∀ y, y ∈ x → y < 256) : ∀ y, y ∈ spl R i x → y < 256 := by
  intro y hy
  simp only [spl, List.mem_append] at hy
  rcases hy with h | h | h
  · exact hR y (List.mem_of_mem_take h)
  · exact hx y h
  · exact hR y (List.mem_of_mem_drop h)
theorem spl_take (R : List Nat) (i : Nat) (x : List Nat) (h : i + x.length ≤ R.length) : (spl R i x).take (i + x.length) = R.take i ++ x := by
  have h1 : (R.take i).length = i := by simp; omega
  rw [spl, ← List.append_assoc, List.take_append_of_le_length (by simp; omega), List.take_of_length_le (by simp; omega)]
/-- More bytes, but no whole piece. -/
theorem held_more (R m x : List Nat) (h : Held R m) (hx : ∀ y, y ∈ x → y < 256) (hn : m.length % 64 + x.length < 64) :
    Held (spl R (m.length % 64) x) (m ++ x) ∧ (m ++ x).length % 64 = m.length % 64 + x.length ∧ now (m ++ x) = now m := by
  obtain ⟨h1, h2, h3⟩ := h
  have e1 : (m ++ x).length % 64 = m.length % 64 + x.length := by rw [List.length_append]; omega
  have e2 : (m ++ x).length / 64 = m.length / 64 := by rw [List.length_append]; omega
  refine ⟨⟨by rw [length_spl _ _ _ (by omega)]; exact h1, spl_mem _ _ _ h2 hx, ?_⟩, e1, ?_⟩
  · rw [e1, e2, spl_take _ _ _ (by omega), h3, List.drop_append_of_le_length (by omega)]
  · rw [now, e2, feed_app _ _ _ _ (by omega)]; rfl
/-- More bytes, up to a whole piece. -/
theorem held_full (R m x : List Nat) (h : Held R m) (hx : ∀ y, y ∈ x → y < 256) (hn : m.length % 64 + x.length = 64) :
    (spl R (m.length % 64) x).length = 64 ∧ (∀ y, y ∈ spl R (m.length % 64) x → y < 256) ∧ (m ++ x).length % 64 = 0 ∧ comp (spl R (m.length % 64) x) (now m) = now (m ++ x) ∧ Held (spl R (m.length % 64) x) (m ++ x) := by
  obtain ⟨h1, h2, h3⟩ := h
  have e1 : (m ++ x).length % 64 = 0 := by rw [List.length_append]; omega
  have e2 : (m ++ x).length / 64 = m.length / 64 + 1 := by rw [List.length_append]; omega
  have hl : (spl R (m.length % 64) x).length = 64 := by rw [length_spl _ _ _ (by omega)]; exact h1
  have hb := spl_mem _ (m.length % 64) _ h2 hx
  have e3 : (m ++ x).drop (64 * (m.length / 64)) = spl R (m.length % 64) x := by
    rw [List.drop_append_of_le_length (by omega), ← h3, ← spl_take _ _ _ (by omega), hn, List.take_of_length_le (by omega)]
  refine ⟨hl, hb, e1, ?_, hl, hb, ?_⟩
  · rw [now, now, e2, feed_snoc, e3, List.take_of_length_le (by omega), feed_app _ _ _ _ (by omega)]
  · rw [e1, e2, List.drop_of_length_le (by rw [List.length_append]; omega)]; rfl
/-- All is in: the numbers are the sum's. -/
theorem now_tot (m : List Nat) : now (tot m) = feed ((tot m).length / 64) H0 (tot m) := rfl
theorem sum_eq (m : List Nat) : sum m = out (now (tot m)) := rfl
end Go.Proofs.YtmookhbijmibiaaDoor.Sh
