/-
  A stretch of an array, by a pointer to it: the run of the slice expression. No program is named here; no conditions.
-/
import Derived.Test.YtoeboblkboillaaArrAt
namespace Go.Proofs.Ytoeboblkboillaa.Arr
open Go.RowKit
variable {P : Program} {t e : TypeId} {n : Nat} {k : IntKind}
theorem Of.arrayLen (o : Of P t e n k) : P.arrayLen t = n := by simp [Program.arrayLen, o.hu]
theorem Of.elem (o : Of P t e n k) : P.elem t = e := by simp [Program.elem, o.hu]
theorem Of.under (o : Of P t e n k) : P.underlying t = some (.array (P.arrayLen t) (P.elem t)) := by rw [o.arrayLen, o.elem]; exact o.hu
theorem Of.size (o : Of P t e n k) (w : World) : (sizeOf (P.elem t)).run P w = .ok 1 w := by
  have hz := o.hz
  rw [o.elem]
  cases hq : P.info? e with
  | none => simp [hq] at hz
  | some j => simp [hq] at hz; simp [sizeOf, typeInfo, hq, hz]
theorem add_nat (g o j : Nat) : (⟨g, o, none⟩ : Addr).add j = ⟨g, o + j, none⟩ := by
  by_cases h : j = 0
  · subst h; simp [Addr.add]
  · simp [Addr.add, h]
theorem sliceLH (o : Of P t e n k) (w : World) (g i : Nat) (kl kh : IntKind) (l h : Int) (a b : Nat) (ha : l = (a : Int)) (hb : h = (b : Int)) (h1 : a ≤ b) (h2 : b ≤ n) (h3 : a < n) :
    (Instr.sliceAt t (.pointer (some ⟨g, i, none⟩)) (some (.int kl l)) (some (.int kh h)) none).run P w = .ok (.slice (some ⟨g, i + a, none⟩) (b - a) (n - a)) w := by
  subst ha hb
  rw [run_sliceAt_array_lh w t _ o.under kl kh _ _ (by omega) (by omega) (by rw [o.arrayLen]; omega), o.size]
  simp only [Result.andThen_ok, slicedAt, o.arrayLen, Int.toNat_natCast, Nat.mul_one, add_nat]
  rw [if_neg (by omega)]
theorem sliceL (o : Of P t e n k) (w : World) (g i : Nat) (kl : IntKind) (l : Int) (a : Nat) (ha : l = (a : Int)) (h3 : a < n) :
    (Instr.sliceAt t (.pointer (some ⟨g, i, none⟩)) (some (.int kl l)) none none).run P w = .ok (.slice (some ⟨g, i + a, none⟩) (n - a) (n - a)) w := by
  subst ha
  rw [run_sliceAt_array_l w t _ o.under kl _ (by omega) (by rw [o.arrayLen]; omega), o.size]
  simp only [Result.andThen_ok, slicedAt, o.arrayLen, Int.toNat_natCast, Nat.mul_one, add_nat]
  rw [if_neg (by omega)]
end Go.Proofs.Ytoeboblkboillaa.Arr
