/-
  Stretches of a row of numbers; few extents have few sectors. Own lemmas. No conditions.
-/
import Derived.Test.YtjeiechkndfhmaaExSecs
import Derived.Test.YtjeiechkndfhmaaExFew
namespace Go.Proofs.Ytjeiechkndfhmaa
open Go.RowKit Arr Ex

theorem elem_i : Try.prog.elem 42 = 3 := by have := Try.underlying42; simp only [Program.elem, this]
theorem under_i : Try.prog.underlying 42 = some (.slice (Try.prog.elem 42)) := by rw [elem_i]; exact Try.underlying42
theorem size1_i : (Try.prog.info? 3).map (·.size) = some 1 := by kernel_rfl
theorem sizeof_i (W : World) : (sizeOf (Try.prog.elem 42)).run Try.prog W = .ok 1 W := by
  rw [elem_i]
  have h := size1_i
  cases hq : Try.prog.info? 3 with
  | none => simp [hq] at h
  | some i => simp [hq] at h; simp [sizeOf, typeInfo, hq, h]
/-- 'all[:k]'. -/
theorem ints_to {w : World} {B n c : Nat} {A : Option Addr} {zs : List Int} (h : IntsI w B A zs) (hl : zs.length = n) (hc : n ≤ c) (k : Nat) (hk : k ≤ n) :
    ∃ A', (∀ W, (Instr.slice 42 (.slice A n c) none (some (.int .i64 (k : Int))) none).run Try.prog W = .ok (.slice A' k c) W) ∧ IntsI w B A' (zs.take k) := by
  refine ⟨if c = 0 then A else A.map (·.add (0 * 1)), fun W => ?_, fun z hz => h.1 z (List.mem_of_mem_take hz), fun hp => ?_⟩
  · rw [run_slice_h W 42 _ n c under_i .i64 _ (by omega) (by omega), sizeof_i]
    simp only [Result.andThen_ok, sliced, Int.toNat_natCast, Nat.sub_zero]
  · simp only [List.length_take] at hp
    obtain ⟨b, off, rfl, hb, hcell⟩ := h.2 (by omega)
    refine ⟨b, off, ?_, hb, fun i hi => ?_⟩
    · rw [if_neg (by omega), Option.map_some, add_nat2]; simp
    · simp only [List.length_take] at hi
      rw [hcell i (by omega)]
      have hik : i < k := by omega
      simp [hik]
/-- 'all[k:]'. -/
theorem ints_from {w : World} {B n c : Nat} {A : Option Addr} {zs : List Int} (h : IntsI w B A zs) (hl : zs.length = n) (hc : n ≤ c) (k : Nat) (hk : k ≤ n) :
    ∃ A', (∀ W, (Instr.slice 42 (.slice A n c) (some (.int .i64 (k : Int))) none none).run Try.prog W = .ok (.slice A' (n - k) (c - k)) W) ∧ IntsI w B A' (zs.drop k) := by
  refine ⟨if c = k then A else A.map (·.add (k * 1)), fun W => ?_, fun z hz => h.1 z (List.mem_of_mem_drop hz), fun hp => ?_⟩
  · rw [run_slice_l W 42 _ n c under_i .i64 _ (by omega) (by omega), sizeof_i]
    simp only [Result.andThen_ok, sliced, Int.toNat_natCast]
  · simp only [List.length_drop] at hp
    obtain ⟨b, off, rfl, hb, hcell⟩ := h.2 (by omega)
    refine ⟨b, off + k, ?_, hb, fun i hi => ?_⟩
    · rw [if_neg (by omega), Option.map_some, add_nat2, Nat.mul_one]
    · simp only [List.length_drop] at hi
      rw [Nat.add_assoc, hcell (k + i) (by omega)]
      simp [List.getElem?_drop]
theorem few_total : ∀ (l : List (Int × Int)), (∀ x, x ∈ l → may x = true ∧ x.1 + x.2 ≤ 200) → total l ≤ 200 * l.length
  | [], _ => by simp [total]
  | x :: l, h => by
    have hx := h x (by simp)
    have := (may_iff x).1 hx.1
    have := few_total l (fun y hy => h y (by simp [hy]))
    rw [total_cons, List.length_cons]; omega
theorem fewE_total {l : List (Int × Int)} (h : FewE l) (hm : ∀ x, x ∈ l → may x = true) : total l ≤ 4000 := by
  have := few_total l (fun x hx => ⟨hm x hx, h.2 x hx (hm x hx)⟩)
  have := h.1
  omega
end Go.Proofs.Ytjeiechkndfhmaa
