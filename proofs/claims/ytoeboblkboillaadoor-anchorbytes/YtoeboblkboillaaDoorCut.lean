/-
  A stretch of a slice of bytes: the run of the slice expression, and what the stretch holds. No conditions.
-/
import Derived.Test.YtoeboblkboillaaDoorBytes
import Derived.Test.YtoeboblkboillaaDoorArrSlice
import Derived.Test.YtoeboblkboillaaDoorRows
import Derived.WalkKit
import Derived.OwnWalk
namespace Go.Proofs.YtoeboblkboillaaDoor
open Go.RowKit Arr

/-- Where a stretch that begins at l begins. -/
def cutA (A : Option Addr) (c l : Nat) : Option Addr := if c = l then A else A.map (·.add l)
theorem bys_cut {w : World} {B : Nat} {A : Option Addr} {bs : List Nat} (hb : Bys w B A bs) (c : Nat) (hc : bs.length ≤ c) (l h : Nat) (h1 : l ≤ h) (h2 : h ≤ bs.length) : Bys w B (cutA A c l) ((bs.drop l).take (h - l)) := by
  refine ⟨fun x hx => hb.1 x (List.mem_of_mem_drop (List.mem_of_mem_take hx)), fun hp => ?_⟩
  have hp' : 0 < h - l := by simp at hp; omega
  obtain ⟨b, off, rfl, hbB, _⟩ := hb.2 (by omega)
  have := (Bys.part hb l (h - l) (by omega)).2 hp
  rw [cutA, if_neg (by omega), Option.map_some, add_nat]
  exact this
theorem elem_bytes : Tryd.prog.elem 22 = 5 := by have := Tryd.underlying22; simp only [Program.elem, this]
theorem under_bytes : Tryd.prog.underlying 22 = some (.slice (Tryd.prog.elem 22)) := by rw [elem_bytes]; exact Tryd.underlying22
theorem size1_b : (Tryd.prog.info? 5).map (·.size) = some 1 := by kernel_rfl
theorem sizeof_byte (W : World) : (sizeOf (Tryd.prog.elem 22)).run Tryd.prog W = .ok 1 W := by
  rw [elem_bytes]
  have h := size1_b
  cases hq : Tryd.prog.info? 5 with
  | none => simp [hq] at h
  | some i => simp [hq] at h; simp [sizeOf, typeInfo, hq, h]
theorem run_cut_lh (A : Option Addr) (n c l h : Nat) (h1 : l ≤ h) (h2 : h ≤ c) (W : World) :
    (Instr.slice 22 (.slice A n c) (some (.int .i64 (l : Int))) (some (.int .i64 (h : Int))) none).run Tryd.prog W = .ok (.slice (cutA A c l) (h - l) (c - l)) W := by
  rw [run_slice_lh W 22 _ n c under_bytes .i64 .i64 _ _ (by omega) (by omega) (by omega), sizeof_byte]
  simp only [Result.andThen_ok, sliced, Int.toNat_natCast, Nat.mul_one]
  rfl
theorem run_cut_h (A : Option Addr) (n c h : Nat) (h2 : h ≤ c) (W : World) :
    (Instr.slice 22 (.slice A n c) none (some (.int .i64 (h : Int))) none).run Tryd.prog W = .ok (.slice (cutA A c 0) h c) W := by
  rw [run_slice_h W 22 _ n c under_bytes .i64 _ (by omega) (by omega), sizeof_byte]
  simp only [Result.andThen_ok, sliced, Int.toNat_natCast, Nat.mul_one]
  rfl
theorem run_cut_l (A : Option Addr) (n c l : Nat) (h2 : l ≤ n) (W : World) :
    (Instr.slice 22 (.slice A n c) (some (.int .i64 (l : Int))) none none).run Tryd.prog W = .ok (.slice (cutA A c l) (n - l) (c - l)) W := by
  rw [run_slice_l W 22 _ n c under_bytes .i64 _ (by omega) (by omega), sizeof_byte]
  simp only [Result.andThen_ok, sliced, Int.toNat_natCast, Nat.mul_one]
  rfl
end Go.Proofs.YtoeboblkboillaaDoor
