/-
  The chapter's example: under the key 00 01 .. 0f, 00 11 .. ff begins with 69 c4 e0 d8. Plain reckoning: no program is named here.
-/
import Derived.Test.YtkpifmnojmenaaaDoorAesWordNum
namespace Go.Proofs.YtkpifmnojmenaaaDoor.Ae
open Gf Sb
def keyX : List Nat := (List.range 16).map fun i => i
def blkX : List Nat := (List.range 16).map fun i => 17 * i
theorem ex_enc : (enc 10 (keysOf keyX 4) blkX).take 4 = [0x69, 0xc4, 0xe0, 0xd8] := by decide +kernel
theorem ex_at (i v : Nat) (hi : i < 4) (h : [0x69, 0xc4, 0xe0, 0xd8].getD i 0 = v) : (enc 10 (keysOf keyX 4) blkX).getD i 0 = v := by
  rw [← h, ← ex_enc]
  simp [hi]
theorem keyX_len : keyX.length = 16 := by simp [keyX]
theorem keyX_lt : ∀ x, x ∈ keyX → x < 256 := by decide
theorem st_blkX : St blkX := st_map _ (fun i hi => by omega)
end Go.Proofs.YtkpifmnojmenaaaDoor.Ae
