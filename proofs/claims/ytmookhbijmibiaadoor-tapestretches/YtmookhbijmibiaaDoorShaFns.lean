/-
  Contracts of sha.turns and sha.shifted. No conditions but that the numbers fit.
-/
import Derived.Test.YtmookhbijmibiaaDoorW32
import Derived.Test.YtmookhbijmibiaaDoorShaNum
import Derived.Test.YtmookhbijmibiaaDoorAesStill
import Derived.Deep.QuietTactic
import Derived.BigQuiet
namespace Go.Proofs.YtmookhbijmibiaaDoor
open Go.RowKit Arr Sh

theorem turns_any (x i j k : Nat) (hx : x < 4294967296) (hi : i < 32) (hj : j < 32) (hk : k < 32) (w : World) :
    Calls Tryd.prog 34 #[.int .u32 (x : Int), .int .i64 (i : Int), .int .i64 (j : Int), .int .i64 (k : Int)] w fun e w' => e = .returned (.int .u32 (tri x i j k : Nat)) ∧ w = w' := by
  have C1 := Lib.hid (rotate_any x hx (i : Int) i (by omega) w)
  have C2 := Lib.hid (rotate_any x hx (j : Int) j (by omega) w)
  have C3 := Lib.hid (rotate_any x hx (k : Int) k (by omega) w)
  have l1 := rot_lt x i hx (by omega)
  have l2 := rot_lt x j hx (by omega)
  have l3 := rot_lt x k hx (by omega)
  have X1 := u32_xor_nat _ _ l1 l2
  have X2 := u32_xor_nat _ _ (xor32 l1 l2) l3
  have HR := Lib.hid (show rot x i ^^^ rot x j ^^^ rot x k = tri x i j k from rfl)
  generalize tri x i j k = z at *
  generalize rot x i = a at *
  generalize rot x j = b at *
  generalize rot x k = c at *
  go_enter Tryd.func34, Tryd.ntmps34
  go_wp2_with fail
  refine C1.out.mono ?_
  rintro e w' ⟨rfl, rfl⟩
  go_wp2_with fail
  refine C2.out.mono ?_
  rintro e w' ⟨rfl, rfl⟩
  go_wp2_with fail
  refine C3.out.mono ?_
  rintro e w' ⟨rfl, rfl⟩
  go_wp2
  go_ret
  exact ⟨ret_int (by rw [HR.out]), rfl⟩

set_option maxRecDepth 10000 in
set_option maxHeartbeats 1000000 in
theorem shifted_any (x i j k : Nat) (hx : x < 4294967296) (hi : i < 32) (hj : j < 32) (hk : k < 32) (w : World) :
    Calls Tryd.prog 36 #[.int .u32 (x : Int), .int .i64 (i : Int), .int .i64 (j : Int), .int .i64 (k : Int)] w fun e w' => e = .returned (.int .u32 (duo x i j k : Nat)) ∧ ∃ m, w' = w.drewN m := by
  have C1 := Lib.hid (fun w' => (rotate_any x hx (i : Int) i (by omega) w').mono fun e w'' h => (⟨h.1, h.2.symm⟩ : e = .returned (.int .u32 ((rot x i : Nat) : Int)) ∧ w'' = w'))
  have C2 := Lib.hid (fun w' => (rotate_any x hx (j : Int) j (by omega) w').mono fun e w'' h => (⟨h.1, h.2.symm⟩ : e = .returned (.int .u32 ((rot x j : Nat) : Int)) ∧ w'' = w'))
  have l1 := rot_lt x i hx (by omega)
  have l2 := rot_lt x j hx (by omega)
  have l3 : x / 2 ^ k < 4294967296 := Nat.lt_of_le_of_lt (Nat.div_le_self _ _) hx
  have X1 := u32_xor_nat _ _ l1 l2
  have X2 := u32_xor_nat _ _ (xor32 l1 l2) l3
  have e3 : ((x / 2 ^ k : Nat) : Int) = (x : Int) / 2 ^ k := by simp
  rw [e3] at X2
  have HR := Lib.hid (show rot x i ^^^ rot x j ^^^ x / 2 ^ k = duo x i j k from rfl)
  clear e3
  generalize duo x i j k = z at *
  generalize rot x i = a at *
  generalize rot x j = b at *
  generalize x / 2 ^ k = c at *
  have HX := Lib.hid X2
  clear X2
  go_enter Tryd.func36, Tryd.ntmps36
  go_wp2_with fail
  go_quiet (first | (go_at_call 37; first | (with_reducible exact Calls.quiet_of_same (C1.out _)) | (with_reducible exact Calls.quiet_of_same (C2.out _))))
  go_wp2
  go_ret
  exact ⟨ret_int (by rw [HX.out, HR.out]), _, rfl⟩
end Go.Proofs.YtmookhbijmibiaaDoor
