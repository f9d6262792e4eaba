/-
  The walk of the law WordNumbers: for every number, size and bytes it answers true and leaves what was there. Condition: the table of widths stands in its variable.
-/
import Derived.Test.YtmcemgmnnpleoaaDoorAwake
import Derived.Test.YtmcemgmnnpleoaaDoorRefGet
import Derived.Test.YtmcemgmnnpleoaaDoorRefPut
namespace Go.Proofs.YtmcemgmnnpleoaaDoor
open Go.RowKit

set_option maxHeartbeats 1000000 in
theorem numbers_long (n s : Int) (A : Option Addr) (len cap : Nat) (hl : 100 < len) (w : World) (ht : Tab w 0) :
    Calls Tryd.prog 3 #[.int .i64 n, .int .i64 s, .slice A len cap] w (Ret true w) := by
  have HA := Lib.hid (awake_any w ht)
  have HT := Lib.hid ht; clear ht
  have h1 : decide (100 < (len : Int)) = true := by simp; omega
  go_enter Tryd.func3, Tryd.ntmps3
  go_wp2_with fail
  refine HA.out.mono ?_
  rintro e w1 ⟨rfl, hb1⟩
  have HB1 := Lib.hid hb1; clear hb1
  go_wp2
  go_ret
  exact ⟨rfl, HB1.out⟩

set_option maxHeartbeats 1000000 in
theorem numbers_none (n s : Int) (hp : putOk n s = false) (bs : List Nat) (A : Option Addr) (len cap : Nat) (hlen : bs.length = len) (hl : len ≤ 100) (w : World) (ht : Tab w 0) (hb : Bys w w.heap.size A bs) :
    Calls Tryd.prog 3 #[.int .i64 n, .int .i64 s, .slice A len cap] w (Ret true w) := by
  have HA := Lib.hid (awake_any w ht)
  have HT := Lib.hid ht; clear ht
  have HB := Lib.hid hb; clear hb
  have HP := Lib.hid hp; clear hp
  have HL := Lib.hid hlen; clear hlen
  have h1 : decide (100 < (len : Int)) = false := by simp; omega
  go_enter Tryd.func3, Tryd.ntmps3
  go_wp2_with fail
  refine HA.out.mono ?_
  rintro e w1 ⟨rfl, hb1⟩
  have HB1 := Lib.hid hb1; clear hb1
  go_wp2_with fail
  refine (put_none n s HP.out w1 (HT.out.below HB1.out HT.out.lt)).mono ?_
  rintro e w2 ⟨rfl, rfl⟩
  go_wp2_with fail
  refine (rput_none n s HP.out w1).mono ?_
  rintro e w2 ⟨rfl, hb2⟩
  have HB2 := Lib.hid (HB1.out.trans (hb2.mono HB1.out.size)); clear hb2
  go_wp2_with fail
  refine (get_any A len cap bs HL.out w2 w.heap.size (HB.out.below HB2.out) (HT.out.below HB2.out HT.out.lt)).mono ?_
  rintro e w3 ⟨rfl, rfl⟩
  go_wp2_with fail
  refine (rget_any A len cap bs HL.out w2 w.heap.size (HB.out.below HB2.out)).mono ?_
  rintro e w3 ⟨rfl, rfl⟩
  have HS := Lib.hid (same_any none none [] [] 0 0 0 0 w2 rfl rfl (by omega) 0 0 (Bys.nil _ _ _) (Bys.nil _ _ _))
  have g1 : (((getN bs : Nat) : Int) == ((getN bs : Nat) : Int)) = true := by simp
  have g2 : (((getE bs : Nat) : Int) == ((getE bs : Nat) : Int)) = true := by simp
  generalize getN bs = N at *
  generalize getE bs = E at *
  go_wp2_with fail
  refine HS.out.mono ?_
  rintro e w' ⟨k, rfl, rfl⟩
  go_wp2
  go_ret
  exact ⟨rfl, below_drewN HB2.out k⟩

set_option maxHeartbeats 1000000 in
theorem numbers_some (m k : Nat) (p1 : 1 ≤ k) (p2 : k ≤ 8) (p3 : m ≤ 4611686018427387904) (p4 : m < 256 ^ k) (bs : List Nat) (A : Option Addr) (len cap : Nat) (hlen : bs.length = len) (hl : len ≤ 100) (w : World) (ht : Tab w 0) (hb : Bys w w.heap.size A bs) :
    Calls Tryd.prog 3 #[.int .i64 (m : Int), .int .i64 (k : Int), .slice A len cap] w (Ret true w) := by
  have HA := Lib.hid (awake_any w ht)
  have HT := Lib.hid ht; clear ht
  have HB := Lib.hid hb; clear hb
  have HP := Lib.hid (fun W hW => put_some m k p1 p2 p3 p4 W hW)
  have HR := Lib.hid (fun W => rput_some m k p1 p2 p3 p4 W)
  have HL := Lib.hid hlen; clear hlen
  clear p4
  have h1 : decide (100 < (len : Int)) = false := by simp; omega
  go_enter Tryd.func3, Tryd.ntmps3
  go_wp2_with fail
  refine HA.out.mono ?_
  rintro e w1 ⟨rfl, hb1⟩
  have HB1 := Lib.hid hb1; clear hb1
  go_wp2_with fail
  refine (HP.out w1 (HT.out.below HB1.out HT.out.lt)).mono ?_
  rintro e w2 ⟨arr, hla, rfl, rfl⟩
  have HB2 := Lib.hid (HB1.out.trans ((Below.refl w.heap.size w1).alloc HB1.out.size (.cells arr 5)))
  have HX := Lib.hid (hla.bys w1)
  clear hla
  go_wp2_with fail
  refine (HR.out _).mono ?_
  rintro e w3 ⟨A3, c3, rfl, hy3, hb3⟩
  have HY := Lib.hid hy3; clear hy3
  have HX3 := Lib.hid (HX.out.below (hb3.mono (by simp)))
  have HB3 := Lib.hid (HB2.out.trans (hb3.mono HB2.out.size)); clear hb3
  go_wp2_with fail
  refine (get_any A len cap bs HL.out w3 w.heap.size (HB.out.below HB3.out) (HT.out.below HB3.out HT.out.lt)).mono ?_
  rintro e w4 ⟨rfl, rfl⟩
  go_wp2_with fail
  refine (rget_any A len cap bs HL.out w3 w.heap.size (HB.out.below HB3.out)).mono ?_
  rintro e w4 ⟨rfl, rfl⟩
  have HS := Lib.hid (same_any (some ⟨w1.heap.size, 0, none⟩) A3 (bytesOf m k) (bytesOf m k) k k k c3 w3 (length_bytesOf m k) (length_bytesOf m k) (by omega) _ _ HX3.out HY.out)
  have g1 : (((getN bs : Nat) : Int) == ((getN bs : Nat) : Int)) = true := by simp
  have g2 : (((getE bs : Nat) : Int) == ((getE bs : Nat) : Int)) = true := by simp
  generalize getN bs = N at *
  generalize getE bs = E at *
  go_wp2_with fail
  refine HS.out.mono ?_
  rintro e w' ⟨q, rfl, rfl⟩
  go_wp2
  go_ret
  exact ⟨rfl, below_drewN HB3.out q⟩

/-- THE WALK OF WordNumbers. -/
theorem numbers_walk (n s : Int) (bs : List Nat) (A : Option Addr) (cap : Nat) (w : World) (ht : Tab w 0) (hb : Bys w w.heap.size A bs) :
    Calls Tryd.prog 3 #[.int .i64 n, .int .i64 s, .slice A bs.length cap] w (Ret true w) := by
  by_cases hl : 100 < bs.length
  · exact numbers_long n s A _ cap hl w ht
  · cases hp : putOk n s with
    | false => exact numbers_none n s hp bs A _ cap rfl (by omega) w ht hb
    | true =>
      obtain ⟨m, k, rfl, rfl, h1, h2, h3, h4⟩ := putOk_parts hp
      exact numbers_some m k h1 h2 h3 h4 bs A _ cap rfl (by omega) w ht hb
end Go.Proofs.YtmcemgmnnpleoaaDoor
