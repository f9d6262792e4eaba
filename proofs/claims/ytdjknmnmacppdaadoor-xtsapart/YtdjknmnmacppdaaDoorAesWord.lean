/-
  Contracts of aes.wordsOf and aes.boxedWord. No conditions.
-/
import Derived.Test.YtdjknmnmacppdaaDoorAesDec
import Derived.Test.YtdjknmnmacppdaaDoorAesWordNum
import Derived.Test.YtdjknmnmacppdaaDoorWordAll
namespace Go.Proofs.YtdjknmnmacppdaaDoor
open Go.RowKit Arr Gf Sb Ae

/-- How many words a key of n bytes has. -/
def nk (n : Nat) : Nat := if n = 16 then 4 else if n = 32 then 8 else 0
theorem wordsOf_any (A : Option Addr) (n c : Nat) (w : World) : Calls Tryd.prog 26 #[.slice A n c] w fun e w' => e = .returned (.int .i64 (nk n : Nat)) ∧ w = w' := by
  by_cases h1 : n = 16
  · subst h1
    go_enter Tryd.func26, Tryd.ntmps26
    go_wp2
    go_ret
    exact ⟨rfl, rfl⟩
  · by_cases h2 : n = 32
    · subst h2
      go_enter Tryd.func26, Tryd.ntmps26
      go_wp2
      go_ret
      exact ⟨rfl, rfl⟩
    · have t1 : ((n : Int) == 16) = false := by simp; omega
      have t2 : ((n : Int) == 32) = false := by simp; omega
      have HN := Lib.hid (show nk n = 0 by rw [nk, if_neg h1, if_neg h2])
      go_enter Tryd.func26, Tryd.ntmps26
      go_wp2
      go_ret
      exact ⟨by rw [HN.out]; rfl, rfl⟩

set_option maxHeartbeats 2000000 in
set_option maxRecDepth 10000 in
theorem boxedWord_any (x : Nat) (g o : Nat) (w : World) (hg : HAt w g o .u8 boxL) : Calls Tryd.prog 50 #[.int .u32 (x : Int), .pointer (some ⟨g, o, none⟩)] w fun e w' => e = .returned (.int .u32 (subW x : Nat)) ∧ ∃ m, w' = w.drewN m := by
  have HG := Lib.hid hg
  have hgw := hg.lt (by rw [boxL_len]; omega)
  clear hg
  go_enter Tryd.func50, Tryd.ntmps50
  go_wp2_with fail
  go_loopw [5, 6] (fun v i wr => ∃ k s : Nat, k ≤ 4 ∧ Go.RowKit.Hid (s = 8 * k) ∧ i = .int .i64 (s : Nat) ∧ v = .int .u32 (subLow x k : Nat) ∧ ∃ m, wr = w.drewN m) (fun _ i _ => 32 - (intOf i).toNat)
  case atStart => exact ⟨0, 0, by omega, Lib.hid rfl, rfl, rfl, 0, rfl⟩
  case round =>
    obtain ⟨k, s, hk, HK, rfl, rfl, m, hm⟩ := hrel
    have HM := Lib.hid hm
    clear hm
    by_cases hlt : k < 4
    · have hc := boxL_lt (x / 2 ^ (8 * k) % 256)
      have hy : x / 2 ^ (8 * k) % 256 < 256 := Nat.mod_lt _ (by omega)
      have hs := subLow_lt x k
      have hp : 2 ^ (8 * k) ≤ 2 ^ 24 := Nat.pow_le_pow_right (by omega) (by omega)
      have hq := part_lt (boxL.getD (x / 2 ^ (8 * k) % 256) 0) k hc
      have hp2 : 2 ^ (8 * (k + 1)) ≤ 2 ^ 32 := Nat.pow_le_pow_right (by omega) (by omega)
      have hor : bits .or .u32 ((subLow x k : Nat) : Int) ((boxL.getD (x / 2 ^ (8 * k) % 256) 0 * 2 ^ (8 * k) : Nat) : Int) = ((subLow x (k + 1) : Nat) : Int) := u32_or_nat _ _ (by omega) (by omega)
      rw [← HK.out] at hc hy hs hp hq hor
      have hs24 : s ≤ 24 := by have := HK.out; omega
      have s1 : IntKind.u8.wrap ((x : Int) / 2 ^ s) = ((x / 2 ^ s % 256 : Nat) : Int) := by rw [IntKind.wrap_u8]; simp
      have s3 : IntKind.u32.wrap ((boxL.getD (x / 2 ^ s % 256) 0 : Nat) : Int) = ((boxL.getD (x / 2 ^ s % 256) 0 : Nat) : Int) := by rw [IntKind.wrap_u32]; omega
      have s2 : IntKind.u32.wrap (((boxL.getD (x / 2 ^ s % 256) 0 : Nat) : Int) * 2 ^ s) = ((boxL.getD (x / 2 ^ s % 256) 0 * 2 ^ s : Nat) : Int) := by
        have : (2 : Int) ^ s = ((2 ^ s : Nat) : Int) := by simp
        rw [this, IntKind.wrap_u32]; omega
      have s32 : (s : Int) < 32 := by omega
      go_wp2_with fail
      refine region_still (by kernel_rfl) (by kernel_rfl) ?_
      intro wd hwd
      have G : wd = w.drewN (m + 1) := by rw [hwd, HM.out]; rfl
      have hcell := (HG.out.below (G ▸ below_drewN_self w (m + 1) : Below w.heap.size w wd) hgw).cell (x / 2 ^ s % 256) (by rw [boxL_len]; exact hy)
      have HW := Lib.hid G
      clear G
      have HS := Lib.hid hs
      clear hwd hs
      generalize boxL.getD (x / 2 ^ s % 256) 0 = c at *
      generalize x / 2 ^ s % 256 = y at *
      generalize hz : c * 2 ^ s = z at *
      have hy' : (y : Int) < 256 := by omega
      clear hp hp2 hq hz HS hc
      repeat still_step
      refine wpStill_nil ?_
      go_wp2
      go_roundw
      case rel => exact ⟨k + 1, s + 8, by omega, Lib.hid (by have := HK.out; omega), by go_num, rfl, m + 1, HW.out⟩
      case measure => simp [intOf]; omega
    · obtain rfl : k = 4 := by omega
      obtain rfl : s = 32 := HK.out
      have HW := Lib.hid (show subW x = subLow x 4 from rfl)
      generalize subLow x 4 = v at *
      go_wp2
      go_ret
      exact ⟨by rw [HW.out]; rfl, m, HM.out⟩
end Go.Proofs.YtdjknmnmacppdaaDoor
