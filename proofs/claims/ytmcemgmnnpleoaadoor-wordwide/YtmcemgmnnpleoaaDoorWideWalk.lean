/-
  The walk of the law WordWide: for every number and all bytes it answers true and leaves what was there. Condition: the table of widths stands in its variable.
-/
import Derived.Test.YtmcemgmnnpleoaaDoorAwake
import Derived.Test.YtmcemgmnnpleoaaDoorOwn
import Derived.Test.YtmcemgmnnpleoaaDoorRefGet
import Derived.OpenShut
namespace Go.Proofs.YtmcemgmnnpleoaaDoor
open Go.RowKit

/-- What a call leaves that makes the bytes bs in new memory. -/
def MadeBytes (bs : List Nat) (w : World) (e : Ending) (w' : World) : Prop :=
  ∃ A c, e = .returned (.slice A bs.length c) ∧ Bys w' w'.heap.size A bs ∧ Below w.heap.size w w'

theorem put64_any (x : Nat) (w : World) (ht : Tab w 0) : Calls Tryd.prog 13 #[.int .u64 (x : Int)] w (Spread x 8 w) := by
  have HS := Lib.hid (spread_any x 8 (by omega) (by omega) w ht)
  have HT := Lib.hid ht; clear ht
  go_enter Tryd.func13, Tryd.ntmps13
  go_wp2_with fail
  refine HS.out.mono ?_
  rintro e w' ⟨arr, hla, rfl, rfl⟩
  have HLA := Lib.hid hla; clear hla
  go_wp2
  go_ret
  exact ⟨arr, HLA.out, rfl, rfl⟩
theorem put32_any (x : Nat) (hx : x < 4294967296) (w : World) (ht : Tab w 0) : Calls Tryd.prog 14 #[.int .u32 (x : Int)] w (Spread x 4 w) := by
  have HS := Lib.hid (spread_any x 4 (by omega) (by omega) w ht)
  have HT := Lib.hid ht; clear ht
  go_enter Tryd.func14, Tryd.ntmps14
  go_wp2_with fail
  refine HS.out.mono ?_
  rintro e w' ⟨arr, hla, rfl, rfl⟩
  have HLA := Lib.hid hla; clear hla
  go_wp2
  go_ret
  exact ⟨arr, HLA.out, rfl, rfl⟩

/-- What Get64 and Get32 leave. -/
def WideGot (k : IntKind) (n : Nat) (b : Bool) (w : World) (e : Ending) (w' : World) : Prop := e = .returned (.tuple #[.int k (n : Int), .bool b]) ∧ w = w'

theorem get64_no (A : Option Addr) (n c : Nat) (hn : n ≠ 8) (w : World) : Calls Tryd.prog 16 #[.slice A n c] w (WideGot .u64 0 false w) := by
  have h1 : ((n : Int) != 8) = true := by rw [bne_iff_ne]; omega
  go_enter Tryd.func16, Tryd.ntmps16
  go_wp2
  go_ret2
  exact ⟨rfl, rfl⟩
theorem get64_yes (A : Option Addr) (c : Nat) (bs : List Nat) (hl : bs.length = 8) (w : World) (B : Nat) (hb : Bys w B A bs) (ht : Tab w 0) :
    Calls Tryd.prog 16 #[.slice A 8 c] w (WideGot .u64 (num bs) true w) := by
  have HG := Lib.hid (gather_any bs A c 8 w hl (by omega) B hb ht)
  clear hl hb ht
  generalize num bs = x at *
  go_enter Tryd.func16, Tryd.ntmps16
  go_wp2_with fail
  refine HG.out.mono ?_
  rintro e w' ⟨rfl, rfl⟩
  go_wp2
  go_ret2
  exact ⟨rfl, rfl⟩
theorem get32_no (A : Option Addr) (n c : Nat) (hn : n ≠ 4) (w : World) : Calls Tryd.prog 17 #[.slice A n c] w (WideGot .u32 0 false w) := by
  have h1 : ((n : Int) != 4) = true := by rw [bne_iff_ne]; omega
  go_enter Tryd.func17, Tryd.ntmps17
  go_wp2
  go_ret2
  exact ⟨rfl, rfl⟩
theorem get32_yes (A : Option Addr) (c : Nat) (bs : List Nat) (hl : bs.length = 4) (w : World) (B : Nat) (hb : Bys w B A bs) (ht : Tab w 0) :
    Calls Tryd.prog 17 #[.slice A 4 c] w (WideGot .u32 (num bs) true w) := by
  have HG := Lib.hid (gather_any bs A c 4 w hl (by omega) B hb ht)
  have hx : num bs < 4294967296 := by
    have := num_lt bs hb.1
    rw [hl] at this
    exact this
  clear hl hb ht
  generalize num bs = x at *
  go_enter Tryd.func17, Tryd.ntmps17
  go_wp2_with fail
  refine HG.out.mono ?_
  rintro e w' ⟨rfl, rfl⟩
  go_wp2
  go_ret2
  exact ⟨rfl, rfl⟩

set_option maxHeartbeats 1000000 in
theorem rget64_any (A : Option Addr) (n c : Nat) (bs : List Nat) (hl : bs.length = n) (hn : n ≤ 8) (w : World) (B : Nat) (hb : Bys w B A bs) :
    Calls Tryd.prog 18 #[.slice A n c] w fun e w' => e = .returned (.int .u64 (num bs : Nat)) ∧ w = w' := by
  have HL := Lib.hid hl; clear hl
  have HB := Lib.hid hb; clear hb
  go_enter Tryd.func18, Tryd.ntmps18
  go_wp2
  go_loop [3, 4] (fun x i => ∃ k : Nat, k ≤ n ∧ i = .int .i64 k ∧ x = .int .u64 (num (bs.take k) : Nat)) (fun _ i => n - (intOf i).toNat)
  case atStart => exact ⟨0, Nat.zero_le _, rfl, rfl⟩
  case round =>
    obtain ⟨k, hk, rfl, rfl⟩ := hrel
    by_cases hlt : k < n
    · obtain ⟨b, off, rfl, _, h3⟩ := HB.out.2 (by have := HL.out; omega)
      have hc1 := h3 k (by have := HL.out; omega)
      have hcv := HB.out.lt k
      clear h3
      have hs := num_take_succ bs k (by have := HL.out; omega)
      have h4 := num_take_lt bs HB.out.1 (k + 1)
      have hp := pow_le8 (show k + 1 ≤ 8 by omega)
      have h5 : 256 * num (bs.take k) + bs.getD k 0 < 18446744073709551616 := by omega
      have HS := Lib.hid hs
      clear hs h4 hp
      generalize bs.getD k 0 = cv at *
      generalize num (bs.take k) = X at *
      go_wp2
      go_round
      case rel => exact ⟨k + 1, by omega, by go_num, by rw [HS.out]; go_num⟩
      case measure => simp [intOf]; omega
    · obtain rfl : k = n := by omega
      have hfin : num (bs.take k) = num bs := by rw [List.take_of_length_le (by have := HL.out; omega)]
      have HF := Lib.hid hfin; clear hfin
      go_wp2
      go_ret
      exact ⟨ret_int (by rw [HF.out]), rfl⟩

/-- The eight scales. -/
theorem scale_step (k : Nat) (h : k < 8) : 256 ^ (7 - k) / 256 = if k < 7 then 256 ^ (7 - (k + 1)) else 0 := by
  match k, h with
  | 0, _ => decide
  | 1, _ => decide
  | 2, _ => decide
  | 3, _ => decide
  | 4, _ => decide
  | 5, _ => decide
  | 6, _ => decide
  | 7, _ => decide
  | k + 8, h => omega

/-- The scale ahead of round k. -/
def scale (k : Nat) : Nat := if k < 8 then 256 ^ (7 - k) else 0
theorem scale_succ (k : Nat) (h : k < 8) : scale (k + 1) = scale k / 256 := by
  unfold scale
  rw [if_pos h, scale_step k h]
  by_cases h7 : k < 7
  · rw [if_pos (by omega), if_pos h7]
  · rw [if_neg (by omega), if_neg h7]

theorem quo_byte (x C : Nat) (hx : x < 18446744073709551616) : (IntKind.u64.wrap ((x : Int) / (C : Int))).tmod 256 % 256 = ((x / C % 256 : Nat) : Int) := by
  have h1 : x / C ≤ x := Nat.div_le_self _ _
  have e : ((x : Int) / (C : Int)) = ((x / C : Nat) : Int) := by simp
  rw [e]
  generalize x / C = y at *
  have h2 : IntKind.u64.wrap (y : Int) = y := by rw [IntKind.wrap_u64]; omega
  rw [h2, Int.tmod_eq_emod_of_nonneg (by omega)]
  omega

set_option maxHeartbeats 1000000 in
theorem rput64_any (x : Nat) (hx : x < 18446744073709551616) (w : World) : Calls Tryd.prog 15 #[.int .u64 (x : Int)] w (MadeBytes (bytesOf x 8) w) := by
  go_enter Tryd.func15, Tryd.ntmps15
  go_wp2
  go_loopw [3, 4, 5] (fun out sc i wr => ∃ k : Nat, k ≤ 8 ∧ i = .int .i64 k ∧ sc = .int .u64 (scale k : Nat) ∧ wr.ownsRow w.heap.size 5 1 out k (vals .u8 ((bytesOf x 8).take k)) ∧ Below w.heap.size w wr) (fun _ _ i _ => 8 - (intOf i).toNat)
  case atStart => exact ⟨0, Nat.zero_le _, rfl, rfl, World.ownsRow_nil w w.heap.size 5 1, Below.refl _ _⟩
  case round =>
    obtain ⟨k, hk, rfl, rfl, hown, hbel⟩ := hrel
    have HO := Lib.hid hown; clear hown
    have HB := Lib.hid hbel; clear hbel
    have hsz := HB.out.size
    by_cases hlt : k < 8
    · have HSC := Lib.hid (scale_succ k hlt)
      have HTK := Lib.hid (take_snoc (bytesOf x 8) k (by rw [length_bytesOf]; exact hlt))
      have hbv : (bytesOf x 8).getD k 0 = x / scale k % 256 := by
        rw [getD_bytesOf x 8 k hlt]; unfold scale; rw [if_pos hlt]
      rw [hbv] at HTK
      have hpos : 0 < scale k := by unfold scale; rw [if_pos hlt]; exact Nat.pow_pos (by omega)
      have hle : scale k ≤ 72057594037927936 := by
        unfold scale; rw [if_pos hlt]
        have : 256 ^ (7 - k) ≤ 256 ^ 7 := Nat.pow_le_pow_right (by omega) (by omega)
        simpa using this
      clear hbv
      generalize scale k = C at *
      go_wp2_with (at_builtin; refine append_one rfl (.tmp 10) (.tmp 16) 22 rfl w.heap.size 5 (.int .u8 0) 1 Tryd.underlying22 info_u8 rfl _ k _ (.int .u8 ((IntKind.u64.wrap ((x : Int) / (C : Int))).tmod 256 % 256)) rfl HO.out rfl rfl (by omega) (by omega) hsz ?_; intro v' w1 hown1 hbel1)
      rw [quo_byte x C hx] at hown1
      go_roundw
      case rel => exact ⟨k + 1, by omega, by go_num, by rw [HSC.out]; go_num, by rw [HTK.out, vals_snoc]; exact hown1, HB.out.trans hbel1⟩
      case measure => simp [intOf]; omega
    · obtain rfl : k = 8 := by omega
      have hfull : (bytesOf x 8).take 8 = bytesOf x 8 := by rw [List.take_of_length_le (by rw [length_bytesOf]; omega)]
      have HF := Lib.hid (bys_of_owns (hfull ▸ HO.out) (bytesOf_lt x 8))
      clear hfull
      obtain ⟨A, c2, rfl, _, hbys⟩ := HF.out
      have HY := Lib.hid hbys; clear hbys
      go_wp2
      go_ret
      exact ⟨A, c2, congrArg (fun n => Ending.returned (Value.slice A n c2)) (length_bytesOf x 8).symm, HY.out, HB.out⟩

theorem Bys.drop4 {w : World} {B b : Nat} {bs : List Nat} (h : Bys w B (some ⟨b, 0, none⟩) bs) : Bys w B (some ⟨b, 4, none⟩) (bs.drop 4) := by
  refine ⟨fun x hx => h.1 x (List.mem_of_mem_drop hx), fun hl => ?_⟩
  rw [List.length_drop] at hl
  obtain ⟨b', off, e, hb, hc⟩ := h.2 (by omega)
  simp only [Option.some.injEq, Addr.mk.injEq, and_true] at e
  obtain ⟨rfl, rfl⟩ := e
  refine ⟨b, 4, rfl, hb, fun i hi => ?_⟩
  rw [List.length_drop] at hi
  have := hc (4 + i) (by omega)
  rw [Nat.zero_add] at this
  rw [this]
  simp
theorem bytesOf_drop (x : Nat) : (bytesOf x 8).drop 4 = bytesOf (x % 4294967296) 4 := by
  have h : (bytesOf x 8).drop 4 = bytesOf x 4 := rfl
  have e : x = (x / 4294967296) * 256 ^ 4 + x % 4294967296 := by
    have : (256 : Nat) ^ 4 = 4294967296 := by decide
    rw [this]; omega
  rw [h]
  rw [show bytesOf x 4 = bytesOf ((x / 4294967296) * 256 ^ 4 + x % 4294967296) 4 from congrArg (fun y => bytesOf y 4) e, bytesOf_add_mul]

set_option maxHeartbeats 1000000 in
theorem wide_long (x : Nat) (A : Option Addr) (len cap : Nat) (hl : 100 < len) (w : World) (ht : Tab w 0) :
    Calls Tryd.prog 4 #[.int .u64 (x : Int), .slice A len cap] w (Ret true w) := by
  have HA := Lib.hid (awake_any w ht)
  have HT := Lib.hid ht; clear ht
  have h1 : decide (100 < (len : Int)) = true := by simp; omega
  go_enter Tryd.func4, Tryd.ntmps4
  go_wp2_with fail
  refine HA.out.mono ?_
  rintro e w1 ⟨rfl, hb1⟩
  have HB1 := Lib.hid hb1; clear hb1
  go_wp2
  go_ret
  exact ⟨rfl, HB1.out⟩

set_option maxHeartbeats 2000000 in
theorem wide_other (x : Nat) (hx : x < 18446744073709551616) (bs : List Nat) (A : Option Addr) (len cap : Nat) (hl : len ≤ 100) (h8 : len ≠ 8) (h4 : len ≠ 4) (w : World) (ht : Tab w 0) (hb : Bys w w.heap.size A bs) :
    Calls Tryd.prog 4 #[.int .u64 (x : Int), .slice A len cap] w (Ret true w) := by
  have HA := Lib.hid (awake_any w ht)
  have HT := Lib.hid ht; clear ht
  have HB := Lib.hid hb; clear hb
  have HX := Lib.hid hx
  have h1 : decide (100 < (len : Int)) = false := by simp; omega
  go_enter Tryd.func4, Tryd.ntmps4
  go_wp2_with fail
  refine HA.out.mono ?_
  rintro e w1 ⟨rfl, hb1⟩
  have HB1 := Lib.hid hb1; clear hb1
  go_wp2_with fail
  refine (put64_any x w1 (HT.out.below HB1.out HT.out.lt)).mono ?_
  rintro e w2 ⟨arr, hla, rfl, rfl⟩
  have HB2 := Lib.hid (HB1.out.trans ((Below.refl w.heap.size w1).alloc HB1.out.size (.cells arr 5)))
  have HP := Lib.hid (hla.bys w1)
  clear hla
  go_wp2_with fail
  rw [show ((x : Int) % 4294967296) = ((x % 4294967296 : Nat) : Int) from by omega]
  refine (put32_any (x % 4294967296) (by omega) _ (HT.out.below HB2.out HT.out.lt)).mono ?_
  rintro e w3 ⟨ar2, hla, rfl, rfl⟩
  have HQ := Lib.hid (hla.bys (w1.alloc (.cells arr 5)))
  have HP3 := Lib.hid (HP.out.below ((Below.refl _ (w1.alloc (.cells arr 5))).alloc (by simp) (.cells ar2 5)))
  have HB3 := Lib.hid (HB2.out.trans ((Below.refl w.heap.size _).alloc HB2.out.size (.cells ar2 5)))
  clear hla
  go_wp2_with fail
  refine (rput64_any x HX.out _).mono ?_
  rintro e w4 ⟨A4, c4, rfl, hy, hb4⟩
  rw [length_bytesOf]
  have HY := Lib.hid hy; clear hy
  have HP4 := Lib.hid (HP3.out.below (hb4.mono (by simp)))
  have HQ4 := Lib.hid (HQ.out.below (hb4.mono (by simp)))
  have HB4 := Lib.hid (HB3.out.trans (hb4.mono HB3.out.size)); clear hb4
  go_wp2_with fail
  refine (same_any _ _ (bytesOf x 8) (bytesOf x 8) 8 8 8 c4 w4 (length_bytesOf x 8) (length_bytesOf x 8) (by omega) _ _ HP4.out HY.out).mono ?_
  rintro e w5 ⟨q1, rfl, rfl⟩
  rw [decide_eq_true (show bytesOf x 8 = bytesOf x 8 from rfl)]
  have HD4 := Lib.hid (HP4.out.drop4)
  rw [bytesOf_drop x] at HD4
  go_wp2_with fail
  have hq5 : Bys w4 (w1.heap.size + 1 + 1) (some ⟨w1.heap.size + 1, 0, none⟩) (bytesOf (x % 4294967296) 4) := by simpa using HQ4.out
  have HS2 := Lib.hid (same_any (some ⟨w1.heap.size + 1, 0, none⟩) (some ⟨w1.heap.size, 4, none⟩) (bytesOf (x % 4294967296) 4) (bytesOf (x % 4294967296) 4) 4 4 4 4 (w4.drewN q1) (length_bytesOf _ 4) (length_bytesOf _ 4) (by omega) _ _ (hq5.drewN q1) (HD4.out.drewN q1))
  clear hq5
  refine HS2.out.mono ?_
  rintro e w6 ⟨q2, rfl, rfl⟩
  rw [decide_eq_true (show bytesOf (x % 4294967296) 4 = bytesOf (x % 4294967296) 4 from rfl)]
  have HB6 := Lib.hid (below_drewN HB4.out (q1 + q2))
  go_wp2_with fail
  refine (get64_no A len cap h8 _).mono ?_
  rintro e w7 ⟨rfl, rfl⟩
  go_wp2_with fail
  refine (get32_no A len cap h4 _).mono ?_
  rintro e w7 ⟨rfl, rfl⟩
  have t1 : ((len : Int) == 8) = false := by simp; omega
  have t2 : ((len : Int) == 4) = false := by simp; omega
  go_wp2
  go_ret
  exact ⟨rfl, HB6.out⟩

set_option maxHeartbeats 2000000 in
theorem wide_eight (x : Nat) (hx : x < 18446744073709551616) (bs : List Nat) (hlen : bs.length = 8) (A : Option Addr) (cap : Nat) (w : World) (ht : Tab w 0) (hb : Bys w w.heap.size A bs) :
    Calls Tryd.prog 4 #[.int .u64 (x : Int), .slice A 8 cap] w (Ret true w) := by
  have HA := Lib.hid (awake_any w ht)
  have HT := Lib.hid ht; clear ht
  have HB := Lib.hid hb; clear hb
  have HX := Lib.hid hx
  have h1 : decide (100 < (8 : Int)) = false := by simp
  go_enter Tryd.func4, Tryd.ntmps4
  go_wp2_with fail
  refine HA.out.mono ?_
  rintro e w1 ⟨rfl, hb1⟩
  have HB1 := Lib.hid hb1; clear hb1
  go_wp2_with fail
  refine (put64_any x w1 (HT.out.below HB1.out HT.out.lt)).mono ?_
  rintro e w2 ⟨arr, hla, rfl, rfl⟩
  have HB2 := Lib.hid (HB1.out.trans ((Below.refl w.heap.size w1).alloc HB1.out.size (.cells arr 5)))
  have HP := Lib.hid (hla.bys w1)
  clear hla
  go_wp2_with fail
  rw [show ((x : Int) % 4294967296) = ((x % 4294967296 : Nat) : Int) from by omega]
  refine (put32_any (x % 4294967296) (by omega) _ (HT.out.below HB2.out HT.out.lt)).mono ?_
  rintro e w3 ⟨ar2, hla, rfl, rfl⟩
  have HQ := Lib.hid (hla.bys (w1.alloc (.cells arr 5)))
  have HP3 := Lib.hid (HP.out.below ((Below.refl _ (w1.alloc (.cells arr 5))).alloc (by simp) (.cells ar2 5)))
  have HB3 := Lib.hid (HB2.out.trans ((Below.refl w.heap.size _).alloc HB2.out.size (.cells ar2 5)))
  clear hla
  go_wp2_with fail
  refine (rput64_any x HX.out _).mono ?_
  rintro e w4 ⟨A4, c4, rfl, hy, hb4⟩
  rw [length_bytesOf]
  have HY := Lib.hid hy; clear hy
  have HP4 := Lib.hid (HP3.out.below (hb4.mono (by simp)))
  have HQ4 := Lib.hid (HQ.out.below (hb4.mono (by simp)))
  have HB4 := Lib.hid (HB3.out.trans (hb4.mono HB3.out.size)); clear hb4
  go_wp2_with fail
  refine (same_any _ _ (bytesOf x 8) (bytesOf x 8) 8 8 8 c4 w4 (length_bytesOf x 8) (length_bytesOf x 8) (by omega) _ _ HP4.out HY.out).mono ?_
  rintro e w5 ⟨q1, rfl, rfl⟩
  rw [decide_eq_true (show bytesOf x 8 = bytesOf x 8 from rfl)]
  have HD4 := Lib.hid (HP4.out.drop4)
  rw [bytesOf_drop x] at HD4
  go_wp2_with fail
  have hq5 : Bys w4 (w1.heap.size + 1 + 1) (some ⟨w1.heap.size + 1, 0, none⟩) (bytesOf (x % 4294967296) 4) := by simpa using HQ4.out
  have HS2 := Lib.hid (same_any (some ⟨w1.heap.size + 1, 0, none⟩) (some ⟨w1.heap.size, 4, none⟩) (bytesOf (x % 4294967296) 4) (bytesOf (x % 4294967296) 4) 4 4 4 4 (w4.drewN q1) (length_bytesOf _ 4) (length_bytesOf _ 4) (by omega) _ _ (hq5.drewN q1) (HD4.out.drewN q1))
  clear hq5
  refine HS2.out.mono ?_
  rintro e w6 ⟨q2, rfl, rfl⟩
  rw [decide_eq_true (show bytesOf (x % 4294967296) 4 = bytesOf (x % 4294967296) 4 from rfl)]
  have HB6 := Lib.hid (below_drewN HB4.out (q1 + q2))
  go_wp2_with fail
  refine (get64_yes A cap bs hlen _ w.heap.size (HB.out.below HB6.out) (HT.out.below HB6.out HT.out.lt)).mono ?_
  rintro e w7 ⟨rfl, rfl⟩
  go_wp2_with fail
  refine (get32_no A 8 cap (by omega) _).mono ?_
  rintro e w7 ⟨rfl, rfl⟩
  have HR := Lib.hid (rget64_any A 8 cap bs hlen (by omega) _ w.heap.size (HB.out.below HB6.out))
  have t1 : (((num bs : Nat) : Int) != ((num bs : Nat) : Int)) = false := by simp
  generalize num bs = N at *
  go_wp2_with fail
  refine HR.out.mono ?_
  rintro e w7 ⟨rfl, rfl⟩
  go_wp2
  go_ret
  exact ⟨rfl, HB6.out⟩

set_option maxHeartbeats 2000000 in
theorem wide_four (x : Nat) (hx : x < 18446744073709551616) (bs : List Nat) (hlen : bs.length = 4) (A : Option Addr) (cap : Nat) (w : World) (ht : Tab w 0) (hb : Bys w w.heap.size A bs) :
    Calls Tryd.prog 4 #[.int .u64 (x : Int), .slice A 4 cap] w (Ret true w) := by
  have HA := Lib.hid (awake_any w ht)
  have HT := Lib.hid ht; clear ht
  have HB := Lib.hid hb; clear hb
  have HX := Lib.hid hx
  have h1 : decide (100 < (4 : Int)) = false := by simp
  go_enter Tryd.func4, Tryd.ntmps4
  go_wp2_with fail
  refine HA.out.mono ?_
  rintro e w1 ⟨rfl, hb1⟩
  have HB1 := Lib.hid hb1; clear hb1
  go_wp2_with fail
  refine (put64_any x w1 (HT.out.below HB1.out HT.out.lt)).mono ?_
  rintro e w2 ⟨arr, hla, rfl, rfl⟩
  have HB2 := Lib.hid (HB1.out.trans ((Below.refl w.heap.size w1).alloc HB1.out.size (.cells arr 5)))
  have HP := Lib.hid (hla.bys w1)
  clear hla
  go_wp2_with fail
  rw [show ((x : Int) % 4294967296) = ((x % 4294967296 : Nat) : Int) from by omega]
  refine (put32_any (x % 4294967296) (by omega) _ (HT.out.below HB2.out HT.out.lt)).mono ?_
  rintro e w3 ⟨ar2, hla, rfl, rfl⟩
  have HQ := Lib.hid (hla.bys (w1.alloc (.cells arr 5)))
  have HP3 := Lib.hid (HP.out.below ((Below.refl _ (w1.alloc (.cells arr 5))).alloc (by simp) (.cells ar2 5)))
  have HB3 := Lib.hid (HB2.out.trans ((Below.refl w.heap.size _).alloc HB2.out.size (.cells ar2 5)))
  clear hla
  go_wp2_with fail
  refine (rput64_any x HX.out _).mono ?_
  rintro e w4 ⟨A4, c4, rfl, hy, hb4⟩
  rw [length_bytesOf]
  have HY := Lib.hid hy; clear hy
  have HP4 := Lib.hid (HP3.out.below (hb4.mono (by simp)))
  have HQ4 := Lib.hid (HQ.out.below (hb4.mono (by simp)))
  have HB4 := Lib.hid (HB3.out.trans (hb4.mono HB3.out.size)); clear hb4
  go_wp2_with fail
  refine (same_any _ _ (bytesOf x 8) (bytesOf x 8) 8 8 8 c4 w4 (length_bytesOf x 8) (length_bytesOf x 8) (by omega) _ _ HP4.out HY.out).mono ?_
  rintro e w5 ⟨q1, rfl, rfl⟩
  rw [decide_eq_true (show bytesOf x 8 = bytesOf x 8 from rfl)]
  have HD4 := Lib.hid (HP4.out.drop4)
  rw [bytesOf_drop x] at HD4
  go_wp2_with fail
  have hq5 : Bys w4 (w1.heap.size + 1 + 1) (some ⟨w1.heap.size + 1, 0, none⟩) (bytesOf (x % 4294967296) 4) := by simpa using HQ4.out
  have HS2 := Lib.hid (same_any (some ⟨w1.heap.size + 1, 0, none⟩) (some ⟨w1.heap.size, 4, none⟩) (bytesOf (x % 4294967296) 4) (bytesOf (x % 4294967296) 4) 4 4 4 4 (w4.drewN q1) (length_bytesOf _ 4) (length_bytesOf _ 4) (by omega) _ _ (hq5.drewN q1) (HD4.out.drewN q1))
  clear hq5
  refine HS2.out.mono ?_
  rintro e w6 ⟨q2, rfl, rfl⟩
  rw [decide_eq_true (show bytesOf (x % 4294967296) 4 = bytesOf (x % 4294967296) 4 from rfl)]
  have HB6 := Lib.hid (below_drewN HB4.out (q1 + q2))
  go_wp2_with fail
  refine (get64_no A 4 cap (by omega) _).mono ?_
  rintro e w7 ⟨rfl, rfl⟩
  go_wp2_with fail
  refine (get32_yes A cap bs hlen _ w.heap.size (HB.out.below HB6.out) (HT.out.below HB6.out HT.out.lt)).mono ?_
  rintro e w7 ⟨rfl, rfl⟩
  have HR := Lib.hid (rget64_any A 4 cap bs hlen (by omega) _ w.heap.size (HB.out.below HB6.out))
  have hN : num bs < 4294967296 := by
    have := num_lt bs HB.out.1
    rw [hlen] at this
    exact this
  have t1 : (((num bs : Nat) : Int) == ((num bs : Nat) : Int)) = true := by simp
  generalize num bs = N at *
  go_wp2_with fail
  refine HR.out.mono ?_
  rintro e w7 ⟨rfl, rfl⟩
  go_wp2
  go_ret
  exact ⟨rfl, HB6.out⟩

/-- THE WALK OF WordWide. -/
theorem wide_walk (a : Int) (bs : List Nat) (A : Option Addr) (cap : Nat) (w : World) (ht : Tab w 0) (ha : (Lit.int .u64 a).wf = true) (hb : Bys w w.heap.size A bs) :
    Calls Tryd.prog 4 #[.int .u64 a, .slice A bs.length cap] w (Ret true w) := by
  obtain ⟨h0, h1⟩ := bounds_u64 ha
  obtain ⟨x, rfl⟩ := Int.eq_ofNat_of_zero_le h0
  by_cases hl : 100 < bs.length
  · exact wide_long x A _ cap hl w ht
  · by_cases h8 : bs.length = 8
    · rw [h8]; exact wide_eight x (by omega) bs h8 A cap w ht hb
    · by_cases h4 : bs.length = 4
      · rw [h4]; exact wide_four x (by omega) bs h4 A cap w ht hb
      · exact wide_other x (by omega) bs A _ cap (by omega) h8 h4 w ht hb
end Go.Proofs.YtmcemgmnnpleoaaDoor
