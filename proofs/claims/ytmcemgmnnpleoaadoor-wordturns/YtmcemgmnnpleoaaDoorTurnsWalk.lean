/-
  The walk of the law WordTurns: for every number, every turn and all bytes it answers true and leaves what was there. Condition: the table of widths stands in its variable.
-/
import Derived.Test.YtmcemgmnnpleoaaDoorTurnFns
import Derived.OpenShut
namespace Go.Proofs.YtmcemgmnnpleoaaDoor
open Go.RowKit

theorem tmod_neg (n : Int) (hn : n < 0) : n.tmod 32 = -((-n) % 32) := by
  have : n = -(-n) := by omega
  rw [this, Int.neg_tmod, Int.tmod_eq_emod_of_nonneg (by omega)]
  omega

set_option maxHeartbeats 1000000 in
theorem turns_long (x : Int) (n : Int) (A : Option Addr) (len cap : Nat) (hl : 200 < len) (w : World) (ht : Tab w 0) :
    Calls Tryd.prog 5 #[.int .u32 x, .int .i64 n, .slice A len cap] w (Ret true w) := by
  have HA := Lib.hid (awake_any w ht)
  clear ht
  have h1 : decide (200 < (len : Int)) = true := by simp; omega
  go_enter Tryd.func5, Tryd.ntmps5
  go_wp2_with fail
  refine HA.out.mono ?_
  rintro e w1 ⟨rfl, hb1⟩
  have HB1 := Lib.hid hb1; clear hb1
  go_wp2
  go_ret
  exact ⟨rfl, HB1.out⟩

set_option maxHeartbeats 1000000 in
theorem turns_neg0 (x : Nat) (hx : x < 4294967296) (n : Int) (t : Nat) (ht : n % 32 = (t : Int)) (hn : n < 0) (h0 : t = 0) (bs : List Nat) (A : Option Addr) (len cap : Nat) (hlen : bs.length = len) (hl : len ≤ 200) (_hcap : len ≤ cap) (hnil : A = none → cap = 0) (w : World) (htab : Tab w 0) (hb : Bys w w.heap.size A bs) :
    Calls Tryd.prog 5 #[.int .u32 (x : Int), .int .i64 n, .slice A len cap] w (Ret true w) := by
  have HA := Lib.hid (awake_any w htab)
  clear htab
  have HB := Lib.hid hb; clear hb
  have HL := Lib.hid hlen; clear hlen
  have HNIL := Lib.hid hnil; clear hnil
  have h32 : t < 32 := by omega
  have HR1 := Lib.hid (fun W => rotate_any x hx n t ht W)
  have HR2 := Lib.hid (fun W => rotate_any x hx (t : Int) t (by omega) W)
  have hlt := rot_lt x t hx (by omega)
  have HR3 := Lib.hid (fun W => rotate_any (rot x t) hlt (-(t : Int)) ((32 - t) % 32) (by omega) W)
  rw [rot_back x t hx h32] at HR3
  clear hlt
  have h1 : decide (200 < (len : Int)) = false := by simp; omega
  have hm : n.tmod 32 = (t : Int) := by rw [tmod_neg n hn]; omega
  have hd : decide ((t : Int) < 0) = false := by simp
  clear ht h0
  go_enter Tryd.func5, Tryd.ntmps5
  go_wp2_with fail
  refine HA.out.mono ?_
  rintro e w1 ⟨rfl, hb1⟩
  have HB1 := Lib.hid hb1; clear hb1
  go_wp2_with fail
  go_loop [7, 25] (fun u i => ∃ j : Nat, j ≤ t ∧ i = .int .i64 j ∧ u = .int .u32 (rot x j : Nat)) (fun _ i => t - (intOf i).toNat)
  case atStart => exact ⟨0, Nat.zero_le _, rfl, by rw [rot_zero]⟩
  case round =>
    obtain ⟨j, hj, rfl, rfl⟩ := hrel
    by_cases hjt : j < t
    · have HS := Lib.hid (rot_succ x j (by omega))
      have hlt := rot_lt x j hx (by omega)
      generalize rot x j = y at *
      go_wp2_with fail
      refine (right_any y hlt _).mono ?_
      rintro e w2 ⟨rfl, rfl⟩
      go_wp2
      go_round
      case rel => exact ⟨j + 1, by omega, by go_num, by rw [HS.out]⟩
      case measure => simp [intOf]; omega
    · obtain rfl : j = t := by omega
      have q1 : (((rot x j : Nat) : Int) != ((rot x j : Nat) : Int)) = false := by simp
      have q2 : ((x : Int) != (x : Int)) = false := by simp
      generalize rot x j = y at *
      go_wp2_with fail
      refine (HR1.out _).mono ?_
      rintro e w2 ⟨rfl, rfl⟩
      go_wp2_with fail
      refine (HR2.out _).mono ?_
      rintro e w2 ⟨rfl, rfl⟩
      go_wp2_with fail
      refine (HR3.out _).mono ?_
      rintro e w2 ⟨rfl, rfl⟩
      go_wp2_with fail
      refine (cut_neg A len cap n hn w1).mono ?_
      rintro e w2 ⟨rfl, rfl⟩
      have c1 : decide (0 ≤ n) = false := by simp; omega
      have c2 : decide (n < 0) = true := by simp; omega
      go_wp2
      go_ret
      exact ⟨rfl, HB1.out⟩

set_option maxHeartbeats 1000000 in
theorem turns_neg (x : Nat) (hx : x < 4294967296) (n : Int) (t : Nat) (ht : n % 32 = (t : Int)) (hn : n < 0) (h0 : 0 < t) (bs : List Nat) (A : Option Addr) (len cap : Nat) (hlen : bs.length = len) (hl : len ≤ 200) (_hcap : len ≤ cap) (hnil : A = none → cap = 0) (w : World) (htab : Tab w 0) (hb : Bys w w.heap.size A bs) :
    Calls Tryd.prog 5 #[.int .u32 (x : Int), .int .i64 n, .slice A len cap] w (Ret true w) := by
  have HA := Lib.hid (awake_any w htab)
  clear htab
  have HB := Lib.hid hb; clear hb
  have HL := Lib.hid hlen; clear hlen
  have HNIL := Lib.hid hnil; clear hnil
  have h32 : t < 32 := by omega
  have HR1 := Lib.hid (fun W => rotate_any x hx n t ht W)
  have HR2 := Lib.hid (fun W => rotate_any x hx (t : Int) t (by omega) W)
  have hlt := rot_lt x t hx (by omega)
  have HR3 := Lib.hid (fun W => rotate_any (rot x t) hlt (-(t : Int)) ((32 - t) % 32) (by omega) W)
  rw [rot_back x t hx h32] at HR3
  clear hlt
  have h1 : decide (200 < (len : Int)) = false := by simp; omega
  have hm : n.tmod 32 = (t : Int) - 32 := by rw [tmod_neg n hn]; omega
  have hd : decide ((t : Int) - 32 < 0) = true := by simp; omega
  clear ht
  go_enter Tryd.func5, Tryd.ntmps5
  go_wp2_with fail
  refine HA.out.mono ?_
  rintro e w1 ⟨rfl, hb1⟩
  have HB1 := Lib.hid hb1; clear hb1
  go_wp2_with fail
  go_loop [7, 25] (fun u i => ∃ j : Nat, j ≤ t ∧ i = .int .i64 j ∧ u = .int .u32 (rot x j : Nat)) (fun _ i => t - (intOf i).toNat)
  case atStart => exact ⟨0, Nat.zero_le _, rfl, by rw [rot_zero]⟩
  case round =>
    obtain ⟨j, hj, rfl, rfl⟩ := hrel
    by_cases hjt : j < t
    · have HS := Lib.hid (rot_succ x j (by omega))
      have hlt := rot_lt x j hx (by omega)
      generalize rot x j = y at *
      go_wp2_with fail
      refine (right_any y hlt _).mono ?_
      rintro e w2 ⟨rfl, rfl⟩
      go_wp2
      go_round
      case rel => exact ⟨j + 1, by omega, by go_num, by rw [HS.out]⟩
      case measure => simp [intOf]; omega
    · obtain rfl : j = t := by omega
      have q1 : (((rot x j : Nat) : Int) != ((rot x j : Nat) : Int)) = false := by simp
      have q2 : ((x : Int) != (x : Int)) = false := by simp
      generalize rot x j = y at *
      go_wp2_with fail
      refine (HR1.out _).mono ?_
      rintro e w2 ⟨rfl, rfl⟩
      go_wp2_with fail
      refine (HR2.out _).mono ?_
      rintro e w2 ⟨rfl, rfl⟩
      go_wp2_with fail
      refine (HR3.out _).mono ?_
      rintro e w2 ⟨rfl, rfl⟩
      go_wp2_with fail
      refine (cut_neg A len cap n hn w1).mono ?_
      rintro e w2 ⟨rfl, rfl⟩
      have c1 : decide (0 ≤ n) = false := by simp; omega
      have c2 : decide (n < 0) = true := by simp; omega
      go_wp2
      go_ret
      exact ⟨rfl, HB1.out⟩

set_option maxHeartbeats 1000000 in
theorem turns_past (x : Nat) (hx : x < 4294967296) (n : Int) (t : Nat) (ht : n % 32 = (t : Int)) (hn0 : 0 ≤ n) (bs : List Nat) (A : Option Addr) (len cap : Nat) (hlen : bs.length = len) (hl : len ≤ 200) (hn : (len : Int) < n) (_hcap : len ≤ cap) (hnil : A = none → cap = 0) (w : World) (htab : Tab w 0) (hb : Bys w w.heap.size A bs) :
    Calls Tryd.prog 5 #[.int .u32 (x : Int), .int .i64 n, .slice A len cap] w (Ret true w) := by
  have HA := Lib.hid (awake_any w htab)
  clear htab
  have HB := Lib.hid hb; clear hb
  have HL := Lib.hid hlen; clear hlen
  have HNIL := Lib.hid hnil; clear hnil
  have h32 : t < 32 := by omega
  have HR1 := Lib.hid (fun W => rotate_any x hx n t ht W)
  have HR2 := Lib.hid (fun W => rotate_any x hx (t : Int) t (by omega) W)
  have hlt := rot_lt x t hx (by omega)
  have HR3 := Lib.hid (fun W => rotate_any (rot x t) hlt (-(t : Int)) ((32 - t) % 32) (by omega) W)
  rw [rot_back x t hx h32] at HR3
  clear hlt
  have h1 : decide (200 < (len : Int)) = false := by simp; omega
  have hm : n.tmod 32 = (t : Int) := by rw [Int.tmod_eq_emod_of_nonneg hn0]; exact ht
  have hd : decide ((t : Int) < 0) = false := by simp
  go_enter Tryd.func5, Tryd.ntmps5
  go_wp2_with fail
  refine HA.out.mono ?_
  rintro e w1 ⟨rfl, hb1⟩
  have HB1 := Lib.hid hb1; clear hb1
  go_wp2_with fail
  go_loop [7, 25] (fun u i => ∃ j : Nat, j ≤ t ∧ i = .int .i64 j ∧ u = .int .u32 (rot x j : Nat)) (fun _ i => t - (intOf i).toNat)
  case atStart => exact ⟨0, Nat.zero_le _, rfl, by rw [rot_zero]⟩
  case round =>
    obtain ⟨j, hj, rfl, rfl⟩ := hrel
    by_cases hjt : j < t
    · have HS := Lib.hid (rot_succ x j (by omega))
      have hlt := rot_lt x j hx (by omega)
      generalize rot x j = y at *
      go_wp2_with fail
      refine (right_any y hlt _).mono ?_
      rintro e w2 ⟨rfl, rfl⟩
      go_wp2
      go_round
      case rel => exact ⟨j + 1, by omega, by go_num, by rw [HS.out]⟩
      case measure => simp [intOf]; omega
    · obtain rfl : j = t := by omega
      have q1 : (((rot x j : Nat) : Int) != ((rot x j : Nat) : Int)) = false := by simp
      have q2 : ((x : Int) != (x : Int)) = false := by simp
      generalize rot x j = y at *
      go_wp2_with fail
      refine (HR1.out _).mono ?_
      rintro e w2 ⟨rfl, rfl⟩
      go_wp2_with fail
      refine (HR2.out _).mono ?_
      rintro e w2 ⟨rfl, rfl⟩
      go_wp2_with fail
      refine (HR3.out _).mono ?_
      rintro e w2 ⟨rfl, rfl⟩
      go_wp2_with fail
      refine (cut_past A len cap n (by omega) hn w1).mono ?_
      rintro e w2 ⟨rfl, rfl⟩
      have c1 : decide (0 ≤ n) = true := by simp; omega
      have c2 : decide (n ≤ (len : Int)) = false := by simp; omega
      have c3 : decide (n < 0) = false := by simp; omega
      have c4 : decide ((len : Int) < n) = true := by simp; omega
      go_wp2
      go_ret
      exact ⟨rfl, HB1.out⟩

set_option maxHeartbeats 1000000 in
theorem turns_some (x : Nat) (hx : x < 4294967296) (q : Nat) (t : Nat) (ht : (q : Int) % 32 = (t : Int))  (bs : List Nat) (A : Option Addr) (len cap : Nat) (hlen : bs.length = len) (hl : len ≤ 200) (hq : q ≤ len) (hcap : len ≤ cap) (hnil : A = none → cap = 0) (w : World) (htab : Tab w 0) (hb : Bys w w.heap.size A bs) :
    Calls Tryd.prog 5 #[.int .u32 (x : Int), .int .i64 (q : Int), .slice A len cap] w (Ret true w) := by
  have HA := Lib.hid (awake_any w htab)
  clear htab
  have HB := Lib.hid hb; clear hb
  have HL := Lib.hid hlen; clear hlen
  have HNIL := Lib.hid hnil; clear hnil
  have h32 : t < 32 := by omega
  have HR1 := Lib.hid (fun W => rotate_any x hx (q : Int) t ht W)
  have HR2 := Lib.hid (fun W => rotate_any x hx (t : Int) t (by omega) W)
  have hlt := rot_lt x t hx (by omega)
  have HR3 := Lib.hid (fun W => rotate_any (rot x t) hlt (-(t : Int)) ((32 - t) % 32) (by omega) W)
  rw [rot_back x t hx h32] at HR3
  clear hlt
  have h1 : decide (200 < (len : Int)) = false := by simp; omega
  have hm : (q : Int).tmod 32 = (t : Int) := by rw [Int.tmod_eq_emod_of_nonneg (by omega)]; exact ht
  have hd : decide ((t : Int) < 0) = false := by simp
  go_enter Tryd.func5, Tryd.ntmps5
  go_wp2_with fail
  refine HA.out.mono ?_
  rintro e w1 ⟨rfl, hb1⟩
  have HB1 := Lib.hid hb1; clear hb1
  go_wp2_with fail
  go_loop [7, 25] (fun u i => ∃ j : Nat, j ≤ t ∧ i = .int .i64 j ∧ u = .int .u32 (rot x j : Nat)) (fun _ i => t - (intOf i).toNat)
  case atStart => exact ⟨0, Nat.zero_le _, rfl, by rw [rot_zero]⟩
  case round =>
    obtain ⟨j, hj, rfl, rfl⟩ := hrel
    by_cases hjt : j < t
    · have HS := Lib.hid (rot_succ x j (by omega))
      have hlt := rot_lt x j hx (by omega)
      generalize rot x j = y at *
      go_wp2_with fail
      refine (right_any y hlt _).mono ?_
      rintro e w2 ⟨rfl, rfl⟩
      go_wp2
      go_round
      case rel => exact ⟨j + 1, by omega, by go_num, by rw [HS.out]⟩
      case measure => simp [intOf]; omega
    · obtain rfl : j = t := by omega
      have q1 : (((rot x j : Nat) : Int) != ((rot x j : Nat) : Int)) = false := by simp
      have q2 : ((x : Int) != (x : Int)) = false := by simp
      generalize rot x j = y at *
      go_wp2_with fail
      refine (HR1.out _).mono ?_
      rintro e w2 ⟨rfl, rfl⟩
      go_wp2_with fail
      refine (HR2.out _).mono ?_
      rintro e w2 ⟨rfl, rfl⟩
      go_wp2_with fail
      refine (HR3.out _).mono ?_
      rintro e w2 ⟨rfl, rfl⟩
      go_wp2_with fail
      have HL2 := Lib.hid (show bs.length - q = len - q by rw [HL.out])
      refine (cut_some A len cap q bs HL.out (by omega) hcap HNIL.out (by omega) w1 ((HB.out.below HB1.out).more HB1.out.size)).mono ?_
      rintro e w2 ⟨A1, d1, A2, d2, rfl, hA1, hA2, hY1, hY2, hb2⟩
      rw [HL2.out]
      have HY1 := Lib.hid hY1; clear hY1
      have HY2 := Lib.hid hY2; clear hY2
      have HN1 := Lib.hid hA1; clear hA1
      have HN2 := Lib.hid hA2; clear hA2
      have HB2 := Lib.hid (HB1.out.trans (hb2.mono HB1.out.size)); clear hb2
      have c1 : decide (0 ≤ (q : Int)) = true := by simp
      have c2 : decide ((q : Int) ≤ (len : Int)) = true := by simp; omega
      have c3 : ((q : Int) == (q : Int)) = true := by simp
      have HT := Lib.hid (show (bs.take q).length = q by rw [List.length_take]; have := HL.out; omega)
      have HD := Lib.hid (show (bs.drop q).length = len - q by rw [List.length_drop, HL.out])
      have hle2 := HB2.out.size
      have HAB := Lib.hid (fun o => (Below.refl w2.heap.size w2).alloc (Nat.le_refl _) o)
      go_wp2_with (first
        | (at_builtin; refine append_bys rfl (.tmp 91) (.tmp 92) 22 rfl w2.heap.size 5 Tryd.underlying22 info_u8 (.slice (some ⟨w2.heap.size, 0, none⟩) 0 0) 0 [] rfl (empty_owns w2) A1 q d1 (bs.take q) rfl HN1.out HT.out w2.heap.size (HY1.out.below (HAB.out _)) (by omega) (by simp) (by simp) ?_; intro v1 w3 hown1 hv1 hbel1; simp only [Nat.zero_add, List.nil_append] at hown1; have HO1 := Lib.hid hown1; clear hown1; have HBE1 := Lib.hid ((HAB.out _).trans hbel1); clear hbel1; have HV1 := Lib.hid hv1; clear hv1)
        | (at_builtin; refine append_bys rfl (.tmp 93) (.tmp 94) 22 rfl w2.heap.size 5 Tryd.underlying22 info_u8 _ q (bs.take q) rfl HO1.out A2 (len - q) d2 (bs.drop q) rfl HN2.out HD.out w2.heap.size (HY2.out.below HBE1.out) (by omega) HBE1.out.size HV1.out ?_; intro v2 w4 hown2 hv2 hbel2; rw [List.take_append_drop] at hown2; obtain ⟨A3, d3, rfl, _, hY3⟩ := owns_form hown2 HB.out.1 hv2; have HY3 := Lib.hid hY3; have HBE2 := Lib.hid (HBE1.out.trans hbel2); clear hown2 hv2 hbel2 hY3)
        | fail)
      have HS := Lib.hid (same_any A3 A bs bs len len d3 cap w4 HL.out HL.out (by omega) _ _ HY3.out ((HB.out.below HB2.out).below (HBE2.out.mono hle2)))
      refine HS.out.mono ?_
      rintro e w' ⟨k, rfl, rfl⟩
      go_wp2
      go_ret
      exact ⟨rfl, below_drewN (HB2.out.trans (HBE2.out.mono hle2)) k⟩

/-- THE WALK OF WordTurns. -/
theorem turns_walk (a n : Int) (bs : List Nat) (A : Option Addr) (cap : Nat) (w : World) (ht : Tab w 0) (ha : (Lit.int .u32 a).wf = true) (hb : Bys w w.heap.size A bs) (hcap : bs.length ≤ cap) (hnil : A = none → cap = 0) :
    Calls Tryd.prog 5 #[.int .u32 a, .int .i64 n, .slice A bs.length cap] w (Ret true w) := by
  obtain ⟨h0, h1⟩ := bounds_u32 ha
  obtain ⟨x, rfl⟩ := Int.eq_ofNat_of_zero_le h0
  by_cases hl : 200 < bs.length
  · exact turns_long x n A _ cap hl w ht
  · obtain ⟨t, htt⟩ := Int.eq_ofNat_of_zero_le (show 0 ≤ n % 32 by omega)
    by_cases hn : n < 0
    · rcases Nat.eq_zero_or_pos t with h | h
      · exact turns_neg0 x (by omega) n t htt hn h bs A _ cap rfl (by omega) hcap hnil w ht hb
      · exact turns_neg x (by omega) n t htt hn h bs A _ cap rfl (by omega) hcap hnil w ht hb
    · by_cases hp : (bs.length : Int) < n
      · exact turns_past x (by omega) n t htt (by omega) bs A _ cap rfl (by omega) hp hcap hnil w ht hb
      · obtain ⟨q, rfl⟩ := Int.eq_ofNat_of_zero_le (show 0 ≤ n by omega)
        exact turns_some x (by omega) q t htt bs A _ cap rfl (by omega) (by omega) hcap hnil w ht hb
end Go.Proofs.YtmcemgmnnpleoaaDoor
