/-
  The walk of the law WordBack: for every number, size and bytes it answers true and leaves what was there. Condition: the table of widths stands in its variable.
-/
import Derived.Test.YtmcemgmnnpleoaaDoorAwake
namespace Go.Proofs.YtmcemgmnnpleoaaDoor
open Go.RowKit

theorem getE_put {m k : Nat} (h1 : 1 ≤ k) (h2 : k ≤ 8) (h3 : m ≤ 4611686018427387904) (h4 : m < 256 ^ k) : getE (bytesOf m k) = 0 ∧ getN (bytesOf m k) = m := by
  have e : num (bytesOf m k) = m := by rw [num_bytesOf, Nat.mod_eq_of_lt h4]
  have e0 : getE (bytesOf m k) = 0 := by
    unfold getE
    rw [length_bytesOf, if_neg (by omega), if_neg (by omega), e, if_neg (by omega)]
  exact ⟨e0, by unfold getN; rw [if_pos e0, e]⟩

theorem getE_zero {bs : List Nat} (h : getE bs = 0) : 1 ≤ bs.length ∧ bs.length ≤ 8 ∧ num bs ≤ 4611686018427387904 ∧ getN bs = num bs := by
  have hn : getN bs = num bs := by unfold getN; rw [if_pos h]
  unfold getE at h
  by_cases h0 : bs.length = 0
  · rw [if_pos h0] at h; omega
  · rw [if_neg h0] at h
    by_cases h8 : 8 < bs.length
    · rw [if_pos h8] at h; omega
    · rw [if_neg h8] at h
      by_cases hg : 4611686018427387904 < num bs
      · rw [if_pos hg] at h; omega
      · exact ⟨by omega, by omega, by omega, hn⟩

set_option maxHeartbeats 1000000 in
theorem back_long (n s : Int) (A : Option Addr) (len cap : Nat) (hl : 100 < len) (w : World) (ht : Tab w 0) :
    Calls Tryd.prog 6 #[.int .i64 n, .int .i64 s, .slice A len cap] w (Ret true w) := by
  have HA := Lib.hid (awake_any w ht)
  have HT := Lib.hid ht; clear ht
  have h1 : decide (100 < (len : Int)) = true := by simp; omega
  go_enter Tryd.func6, Tryd.ntmps6
  go_wp2_with fail
  refine HA.out.mono ?_
  rintro e w1 ⟨rfl, hb1⟩
  have HB1 := Lib.hid hb1; clear hb1
  go_wp2
  go_ret
  exact ⟨rfl, HB1.out⟩

set_option maxHeartbeats 1000000 in
theorem back_none_bad (n s : Int) (hp : putOk n s = false) (bs : List Nat) (A : Option Addr) (len cap : Nat) (hlen : bs.length = len) (hl : len ≤ 100) (w : World) (ht : Tab w 0) (hb : Bys w w.heap.size A bs) (he : getE bs ≠ 0) :
    Calls Tryd.prog 6 #[.int .i64 n, .int .i64 s, .slice A len cap] w (Ret true w) := by
  have HA := Lib.hid (awake_any w ht)
  have HT := Lib.hid ht; clear ht
  have HB := Lib.hid hb; clear hb
  have HP := Lib.hid hp; clear hp
  have HL := Lib.hid hlen; clear hlen
  have h1 : decide (100 < (len : Int)) = false := by simp; omega
  go_enter Tryd.func6, Tryd.ntmps6
  go_wp2_with fail
  refine HA.out.mono ?_
  rintro e w1 ⟨rfl, hb1⟩
  have HB1 := Lib.hid hb1; clear hb1
  go_wp2_with fail
  refine (put_none n s HP.out w1 (HT.out.below HB1.out HT.out.lt)).mono ?_
  rintro e w2 ⟨rfl, rfl⟩
  go_wp2_with fail
  refine (get_any A len cap bs HL.out w1 w.heap.size (HB.out.below HB1.out) (HT.out.below HB1.out HT.out.lt)).mono ?_
  rintro e w2 ⟨rfl, rfl⟩
  have hn0 : getN bs = 0 := by unfold getN; rw [if_neg he]
  have h2 : (((getE bs : Nat) : Int) != 0) = true := by rw [bne_iff_ne]; omega
  rw [hn0]
  clear hn0 he
  generalize getE bs = E at *
  go_wp2
  go_ret
  exact ⟨rfl, HB1.out⟩

set_option maxHeartbeats 1000000 in
theorem back_none_ok (n s : Int) (hp : putOk n s = false) (bs : List Nat) (A : Option Addr) (len cap : Nat) (hlen : bs.length = len) (hl : len ≤ 100) (w : World) (ht : Tab w 0) (hb : Bys w w.heap.size A bs) (he : getE bs = 0) :
    Calls Tryd.prog 6 #[.int .i64 n, .int .i64 s, .slice A len cap] w (Ret true w) := by
  have HA := Lib.hid (awake_any w ht)
  have HT := Lib.hid ht; clear ht
  have HB := Lib.hid hb; clear hb
  have HP := Lib.hid hp; clear hp
  have HL := Lib.hid hlen; clear hlen
  have HE := Lib.hid he; clear he
  have h1 : decide (100 < (len : Int)) = false := by simp; omega
  go_enter Tryd.func6, Tryd.ntmps6
  go_wp2_with fail
  refine HA.out.mono ?_
  rintro e w1 ⟨rfl, hb1⟩
  have HB1 := Lib.hid hb1; clear hb1
  go_wp2_with fail
  refine (put_none n s HP.out w1 (HT.out.below HB1.out HT.out.lt)).mono ?_
  rintro e w2 ⟨rfl, rfl⟩
  go_wp2_with fail
  refine (get_any A len cap bs HL.out w1 w.heap.size (HB.out.below HB1.out) (HT.out.below HB1.out HT.out.lt)).mono ?_
  rintro e w2 ⟨rfl, rfl⟩
  obtain ⟨g1, g2, g3, g4⟩ := getE_zero HE.out
  have g5 := num_lt bs HB.out.1
  rw [HE.out, g4]
  have HN := Lib.hid (bytesOf_num bs HB.out.1)
  have hnl : num bs < 256 ^ len := by rw [← HL.out]; exact g5
  rw [HL.out] at g1 g2
  have HP2 := Lib.hid (put_some (num bs) len g1 g2 g3 hnl w1 (HT.out.below HB1.out HT.out.lt))
  clear hnl g4 g5
  generalize num bs = x at *
  go_wp2_with fail
  refine HP2.out.mono ?_
  rintro e w2 ⟨arr, hla, rfl, rfl⟩
  have HLA := Lib.hid hla; clear hla
  have hb1 : Bys (w1.alloc (.cells arr 5)) (w1.heap.size + 1) (some ⟨w1.heap.size, 0, none⟩) bs := by
    have h := HLA.out.bys w1
    rw [← HL.out, HN.out] at h
    exact h
  have hb2 : Bys (w1.alloc (.cells arr 5)) w.heap.size A bs := (HB.out.below HB1.out).below ((Below.refl _ _).alloc HB1.out.size _)
  have HS := Lib.hid (same_any (some ⟨w1.heap.size, 0, none⟩) A bs bs len len len cap _ HL.out HL.out (by omega) _ _ hb1 hb2)
  clear hb1 hb2
  go_wp2_with fail
  refine HS.out.mono ?_
  rintro e w' ⟨k, rfl, rfl⟩
  go_wp2
  go_ret
  exact ⟨rfl, below_drewN (HB1.out.trans ((Below.refl _ _).alloc HB1.out.size _)) k⟩

set_option maxHeartbeats 1000000 in
theorem back_some_bad (m k : Nat) (p1 : 1 ≤ k) (p2 : k ≤ 8) (p3 : m ≤ 4611686018427387904) (p4 : m < 256 ^ k) (bs : List Nat) (A : Option Addr) (len cap : Nat) (hlen : bs.length = len) (hl : len ≤ 100) (w : World) (ht : Tab w 0) (hb : Bys w w.heap.size A bs) (he : getE bs ≠ 0) :
    Calls Tryd.prog 6 #[.int .i64 (m : Int), .int .i64 (k : Int), .slice A len cap] w (Ret true w) := by
  have HA := Lib.hid (awake_any w ht)
  have HT := Lib.hid ht; clear ht
  have HB := Lib.hid hb; clear hb
  have HP := Lib.hid (fun W hW => put_some m k p1 p2 p3 p4 W hW)
  have HL := Lib.hid hlen; clear hlen
  have HGP := Lib.hid (getE_put p1 p2 p3 p4)
  clear p4
  have h1 : decide (100 < (len : Int)) = false := by simp; omega
  have h3 : ((m : Int) != (m : Int)) = false := by simp
  have h4 : ((k : Int) != (k : Int)) = false := by simp
  go_enter Tryd.func6, Tryd.ntmps6
  go_wp2_with fail
  refine HA.out.mono ?_
  rintro e w1 ⟨rfl, hb1⟩
  have HB1 := Lib.hid hb1; clear hb1
  go_wp2_with fail
  refine (HP.out w1 (HT.out.below HB1.out HT.out.lt)).mono ?_
  rintro e w2 ⟨arr, hla, rfl, rfl⟩
  have HB2 := Lib.hid (HB1.out.trans ((Below.refl w.heap.size w1).alloc HB1.out.size (.cells arr 5)))
  have HG := Lib.hid (get_any (some ⟨w1.heap.size, 0, none⟩) k k (bytesOf m k) (length_bytesOf m k) (w1.alloc (.cells arr 5)) _ (hla.bys w1) (HT.out.below HB2.out HT.out.lt))
  clear hla
  rw [HGP.out.1, HGP.out.2] at HG
  go_wp2_with fail
  refine HG.out.mono ?_
  rintro e w2 ⟨rfl, rfl⟩
  go_wp2_with fail
  refine (get_any A len cap bs HL.out _ w.heap.size (HB.out.below HB2.out) (HT.out.below HB2.out HT.out.lt)).mono ?_
  rintro e w2 ⟨rfl, rfl⟩
  have hn0 : getN bs = 0 := by unfold getN; rw [if_neg he]
  have h2 : (((getE bs : Nat) : Int) != 0) = true := by rw [bne_iff_ne]; omega
  rw [hn0]
  clear hn0 he
  generalize getE bs = E at *
  go_wp2
  go_ret
  exact ⟨rfl, HB2.out⟩

set_option maxHeartbeats 1000000 in
theorem back_some_ok (m k : Nat) (p1 : 1 ≤ k) (p2 : k ≤ 8) (p3 : m ≤ 4611686018427387904) (p4 : m < 256 ^ k) (bs : List Nat) (A : Option Addr) (len cap : Nat) (hlen : bs.length = len) (hl : len ≤ 100) (w : World) (ht : Tab w 0) (hb : Bys w w.heap.size A bs) (he : getE bs = 0) :
    Calls Tryd.prog 6 #[.int .i64 (m : Int), .int .i64 (k : Int), .slice A len cap] w (Ret true w) := by
  have HA := Lib.hid (awake_any w ht)
  have HT := Lib.hid ht; clear ht
  have HB := Lib.hid hb; clear hb
  have HP := Lib.hid (fun W hW => put_some m k p1 p2 p3 p4 W hW)
  have HL := Lib.hid hlen; clear hlen
  have HE := Lib.hid he; clear he
  have HGP := Lib.hid (getE_put p1 p2 p3 p4)
  clear p4
  have h1 : decide (100 < (len : Int)) = false := by simp; omega
  have h3 : ((m : Int) != (m : Int)) = false := by simp
  have h4 : ((k : Int) != (k : Int)) = false := by simp
  go_enter Tryd.func6, Tryd.ntmps6
  go_wp2_with fail
  refine HA.out.mono ?_
  rintro e w1 ⟨rfl, hb1⟩
  have HB1 := Lib.hid hb1; clear hb1
  go_wp2_with fail
  refine (HP.out w1 (HT.out.below HB1.out HT.out.lt)).mono ?_
  rintro e w2 ⟨arr, hla, rfl, rfl⟩
  have HB2 := Lib.hid (HB1.out.trans ((Below.refl w.heap.size w1).alloc HB1.out.size (.cells arr 5)))
  have HG := Lib.hid (get_any (some ⟨w1.heap.size, 0, none⟩) k k (bytesOf m k) (length_bytesOf m k) (w1.alloc (.cells arr 5)) _ (hla.bys w1) (HT.out.below HB2.out HT.out.lt))
  clear hla
  rw [HGP.out.1, HGP.out.2] at HG
  go_wp2_with fail
  refine HG.out.mono ?_
  rintro e w2 ⟨rfl, rfl⟩
  go_wp2_with fail
  refine (get_any A len cap bs HL.out _ w.heap.size (HB.out.below HB2.out) (HT.out.below HB2.out HT.out.lt)).mono ?_
  rintro e w2 ⟨rfl, rfl⟩
  obtain ⟨g1, g2, g3, g4⟩ := getE_zero HE.out
  have g5 := num_lt bs HB.out.1
  rw [HE.out, g4]
  have HN := Lib.hid (bytesOf_num bs HB.out.1)
  have hnl : num bs < 256 ^ len := by rw [← HL.out]; exact g5
  rw [HL.out] at g1 g2
  have HP2 := Lib.hid (put_some (num bs) len g1 g2 g3 hnl _ (HT.out.below HB2.out HT.out.lt))
  clear hnl g4 g5
  generalize num bs = x at *
  go_wp2_with fail
  refine HP2.out.mono ?_
  rintro e w2 ⟨ar2, hla, rfl, rfl⟩
  have HLA := Lib.hid hla; clear hla
  have hb1 : Bys ((w1.alloc (.cells arr 5)).alloc (.cells ar2 5)) (w1.heap.size + 2) (some ⟨w1.heap.size + 1, 0, none⟩) bs := by
    have h := HLA.out.bys (w1.alloc (.cells arr 5))
    rw [← HL.out, HN.out] at h
    simpa using h
  have hb2 : Bys ((w1.alloc (.cells arr 5)).alloc (.cells ar2 5)) w.heap.size A bs := (HB.out.below HB2.out).below ((Below.refl _ _).alloc HB2.out.size _)
  have HS := Lib.hid (same_any (some ⟨w1.heap.size + 1, 0, none⟩) A bs bs len len len cap _ HL.out HL.out (by omega) _ _ hb1 hb2)
  clear hb1 hb2
  go_wp2_with fail
  refine HS.out.mono ?_
  rintro e w' ⟨k, rfl, rfl⟩
  go_wp2
  go_ret
  exact ⟨rfl, below_drewN (HB2.out.trans ((Below.refl _ _).alloc HB2.out.size _)) k⟩

/-- THE WALK OF WordBack. -/
theorem back_walk (n s : Int) (bs : List Nat) (A : Option Addr) (cap : Nat) (w : World) (ht : Tab w 0) (hb : Bys w w.heap.size A bs) :
    Calls Tryd.prog 6 #[.int .i64 n, .int .i64 s, .slice A bs.length cap] w (Ret true w) := by
  by_cases hl : 100 < bs.length
  · exact back_long n s A _ cap hl w ht
  · cases hp : putOk n s with
    | false =>
      by_cases he : getE bs = 0
      · exact back_none_ok n s hp bs A _ cap rfl (by omega) w ht hb he
      · exact back_none_bad n s hp bs A _ cap rfl (by omega) w ht hb he
    | true =>
      obtain ⟨m, k, rfl, rfl, h1, h2, h3, h4⟩ := putOk_parts hp
      by_cases he : getE bs = 0
      · exact back_some_ok m k h1 h2 h3 h4 bs A _ cap rfl (by omega) w ht hb he
      · exact back_some_bad m k h1 h2 h3 h4 bs A _ cap rfl (by omega) w ht hb he
end Go.Proofs.YtmcemgmnnpleoaaDoor
