/-
  The walk of the law XtsSectors: for every key, number and sector it answers true. Condition: the table of widths stands in its variable. (Written by tools/gen_xsectors.py.)
-/
import Derived.Test.YtdjknmnmacppdaaDoorXtAwake
import Derived.Test.YtdjknmnmacppdaaDoorXtRefEnc
namespace Go.Proofs.YtdjknmnmacppdaaDoor
open Go.RowKit Arr Gf Sb Ae Xt

/-- What stands while the law compares. -/
structure SxS (w : World) (A0 A1 AX AY AZ : Option Addr) (ks b X Y : List Nat) (w' : World) : Prop where
  fk : Bys w' w'.heap.size A0 ks
  fb : Bys w' w'.heap.size A1 b
  fx : Bys w' w'.heap.size AX X
  fy : Bys w' w'.heap.size AY Y
  fz : Bys w' w'.heap.size AZ b
  bel : Below w.heap.size w w'
theorem bysNext {w' w'' : World} {A : Option Addr} {l : List Nat} (h : Bys w' w'.heap.size A l) (hb : Below w'.heap.size w' w'') : Bys w'' w''.heap.size A l := (h.below hb).more hb.size
theorem SxS.next {w w' w'' : World} {A0 A1 AX AY AZ : Option Addr} {ks b X Y : List Nat} (h : SxS w A0 A1 AX AY AZ ks b X Y w') (hb : Below w'.heap.size w' w'') : SxS w A0 A1 AX AY AZ ks b X Y w'' :=
  ⟨bysNext h.fk hb, bysNext h.fb hb, bysNext h.fx hb, bysNext h.fy hb, bysNext h.fz hb, h.bel.trans (hb.mono h.bel.size)⟩

section
variable {ks b : List Nat} {A0 A1 : Option Addr} {n0 c0 n1 c1 : Nat} {w : World}
theorem sectors_long (nu : Int) (hl : 100 < n0 ∨ 200 < n1) (ht : Tab w 0) :
    Calls Tryd.prog 3 #[.slice A0 n0 c0, .int .i64 nu, .slice A1 n1 c1] w (Ret true w) := by
  have HA := Lib.hid (awake_any w ht)
  clear ht
  by_cases h0 : 100 < n0
  · have t1 : decide ((n0 : Int) > 100) = true := by simp; omega
    have t2 : decide (100 < (n0 : Int)) = true := by simp; omega
    have t3 : decide (100 < n0) = true := by simp; omega
    clear hl
    go_enter Tryd.func3, Tryd.ntmps3
    go_wp2_with fail
    refine HA.out.mono ?_
    rintro e w1 ⟨rfl, hb⟩
    have HB := Lib.hid hb; clear hb
    go_wp2
    go_ret
    exact ⟨rfl, HB.out⟩
  · have t1 : decide ((n0 : Int) > 100) = false := by simp; omega
    have t2 : decide (100 < (n0 : Int)) = false := by simp; omega
    have t3 : decide (100 < n0) = false := by simp; omega
    have t4 : decide ((n1 : Int) > 200) = true := by simp; omega
    have t5 : decide (200 < (n1 : Int)) = true := by simp; omega
    have t6 : decide (200 < n1) = true := by simp; omega
    clear hl
    go_enter Tryd.func3, Tryd.ntmps3
    go_wp2_with fail
    refine HA.out.mono ?_
    rintro e w1 ⟨rfl, hb⟩
    have HB := Lib.hid hb; clear hb
    go_wp2
    go_ret
    exact ⟨rfl, HB.out⟩

set_option maxHeartbeats 2000000 in
theorem sectors_not (nu : Int) (hs0 : n0 ≤ 100) (hs1 : n1 ≤ 200) (hl0 : ks.length = n0) (hc0 : n0 ≤ c0) (hk : ¬ okKey n0) (hb0 : Bys w w.heap.size A0 ks) (ht : Tab w 0) :
    Calls Tryd.prog 3 #[.slice A0 n0 c0, .int .i64 nu, .slice A1 n1 c1] w (Ret true w) := by
  have HA := Lib.hid (awake_any w ht)
  have htw := ht.lt
  have CR := Lib.hid (fun w' => right_no A0 n0 c0 hk w')
  have CN := Lib.hid (fun w' (hw : Below w.heap.size w w') => xnew_bad hl0 (by omega) hk hc0 ((hb0.below hw).more hw.size) (ht.below hw htw))
  have CE := Lib.hid (fun w' => xEncrypt_nil (A := A1) (n := n1) (c := c1) (w := w') nu)
  have CD := Lib.hid (fun w' => xDecrypt_nil (A := A1) (n := n1) (c := c1) (w := w') nu)
  have t1 : decide ((n0 : Int) > 100) = false := by simp; omega
  have t2 : decide (100 < (n0 : Int)) = false := by simp; omega
  have t3 : decide (100 < n0) = false := by simp; omega
  have t4 : decide ((n1 : Int) > 200) = false := by simp; omega
  have t5 : decide (200 < (n1 : Int)) = false := by simp; omega
  have t6 : decide (200 < n1) = false := by simp; omega
  clear ht hk hl0 hb0
  go_enter Tryd.func3, Tryd.ntmps3
  go_wp2_with fail
  refine HA.out.mono ?_
  rintro e w1 ⟨rfl, hb⟩
  have HB := Lib.hid hb
  have C1 := Lib.hid (CN.out w1 hb)
  clear hb HA CN
  go_wp2_with fail
  refine C1.out.mono ?_
  rintro e w2 ⟨rfl, hb2⟩
  have B2 := Lib.hid (HB.out.trans (hb2.mono HB.out.size))
  clear hb2 HB C1
  go_wp2_with fail
  refine (CR.out _).mono ?_
  rintro e w3 ⟨rfl, rfl⟩
  clear CR
  go_wp2_with fail
  refine (CE.out _).mono ?_
  rintro e w4 ⟨AX, cx, rfl, -, -, -, hb4⟩
  have B4 := Lib.hid (B2.out.trans (hb4.mono B2.out.size))
  clear hb4 B2 CE
  go_wp2_with fail
  refine (CD.out _).mono ?_
  rintro e w5 ⟨AY, cy, rfl, -, -, -, hb5⟩
  have B5 := Lib.hid (B4.out.trans (hb5.mono B4.out.size))
  clear hb5 B4 CD
  go_wp2
  go_ret
  exact ⟨rfl, B5.out⟩

set_option maxHeartbeats 4000000 in
theorem sectors_bad (nu : Int) (hs0 : n0 ≤ 100) (hs1 : n1 ≤ 200) (hl0 : ks.length = n0) (hc0 : n0 ≤ c0) (hl1 : b.length = n1) (hc1 : n1 ≤ c1) (hk : okKey n0) (ho : okSec nu n1 = false) (hb0 : Bys w w.heap.size A0 ks) (hb1 : Bys w w.heap.size A1 b) (ht : Tab w 0) :
    Calls Tryd.prog 3 #[.slice A0 n0 c0, .int .i64 nu, .slice A1 n1 c1] w (Ret true w) := by
  have HA := Lib.hid (awake_any w ht)
  have htw := ht.lt
  have hk0 : okKey ks.length := by rw [hl0]; exact hk
  have CR := Lib.hid (fun w' => right_yes A0 n0 c0 hk w')
  have CN := Lib.hid (fun w' (hw : Below w.heap.size w w') => xnew_ok hl0 hk hc0 ((hb0.below hw).more hw.size) (ht.below hw htw))
  have CE := Lib.hid (fun g g1 g2 w' (h : Sec w' g g1 g2 ks) (hw : Below w.heap.size w w') => by
    have := xEncrypt_any h hk0 nu hc1 hl1 ((hb1.below hw).more hw.size)
    rw [xL, hl1, xErr, ho] at this
    exact (this : Calls Tryd.prog 9 #[.pointer (some ⟨g, 0, none⟩), .int .i64 nu, .slice A1 n1 c1] w' (GivesX [] 2 w')))
  have CD := Lib.hid (fun g g1 g2 w' (h : Sec w' g g1 g2 ks) (hw : Below w.heap.size w w') => by
    have := xDecrypt_any h hk0 nu hc1 hl1 ((hb1.below hw).more hw.size)
    rw [xL, hl1, xErr, ho] at this
    exact (this : Calls Tryd.prog 10 #[.pointer (some ⟨g, 0, none⟩), .int .i64 nu, .slice A1 n1 c1] w' (GivesX [] 2 w')))
  have t1 : decide ((n0 : Int) > 100) = false := by simp; omega
  have t2 : decide (100 < (n0 : Int)) = false := by simp; omega
  have t3 : decide (100 < n0) = false := by simp; omega
  have t4 : decide ((n1 : Int) > 200) = false := by simp; omega
  have t5 : decide (200 < (n1 : Int)) = false := by simp; omega
  have t6 : decide (200 < n1) = false := by simp; omega
  obtain ⟨q, hq⟩ : ∃ q : Prop, q = (nu < 0 ∨ (0 ≤ nu ∧ 4611686018427387904 < nu) ∨ (0 ≤ nu ∧ nu ≤ 4611686018427387904 ∧ n1 = 0) ∨ (0 ≤ nu ∧ nu ≤ 4611686018427387904 ∧ 0 < n1 ∧ n1 % 16 ≠ 0)) := ⟨_, rfl⟩
  have hp : q := by
    rw [hq]
    by_cases q1 : nu < 0
    · exact .inl q1
    · by_cases q2 : 4611686018427387904 < nu
      · exact .inr (.inl ⟨by omega, q2⟩)
      · by_cases q3 : n1 = 0
        · exact .inr (.inr (.inl ⟨by omega, by omega, q3⟩))
        · refine .inr (.inr (.inr ⟨by omega, by omega, by omega, fun h0 => ?_⟩))
          have : okSec nu n1 = true := by simp only [okSec, okTw, isSec, Bool.and_eq_true, decide_eq_true_eq]; omega
          rw [ho] at this; cases this
  have HQ := Lib.hid hq
  have HP := Lib.hid hp
  clear ht hk hl0 hb0 hk0 hl1 hb1 ho hq hp
  go_enter Tryd.func3, Tryd.ntmps3
  go_wp2_with fail
  refine HA.out.mono ?_
  rintro e w1 ⟨rfl, hb⟩
  have HB := Lib.hid hb
  have C1 := Lib.hid (CN.out w1 hb)
  clear hb HA CN
  go_wp2_with fail
  refine C1.out.mono ?_
  rintro e w2 ⟨g, g1, g2, rfl, hS, hb2⟩
  have B2 := Lib.hid (HB.out.trans (hb2.mono HB.out.size))
  have HS := Lib.hid hS
  have C2 := Lib.hid (CE.out g g1 g2 w2 hS B2.out)
  clear hb2 HB C1 hS CE
  go_wp2_with fail
  refine (CR.out _).mono ?_
  rintro e w3 ⟨rfl, rfl⟩
  clear CR
  go_wp2_with fail
  refine C2.out.mono ?_
  rintro e w4 ⟨AX, cx, rfl, -, -, -, hb4⟩
  have B4 := Lib.hid (B2.out.trans (hb4.mono B2.out.size))
  have C3 := Lib.hid (CD.out g g1 g2 w4 (HS.out.below hb4) B4.out)
  clear hb4 B2 C2 CD HS
  go_wp2_with fail
  refine C3.out.mono ?_
  rintro e w5 ⟨AY, cy, rfl, -, -, -, hb5⟩
  have B5 := Lib.hid (B4.out.trans (hb5.mono B4.out.size))
  clear hb5 B4 C3
  have hp := HP.out
  rw [HQ.out] at hp
  clear HP HQ
  rcases hp with q1 | ⟨q1, q2⟩ | ⟨q1, q2, q3⟩ | ⟨q1, q2, q3, q4⟩
  · have v1 : decide (nu < 0) = true := by simp; omega
    go_wp2
    go_ret
    exact ⟨rfl, B5.out⟩
  · have v1 : decide (nu < 0) = false := by simp; omega
    have v2 : decide (nu > 4611686018427387904) = true := by simp; omega
    have v3 : decide (4611686018427387904 < nu) = true := by simp; omega
    go_wp2
    go_ret
    exact ⟨rfl, B5.out⟩
  · have v1 : decide (nu < 0) = false := by simp; omega
    have v2 : decide (nu > 4611686018427387904) = false := by simp; omega
    have v3 : decide (4611686018427387904 < nu) = false := by simp; omega
    have v4 : ((n1 : Int) == 0) = true := by simp; omega
    obtain rfl : n1 = 0 := q3
    go_wp2
    go_ret
    exact ⟨rfl, B5.out⟩
  · have v1 : decide (nu < 0) = false := by simp; omega
    have v2 : decide (nu > 4611686018427387904) = false := by simp; omega
    have v3 : decide (4611686018427387904 < nu) = false := by simp; omega
    have v4 : ((n1 : Int) == 0) = false := by simp; omega
    obtain ⟨r, hr⟩ : ∃ r, r = n1 % 16 := ⟨_, rfl⟩
    have v5 : (n1 : Int) % 16 = (r : Int) := by omega
    have v6 : (n1 : Int).tmod 16 = (r : Int) := by rw [Int.tmod_eq_emod_of_nonneg (by omega)]; exact v5
    have v7 : ((r : Int) != 0) = true := by simp; omega
    have v8 : ((r : Int) == 0) = false := by simp; omega
    have v9 : IntKind.i64.wrap (r : Int) = (r : Int) := by rw [IntKind.wrap_i64]; omega
    clear hr q4
    go_wp2
    go_ret
    exact ⟨rfl, B5.out⟩
end

set_option maxHeartbeats 8000000 in
set_option maxRecDepth 10000 in
theorem sectors_ok {ks b : List Nat} {A0 A1 : Option Addr} {n0 c0 n1 c1 : Nat} {w : World} (nu : Nat) (hnu : nu ≤ 4611686018427387904) (hs0 : n0 ≤ 100) (hs1 : n1 ≤ 200) (hl0 : ks.length = n0) (hc0 : n0 ≤ c0) (hl1 : b.length = n1) (hc1 : n1 ≤ c1) (hk : okKey n0) (m : Nat) (hm : n1 = 16 * m) (hm0 : 0 < m)
    (hb0 : Bys w w.heap.size A0 ks) (hb1 : Bys w w.heap.size A1 b) (ht : Tab w 0) :
    Calls Tryd.prog 3 #[.slice A0 n0 c0, .int .i64 (nu : Int), .slice A1 n1 c1] w (Ret true w) := by
  have HA := Lib.hid (awake_any w ht)
  have htw := ht.lt
  have hk0 : okKey ks.length := by rw [hl0]; exact hk
  have ho : okSec (nu : Int) n1 = true := by simp only [okSec, okTw, isSec, Bool.and_eq_true, decide_eq_true_eq]; omega
  have hx0 : xErr (nu : Int) n1 = 0 := by rw [xErr, if_pos ho]
  have hxl : ∀ f l, l.length = n1 → xL f ks (nu : Int) l = secL f (twk ks nu 0) l := fun f l hl => by rw [xL, hl, if_pos ho, Int.toNat_natCast]
  have CRi := Lib.hid (fun w' => right_yes A0 n0 c0 hk w')
  have CN := Lib.hid (fun w' (hw : Below w.heap.size w w') => xnew_ok hl0 hk hc0 ((hb0.below hw).more hw.size) (ht.below hw htw))
  have CE := Lib.hid (fun g g1 g2 w' (h : Sec w' g g1 g2 ks) (hw : Below w.heap.size w w') => by
    have := xEncrypt_any h hk0 (nu : Int) hc1 hl1 ((hb1.below hw).more hw.size)
    rw [hxl _ _ hl1, hx0] at this
    exact this)
  have CD := Lib.hid (fun g g1 g2 w' (h : Sec w' g g1 g2 ks) (A : Option Addr) (c : Nat) (l : List Nat) (hl : l.length = n1) (hc : n1 ≤ c) (hb : Bys w' w'.heap.size A l) => by
    have := xDecrypt_any h hk0 (nu : Int) hc hl hb
    rw [hxl _ _ hl, hx0] at this
    exact this)
  have CRE := Lib.hid (fun w' (A : Option Addr) (c : Nat) (l : List Nat) (hl : l.length = n1) (hk' : Bys w' w'.heap.size A0 ks) (hb : Bys w' w'.heap.size A l) => rencrypt_any ks l A0 A n0 c0 n1 c m hl0 hk hc0 nu hnu hl hm hm0 (by omega) w' hk' hb)
  have KO := kk_ok (len_ka hk0)
  have s1 : secL (dec (rr (ka ks)) (kk (ka ks))) (twk ks nu 0) (secL (enc (rr (ka ks)) (kk (ka ks))) (twk ks nu 0) b) = b := sec_sec (fun x hx => st_enc KO hx) (fun x hx => dec_enc KO hx) (st_twk hk0 nu 0) (hl1.trans hm) hb1.1
  have s2 : secL (enc (rr (ka ks)) (kk (ka ks))) (twk ks nu 0) (secL (dec (rr (ka ks)) (kk (ka ks))) (twk ks nu 0) b) = b := sec_sec (fun x hx => st_dec KO hx) (fun x hx => enc_dec KO hx) (st_twk hk0 nu 0) (hl1.trans hm) hb1.1
  have LX := len_sec (f := enc (rr (ka ks)) (kk (ka ks))) (t := twk ks nu 0) (hl1.trans hm)
  have LY := len_sec (f := dec (rr (ka ks)) (kk (ka ks))) (t := twk ks nu 0) (hl1.trans hm)
  rw [hl1] at LX LY
  have CE := Lib.hid (fun g g1 g2 w' h hw => CE.out g g1 g2 w' h hw)
  obtain ⟨X, hX⟩ : ∃ X, X = secL (enc (rr (ka ks)) (kk (ka ks))) (twk ks nu 0) b := ⟨_, rfl⟩
  obtain ⟨Y, hY⟩ : ∃ Y, Y = secL (dec (rr (ka ks)) (kk (ka ks))) (twk ks nu 0) b := ⟨_, rfl⟩
  rw [← hX] at s1 LX CE
  rw [← hY] at s2 LY
  have CD1 := Lib.hid (fun g g1 g2 w' h (hw : Below w.heap.size w w') => by
    have := CD.out g g1 g2 w' h A1 c1 b hl1 hc1 ((hb1.below hw).more hw.size)
    rw [← hY] at this
    exact this)
  have CD2 := Lib.hid (fun g g1 g2 w' h A c hc hb => by
    have := CD.out g g1 g2 w' h A c X LX hc hb
    rw [s1] at this
    exact this)
  have CR1 := Lib.hid (fun w' hk' hb => by
    have := CRE.out w' A1 c1 b hl1 hk' hb
    rw [← hX] at this
    exact this)
  have CR2 := Lib.hid (fun w' A c hk' hb => by
    have := CRE.out w' A c Y LY hk' hb
    rw [s2] at this
    exact this)
  have CS : Go.RowKit.Hid (∀ (A A' : Option Addr) (c c' : Nat) (l : List Nat) (w' : World), l.length = n1 → Bys w' w'.heap.size A l → Bys w' w'.heap.size A' l → Calls Tryd.prog 11 #[.slice A n1 c, .slice A' n1 c'] w' (Ans true w')) := Lib.hid (fun A A' c c' l w' hl h h' => by
    have := same_any A A' l l n1 n1 c c' w' hl hl (by omega) _ _ h h'
    rwa [decide_eq_true rfl] at this)
  have t1 : decide ((n0 : Int) > 100) = false := by simp; omega
  have t2 : decide (100 < (n0 : Int)) = false := by simp; omega
  have t3 : decide (100 < n0) = false := by simp; omega
  have t4 : decide ((n1 : Int) > 200) = false := by simp; omega
  have t5 : decide (200 < (n1 : Int)) = false := by simp; omega
  have t6 : decide (200 < n1) = false := by simp; omega
  have u1 : decide ((nu : Int) < 0) = false := by simp
  have u2 : decide ((nu : Int) > 4611686018427387904) = false := by simp; omega
  have u2' : decide (4611686018427387904 < (nu : Int)) = false := by simp; omega
  have u3 : ((n1 : Int) == 0) = false := by simp; omega
  have u4 : (n1 : Int) % 16 = 0 := by omega
  have u5 : (n1 : Int).tmod 16 = 0 := by rw [Int.tmod_eq_emod_of_nonneg (by omega)]; exact u4
  have HB1 := Lib.hid hb1
  have HB0 := Lib.hid hb0
  have LX := Lib.hid LX
  have HLY := Lib.hid LY
  have LB := Lib.hid hl1
  have hn1 : n1 ≤ 1000 := by omega
  clear ht hk hl0 hb0 hk0 hl1 hb1 ho hnu hs0 hs1 CD CRE KO s1 s2 LY hX hY hx0 hxl hm hm0
  go_enter Tryd.func3, Tryd.ntmps3
  go_wp2_with fail
  refine HA.out.mono ?_
  rintro e w1 ⟨rfl, hb⟩
  have HB := Lib.hid hb
  have C1 := Lib.hid (CN.out w1 hb)
  clear hb HA CN
  go_wp2_with fail
  refine C1.out.mono ?_
  rintro e w2 ⟨g, g1, g2, rfl, hS, hb2⟩
  have B2 := Lib.hid (HB.out.trans (hb2.mono HB.out.size))
  have HS2 := Lib.hid hS
  have C2 := Lib.hid (CE.out g g1 g2 w2 hS B2.out)
  clear hb2 HB C1 hS CE
  go_wp2_with fail
  refine (CRi.out _).mono ?_
  rintro e w3 ⟨rfl, rfl⟩
  clear CRi
  go_wp2_with fail
  refine C2.out.mono ?_
  rintro e w4 ⟨AX, cx, rfl, hcx, -, hyx, hb4⟩
  rw [LX.out] at hcx ⊢
  have B4 := Lib.hid (B2.out.trans (hb4.mono B2.out.size))
  have HS4 := Lib.hid (HS2.out.below hb4)
  have C3 := Lib.hid (CD1.out g g1 g2 w4 HS4.out B4.out)
  have HX4 := Lib.hid hyx
  clear hb4 B2 C2 CD1 HS2 hyx
  go_wp2_with fail
  refine C3.out.mono ?_
  rintro e w5 ⟨AY, cy, rfl, hcy, -, hyy, hb5⟩
  have hly : Y.length = n1 := HLY.out
  rw [hly] at hcy ⊢
  have B5 := Lib.hid (B4.out.trans (hb5.mono B4.out.size))
  have HX5 := Lib.hid (bysNext HX4.out hb5)
  have HY5 := Lib.hid hyy
  have C4 := Lib.hid (CD2.out g g1 g2 w5 (HS4.out.below hb5) AX cx hcx HX5.out)
  clear hb5 B4 C3 HS4 CD2 hyy HX4 hly
  go_wp2_with fail
  refine C4.out.mono ?_
  rintro e w6 ⟨AZ, cz, rfl, hcz, -, hyz, hb6⟩
  rw [LB.out] at hcz ⊢
  have B6 := B5.out.trans (hb6.mono B5.out.size)
  have S6 : Go.RowKit.Hid (SxS w A0 A1 AX AY AZ ks b X Y w6) := Lib.hid
    ⟨(HB0.out.below B6).more B6.size, (HB1.out.below B6).more B6.size, bysNext HX5.out hb6, bysNext HY5.out hb6, hyz, B6⟩
  clear hb6 B5 C4 HX5 HY5 B6 hyz HB0 HB1
  have C7 := Lib.hid (CR1.out w6 S6.out.fk S6.out.fb)
  clear CR1
  go_wp2_with fail
  refine C7.out.mono ?_
  rintro e w7 ⟨AR, cr, rfl, -, hyr, hb7⟩
  have S7 := Lib.hid (S6.out.next hb7)
  have C8 := Lib.hid (CS.out AX AR cx cr X w7 LX.out S7.out.fx hyr)
  clear hb7 hyr S6 C7
  go_wp2_with fail
  refine C8.out.mono ?_
  rintro e w8 ⟨nn, rfl, rfl⟩
  have S8 := Lib.hid (S7.out.next (below_drewN_self _ nn))
  clear C8
  generalize w7.drewN nn = w8 at *
  clear S7
  have C9 := Lib.hid (CS.out AZ A1 cz c1 b w8 LB.out S8.out.fz S8.out.fb)
  go_wp2_with fail
  refine C9.out.mono ?_
  rintro e w9 ⟨nn, rfl, rfl⟩
  have S9 := Lib.hid (S8.out.next (below_drewN_self _ nn))
  clear C9
  generalize w8.drewN nn = w9 at *
  clear S8
  have C10 := Lib.hid (CR2.out w9 AY cy S9.out.fk S9.out.fy)
  clear CR2
  go_wp2_with fail
  refine C10.out.mono ?_
  rintro e w10 ⟨AQ, cq, rfl, -, hyq, hb10⟩
  have S10 := Lib.hid (S9.out.next hb10)
  have C11 := Lib.hid (CS.out AQ A1 cq c1 b w10 LB.out hyq S10.out.fb)
  clear hb10 hyq S9 C10
  go_wp2_with fail
  refine C11.out.mono ?_
  rintro e w11 ⟨nn, rfl, rfl⟩
  have S11 := Lib.hid (S10.out.next (below_drewN_self _ nn))
  clear C11 S10
  go_wp2
  go_ret
  exact ⟨rfl, S11.out.bel⟩

/-- XTSSECTORS: it answers true. -/
theorem sectors_walk (ks : List Nat) (A0 : Option Addr) (c0 : Nat) (nu : Int) (b : List Nat) (A1 : Option Addr) (c1 : Nat) (w : World) (ht : Tab w 0) (hb0 : Bys w w.heap.size A0 ks) (hc0 : ks.length ≤ c0) (_ : A0 = none → c0 = 0) (hb1 : Bys w w.heap.size A1 b) (hc1 : b.length ≤ c1) (_ : A1 = none → c1 = 0) :
    Calls Tryd.prog 3 #[.slice A0 ks.length c0, .int .i64 nu, .slice A1 b.length c1] w (Ret true w) := by
  by_cases hl : 100 < ks.length ∨ 200 < b.length
  · exact sectors_long nu hl ht
  · by_cases hk : okKey ks.length
    · cases ho : okSec nu b.length with
      | false => exact sectors_bad nu (by omega) (by omega) rfl hc0 rfl hc1 hk ho hb0 hb1 ht
      | true =>
        simp only [okSec, Bool.and_eq_true] at ho
        obtain ⟨a, rfl, ha⟩ := okTw_nat ho.1
        obtain ⟨m, hm, h0, _⟩ := isSec_m ho.2
        exact sectors_ok a ha (by omega) (by omega) rfl hc0 rfl hc1 hk m hm h0 hb0 hb1 ht
    · exact sectors_not nu (by omega) (by omega) rfl hc0 hk hb0 ht
end Go.Proofs.YtdjknmnmacppdaaDoor
