/-
  The walk of the law XtsApart: for every number, sector and two bytes it answers true. Condition: the table of widths stands in its variable.
-/
import Derived.Test.YtdjknmnmacppdaaDoorXtAwake
import Derived.Test.YtdjknmnmacppdaaDoorXtApartNum
import Derived.Test.YtdjknmnmacppdaaDoorOwnBys
import Derived.Test.YtdjknmnmacppdaaDoorOwnAll
import Derived.Deep.QuietTactic
import Derived.BigQuiet
namespace Go.Proofs.YtdjknmnmacppdaaDoor
open Go.RowKit Arr Gf Sb Ae Xt

theorem o2 : Arr.Of Tryd.prog 39 5 2 .u8 := ⟨by kernel_rfl, by kernel_rfl, by kernel_rfl, by kernel_rfl⟩
theorem none_owns (w : World) : (w.alloc (.cells #[] 5)).ownsRow w.heap.size 5 1 (.slice (some ⟨w.heap.size, 0, none⟩) 0 0) 0 (vals .u8 []) :=
  World.ownsRow_made w #[] 0 (Nat.le_refl _) (by unfold maxLen; omega) rfl
theorem cutA_zero (A : Option Addr) (c : Nat) : cutA A c 0 = A := by
  unfold cutA
  split
  · rfl
  · cases A <;> simp [Addr.add]
/-- Same, as a statement that draws asks it. -/
theorem same_quiet (A A' : Option Addr) (bs cs : List Nat) (n c c' : Nat) (w : World) (hl : bs.length = n) (hl' : cs.length = n) (hn : n ≤ 1000) (hb : Bys w w.heap.size A bs) (hc : Bys w w.heap.size A' cs) (d : Bool) (hd : decide (bs = cs) = d) (q : Nat) :
    Calls Tryd.prog 11 #[.slice A n c, .slice A' n c'] (w.drewN q) fun e w' => e = .returned (.bool d) ∧ ∃ m, w' = (w.drewN q).drewN m := by
  subst hd
  refine (same_any A A' bs cs n n c c' (w.drewN q) hl hl' hn _ _ (hb.drewN q) (hc.drewN q)).mono ?_
  rintro e w' ⟨m, rfl, rfl⟩
  exact ⟨rfl, m, rfl⟩
theorem bys_take_all {w : World} {B : Nat} {A : Option Addr} {bs : List Nat} {n : Nat} (hb : Bys w B A bs) (c : Nat) (hc : n ≤ c) (hl : bs.length = n) (l : Nat) (h1 : l ≤ n) : Bys w B (cutA A c l) (bs.drop l) := by
  have h := bys_cut hb c (by omega) l n h1 (by omega)
  rwa [List.take_of_length_le (by rw [List.length_drop, hl]; exact Nat.le_refl _)] at h

section
variable {b l : List Nat} {A1 : Option Addr} {n1 c1 : Nat} {w : World}
set_option maxHeartbeats 4000000 in
theorem apart_no (nu : Int) (hno : ¬ (0 < n1 ∧ n1 % 16 = 0 ∧ n1 ≤ 200 ∧ 0 ≤ nu ∧ nu ≤ 4611686018427387904)) (ht : Tab w 0) :
    Calls Tryd.prog 5 #[.int .i64 nu, .slice A1 n1 c1, .agg (na .u8 l)] w (Ret true w) := by
  have BA := Lib.hid (below_alloc w (.cells (na .u8 l) 39))
  have HA := Lib.hid (awake_any (w.alloc (.cells (na .u8 l) 39)) (ht.below BA.out ht.lt))
  have hp : n1 = 0 ∨ (0 < n1 ∧ n1 % 16 ≠ 0) ∨ (0 < n1 ∧ n1 % 16 = 0 ∧ 200 < n1) ∨ (0 < n1 ∧ n1 % 16 = 0 ∧ n1 ≤ 200 ∧ nu < 0) ∨ (0 < n1 ∧ n1 % 16 = 0 ∧ n1 ≤ 200 ∧ 0 ≤ nu ∧ 4611686018427387904 < nu) := by omega
  clear ht hno
  rcases hp with q1 | ⟨q1, q2⟩ | ⟨q1, q2, q3⟩ | ⟨q1, q2, q3, q4⟩ | ⟨q1, q2, q3, q4, q5⟩
  · have t1 : ((n1 : Int) == 0) = true := by simp; omega
    subst q1
    go_enter Tryd.func5, Tryd.ntmps5
    go_wp2_with fail
    refine HA.out.mono ?_
    rintro e w1 ⟨rfl, hb⟩
    have HB := Lib.hid (BA.out.trans (hb.mono BA.out.size)); clear hb
    go_wp2
    go_ret
    exact ⟨rfl, HB.out⟩
  · have t1 : ((n1 : Int) == 0) = false := by simp; omega
    obtain ⟨r, hr⟩ : ∃ r, r = n1 % 16 := ⟨_, rfl⟩
    have v5 : (n1 : Int) % 16 = (r : Int) := by omega
    have v6 : (n1 : Int).tmod 16 = (r : Int) := by rw [Int.tmod_eq_emod_of_nonneg (by omega)]; exact v5
    have v7 : ((r : Int) != 0) = true := by simp; omega
    have v8 : ((r : Int) == 0) = false := by simp; omega
    have v9 : IntKind.i64.wrap (r : Int) = (r : Int) := by rw [IntKind.wrap_i64]; omega
    clear hr q2
    go_enter Tryd.func5, Tryd.ntmps5
    go_wp2_with fail
    refine HA.out.mono ?_
    rintro e w1 ⟨rfl, hb⟩
    have HB := Lib.hid (BA.out.trans (hb.mono BA.out.size)); clear hb
    go_wp2
    go_ret
    exact ⟨rfl, HB.out⟩
  · have t1 : ((n1 : Int) == 0) = false := by simp; omega
    have v5 : (n1 : Int) % 16 = 0 := by omega
    have v6 : (n1 : Int).tmod 16 = 0 := by rw [Int.tmod_eq_emod_of_nonneg (by omega)]; exact v5
    have t2 : decide ((n1 : Int) > 200) = true := by simp; omega
    have t3 : decide (200 < (n1 : Int)) = true := by simp; omega
    have t4 : decide (200 < n1) = true := by simp; omega
    clear q2
    go_enter Tryd.func5, Tryd.ntmps5
    go_wp2_with fail
    refine HA.out.mono ?_
    rintro e w1 ⟨rfl, hb⟩
    have HB := Lib.hid (BA.out.trans (hb.mono BA.out.size)); clear hb
    go_wp2
    go_ret
    exact ⟨rfl, HB.out⟩
  · have t1 : ((n1 : Int) == 0) = false := by simp; omega
    have v5 : (n1 : Int) % 16 = 0 := by omega
    have v6 : (n1 : Int).tmod 16 = 0 := by rw [Int.tmod_eq_emod_of_nonneg (by omega)]; exact v5
    have t2 : decide ((n1 : Int) > 200) = false := by simp; omega
    have t3 : decide (200 < (n1 : Int)) = false := by simp; omega
    have t4 : decide (200 < n1) = false := by simp; omega
    have t5 : decide (nu < 0) = true := by simp; omega
    clear q2
    go_enter Tryd.func5, Tryd.ntmps5
    go_wp2_with fail
    refine HA.out.mono ?_
    rintro e w1 ⟨rfl, hb⟩
    have HB := Lib.hid (BA.out.trans (hb.mono BA.out.size)); clear hb
    go_wp2
    go_ret
    exact ⟨rfl, HB.out⟩
  · have t1 : ((n1 : Int) == 0) = false := by simp; omega
    have v5 : (n1 : Int) % 16 = 0 := by omega
    have v6 : (n1 : Int).tmod 16 = 0 := by rw [Int.tmod_eq_emod_of_nonneg (by omega)]; exact v5
    have t2 : decide ((n1 : Int) > 200) = false := by simp; omega
    have t3 : decide (200 < (n1 : Int)) = false := by simp; omega
    have t4 : decide (200 < n1) = false := by simp; omega
    have t5 : decide (nu < 0) = false := by simp; omega
    have t6 : decide (nu > 4611686018427387904) = true := by simp; omega
    have t7 : decide (4611686018427387904 < nu) = true := by simp; omega
    clear q2
    go_enter Tryd.func5, Tryd.ntmps5
    go_wp2_with fail
    refine HA.out.mono ?_
    rintro e w1 ⟨rfl, hb⟩
    have HB := Lib.hid (BA.out.trans (hb.mono BA.out.size)); clear hb
    go_wp2
    go_ret
    exact ⟨rfl, HB.out⟩
end

set_option maxHeartbeats 8000000 in
set_option maxRecDepth 10000 in
theorem apart_ok {b l : List Nat} {A1 : Option Addr} {n1 c1 : Nat} {w : World} (nu : Nat) (hl2 : l.length = 2) (hlb : ∀ i, l.getD i 0 < 256) (hn1 : n1 ≤ 200) (m : Nat) (hm : n1 = 16 * m) (hm0 : 0 < m) (hnu : nu ≤ 4611686018427387904) (hl1 : b.length = n1) (hc1 : n1 ≤ c1) (hA1 : A1 = none → c1 = 0)
    (hb1 : Bys w w.heap.size A1 b) (ht : Tab w 0) :
    Calls Tryd.prog 5 #[.int .i64 (nu : Int), .slice A1 n1 c1, .agg (na .u8 l)] w (Ret true w) := by
  have ba := below_alloc w (.cells (na .u8 l) 39)
  have BA := Lib.hid ba
  have h2 := Holds.new w 39 .u8 l
  have hs1 : (w.alloc (.cells (na .u8 l) 39)).heap.size = w.heap.size + 1 := World.size_alloc ..
  have HB1 := Lib.hid ((hb1.below ba).more ba.size)
  have HT := Lib.hid (ht.below ba ht.lt)
  have H2 := Lib.hid h2
  have hga : w.heap.size < (w.alloc (.cells (na .u8 l) 39)).heap.size := by omega
  clear hb1 ht ba h2 hs1
  obtain ⟨p, hp⟩ : ∃ p, p = l.getD 0 0 := ⟨_, rfl⟩
  obtain ⟨v, hv⟩ : ∃ v, v = l.getD 1 0 := ⟨_, rfl⟩
  have hp256 : p < 256 := by rw [hp]; exact hlb 0
  have hv256 : v < 256 := by rw [hv]; exact hlb 1
  have HP : Go.RowKit.Hid (∀ W, Below (w.alloc (.cells (na .u8 l) 39)).heap.size (w.alloc (.cells (na .u8 l) 39)) W → W.cell? ⟨w.heap.size, 0, none⟩ = some (.int .u8 (p : Int)) ∧ W.cell? ⟨w.heap.size, 1, none⟩ = some (.int .u8 (v : Int))) := Lib.hid (fun W hW => by
    have h := H2.out.below hW hga
    rw [hp, hv]
    exact ⟨h.cell 0 (by omega), h.cell 1 (by omega)⟩)
  obtain ⟨i, hi⟩ : ∃ i, i = p % n1 := ⟨_, rfl⟩
  have hil : i < n1 := by rw [hi]; exact Nat.mod_lt _ (by omega)
  have i1 : (p : Int) % (n1 : Int) = (i : Int) := by rw [hi]; simp
  have i2 : Int.tmod (p : Int) (n1 : Int) = (i : Int) := by rw [Int.tmod_eq_emod_of_nonneg (by omega)]; exact i1
  obtain ⟨q, hq⟩ : ∃ q, q = i / 16 := ⟨_, rfl⟩
  obtain ⟨fl, hfl⟩ : ∃ fl, fl = 16 * q := ⟨_, rfl⟩
  obtain ⟨f2, hf2⟩ : ∃ f2, f2 = fl + 16 := ⟨_, rfl⟩
  have hf2n : f2 ≤ n1 := by omega
  have j1 : (i : Int) / 16 = (q : Int) := by omega
  have j2 : Int.tdiv (i : Int) 16 = (q : Int) := by rw [Int.tdiv_eq_ediv_of_nonneg (by omega)]; exact j1
  have j3 : (q : Int) * 16 = (fl : Int) := by omega
  have j4 : (fl : Int) + 16 = (f2 : Int) := by omega
  have k1 : IntKind.i64.wrap (p : Int) = (p : Int) := by rw [IntKind.wrap_i64]; omega
  have k2 : IntKind.i64.wrap (i : Int) = (i : Int) := by rw [IntKind.wrap_i64]; omega
  have k3 : IntKind.i64.wrap (q : Int) = (q : Int) := by rw [IntKind.wrap_i64]; omega
  have k4 : IntKind.i64.wrap (fl : Int) = (fl : Int) := by rw [IntKind.wrap_i64]; omega
  have k5 : IntKind.i64.wrap (f2 : Int) = (f2 : Int) := by rw [IntKind.wrap_i64]; omega
  -- the numbers
  have ho : okSec (nu : Int) n1 = true := by simp only [okSec, okTw, isSec, Bool.and_eq_true, decide_eq_true_eq]; omega
  have ho16 : okSec (nu : Int) 16 = true := by simp [okSec, okTw, isSec]; omega
  obtain ⟨F, hF⟩ : ∃ F, F = enc (rr (ka keyL)) (kk (ka keyL)) := ⟨_, rfl⟩
  obtain ⟨t, htk⟩ : ∃ t, t = twk keyL nu 0 := ⟨_, rfl⟩
  have HFs : Step F := by rw [hF]; exact fun x hx => st_enc (kk_ok (len_ka ok_keyL)) hx
  have hFi : ∃ G : List Nat → List Nat, ∀ x, St x → G (F x) = x := ⟨dec (rr (ka keyL)) (kk (ka keyL)), by rw [hF]; exact fun x hx => dec_enc (kk_ok (len_ka ok_keyL)) hx⟩
  have hst : St t := by rw [htk]; exact st_twk ok_keyL nu 0
  have CE : Go.RowKit.Hid (∀ g g1 g2 w', Sec w' g g1 g2 keyL → ∀ (A : Option Addr) (n c : Nat) (x : List Nat), okSec (nu : Int) n = true → x.length = n → n ≤ c → Bys w' w'.heap.size A x →
      Calls Tryd.prog 9 #[.pointer (some ⟨g, 0, none⟩), .int .i64 (nu : Int), .slice A n c] w' (GivesX (secL F t x) 0 w')) := Lib.hid (fun g g1 g2 w' h A n c x hok hx hc hb => by
    have := xEncrypt_any h ok_keyL (nu : Int) hc hx hb
    rw [xL, xErr, hx, if_pos hok, if_pos hok, Int.toNat_natCast, ← hF, ← htk] at this
    exact this)
  clear hF htk
  have hbl := hl1.trans hm
  obtain ⟨c, hcd⟩ : ∃ c, c = flp b i v := ⟨_, rfl⟩
  have hi' : i < b.length := by omega
  have hlc : c.length = n1 := by rw [hcd, len_flip, hl1]
  have hcb : ∀ x, x ∈ c → x < 256 := by rw [hcd]; exact flip_lt HB1.out.1 i v hv256
  have hbc : b = c ↔ v = 0 := by rw [hcd]; exact flip_eq i v hi'
  have hXY : secL F t b = secL F t c ↔ v = 0 := by
    obtain ⟨G, hG⟩ := hFi
    rw [sec_inj HFs hG hst hbl (hlc.trans hm) HB1.out.1 hcb, hbc]
  have lX : (secL F t b).length = n1 := by rw [len_sec hbl, hl1]
  have lY : (secL F t c).length = n1 := by rw [len_sec (hlc.trans hm), hlc]
  have e1 : (secL F t b).take fl = (secL F t c).take fl := by rw [sec_out hbl, sec_out (hlc.trans hm), hfl, hq, hcd]; exact head_flip hbl hi'
  have e2 : (secL F t b).drop f2 = (secL F t c).drop f2 := by rw [sec_out hbl, sec_out (hlc.trans hm), hf2, hfl, hq, hcd]; exact tail_flip hbl hi'
  have e3 : secL F t (b.take 16) = (secL F t b).take 16 := by rw [first_out hbl hm0, sec_out hbl]
  have hset : c = b.set i (b.getD i 0 ^^^ v) := by rw [hcd, flp]
  have hbi := byte_of HB1.out.1 i
  have hx1 : bits .xor .u8 ((b.getD i 0 : Nat) : Int) (v : Int) = ((b.getD i 0 ^^^ v : Nat) : Int) := u8_xor_nat _ _ hbi hv256
  have l16 : (b.take 16).length = 16 := by rw [List.length_take]; omega
  have hd1 : decide (secL F t b = secL F t c) = decide (v = 0) := by simp [hXY]
  obtain ⟨qv, hqv⟩ : ∃ qv : Bool, qv = decide (v = 0) := ⟨_, rfl⟩
  have tq : ((v : Int) == 0) = qv := by rw [hqv, Bool.eq_iff_iff]; simp
  have tqq : (qv != qv) = false := by simp
  rw [← hqv] at hd1
  obtain ⟨X, hX⟩ : ∃ X, X = secL F t b := ⟨_, rfl⟩
  obtain ⟨Y, hY⟩ : ∃ Y, Y = secL F t c := ⟨_, rfl⟩
  have CE1 := Lib.hid (fun g g1 g2 w' (h : Sec w' g g1 g2 keyL) (hb : Bys w' w'.heap.size A1 b) => CE.out g g1 g2 w' h A1 n1 c1 b ho hl1 hc1 hb)
  have CE2 := Lib.hid (fun g g1 g2 w' (h : Sec w' g g1 g2 keyL) A cc (hcc : n1 ≤ cc) (hb : Bys w' w'.heap.size A c) => CE.out g g1 g2 w' h A n1 cc c ho hlc hcc hb)
  have CE3 := Lib.hid (fun g g1 g2 w' (h : Sec w' g g1 g2 keyL) (hb : Bys w' w'.heap.size A1 b) => CE.out g g1 g2 w' h A1 16 c1 (b.take 16) ho16 l16 (by omega) (bys_take hb 16))
  rw [e3] at CE3
  rw [← hX] at CE1 CE3 hd1 e1 e2 lX
  rw [← hY] at CE2 hd1 e1 e2 lY
  have HD := Lib.hid hd1
  have E1 := Lib.hid e1
  have E2 := Lib.hid e2
  have LX := Lib.hid lX
  have LY := Lib.hid lY
  have LB := Lib.hid hl1
  have HCB := Lib.hid hcb
  have HA1 := Lib.hid hA1
  have hc16 : 16 ≤ c1 := by omega
  have hc16' : (16 : Int) ≤ (c1 : Int) := by omega
  have t1 : ((n1 : Int) == 0) = false := by simp; omega
  have t1' : ((n1 : Int) = 0) = False := by simp; omega
  have v5 : (n1 : Int) % 16 = 0 := by omega
  have v6 : (n1 : Int).tmod 16 = 0 := by rw [Int.tmod_eq_emod_of_nonneg (by omega)]; exact v5
  have t2 : decide ((n1 : Int) > 200) = false := by simp; omega
  have t3 : decide (200 < (n1 : Int)) = false := by simp; omega
  have t4 : decide (200 < n1) = false := by simp; omega
  have t5 : decide ((nu : Int) < 0) = false := by simp
  have t6 : decide ((nu : Int) > 4611686018427387904) = false := by simp; omega
  have t7 : decide (4611686018427387904 < (nu : Int)) = false := by simp; omega
  have hi1 : (i : Int) < (n1 : Int) := by omega
  have hn0 : 0 < n1 := by omega
  have hn16 : 16 ≤ n1 := by omega
  have HSET := Lib.hid hset
  obtain ⟨bi, hbi'⟩ : ∃ bi, bi = b.getD i 0 := ⟨_, rfl⟩
  have HBI := Lib.hid hbi'
  rw [← hbi'] at hx1 hbi HSET
  obtain ⟨cv, hcv⟩ : ∃ cv, cv = bi ^^^ v := ⟨_, rfl⟩
  rw [← hcv] at hx1 HSET
  have hcv0 : (0 : Int) ≤ (cv : Int) := by omega
  have hfln : fl ≤ n1 := by omega
  clear hp hv hi hq hfl hf2 hX hY hXY hbc hcd hset hbi' hcv e1 e2 e3 hd1 hqv lX lY hcb hlc hl1 hA1 hbl hst hFi HFs CE ho ho16 hm hm0 hlb H2 hnu hi' hp256 l16
  have HAW := Lib.hid (awake_any (w.alloc (.cells (na .u8 l) 39)) HT.out)
  have htw := HT.out.lt
  go_enter Tryd.func5, Tryd.ntmps5
  go_wp2_with fail
  refine HAW.out.mono ?_
  generalize w.alloc (.cells (na .u8 l) 39) = w1 at *
  rintro e w2 ⟨rfl, hb2⟩
  have B2 := Lib.hid hb2
  have CK := Lib.hid (key_any w2)
  clear hb2 HAW
  go_wp2_with fail
  refine CK.out.mono ?_
  rintro e w3 ⟨gk, rfl, hbk, hb3⟩
  have B3 := Lib.hid (B2.out.trans (hb3.mono B2.out.size))
  have CN := Lib.hid (xnew_ok (c := 32) keyL_len (.inl rfl) (Nat.le_refl _) hbk (HT.out.below B3.out htw))
  clear hb3 hbk B2 CK
  go_wp2_with fail
  refine CN.out.mono ?_
  rintro e w4 ⟨g, g1, g2, rfl, hS, hb4⟩
  have B4 := Lib.hid (B3.out.trans (hb4.mono B3.out.size))
  have C4 := Lib.hid (CE1.out g g1 g2 w4 hS ((HB1.out.below B4.out).more B4.out.size))
  have S4 := Lib.hid hS
  clear hb4 hS B3 CN CE1
  go_wp2_with fail
  refine C4.out.mono ?_
  rintro e w5 ⟨AX, cx, rfl, hcx, -, hyx, hb5⟩
  rw [LX.out] at hcx ⊢
  have B5 := Lib.hid (B4.out.trans (hb5.mono B4.out.size))
  have S5 := Lib.hid (S4.out.below hb5)
  have HX5 := Lib.hid hyx
  have hp5 := (HP.out w5 B5.out).1
  have HBa := Lib.hid ((HB1.out.below B5.out).more B5.out.size)
  clear hb5 hyx B4 S4 C4
  go_wp2_with (at_builtin; refine append_bys rfl (.tmp 73) (.tmp 74) 22 rfl w5.heap.size 5 Tryd.underlying22 info_u8 (.slice (some ⟨w5.heap.size, 0, none⟩) 0 0) 0 [] rfl (none_owns w5) A1 n1 c1 b rfl HA1.out LB.out w5.heap.size (HBa.out.below (below_alloc w5 _)) (by omega) (by simp) (by simp) ?_; intro v6' w6 hown hvv hb6)
  rw [List.nil_append, Nat.zero_add] at hown
  obtain ⟨gC, cC, rfl, hgC, hcC, -, hHC⟩ := holds_of_owns hown hn0
  have B56 := Lib.hid ((below_alloc w5 (.cells #[] 5)).trans hb6)
  have HC6 := Lib.hid hHC
  clear hown hvv hb6 hHC hp5 HBa
  go_wp2_with fail
  refine region_tail 7 (by kernel_rfl) (by kernel_rfl) ?_
  intro wd hwd
  have G1 : Holds wd gC .u8 b := by rw [hwd]; exact HC6.out.drew
  have G2 : Below w5.heap.size w5 wd := by rw [hwd]; exact below_drew B56.out
  have q1 := G1.cell i (by have := LB.out; omega)
  have q2 := G1.frozen i (by have := LB.out; omega)
  rw [← HBI.out] at q1
  have q3 := (HP.out wd (B5.out.trans (G2.mono B5.out.size))).2
  have X1 := G1.set i cv (by have := LB.out; omega)
  rw [← HSET.out] at X1
  have X2 := G2.setCell (p := ⟨gC, i, none⟩) hgC (.int .u8 (cv : Int))
  have X1 := Lib.hid X1
  have X2 := Lib.hid X2
  clear hwd G1 G2 HC6 B56 HSET HBI
  simp only [List.take_succ_cons, List.take_zero, List.drop_succ_cons, List.drop_zero]
  repeat still_step
  refine wpStill_nil ?_
  have hcCn := hcC
  have C7 := Lib.hid (CE2.out g g1 g2 _ (S5.out.below X2.out) (some ⟨gC, 0, none⟩) cC hcC (bysOf X1.out HCB.out))
  clear q3
  go_wp2_with fail
  refine C7.out.mono ?_
  rintro e w8 ⟨AY, cy, rfl, hcy, -, hyy, hb8⟩
  rw [LY.out] at hcy ⊢
  have B58 := X2.out.trans (hb8.mono X2.out.size)
  have B8 := Lib.hid (B5.out.trans (B58.mono B5.out.size))
  have S8 := Lib.hid (S5.out.below B58)
  have HX8 := Lib.hid ((HX5.out.below B58).more B58.size)
  have HY8 := Lib.hid hyy
  have C8 := Lib.hid (CE3.out g g1 g2 w8 S8.out ((HB1.out.below B8.out).more B8.out.size))
  clear B58 hb8 hyy C7 X1 X2 S5 HX5 B5 CE2 CE3 q1 q2
  go_wp2_with fail
  refine C8.out.mono ?_
  rintro e w9 ⟨AZ, cz, rfl, hcz, -, hyz, hb9⟩
  have lZ : (X.take 16).length = 16 := by rw [List.length_take, LX.out]; omega
  rw [lZ] at hcz ⊢
  have B9 := Lib.hid (B8.out.trans (hb9.mono B8.out.size))
  have HX9 := Lib.hid ((HX8.out.below hb9).more hb9.size)
  have HY9 := Lib.hid ((HY8.out.below hb9).more hb9.size)
  have HZ9 := Lib.hid hyz
  clear hb9 hyz B8 S8 HX8 HY8 C8
  go_upto_region 14 with fail
  have p2 := (HP.out w9 B9.out).2
  have hcx16 : 16 ≤ cx := by omega
  have hcx16' : (16 : Int) ≤ (cx : Int) := by omega
  have SQ1 := Lib.hid (fun q => same_quiet AZ AX (X.take 16) (X.take 16) 16 cz cx w9 lZ lZ (by omega) HZ9.out (bys_take HX9.out 16) true (decide_eq_true rfl) q)
  have SQ2 := Lib.hid (fun q => same_quiet AX AY X Y n1 cx cy w9 LX.out LY.out (by omega) HX9.out HY9.out qv HD.out q)
  go_quiet (first | (go_at_call 11; first | (with_reducible exact Calls.quiet_of (SQ1.out _)) | (with_reducible exact Calls.quiet_of (SQ2.out _))))
  have HX10 : Go.RowKit.Hid (Bys (w9.drewN nq) (w9.drewN nq).heap.size AX X) := Lib.hid (HX9.out.drewN nq)
  have HY10 : Go.RowKit.Hid (Bys (w9.drewN nq) (w9.drewN nq).heap.size AY Y) := Lib.hid (HY9.out.drewN nq)
  have B10 := Lib.hid (below_drewN B9.out nq)
  clear HX9 HY9 HZ9 B9 SQ1 SQ2 p2
  generalize w9.drewN nq = w10 at *
  go_upto_region 17 with fail
  have r1 := fun W => run_cut_h AX n1 cx fl (by omega) W
  have r2 := fun W => run_cut_h AY n1 cy fl (by omega) W
  rw [cutA_zero] at r1 r2
  have r3 := fun W => run_cut_l AX n1 cx f2 hf2n W
  have r4 := fun W => run_cut_l AY n1 cy f2 hf2n W
  have SP1 := Lib.hid (fun q => same_quiet AX AY (X.take fl) (Y.take fl) fl cx cy w10 (by rw [List.length_take, LX.out]; omega) (by rw [List.length_take, LY.out]; omega) (by omega) (bys_take HX10.out fl) (bys_take HY10.out fl) true (decide_eq_true E1.out) q)
  have SP2 := Lib.hid (fun q => same_quiet (cutA AX cx f2) (cutA AY cy f2) (X.drop f2) (Y.drop f2) (n1 - f2) (cx - f2) (cy - f2) w10 (by rw [List.length_drop, LX.out]) (by rw [List.length_drop, LY.out]) (by omega) (bys_take_all HX10.out cx hcx LX.out f2 hf2n) (bys_take_all HY10.out cy hcy LY.out f2 hf2n) true (decide_eq_true E2.out) q)
  go_quiet (first | (go_at_call 11; first | (with_reducible exact Calls.quiet_of (SP1.out _)) | (with_reducible exact Calls.quiet_of (SP2.out _))))
  have HF := Lib.hid (BA.out.trans ((below_drewN B10.out nq).mono BA.out.size))
  go_wp2
  go_ret
  exact ⟨rfl, HF.out⟩

/-- XTSAPART: it answers true. -/
theorem apart_walk (nu : Int) (b : List Nat) (A1 : Option Addr) (c1 : Nat) (l : List Nat) (w : World) (ht : Tab w 0) (hb1 : Bys w w.heap.size A1 b) (hc1 : b.length ≤ c1) (hA1 : A1 = none → c1 = 0) (hl2 : l.length = 2) (hlb : ∀ i, l.getD i 0 < 256) :
    Calls Tryd.prog 5 #[.int .i64 nu, .slice A1 b.length c1, .agg (na .u8 l)] w (Ret true w) := by
  by_cases h : 0 < b.length ∧ b.length % 16 = 0 ∧ b.length ≤ 200 ∧ 0 ≤ nu ∧ nu ≤ 4611686018427387904
  · obtain ⟨h1, h2, h3, h4, h5⟩ := h
    obtain ⟨a, rfl⟩ : ∃ a : Nat, nu = (a : Int) := ⟨nu.toNat, by omega⟩
    exact apart_ok a hl2 hlb h3 (b.length / 16) (by omega) (by omega) (by omega) rfl hc1 hA1 hb1 ht
  · exact apart_no nu h ht
end Go.Proofs.YtdjknmnmacppdaaDoor
