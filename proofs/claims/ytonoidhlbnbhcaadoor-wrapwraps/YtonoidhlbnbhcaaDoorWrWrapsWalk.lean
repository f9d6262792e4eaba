/-
  The walk of the law WrapWraps: for every key, every key to wrap in it and every number it answers true. Condition: the table of widths stands in its variable.
-/
import Derived.Test.YtonoidhlbnbhcaaDoorWrAwake
import Derived.Test.YtonoidhlbnbhcaaDoorWrRefMain
import Derived.Test.YtonoidhlbnbhcaaDoorSmAll
namespace Go.Proofs.YtonoidhlbnbhcaaDoor
open Go.RowKit Arr Gf Sb Ae Wr

/-- WRAP, the reference's. -/
theorem rwrap_any (ks key : List Nat) (A0 A1 : Option Addr) (n0 c0 n1 c1 : Nat) (h0 : ks.length = n0) (h1 : key.length = n1) (hc1 : n1 ≤ c1)
    (w : World) (hb0 : Bys w w.heap.size A0 ks) (hb1 : Bys w w.heap.size A1 key) :
    Calls Tryd.prog 8 #[.slice A0 n0 c0, .slice A1 n1 c1] w (GivesE (wL ks key) (wErr ks key.length) w) := by
  by_cases hk : ks.length = 16 ∨ ks.length = 32
  · rw [wL, wErr_ok hk, h1]
    by_cases hm : may (n1 : Int) = true
    · rw [hm]
      exact rwrap_some ks key A0 A1 n0 c0 n1 c1 h0 h1 hc1 hk hm w hb0 hb1
    · have hm' : may (n1 : Int) = false := by simpa using hm
      rw [hm']
      exact rwrap_key h0 hk hm'
  · rw [wL, wErr_bad hk]
    exact rwrap_kek h0 hk
theorem wL_len {ks key : List Nat} (hb : ∀ x, x ∈ key → x < 256) (hl : key.length ≤ 100) : (wL ks key).length ≤ 108 := by
  rw [wL]
  by_cases h : wErr ks key.length = 0
  · rw [if_pos h]
    have hk : ks.length = 16 ∨ ks.length = 32 := by
      by_cases hk : ks.length = 16 ∨ ks.length = 32
      · exact hk
      · rw [wErr_bad hk] at h; omega
    have hm : may (key.length : Int) = true := by
      rw [wErr_ok hk] at h
      by_cases hm : may (key.length : Int) = true
      · exact hm
      · rw [if_neg hm] at h; omega
    obtain ⟨m1, m2, m3⟩ := may_of hm
    have := (tx_wrapL (kk_ok hk) (key.length / 8) (by omega) (by omega) hb).1
    omega
  · rw [if_neg h]; simp

section
variable {ks key : List Nat} {A0 A1 : Option Addr} {n0 c0 n1 c1 : Nat} {n : Int} {w : World}
theorem wraps_long (hl : 100 < n0 ∨ 100 < n1) (ht : Tab w 0) :
    Calls Tryd.prog 3 #[.slice A0 n0 c0, .slice A1 n1 c1, .int .i64 n] w (Ret true w) := by
  have HA := Lib.hid (awake_any w ht)
  clear ht
  by_cases h0 : 100 < n0
  · have t0 : decide ((100 : Int) < (n0 : Int)) = true := by simp; omega
    have s0 : decide (100 < n0) = true := by simp; omega
    clear hl
    go_enter Tryd.func3, Tryd.ntmps3
    go_wp2_with fail
    refine HA.out.mono ?_
    rintro e w1 ⟨rfl, hbel⟩
    have HB := Lib.hid hbel; clear hbel
    go_wp2
    go_ret
    exact ⟨rfl, HB.out⟩
  · have t0 : decide ((100 : Int) < (n0 : Int)) = false := by simp; omega
    have s0 : decide (100 < n0) = false := by simp; omega
    have t1 : decide ((100 : Int) < (n1 : Int)) = true := by simp; omega
    have s1 : decide (100 < n1) = true := by simp; omega
    clear hl
    go_enter Tryd.func3, Tryd.ntmps3
    go_wp2_with fail
    refine HA.out.mono ?_
    rintro e w1 ⟨rfl, hbel⟩
    have HB := Lib.hid hbel; clear hbel
    go_wp2
    go_ret
    exact ⟨rfl, HB.out⟩

/-- What stands of the two that came in. -/
structure In2 (w : World) (ks key : List Nat) (A0 A1 : Option Addr) (w' : World) : Prop where
  b0 : Bys w' w'.heap.size A0 ks
  b1 : Bys w' w'.heap.size A1 key
  tab : Tab w' 0
  bel : Below w.heap.size w w'
theorem In2.next {w' w'' : World} (h : In2 w ks key A0 A1 w') (hb : Below w'.heap.size w' w'') : In2 w ks key A0 A1 w'' :=
  ⟨(h.b0.below hb).more hb.size, (h.b1.below hb).more hb.size, h.tab.below hb h.tab.lt, h.bel.trans (hb.mono h.bel.size)⟩
theorem bys_next {w' w'' : World} {A : Option Addr} {l : List Nat} (h : Bys w' w'.heap.size A l) (hb : Below w'.heap.size w' w'') : Bys w'' w''.heap.size A l := (h.below hb).more hb.size

set_option maxHeartbeats 4000000 in
theorem wraps_main (h0 : ks.length = n0) (h1 : key.length = n1) (hs0 : n0 ≤ 100) (hs1 : n1 ≤ 100) (hc0 : n0 ≤ c0) (hc1 : n1 ≤ c1) (hA1 : A1 = none → c1 = 0) (hi : In2 w ks key A0 A1 w) :
    Calls Tryd.prog 3 #[.slice A0 n0 c0, .slice A1 n1 c1, .int .i64 n] w (Ret true w) := by
  have HA := Lib.hid (awake_any w hi.tab)
  have t0 : decide ((100 : Int) < (n0 : Int)) = false := by simp; omega
  have s0 : decide (100 < n0) = false := by simp; omega
  have t1 : decide ((100 : Int) < (n1 : Int)) = false := by simp; omega
  have s1 : decide (100 < n1) = false := by simp; omega
  have HI := Lib.hid hi
  have CW := Lib.hid (fun (w' : World) (h : In2 w ks key A0 A1 w') => wrap_any ks key A0 A1 n0 c0 n1 c1 h0 h1 hc0 hA1 w' h.b0 h.b1 h.tab)
  have CR := Lib.hid (fun (w' : World) (h : In2 w ks key A0 A1 w') => rwrap_any ks key A0 A1 n0 c0 n1 c1 h0 h1 hc1 w' h.b0 h.b1)
  have hwl := wL_len (ks := ks) hi.b1.1 (by omega : key.length ≤ 100)
  have CS := Lib.hid (fun (w' : World) A A' N c c' (hN : N = (wL ks key).length) (h : Bys w' w'.heap.size A (wL ks key)) (h' : Bys w' w'.heap.size A' (wL ks key)) => by
    have := same_any A A' (wL ks key) (wL ks key) N N c c' w' hN.symm hN.symm (by omega) _ _ h h'
    rw [show decide (wL ks key = wL ks key) = true by simp] at this
    exact this)
  clear h0 h1 hi hwl
  generalize wL ks key = l at *
  generalize wErr ks key.length = x at *
  have txx : ((x : Int) == (x : Int)) = true := by simp
  obtain ⟨N, hN⟩ : ∃ N, N = l.length := ⟨_, rfl⟩
  have HN := Lib.hid hN
  clear hN
  have part : ∀ b : Bool, may n = b → (b = true ∧ 16 ≤ n ∧ n ≤ 64 ∧ n % 8 = 0) ∨ (b = false ∧ n < 16) ∨ (b = false ∧ 16 ≤ n ∧ 64 < n) ∨ (b = false ∧ 16 ≤ n ∧ n ≤ 64 ∧ n % 8 ≠ 0) := by
    intro b hb
    subst hb
    by_cases hm : may n = true
    · obtain ⟨a, b, c⟩ := may_of hm
      exact .inl ⟨hm, a, b, c⟩
    · have hm' : may n = false := by simpa using hm
      by_cases g1 : n < 16
      · exact .inr (.inl ⟨hm', g1⟩)
      · by_cases g2 : 64 < n
        · exact .inr (.inr (.inl ⟨hm', by omega, g2⟩))
        · refine .inr (.inr (.inr ⟨hm', by omega, by omega, fun h8 => ?_⟩))
          have : may n = true := by simp [may, h8]; omega
          rw [hm'] at this; cases this
  have CZ := Lib.hid (fun w' => size_any n w')
  go_enter Tryd.func3, Tryd.ntmps3
  go_wp2_with fail
  refine HA.out.mono ?_
  rintro e w1 ⟨rfl, hbel⟩
  have I1 := Lib.hid (HI.out.next hbel)
  clear hbel HI HA
  go_wp2_with fail
  refine (CW.out w1 I1.out).mono ?_
  rintro e w2 ⟨A2, c2, rfl, -, -, hy, hbel⟩
  have I2 := Lib.hid (I1.out.next hbel)
  have HY2 := Lib.hid hy
  rw [← HN.out]
  clear hbel hy I1 CW
  go_wp2_with fail
  refine (CR.out w2 I2.out).mono ?_
  rintro e w3 ⟨A3, c3, rfl, -, -, hy, hbel⟩
  have I3 := Lib.hid (I2.out.next hbel)
  have HS := Lib.hid (CS.out w3 A2 A3 N c2 c3 HN.out (bys_next HY2.out hbel) hy)
  rw [← HN.out]
  clear hbel hy I2 CR HY2 CS
  go_wp2_with fail
  refine (CZ.out w3).mono ?_
  rintro e w4 ⟨rfl, rfl⟩
  clear CZ
  rcases part _ rfl with ⟨hm, p1, p2, p3⟩ | ⟨hm, p1⟩ | ⟨hm, p1, p2⟩ | ⟨hm, p1, p2, p3⟩
  · rw [hm, if_pos rfl]
    clear part hm
    have e1 : n.tmod 8 = n % 8 := Int.tmod_eq_emod_of_nonneg (by omega)
    have u1 : decide (16 ≤ n) = true := by simp; omega
    have u2 : decide (n ≤ 64) = true := by simp; omega
    have u3 : ((n % 8) == 0) = true := by simp [p3]
    have w8 : IntKind.i64.wrap (n + 8) = n + 8 := by rw [IntKind.wrap_i64]; omega
    have u4 : ((n + 8) == (n + 8)) = true := by simp
    go_wp2_with fail
    refine HS.out.mono ?_
    rintro e w5 ⟨m, rfl, rfl⟩
    have I5 := Lib.hid (I3.out.next (below_drewN_self w3 m))
    clear I3 HS
    go_wp2
    go_ret
    exact ⟨rfl, I5.out.bel⟩
  · rw [hm, if_neg (by simp)]
    clear part hm
    have u1 : decide (16 ≤ n) = false := by simp; omega
    go_wp2_with fail
    refine HS.out.mono ?_
    rintro e w5 ⟨m, rfl, rfl⟩
    have I5 := Lib.hid (I3.out.next (below_drewN_self w3 m))
    clear I3 HS
    go_wp2
    go_ret
    exact ⟨rfl, I5.out.bel⟩
  · rw [hm, if_neg (by simp)]
    clear part hm
    have u1 : decide (16 ≤ n) = true := by simp; omega
    have u2 : decide (n ≤ 64) = false := by simp; omega
    go_wp2_with fail
    refine HS.out.mono ?_
    rintro e w5 ⟨m, rfl, rfl⟩
    have I5 := Lib.hid (I3.out.next (below_drewN_self w3 m))
    clear I3 HS
    go_wp2
    go_ret
    exact ⟨rfl, I5.out.bel⟩
  · rw [hm, if_neg (by simp)]
    clear part hm
    have e1 : n.tmod 8 = n % 8 := Int.tmod_eq_emod_of_nonneg (by omega)
    have u1 : decide (16 ≤ n) = true := by simp; omega
    have u2 : decide (n ≤ 64) = true := by simp; omega
    have u3 : ((n % 8) == 0) = false := by simp [p3]
    go_wp2_with fail
    refine HS.out.mono ?_
    rintro e w5 ⟨m, rfl, rfl⟩
    have I5 := Lib.hid (I3.out.next (below_drewN_self w3 m))
    clear I3 HS
    go_wp2
    go_ret
    exact ⟨rfl, I5.out.bel⟩
end
theorem wrapWraps_walk (ks : List Nat) (A0 : Option Addr) (c0 : Nat) (key : List Nat) (A1 : Option Addr) (c1 : Nat) (n : Int) (w : World) (ht : Tab w 0)
    (hb0 : Bys w w.heap.size A0 ks) (hc0 : ks.length ≤ c0) (_hn0 : A0 = none → c0 = 0) (hb1 : Bys w w.heap.size A1 key) (hc1 : key.length ≤ c1) (hn1 : A1 = none → c1 = 0) :
    Calls Tryd.prog 3 #[.slice A0 ks.length c0, .slice A1 key.length c1, .int .i64 n] w (Ret true w) := by
  by_cases hl : 100 < ks.length ∨ 100 < key.length
  · exact wraps_long hl ht
  · exact wraps_main rfl rfl (by omega) (by omega) hc0 hc1 hn1 ⟨hb0, hb1, ht, Below.refl _ _⟩
end Go.Proofs.YtonoidhlbnbhcaaDoor
