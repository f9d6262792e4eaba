/-
  The walk of the law WrapBack: for every key and every key to wrap in it answers true. Condition: the table of widths stands in its variable.
-/
import Derived.Test.YtonoidhlbnbhcaaDoorWrAwake
import Derived.Test.YtonoidhlbnbhcaaDoorSmAll
namespace Go.Proofs.YtonoidhlbnbhcaaDoor
open Go.RowKit Arr Gf Sb Ae Wr

theorem may_len {ks key : List Nat} (hk : ks.length = 16 ∨ ks.length = 32) (hm : may (key.length : Int) = true) (hb : ∀ x, x ∈ key → x < 256) : (wrapL (rr ks) (kk ks) key).length = key.length + 8 := by
  obtain ⟨m1, m2, m3⟩ := may_of hm
  obtain ⟨n, hn⟩ : ∃ n, key.length = 8 * n := ⟨key.length / 8, by omega⟩
  rw [(tx_wrapL (kk_ok hk) n (by omega) hn hb).1]; omega
/-- What is wrapped is unwrapped. -/
theorem u_of_wrap {ks key : List Nat} (hk : ks.length = 16 ∨ ks.length = 32) (hm : may (key.length : Int) = true) (hb : ∀ x, x ∈ key → x < 256) :
    uErr ks (wrapL (rr ks) (kk ks) key) = 0 ∧ uL ks (wrapL (rr ks) (kk ks) key) = key := by
  obtain ⟨m1, m2, m3⟩ := may_of hm
  obtain ⟨n, hn⟩ : ∃ n, key.length = 8 * n := ⟨key.length / 8, by omega⟩
  have hl := may_len hk hm hb
  have ho := out_wrap (kk_ok hk) n (by omega) hn hb
  have e : uErr ks (wrapL (rr ks) (kk ks) key) = 0 := by
    rw [uErr_ok hk, hl, show ((key.length + 8 : Nat) : Int) - 8 = (key.length : Int) by omega, hm, ho]
    rfl
  refine ⟨e, ?_⟩
  rw [uL, if_pos e, ho]
  rfl
/-- Of another key's wrapping: it is unwrapped, or it is told. -/
theorem u_other {ks ts b : List Nat} (hk : ks.length = 16 ∨ ks.length = 32) (ht : ts.length = 16 ∨ ts.length = 32) (hm : may ((b.length : Int) - 8) = true) (hb : ∀ x, x ∈ b → x < 256) :
    (uErr ts b = 0 ∧ aErr ts ks b = 0) ∨ (uErr ts b = 21 ∧ aErr ts ks b = 21 ∧ uL ts b = []) := by
  obtain ⟨m1, m2, m3⟩ := may_of hm
  obtain ⟨n, hn⟩ : ∃ n, b.length = 8 * (n + 1) := ⟨b.length / 8 - 1, by omega⟩
  have hl := (tx_outL (kk_ok ht) n (by omega) hn hb).1
  by_cases hq : (outL (rr ts) (kk ts) b).take 8 = mk
  · left
    have e : uErr ts b = 0 := by rw [uErr_ok ht, if_pos hm, if_pos hq]
    refine ⟨e, ?_⟩
    have hl2 : (uL ts b).length = 8 * n := by rw [uL, if_pos e, List.length_drop]; omega
    have hmm : may (((8 * n : Nat)) : Int) = true := by
      rw [show (((8 * n : Nat)) : Int) = (b.length : Int) - 8 by omega]; exact hm
    rw [aErr, if_pos e, hl2, wErr_ok hk, if_pos hmm]
  · right
    have e : uErr ts b = 21 := by rw [uErr_ok ht, if_pos hm, if_neg hq]
    exact ⟨e, by rw [aErr, if_neg (by omega), e], by rw [uL, if_neg (by omega)]⟩

section
variable {ks ts key : List Nat} {A0 A1 A2 : Option Addr} {n0 c0 n1 c1 n2 c2 : Nat} {w : World}
theorem back_long (hl : 100 < n0 ∨ 100 < n1 ∨ 100 < n2) (ht : Tab w 0) :
    Calls Tryd.prog 5 #[.slice A0 n0 c0, .slice A1 n1 c1, .slice A2 n2 c2] w (Ret true w) := by
  have HA := Lib.hid (awake_any w ht)
  clear ht
  by_cases h0 : 100 < n0
  · have t0 : decide ((100 : Int) < (n0 : Int)) = true := by simp; omega
    have s0 : decide (100 < n0) = true := by simp; omega
    clear hl
    go_enter Tryd.func5, Tryd.ntmps5
    go_wp2_with fail
    refine HA.out.mono ?_
    rintro e w1 ⟨rfl, hbel⟩
    have HB := Lib.hid hbel; clear hbel
    go_wp2
    go_ret
    exact ⟨rfl, HB.out⟩
  · have t0 : decide ((100 : Int) < (n0 : Int)) = false := by simp; omega
    have s0 : decide (100 < n0) = false := by simp; omega
    by_cases h1 : 100 < n1
    · have t1 : decide ((100 : Int) < (n1 : Int)) = true := by simp; omega
      have s1 : decide (100 < n1) = true := by simp; omega
      clear hl
      go_enter Tryd.func5, Tryd.ntmps5
      go_wp2_with fail
      refine HA.out.mono ?_
      rintro e w1 ⟨rfl, hbel⟩
      have HB := Lib.hid hbel; clear hbel
      go_wp2
      go_ret
      exact ⟨rfl, HB.out⟩
    · have t1 : decide ((100 : Int) < (n1 : Int)) = false := by simp; omega
      have s1 : decide (100 < n1) = false := by simp; omega
      have t2 : decide ((100 : Int) < (n2 : Int)) = true := by simp; omega
      have s2 : decide (100 < n2) = true := by simp; omega
      clear hl
      go_enter Tryd.func5, Tryd.ntmps5
      go_wp2_with fail
      refine HA.out.mono ?_
      rintro e w1 ⟨rfl, hbel⟩
      have HB := Lib.hid hbel; clear hbel
      go_wp2
      go_ret
      exact ⟨rfl, HB.out⟩

/-- What stands of the three that came in. -/
structure In3 (w : World) (ks ts key : List Nat) (A0 A1 A2 : Option Addr) (w' : World) : Prop where
  b0 : Bys w' w'.heap.size A0 ks
  b1 : Bys w' w'.heap.size A1 ts
  b2 : Bys w' w'.heap.size A2 key
  tab : Tab w' 0
  bel : Below w.heap.size w w'
theorem In3.next {w' w'' : World} (h : In3 w ks ts key A0 A1 A2 w') (hb : Below w'.heap.size w' w'') : In3 w ks ts key A0 A1 A2 w'' :=
  ⟨(h.b0.below hb).more hb.size, (h.b1.below hb).more hb.size, (h.b2.below hb).more hb.size, h.tab.below hb h.tab.lt, h.bel.trans (hb.mono h.bel.size)⟩
theorem Bys.next {w' w'' : World} {A : Option Addr} {l : List Nat} (h : Bys w' w'.heap.size A l) (hb : Below w'.heap.size w' w'') : Bys w'' w''.heap.size A l := (h.below hb).more hb.size

set_option maxHeartbeats 2000000 in
theorem back_err (h0 : ks.length = n0) (h2 : key.length = n2) (hs0 : n0 ≤ 100) (hs1 : n1 ≤ 100) (hs2 : n2 ≤ 100) (hc0 : n0 ≤ c0) (hA2 : A2 = none → c2 = 0) (hi : In3 w ks ts key A0 A1 A2 w) (he : wErr ks n2 ≠ 0) :
    Calls Tryd.prog 5 #[.slice A0 n0 c0, .slice A1 n1 c1, .slice A2 n2 c2] w (Ret true w) := by
  have HA := Lib.hid (awake_any w hi.tab)
  have t0 : decide ((100 : Int) < (n0 : Int)) = false := by simp; omega
  have s0 : decide (100 < n0) = false := by simp; omega
  have t1 : decide ((100 : Int) < (n1 : Int)) = false := by simp; omega
  have s1 : decide (100 < n1) = false := by simp; omega
  have t2 : decide ((100 : Int) < (n2 : Int)) = false := by simp; omega
  have s2 : decide (100 < n2) = false := by simp; omega
  have HI := Lib.hid hi
  have CW := Lib.hid (fun (w' : World) (h : In3 w ks ts key A0 A1 A2 w') => by
    have := wrap_any ks key A0 A2 n0 c0 n2 c2 h0 h2 hc0 hA2 w' h.b0 h.b2 h.tab
    rw [wL, h2, if_neg he] at this
    exact this)
  have t3 : ((wErr ks n2 : Nat) : Int) ≠ 0 := by omega
  have t4 : (((wErr ks n2 : Nat) : Int) != 0) = true := by simp; omega
  have t5 : (((wErr ks n2 : Nat) : Int) == 0) = false := by simp; omega
  clear h0 h2 hi he
  generalize wErr ks n2 = x at *
  go_enter Tryd.func5, Tryd.ntmps5
  go_wp2_with fail
  refine HA.out.mono ?_
  rintro e w1 ⟨rfl, hbel⟩
  have H1 := Lib.hid (HI.out.next hbel)
  clear hbel HI HA
  go_wp2_with fail
  refine (CW.out w1 H1.out).mono ?_
  rintro e w2 ⟨A, c, rfl, -, -, -, hbel⟩
  have H2 := Lib.hid (H1.out.next hbel)
  clear hbel H1 CW
  go_wp2
  go_ret
  exact ⟨rfl, H2.out.bel⟩

/-- What stands of the three that came in, and of what was made. -/
structure In4 (w : World) (ks ts key : List Nat) (A0 A1 A2 A3 : Option Addr) (B : List Nat) (w' : World) : Prop where
  i3 : In3 w ks ts key A0 A1 A2 w'
  b3 : Bys w' w'.heap.size A3 B
theorem In4.next {A3 : Option Addr} {B : List Nat} {w' w'' : World} (h : In4 w ks ts key A0 A1 A2 A3 B w') (hb : Below w'.heap.size w' w'') : In4 w ks ts key A0 A1 A2 A3 B w'' := ⟨h.i3.next hb, h.b3.next hb⟩

set_option maxHeartbeats 4000000 in
theorem back_bad (h0 : ks.length = n0) (h1 : ts.length = n1) (h2 : key.length = n2) (hs0 : n0 ≤ 100) (hs1 : n1 ≤ 100) (hs2 : n2 ≤ 100) (hc0 : n0 ≤ c0) (hc1 : n1 ≤ c1) (hA2 : A2 = none → c2 = 0) (hi : In3 w ks ts key A0 A1 A2 w)
    (hk : ks.length = 16 ∨ ks.length = 32) (hm : may (n2 : Int) = true) (hq : ¬ (ts.length = 16 ∨ ts.length = 32)) :
    Calls Tryd.prog 5 #[.slice A0 n0 c0, .slice A1 n1 c1, .slice A2 n2 c2] w (Ret true w) := by
  have HA := Lib.hid (awake_any w hi.tab)
  have t0 : decide ((100 : Int) < (n0 : Int)) = false := by simp; omega
  have s0 : decide (100 < n0) = false := by simp; omega
  have t1 : decide ((100 : Int) < (n1 : Int)) = false := by simp; omega
  have s1 : decide (100 < n1) = false := by simp; omega
  have t2 : decide ((100 : Int) < (n2 : Int)) = false := by simp; omega
  have s2 : decide (100 < n2) = false := by simp; omega
  have q1 : ((n1 : Int) != 16) = true := by simp; omega
  have q2 : ((n1 : Int) != 32) = true := by simp; omega
  have HI := Lib.hid hi
  have hbb := hi.b2.1
  obtain ⟨u1, u2⟩ := u_of_wrap (key := key) hk (by rw [h2]; exact hm) hbb
  have hwl := may_len (key := key) hk (by rw [h2]; exact hm) hbb
  have CW := Lib.hid (fun (w' : World) (h : In3 w ks ts key A0 A1 A2 w') => wrap_some ks key A0 A2 n0 c0 n2 c2 h0 h2 hc0 hA2 hk hm w' h.b0 h.b2 h.tab)
  have CU := Lib.hid (fun (w' : World) A3 c (h : In4 w ks ts key A0 A1 A2 A3 (wrapL (rr ks) (kk ks) key) w') => by
    have := unwrap_any ks (wrapL (rr ks) (kk ks) key) A0 A3 n0 c0 _ c h0 rfl (by rw [hwl]; omega) hc0 w' h.i3.b0 h.b3 h.i3.tab
    rw [u1, u2] at this
    exact this)
  have CA := Lib.hid (fun (w' : World) A3 c (h : In4 w ks ts key A0 A1 A2 A3 (wrapL (rr ks) (kk ks) key) w') => by
    have := again_any ks ts (wrapL (rr ks) (kk ks) key) A0 A1 A3 n0 c0 n1 c1 _ c h0 h1 rfl (by rw [hwl]; omega) hc0 hc1 w' h.i3.b0 h.i3.b1 h.b3 h.i3.tab
    rw [aErr, aL, u1, u2, if_pos rfl, if_pos rfl, wErr_bad hq, wL, wErr_bad hq, if_neg (by omega)] at this
    exact this)
  have CS := Lib.hid (fun (w' : World) A c (h : Bys w' w'.heap.size A key) (h' : Bys w' w'.heap.size A2 key) => by
    have := same_any A A2 key key n2 n2 c c2 w' h2 h2 (by omega) _ _ h h'
    rw [show decide (key = key) = true by simp] at this
    exact this)
  have H2 := Lib.hid h2
  clear h0 h1 h2 hi hbb hk hm hq u1 u2 hwl
  generalize wrapL (rr ks) (kk ks) key = B at *
  obtain ⟨N, hN⟩ : ∃ N, N = B.length := ⟨_, rfl⟩
  rw [← hN] at CU CA
  have HN := Lib.hid hN.symm
  clear hN
  go_enter Tryd.func5, Tryd.ntmps5
  go_wp2_with fail
  refine HA.out.mono ?_
  rintro e w1 ⟨rfl, hbel⟩
  have I1 := Lib.hid (HI.out.next hbel)
  clear hbel HI HA
  go_wp2_with fail
  refine (CW.out w1 I1.out).mono ?_
  rintro e w2 ⟨A3, c3, rfl, -, -, hy, hbel⟩
  have I2 : Go.RowKit.Hid (In4 w ks ts key A0 A1 A2 A3 B w2) := Lib.hid ⟨I1.out.next hbel, hy⟩
  rw [HN.out]
  clear hbel I1 CW hy
  go_wp2_with fail
  refine (CU.out w2 A3 c3 I2.out).mono ?_
  rintro e w3 ⟨A4, c4, rfl, -, -, hy, hbel⟩
  have I3 := Lib.hid (I2.out.next hbel)
  have HS := Lib.hid (CS.out w3 A4 c4 hy I3.out.i3.b2)
  rw [H2.out]
  clear hbel I2 CU hy CS
  go_wp2_with fail
  refine HS.out.mono ?_
  rintro e w4 ⟨m, rfl, rfl⟩
  have I4 := Lib.hid (I3.out.next (below_drewN_self w3 m))
  clear I3 HS
  generalize w3.drewN m = w4 at *
  go_wp2_with fail
  refine (CA.out w4 A3 c3 I4.out).mono ?_
  rintro e w5 ⟨A5, c5, rfl, -, -, hy, hbel⟩
  have I5 := Lib.hid (I4.out.next hbel)
  clear hbel I4 CA hy
  go_wp2
  go_ret
  exact ⟨rfl, I5.out.i3.bel⟩

set_option maxHeartbeats 8000000 in
theorem back_main (h0 : ks.length = n0) (h1 : ts.length = n1) (h2 : key.length = n2) (hs0 : n0 ≤ 100) (hs1 : n1 ≤ 100) (hs2 : n2 ≤ 100) (hc0 : n0 ≤ c0) (hc1 : n1 ≤ c1) (hA2 : A2 = none → c2 = 0) (hi : In3 w ks ts key A0 A1 A2 w)
    (hk : ks.length = 16 ∨ ks.length = 32) (hm : may (n2 : Int) = true) (hq : ts.length = 16 ∨ ts.length = 32) :
    Calls Tryd.prog 5 #[.slice A0 n0 c0, .slice A1 n1 c1, .slice A2 n2 c2] w (Ret true w) := by
  have HA := Lib.hid (awake_any w hi.tab)
  have t0 : decide ((100 : Int) < (n0 : Int)) = false := by simp; omega
  have s0 : decide (100 < n0) = false := by simp; omega
  have t1 : decide ((100 : Int) < (n1 : Int)) = false := by simp; omega
  have s1 : decide (100 < n1) = false := by simp; omega
  have t2 : decide ((100 : Int) < (n2 : Int)) = false := by simp; omega
  have s2 : decide (100 < n2) = false := by simp; omega
  have HI := Lib.hid hi
  have hbb := hi.b2.1
  obtain ⟨u1, u2⟩ := u_of_wrap (key := key) hk (by rw [h2]; exact hm) hbb
  obtain ⟨v1, v2⟩ := u_of_wrap (key := key) hq (by rw [h2]; exact hm) hbb
  have hwl := may_len (key := key) hk (by rw [h2]; exact hm) hbb
  have hvl := may_len (key := key) hq (by rw [h2]; exact hm) hbb
  have we : wErr ts n2 = 0 := by rw [wErr_ok hq, hm]; rfl
  have CW := Lib.hid (fun (w' : World) (h : In3 w ks ts key A0 A1 A2 w') => wrap_some ks key A0 A2 n0 c0 n2 c2 h0 h2 hc0 hA2 hk hm w' h.b0 h.b2 h.tab)
  have CU := Lib.hid (fun (w' : World) A3 c (h : In4 w ks ts key A0 A1 A2 A3 (wrapL (rr ks) (kk ks) key) w') => by
    have := unwrap_any ks (wrapL (rr ks) (kk ks) key) A0 A3 n0 c0 _ c h0 rfl (by rw [hwl]; omega) hc0 w' h.i3.b0 h.b3 h.i3.tab
    rw [u1, u2] at this
    exact this)
  have CA := Lib.hid (fun (w' : World) A3 c (h : In4 w ks ts key A0 A1 A2 A3 (wrapL (rr ks) (kk ks) key) w') => by
    have := again_any ks ts (wrapL (rr ks) (kk ks) key) A0 A1 A3 n0 c0 n1 c1 _ c h0 h1 rfl (by rw [hwl]; omega) hc0 hc1 w' h.i3.b0 h.i3.b1 h.b3 h.i3.tab
    rw [aErr, aL, u1, u2, if_pos rfl, if_pos rfl, wL, h2, we, if_pos rfl] at this
    exact this)
  have CV := Lib.hid (fun (w' : World) A5 c (h : In3 w ks ts key A0 A1 A2 w') (hy : Bys w' w'.heap.size A5 (wrapL (rr ts) (kk ts) key)) => by
    have := unwrap_any ts (wrapL (rr ts) (kk ts) key) A1 A5 n1 c1 _ c h1 rfl (by rw [hvl]; omega) hc1 w' h.b1 hy h.tab
    rw [v1, v2] at this
    exact this)
  have CB := Lib.hid (fun (w' : World) A3 c (h : In4 w ks ts key A0 A1 A2 A3 (wrapL (rr ks) (kk ks) key) w') =>
    again_any ts ks (wrapL (rr ks) (kk ks) key) A1 A0 A3 n1 c1 n0 c0 _ c h1 h0 rfl (by rw [hwl]; omega) hc1 hc0 w' h.i3.b1 h.i3.b0 h.b3 h.i3.tab)
  have CX := Lib.hid (fun (w' : World) A3 c (h : In4 w ks ts key A0 A1 A2 A3 (wrapL (rr ks) (kk ks) key) w') =>
    unwrap_any ts (wrapL (rr ks) (kk ks) key) A1 A3 n1 c1 _ c h1 rfl (by rw [hwl]; omega) hc1 w' h.i3.b1 h.b3 h.i3.tab)
  have HO : (uErr ts (wrapL (rr ks) (kk ks) key) = 0 ∧ aErr ts ks (wrapL (rr ks) (kk ks) key) = 0) ∨ (uErr ts (wrapL (rr ks) (kk ks) key) = 21 ∧ aErr ts ks (wrapL (rr ks) (kk ks) key) = 21 ∧ uL ts (wrapL (rr ks) (kk ks) key) = []) := by
    obtain ⟨m1, m2, m3⟩ := may_of hm
    refine u_other hk hq (by rw [hwl, h2, show ((n2 + 8 : Nat) : Int) - 8 = (n2 : Int) by omega]; exact hm) ?_
    exact (tx_wrapL (kk_ok hk) (key.length / 8) (by omega) (by omega) hbb).mem
  have CS := Lib.hid (fun (w' : World) A c (h : Bys w' w'.heap.size A key) (h' : Bys w' w'.heap.size A2 key) => by
    have := same_any A A2 key key n2 n2 c c2 w' h2 h2 (by omega) _ _ h h'
    rw [show decide (key = key) = true by simp] at this
    exact this)
  have H2 := Lib.hid h2
  have H1 := Lib.hid h1
  have HQ : (n1 = 16 ∨ n1 = 32) := by rw [← h1]; exact hq
  clear h0 h1 h2 hi hbb hk hm hq u1 u2 hwl v1 v2 hvl we
  generalize wrapL (rr ks) (kk ks) key = B at *
  generalize wrapL (rr ts) (kk ts) key = C at *
  generalize uErr ts B = j at *
  generalize aErr ts ks B = i at *
  generalize uL ts B = X at *
  generalize aL ts ks B = Y at *
  obtain ⟨N, hN⟩ : ∃ N, N = B.length := ⟨_, rfl⟩
  rw [← hN] at CU CA CB CX
  have HN := Lib.hid hN.symm
  clear hN
  obtain ⟨M, hM⟩ : ∃ M, M = C.length := ⟨_, rfl⟩
  rw [← hM] at CV
  have HM := Lib.hid hM.symm
  clear hM
  have common : ∀ (_ : ((n1 : Int) != 16) = false ∨ (((n1 : Int) != 16) = true ∧ ((n1 : Int) != 32) = false)),
      Calls Tryd.prog 5 #[.slice A0 n0 c0, .slice A1 n1 c1, .slice A2 n2 c2] w (Ret true w) := by
    intro hor
    have HO := Lib.hid HO
    rcases hor with hq1 | ⟨hq1, hq2⟩
    · go_enter Tryd.func5, Tryd.ntmps5
      go_wp2_with fail
      refine HA.out.mono ?_
      rintro e w1 ⟨rfl, hbel⟩
      have I1 := Lib.hid (HI.out.next hbel)
      clear hbel HI HA
      go_wp2_with fail
      refine (CW.out w1 I1.out).mono ?_
      rintro e w2 ⟨A3, c3, rfl, -, -, hy, hbel⟩
      have I2 : Go.RowKit.Hid (In4 w ks ts key A0 A1 A2 A3 B w2) := Lib.hid ⟨I1.out.next hbel, hy⟩
      rw [HN.out]
      clear hbel I1 CW hy
      go_wp2_with fail
      refine (CU.out w2 A3 c3 I2.out).mono ?_
      rintro e w3 ⟨A4, c4, rfl, -, -, hy, hbel⟩
      have I3 := Lib.hid (I2.out.next hbel)
      have HS := Lib.hid (CS.out w3 A4 c4 hy I3.out.i3.b2)
      rw [H2.out]
      clear hbel I2 CU hy
      go_wp2_with fail
      refine HS.out.mono ?_
      rintro e w4 ⟨m, rfl, rfl⟩
      have I4 := Lib.hid (I3.out.next (below_drewN_self w3 m))
      clear I3 HS
      generalize w3.drewN m = w4 at *
      go_wp2_with fail
      refine (CA.out w4 A3 c3 I4.out).mono ?_
      rintro e w5 ⟨A5, c5, rfl, -, -, hy, hbel⟩
      have I5 := Lib.hid (I4.out.next hbel)
      have HC := Lib.hid (CV.out w5 A5 c5 I5.out.i3 hy)
      rw [HM.out]
      clear hbel I4 CA hy CV
      go_wp2_with fail
      refine HC.out.mono ?_
      rintro e w6 ⟨A6, c6, rfl, -, -, hy, hbel⟩
      have I6 := Lib.hid (I5.out.next hbel)
      have HY := Lib.hid hy
      rw [H2.out]
      clear hbel I5 hy HC
      go_wp2_with fail
      refine (CB.out w6 A3 c3 I6.out).mono ?_
      rintro e w7 ⟨A7, c7, rfl, -, -, -, hbel⟩
      have I7 := Lib.hid (I6.out.next hbel)
      have HY7 := Lib.hid (HY.out.next hbel)
      clear hbel I6 CB HY
      generalize Y.length = y at *
      go_wp2_with fail
      refine (CX.out w7 A3 c3 I7.out).mono ?_
      rintro e w8 ⟨A8, c8, rfl, -, -, -, hbel⟩
      have I8 := Lib.hid (I7.out.next hbel)
      have HY8 := Lib.hid (HY7.out.next hbel)
      have HS := Lib.hid (CS.out w8 A6 c6 HY8.out I8.out.i3.b2)
      clear hbel I7 CX HY7 CS HY8
      rcases HO.out with ⟨hj, hi⟩ | ⟨hj, hi, hx⟩
      · subst hj hi
        generalize X.length = x at *
        clear HO
        go_wp2_with fail
        refine HS.out.mono ?_
        rintro e w9 ⟨m, rfl, rfl⟩
        have I9 := Lib.hid (I8.out.next (below_drewN_self w8 m))
        clear I8 HS
        go_wp2
        go_ret
        exact ⟨rfl, I9.out.i3.bel⟩
      · subst hj hi hx
        clear HO
        go_wp2_with fail
        refine HS.out.mono ?_
        rintro e w9 ⟨m, rfl, rfl⟩
        have I9 := Lib.hid (I8.out.next (below_drewN_self w8 m))
        clear I8 HS
        go_wp2
        go_ret
        exact ⟨rfl, I9.out.i3.bel⟩
    · go_enter Tryd.func5, Tryd.ntmps5
      go_wp2_with fail
      refine HA.out.mono ?_
      rintro e w1 ⟨rfl, hbel⟩
      have I1 := Lib.hid (HI.out.next hbel)
      clear hbel HI HA
      go_wp2_with fail
      refine (CW.out w1 I1.out).mono ?_
      rintro e w2 ⟨A3, c3, rfl, -, -, hy, hbel⟩
      have I2 : Go.RowKit.Hid (In4 w ks ts key A0 A1 A2 A3 B w2) := Lib.hid ⟨I1.out.next hbel, hy⟩
      rw [HN.out]
      clear hbel I1 CW hy
      go_wp2_with fail
      refine (CU.out w2 A3 c3 I2.out).mono ?_
      rintro e w3 ⟨A4, c4, rfl, -, -, hy, hbel⟩
      have I3 := Lib.hid (I2.out.next hbel)
      have HS := Lib.hid (CS.out w3 A4 c4 hy I3.out.i3.b2)
      rw [H2.out]
      clear hbel I2 CU hy
      go_wp2_with fail
      refine HS.out.mono ?_
      rintro e w4 ⟨m, rfl, rfl⟩
      have I4 := Lib.hid (I3.out.next (below_drewN_self w3 m))
      clear I3 HS
      generalize w3.drewN m = w4 at *
      go_wp2_with fail
      refine (CA.out w4 A3 c3 I4.out).mono ?_
      rintro e w5 ⟨A5, c5, rfl, -, -, hy, hbel⟩
      have I5 := Lib.hid (I4.out.next hbel)
      have HC := Lib.hid (CV.out w5 A5 c5 I5.out.i3 hy)
      rw [HM.out]
      clear hbel I4 CA hy CV
      go_wp2_with fail
      refine HC.out.mono ?_
      rintro e w6 ⟨A6, c6, rfl, -, -, hy, hbel⟩
      have I6 := Lib.hid (I5.out.next hbel)
      have HY := Lib.hid hy
      rw [H2.out]
      clear hbel I5 hy HC
      go_wp2_with fail
      refine (CB.out w6 A3 c3 I6.out).mono ?_
      rintro e w7 ⟨A7, c7, rfl, -, -, -, hbel⟩
      have I7 := Lib.hid (I6.out.next hbel)
      have HY7 := Lib.hid (HY.out.next hbel)
      clear hbel I6 CB HY
      generalize Y.length = y at *
      go_wp2_with fail
      refine (CX.out w7 A3 c3 I7.out).mono ?_
      rintro e w8 ⟨A8, c8, rfl, -, -, -, hbel⟩
      have I8 := Lib.hid (I7.out.next hbel)
      have HY8 := Lib.hid (HY7.out.next hbel)
      have HS := Lib.hid (CS.out w8 A6 c6 HY8.out I8.out.i3.b2)
      clear hbel I7 CX HY7 CS HY8
      rcases HO.out with ⟨hj, hi⟩ | ⟨hj, hi, hx⟩
      · subst hj hi
        generalize X.length = x at *
        clear HO
        go_wp2_with fail
        refine HS.out.mono ?_
        rintro e w9 ⟨m, rfl, rfl⟩
        have I9 := Lib.hid (I8.out.next (below_drewN_self w8 m))
        clear I8 HS
        go_wp2
        go_ret
        exact ⟨rfl, I9.out.i3.bel⟩
      · subst hj hi hx
        clear HO
        go_wp2_with fail
        refine HS.out.mono ?_
        rintro e w9 ⟨m, rfl, rfl⟩
        have I9 := Lib.hid (I8.out.next (below_drewN_self w8 m))
        clear I8 HS
        go_wp2
        go_ret
        exact ⟨rfl, I9.out.i3.bel⟩
  refine common ?_
  rcases HQ with h | h
  · left; simp [h]
  · right; subst h; exact ⟨rfl, rfl⟩

theorem wrapBack_walk (ks : List Nat) (A0 : Option Addr) (c0 : Nat) (ts : List Nat) (A1 : Option Addr) (c1 : Nat) (key : List Nat) (A2 : Option Addr) (c2 : Nat) (w : World) (ht : Tab w 0)
    (hb0 : Bys w w.heap.size A0 ks) (hc0 : ks.length ≤ c0) (_hn0 : A0 = none → c0 = 0) (hb1 : Bys w w.heap.size A1 ts) (hc1 : ts.length ≤ c1) (_hn1 : A1 = none → c1 = 0) (hb2 : Bys w w.heap.size A2 key) (_hc2 : key.length ≤ c2) (hn2 : A2 = none → c2 = 0) :
    Calls Tryd.prog 5 #[.slice A0 ks.length c0, .slice A1 ts.length c1, .slice A2 key.length c2] w (Ret true w) := by
  by_cases hl : 100 < ks.length ∨ 100 < ts.length ∨ 100 < key.length
  · exact back_long hl ht
  · have hi : In3 w ks ts key A0 A1 A2 w := ⟨hb0, hb1, hb2, ht, Below.refl _ _⟩
    by_cases he : wErr ks key.length = 0
    · have hk : ks.length = 16 ∨ ks.length = 32 := by
        by_cases hk : ks.length = 16 ∨ ks.length = 32
        · exact hk
        · rw [wErr_bad hk] at he; omega
      have hm : may (key.length : Int) = true := by
        rw [wErr_ok hk] at he
        by_cases hm : may (key.length : Int) = true
        · exact hm
        · rw [if_neg hm] at he; omega
      by_cases hq : ts.length = 16 ∨ ts.length = 32
      · exact back_main rfl rfl rfl (by omega) (by omega) (by omega) hc0 hc1 hn2 hi hk hm hq
      · exact back_bad rfl rfl rfl (by omega) (by omega) (by omega) hc0 hc1 hn2 hi hk hm hq
    · exact back_err rfl rfl (by omega) (by omega) (by omega) hc0 hn2 hi he
end
end Go.Proofs.YtonoidhlbnbhcaaDoor
