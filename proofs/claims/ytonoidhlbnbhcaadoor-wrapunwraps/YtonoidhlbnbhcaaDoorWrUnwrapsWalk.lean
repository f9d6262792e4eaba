/-
  The walk of the law WrapUnwraps: for every key and all bytes it answers true. Condition: the table of widths stands in its variable.
-/
import Derived.Test.YtonoidhlbnbhcaaDoorWrWrapsWalk
namespace Go.Proofs.YtonoidhlbnbhcaaDoor
open Go.RowKit Arr Gf Sb Ae Wr

/-- What is unwrapped is wrapped so. -/
theorem w_of_unwrap {ks b : List Nat} (hk : ks.length = 16 ∨ ks.length = 32) (hm : may ((b.length : Int) - 8) = true) (hb : ∀ x, x ∈ b → x < 256) (h0 : uErr ks b = 0) :
    wErr ks (uL ks b).length = 0 ∧ wL ks (uL ks b) = b ∧ (uL ks b).length + 8 = b.length := by
  obtain ⟨m1, m2, m3⟩ := may_of hm
  obtain ⟨n, hn⟩ : ∃ n, b.length = 8 * (n + 1) := ⟨b.length / 8 - 1, by omega⟩
  have hl := (tx_outL (kk_ok hk) n (by omega) hn hb).1
  have hq : (outL (rr ks) (kk ks) b).take 8 = mk := by
    rw [uErr_ok hk, if_pos hm] at h0
    by_cases hq : (outL (rr ks) (kk ks) b).take 8 = mk
    · exact hq
    · rw [if_neg hq] at h0; omega
  have hu : uL ks b = (outL (rr ks) (kk ks) b).drop 8 := by rw [uL, if_pos h0]
  have hl2 : (uL ks b).length = 8 * n := by rw [hu, List.length_drop]; omega
  have hmm : may (((8 * n : Nat)) : Int) = true := by
    rw [show (((8 * n : Nat)) : Int) = (b.length : Int) - 8 by omega]; exact hm
  have he : wErr ks (uL ks b).length = 0 := by rw [hl2, wErr_ok hk, if_pos hmm]
  refine ⟨he, ?_, by omega⟩
  rw [wL, if_pos he, hu]
  exact wrap_out (kk_ok hk) n (by omega) hn hb hq
theorem u_errs {ks b : List Nat} (hk : ks.length = 16 ∨ ks.length = 32) (hm : may ((b.length : Int) - 8) = true) : uErr ks b = 0 ∨ (uErr ks b = 21 ∧ uL ks b = []) := by
  by_cases hq : (outL (rr ks) (kk ks) b).take 8 = mk
  · left; rw [uErr_ok hk, if_pos hm, if_pos hq]
  · have e : uErr ks b = 21 := by rw [uErr_ok hk, if_pos hm, if_neg hq]
    exact .inr ⟨e, by rw [uL, if_neg (by omega)]⟩

section
variable {ks b : List Nat} {A0 A1 : Option Addr} {n0 c0 n1 c1 : Nat} {w : World}
theorem unwraps_long (hl : 100 < n0 ∨ 100 < n1) (ht : Tab w 0) :
    Calls Tryd.prog 4 #[.slice A0 n0 c0, .slice A1 n1 c1] w (Ret true w) := by
  have HA := Lib.hid (awake_any w ht)
  clear ht
  by_cases h0 : 100 < n0
  · have t0 : decide ((100 : Int) < (n0 : Int)) = true := by simp; omega
    have s0 : decide (100 < n0) = true := by simp; omega
    clear hl
    go_enter Tryd.func4, Tryd.ntmps4
    go_wp2_with fail
    refine HA.out.mono ?_
    rintro e w1 ⟨rfl, hbel⟩
    have HB := Lib.hid hbel; clear hbel
    go_wp2
    go_ret
    exact ⟨rfl, HB.out⟩
  · have t0 : decide ((100 : Int) < (n0 : Int)) = false := by simp; omega
    have s0 : decide (100 < n0) = false := by simp; omega
    have t1 : decide ((100 : Int) < (n1 : Int)) = true := by simp; omega
    have s1 : decide (100 < n1) = true := by simp; omega
    clear hl
    go_enter Tryd.func4, Tryd.ntmps4
    go_wp2_with fail
    refine HA.out.mono ?_
    rintro e w1 ⟨rfl, hbel⟩
    have HB := Lib.hid hbel; clear hbel
    go_wp2
    go_ret
    exact ⟨rfl, HB.out⟩

set_option maxHeartbeats 4000000 in
theorem unwraps_bad (h0 : ks.length = n0) (h1 : b.length = n1) (hs0 : n0 ≤ 100) (hs1 : n1 ≤ 100) (hc0 : n0 ≤ c0) (hi : In2 w ks b A0 A1 w) (hk : ¬ (ks.length = 16 ∨ ks.length = 32)) :
    Calls Tryd.prog 4 #[.slice A0 n0 c0, .slice A1 n1 c1] w (Ret true w) := by
  have HA := Lib.hid (awake_any w hi.tab)
  have t0 : decide ((100 : Int) < (n0 : Int)) = false := by simp; omega
  have s0 : decide (100 < n0) = false := by simp; omega
  have t1 : decide ((100 : Int) < (n1 : Int)) = false := by simp; omega
  have s1 : decide (100 < n1) = false := by simp; omega
  have q1 : ((n0 : Int) != 16) = true := by simp; omega
  have q2 : ((n0 : Int) != 32) = true := by simp; omega
  have HI := Lib.hid hi
  have CU := Lib.hid (fun (w' : World) (h : In2 w ks b A0 A1 w') => by
    have := unwrap_any ks b A0 A1 n0 c0 n1 c1 h0 h1 (by omega) hc0 w' h.b0 h.b1 h.tab
    rw [uL, uErr_bad hk, if_neg (by omega)] at this
    exact this)
  clear h0 h1 hi hk
  go_enter Tryd.func4, Tryd.ntmps4
  go_wp2_with fail
  refine HA.out.mono ?_
  rintro e w1 ⟨rfl, hbel⟩
  have I1 := Lib.hid (HI.out.next hbel)
  clear hbel HI HA
  go_wp2_with fail
  refine (CU.out w1 I1.out).mono ?_
  rintro e w2 ⟨A2, c2, rfl, -, -, -, hbel⟩
  have I2 := Lib.hid (I1.out.next hbel)
  clear hbel I1 CU
  go_wp2
  go_ret
  exact ⟨rfl, I2.out.bel⟩

set_option maxHeartbeats 4000000 in
theorem unwraps_arg (h0 : ks.length = n0) (h1 : b.length = n1) (hs0 : n0 ≤ 100) (hs1 : n1 ≤ 100) (hc0 : n0 ≤ c0) (hi : In2 w ks b A0 A1 w) (hk : ks.length = 16 ∨ ks.length = 32) (hm : may ((n1 : Int) - 8) = false) :
    Calls Tryd.prog 4 #[.slice A0 n0 c0, .slice A1 n1 c1] w (Ret true w) := by
  have HA := Lib.hid (awake_any w hi.tab)
  have t0 : decide ((100 : Int) < (n0 : Int)) = false := by simp; omega
  have s0 : decide (100 < n0) = false := by simp; omega
  have t1 : decide ((100 : Int) < (n1 : Int)) = false := by simp; omega
  have s1 : decide (100 < n1) = false := by simp; omega
  have hk' : n0 = 16 ∨ n0 = 32 := by rw [← h0]; exact hk
  have e1 : (n1 : Int).tmod 8 = (n1 : Int) % 8 := Int.tmod_eq_emod_of_nonneg (by omega)
  have HI := Lib.hid hi
  have CU := Lib.hid (fun (w' : World) (h : In2 w ks b A0 A1 w') => by
    have := unwrap_any ks b A0 A1 n0 c0 n1 c1 h0 h1 (by omega) hc0 w' h.b0 h.b1 h.tab
    rw [uL, uErr_ok hk, h1, hm, if_neg (by simp)] at this
    exact this)
  have part : (n1 : Int) % 8 ≠ 0 ∨ ((n1 : Int) % 8 = 0 ∧ n1 < 24) ∨ ((n1 : Int) % 8 = 0 ∧ 24 ≤ n1 ∧ 72 < n1) := by
    by_cases g1 : (n1 : Int) % 8 = 0
    · by_cases g2 : n1 < 24
      · exact .inr (.inl ⟨g1, g2⟩)
      · by_cases g3 : 72 < n1
        · exact .inr (.inr ⟨g1, by omega, g3⟩)
        · exfalso
          have : may ((n1 : Int) - 8) = true := by simp [may]; omega
          rw [hm] at this; cases this
    · exact .inl g1
  clear h0 h1 hi hk hm
  go_enter Tryd.func4, Tryd.ntmps4
  go_wp2_with fail
  refine HA.out.mono ?_
  rintro e w1 ⟨rfl, hbel⟩
  have I1 := Lib.hid (HI.out.next hbel)
  clear hbel HI HA
  go_wp2_with fail
  refine (CU.out w1 I1.out).mono ?_
  rintro e w2 ⟨A2, c2, rfl, -, -, -, hbel⟩
  have I2 := Lib.hid (I1.out.next hbel)
  clear hbel I1 CU
  go_upto_region 6 with fail
  go_cut [25] from 25 to 33 (fun v wx => v = .bool false ∧ w2 = wx)
  case first =>
    clear part
    rcases hk' with h | h
    · subst h
      go_wp2_with fail
      go_meet
      case rel => exact ⟨rfl, rfl⟩
    · subst h
      go_wp2_with fail
      go_meet
      case rel => exact ⟨rfl, rfl⟩
  case rest =>
    obtain ⟨rfl, rfl⟩ := hcut
    clear hk'
    rcases part with g | ⟨g, g2⟩ | ⟨g, g2, g3⟩
    · have u1 : (((n1 : Int) % 8) != 0) = true := by simp [g]
      go_wp2
      go_ret
      exact ⟨rfl, I2.out.bel⟩
    · have u1 : (((n1 : Int) % 8) != 0) = false := by simp [g]
      have u2 : decide ((n1 : Int) < 24) = true := by simp; omega
      have u3 : decide (n1 < 24) = true := by simp; omega
      go_wp2
      go_ret
      exact ⟨rfl, I2.out.bel⟩
    · have u1 : (((n1 : Int) % 8) != 0) = false := by simp [g]
      have u2 : decide ((n1 : Int) < 24) = false := by simp; omega
      have u3 : decide (n1 < 24) = false := by simp; omega
      have u4 : decide ((72 : Int) < (n1 : Int)) = true := by simp; omega
      have u5 : decide (72 < n1) = true := by simp; omega
      go_wp2
      go_ret
      exact ⟨rfl, I2.out.bel⟩

set_option maxHeartbeats 4000000 in
theorem unwraps_main (h0 : ks.length = n0) (h1 : b.length = n1) (hs0 : n0 ≤ 100) (hs1 : n1 ≤ 100) (hc0 : n0 ≤ c0) (hi : In2 w ks b A0 A1 w) (hk : ks.length = 16 ∨ ks.length = 32) (hm : may ((n1 : Int) - 8) = true) :
    Calls Tryd.prog 4 #[.slice A0 n0 c0, .slice A1 n1 c1] w (Ret true w) := by
  obtain ⟨m1, m2, m3⟩ := may_of hm
  have HA := Lib.hid (awake_any w hi.tab)
  have t0 : decide ((100 : Int) < (n0 : Int)) = false := by simp; omega
  have s0 : decide (100 < n0) = false := by simp; omega
  have t1 : decide ((100 : Int) < (n1 : Int)) = false := by simp; omega
  have s1 : decide (100 < n1) = false := by simp; omega
  have hk' : n0 = 16 ∨ n0 = 32 := by rw [← h0]; exact hk
  have e1 : (n1 : Int).tmod 8 = (n1 : Int) % 8 := Int.tmod_eq_emod_of_nonneg (by omega)
  have u1 : (((n1 : Int) % 8) != 0) = false := by simp; omega
  have u2 : decide ((n1 : Int) < 24) = false := by simp; omega
  have u3 : decide (n1 < 24) = false := by simp; omega
  have u4 : decide ((72 : Int) < (n1 : Int)) = false := by simp; omega
  have u5 : decide (72 < n1) = false := by simp; omega
  have HI := Lib.hid hi
  have CU := Lib.hid (fun (w' : World) (h : In2 w ks b A0 A1 w') => unwrap_any ks b A0 A1 n0 c0 n1 c1 h0 h1 (by omega) hc0 w' h.b0 h.b1 h.tab)
  have hbb := hi.b1.1
  rcases u_errs (b := b) hk (by rw [h1]; exact hm) with hz | ⟨hz, hx⟩
  · obtain ⟨z1, z2, z3⟩ := w_of_unwrap (b := b) hk (by rw [h1]; exact hm) hbb hz
    rw [hz] at CU
    have CR := Lib.hid (fun (w' : World) A c N (hN : (uL ks b).length = N) (hc : N ≤ c) (h : In2 w ks b A0 A1 w') (hy : Bys w' w'.heap.size A (uL ks b)) => by
      have := rwrap_any ks (uL ks b) A0 A n0 c0 N c h0 hN hc w' h.b0 hy
      rw [z1, z2] at this
      exact this)
    have CS := Lib.hid (fun (w' : World) A c c' (h : Bys w' w'.heap.size A b) (h' : Bys w' w'.heap.size A1 b) => by
      have := same_any A A1 b b n1 n1 c c' w' h1 h1 (by omega) _ _ h h'
      rw [show decide (b = b) = true by simp] at this
      exact this)
    have H1 := Lib.hid h1
    clear h0 h1 hi hk hm hbb hz z1 z2 z3 m1 m2 m3
    generalize uL ks b = l at *
    obtain ⟨N, hN⟩ : ∃ N, N = l.length := ⟨_, rfl⟩
    have HN := Lib.hid hN
    clear hN
    go_enter Tryd.func4, Tryd.ntmps4
    go_wp2_with fail
    refine HA.out.mono ?_
    rintro e w1 ⟨rfl, hbel⟩
    have I1 := Lib.hid (HI.out.next hbel)
    clear hbel HI HA
    go_wp2_with fail
    refine (CU.out w1 I1.out).mono ?_
    rintro e w2 ⟨A2, c2, rfl, hlc, -, hy, hbel⟩
    have I2 := Lib.hid (I1.out.next hbel)
    rw [← HN.out] at hlc ⊢
    have HR := Lib.hid (CR.out w2 A2 c2 N HN.out.symm hlc I2.out hy)
    clear hbel I1 CU hy CR hlc
    go_upto_region 6 with fail
    go_cut [25] from 25 to 33 (fun v wx => v = .bool false ∧ w2 = wx)
    case first =>
      rcases hk' with h | h
      · subst h
        go_wp2_with fail
        go_meet
        case rel => exact ⟨rfl, rfl⟩
      · subst h
        go_wp2_with fail
        go_meet
        case rel => exact ⟨rfl, rfl⟩
    case rest =>
      obtain ⟨rfl, rfl⟩ := hcut
      clear hk'
      go_wp2_with fail
      refine HR.out.mono ?_
      rintro e w3 ⟨A3, c3, rfl, -, -, hy, hbel⟩
      have I3 := Lib.hid (I2.out.next hbel)
      have HS := Lib.hid (CS.out w3 A3 c3 c1 hy I3.out.b1)
      rw [H1.out]
      clear hbel I2 HR hy CS
      go_wp2_with fail
      refine HS.out.mono ?_
      rintro e w4 ⟨m, rfl, rfl⟩
      have I4 := Lib.hid (I3.out.next (below_drewN_self w3 m))
      clear I3 HS
      go_wp2
      go_ret
      exact ⟨rfl, I4.out.bel⟩
  · rw [hz, hx] at CU
    clear h0 h1 hi hk hm hbb hz hx m1 m2 m3
    go_enter Tryd.func4, Tryd.ntmps4
    go_wp2_with fail
    refine HA.out.mono ?_
    rintro e w1 ⟨rfl, hbel⟩
    have I1 := Lib.hid (HI.out.next hbel)
    clear hbel HI HA
    go_wp2_with fail
    refine (CU.out w1 I1.out).mono ?_
    rintro e w2 ⟨A2, c2, rfl, -, -, -, hbel⟩
    have I2 := Lib.hid (I1.out.next hbel)
    clear hbel I1 CU
    go_upto_region 6 with fail
    go_cut [25] from 25 to 33 (fun v wx => v = .bool false ∧ w2 = wx)
    case first =>
      rcases hk' with h | h
      · subst h
        go_wp2_with fail
        go_meet
        case rel => exact ⟨rfl, rfl⟩
      · subst h
        go_wp2_with fail
        go_meet
        case rel => exact ⟨rfl, rfl⟩
    case rest =>
      obtain ⟨rfl, rfl⟩ := hcut
      clear hk'
      go_wp2
      go_ret
      exact ⟨rfl, I2.out.bel⟩
end
theorem wrapUnwraps_walk (ks : List Nat) (A0 : Option Addr) (c0 : Nat) (b : List Nat) (A1 : Option Addr) (c1 : Nat) (w : World) (ht : Tab w 0)
    (hb0 : Bys w w.heap.size A0 ks) (hc0 : ks.length ≤ c0) (_hn0 : A0 = none → c0 = 0) (hb1 : Bys w w.heap.size A1 b) (_hc1 : b.length ≤ c1) (_hn1 : A1 = none → c1 = 0) :
    Calls Tryd.prog 4 #[.slice A0 ks.length c0, .slice A1 b.length c1] w (Ret true w) := by
  by_cases hl : 100 < ks.length ∨ 100 < b.length
  · exact unwraps_long hl ht
  · have hi : In2 w ks b A0 A1 w := ⟨hb0, hb1, ht, Below.refl _ _⟩
    by_cases hk : ks.length = 16 ∨ ks.length = 32
    · by_cases hm : may ((b.length : Int) - 8) = true
      · exact unwraps_main rfl rfl (by omega) (by omega) hc0 hi hk hm
      · exact unwraps_arg rfl rfl (by omega) (by omega) hc0 hi hk (by simpa using hm)
    · exact unwraps_bad rfl rfl (by omega) (by omega) hc0 hi hk
end Go.Proofs.YtonoidhlbnbhcaaDoor
