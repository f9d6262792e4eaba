/-
  The walk of KdfDerives. Conditions: the tables stand in their variables; what came in lies below, in its slices.
-/
import Derived.Test.YtihpjkidoingfaaDoorKdRefSome
namespace Go.Proofs.YtihpjkidoingfaaDoor
open Go.RowKit Arr Sh Hm Kd

theorem rderive_u (ks : List Nat) (K : Option Addr) (n0 d0 : Nat) (hl : ks.length = n0) (hKd : K = none → d0 = 0) (hn0 : n0 ≤ 100) (s : ByteArray) (n : Int) (ps : List Pt) (A : Option Addr) (N c : Nat) (hN : ps.length = N) (hN2 : N ≤ 8) (hT : ∀ i (h : i < ps.length), ps[i].bs.length ≤ 100) (hTn : ∀ i (h : i < ps.length), ps[i].A = none → ps[i].c = 0)
    (w : World) (hb : Bys w w.heap.size K ks) (hp : Parts w w.heap.size A ps) :
    Calls Tryd.prog 9 #[.slice K n0 d0, .string s, .int .i64 n, .slice A N c] w (DerU (derL ks (labOf s) (ps.map (·.bs)) n) (derL ks (labOf s) (ps.map (·.bs)) n).length (derErr n0 (labOf s) n) w) := by
  by_cases he : derErr n0 (labOf s) n = 0
  · obtain ⟨h1, h2, h3, h4, h5⟩ := derErr_zero he
    obtain ⟨m, rfl⟩ := Int.eq_ofNat_of_zero_le (show 0 ≤ n by omega)
    have e1 : derL ks (labOf s) (ps.map (·.bs)) (m : Int) = der ks (labOf s) (ps.map (·.bs)) m := by
      unfold derL; rw [hl, if_pos he, Int.toNat_natCast]
    have e2 := length_der ks (labOf s) (ps.map (·.bs)) m (by omega)
    rw [e1, he, e2]
    exact rderive_some ks K n0 d0 hl hKd hn0 s m he ps A N c hN hN2 hT hTn w hb hp
  · have e1 : derL ks (labOf s) (ps.map (·.bs)) n = [] := by unfold derL; rw [hl, if_neg he]
    rw [e1]
    refine (rderive_none K n0 d0 s n A N c _ rfl he w).mono ?_
    rintro e w' ⟨rfl, hB⟩
    exact ⟨_, _, rfl, Nat.le_refl _, Bys.nil _ _ _, hB⟩

set_option maxHeartbeats 2000000 in
theorem derives_walk (ks : List Nat) (K : Option Addr) (n0 d0 : Nat) (hl : ks.length = n0) (hd0 : n0 ≤ d0) (s : ByteArray) (n : Int) (ps : List Pt) (A : Option Addr) (N c : Nat) (hN : ps.length = N) (hN2 : N ≤ 9223372036854775807) (w : World) (hv : VarsS w)
    (hb : Bys w w.heap.size K ks) (hp : Parts w w.heap.size A ps) (hKd : K = none → d0 = 0) (hTn : ∀ i (h : i < ps.length), ps[i].A = none → ps[i].c = 0) :
    Calls Tryd.prog 3 #[.agg #[.slice K n0 d0, .string s, .int .i64 n, .slice A N c]] w (True' w) := by
  have b1 := below_alloc w (.cells #[.slice K n0 d0, .string s, .int .i64 n, .slice A N c] 25)
  have s1 : (w.alloc (.cells #[.slice K n0 d0, .string s, .int .i64 n, .slice A N c] 25)).heap.size = w.heap.size + 1 := World.size_alloc ..
  have HW1 := Lib.hid (HV.new w 25 [.slice K n0 d0, .string s, .int .i64 n, .slice A N c])
  have HA := Lib.hid (awake_kdf _ (hv.below b1 (Nat.le_refl _)))
  have HV1 := Lib.hid (hv.below b1 (Nat.le_refl _))
  have HK1 := Lib.hid ((hb.below b1).more b1.size)
  have HP1 := Lib.hid (hp.later b1)
  have B1 := Lib.hid b1
  have S1 := Lib.hid s1
  have HL := Lib.hid hl
  have HN := Lib.hid hN
  have HKD := Lib.hid hKd
  have HTN := Lib.hid hTn
  clear b1 s1 hv hb hp hl hN hKd hTn
  go_enter Tryd.func3, Tryd.ntmps3
  go_upto_region 1 with fail
  generalize w.alloc (.cells #[.slice K n0 d0, .string s, .int .i64 n, .slice A N c] 25) = w1 at *
  go_wp2_with fail
  refine HA.out.mono ?_
  rintro e w2 ⟨rfl, hB2⟩
  have B2 := Lib.hid hB2
  have CS : Go.RowKit.Hid (∀ W, Below w1.heap.size w1 W → W.cell? ⟨w.heap.size, 0, none⟩ = some (.slice K n0 d0) ∧ W.cell? ⟨w.heap.size, 1, none⟩ = some (.string s) ∧ W.cell? ⟨w.heap.size, 2, none⟩ = some (.int .i64 n) ∧ W.cell? ⟨w.heap.size, 3, none⟩ = some (.slice A N c)) := Lib.hid (fun W h => by
    have hw := HW1.out.below h (by rw [S1.out]; omega)
    exact ⟨hw.cell 0 _ rfl, hw.cell 1 _ rfl, hw.cell 2 _ rfl, hw.cell 3 _ rfl⟩)
  obtain ⟨c0, c1, c2, c3⟩ := CS.out w2 hB2
  have CF := Lib.hid (few_any K n0 d0 s n ps A N c HN.out hN2 w2 (HP1.out.later hB2))
  clear HA hB2 HW1
  go_wp2_with fail
  refine CF.out.mono ?_
  rintro e w3 ⟨b, rfl, hB3, hf⟩
  have B3 := Lib.hid (B2.out.trans (hB3.mono B2.out.size))
  clear hB3 CF B2 c0 c1 c2 c3
  cases b with
  | false =>
    clear hf
    go_wp2
    go_ret
    exact ⟨rfl, B1.out.trans (B3.out.mono (by rw [S1.out]; omega))⟩
  | true =>
    obtain ⟨hf1, hf2, hf3, hf4⟩ := hf rfl
    clear hf
    have CD : Go.RowKit.Hid (∀ W, Below w1.heap.size w1 W → Calls Tryd.prog 8 #[.slice K n0 d0, .string s, .int .i64 n, .slice A N c] W (DerU (derL ks (labOf s) (ps.map (·.bs)) n) (derL ks (labOf s) (ps.map (·.bs)) n).length (derErr n0 (labOf s) n) W)) := Lib.hid (fun W h =>
      derive_u ks K n0 d0 HL.out hd0 hf2 s n ps A N c HN.out hf4 hf1 hf3 W ((HK1.out.below h).more h.size) (HP1.out.later h) (HV1.out.below h (Nat.le_refl _)))
    have CR : Go.RowKit.Hid (∀ W n, Below w1.heap.size w1 W → Calls Tryd.prog 9 #[.slice K n0 d0, .string s, .int .i64 n, .slice A N c] W (DerU (derL ks (labOf s) (ps.map (·.bs)) n) (derL ks (labOf s) (ps.map (·.bs)) n).length (derErr n0 (labOf s) n) W)) := Lib.hid (fun W n h =>
      rderive_u ks K n0 d0 HL.out HKD.out hf2 s n ps A N c HN.out hf4 hf1 HTN.out W ((HK1.out.below h).more h.size) (HP1.out.later h))
    have CR1 : Go.RowKit.Hid (∀ W, Below w1.heap.size w1 W → Calls Tryd.prog 9 #[.slice K n0 d0, .string s, .int .i64 n, .slice A N c] W (DerU (derL ks (labOf s) (ps.map (·.bs)) n) (derL ks (labOf s) (ps.map (·.bs)) n).length (derErr n0 (labOf s) n) W)) := Lib.hid (fun W h => CR.out W n h)
    have DLT := Lib.hid (derL_lt ks (labOf s) (ps.map (·.bs)) n)
    have hDLE := derL_le ks (labOf s) (ps.map (·.bs)) n
    have DLL : Go.RowKit.Hid ((derL ks (labOf s) (ps.map (·.bs)) n).length = (derL ks (labOf s) (ps.map (·.bs)) n).length) := Lib.hid rfl
    by_cases he : derErr n0 (labOf s) 64 = 0
    · as_aux_lemma =>
      have e1 : derL ks (labOf s) (ps.map (·.bs)) 64 = der ks (labOf s) (ps.map (·.bs)) 64 := by
        unfold derL; rw [HL.out, if_pos he]; rfl
      have e2 := length_der ks (labOf s) (ps.map (·.bs)) 64 (by omega)
      have CR2 : Go.RowKit.Hid (∀ W, Below w1.heap.size w1 W → Calls Tryd.prog 9 #[.slice K n0 d0, .string s, .int .i64 64, .slice A N c] W (DerU (der ks (labOf s) (ps.map (·.bs)) 64) 64 0 W)) := Lib.hid (fun W h => by
        have := CR.out W 64 h
        rw [e1, e2, he] at this
        exact this)
      have CP : Go.RowKit.Hid (∀ W, Below w1.heap.size w1 W → Calls Tryd.prog 10 #[.slice K n0 d0, .string s, .slice A N c] W (PairSome (der ks (labOf s) (ps.map (·.bs)) 64) W)) := Lib.hid (fun W h =>
        pair_some ks K n0 d0 HL.out hd0 hf2 s he ps A N c HN.out hf4 hf1 hf3 W ((HK1.out.below h).more h.size) (HP1.out.later h) (HV1.out.below h (Nat.le_refl _)))
      have LP := Lib.hid e2
      clear e1 e2 he CR hf1 hf2 hf3 hf4 HK1 HP1 HV1 HKD HTN HL HN hd0 hN2
      generalize der ks (labOf s) (ps.map (·.bs)) 64 = pl at *
      generalize derErr n0 (labOf s) n = x1 at *
      generalize derL ks (labOf s) (ps.map (·.bs)) n = dl at *
      generalize hm : dl.length = m at CD CR1 DLL hDLE
      have HM := Lib.hid hm
      clear hm DLL
      obtain ⟨c0, c1, c2, c3⟩ := CS.out w3 B3.out
      have C4 := Lib.hid (CD.out w3 B3.out)
      go_wp2_with fail
      refine C4.out.mono ?_
      rintro e w4 ⟨A4, d4, rfl, hd4, hy4, hB4⟩
      have B4 := Lib.hid (B3.out.trans (hB4.mono B3.out.size))
      have Y4 := Lib.hid hy4
      clear hB4 hy4 C4 CD B3 hd4 c0 c1 c2 c3
      obtain ⟨c0, c1, c2, c3⟩ := CS.out w4 B4.out
      have C5 := Lib.hid (CR1.out w4 B4.out)
      go_wp2_with fail
      refine C5.out.mono ?_
      rintro e w5 ⟨A5, d5, rfl, hd5, hy5, hB5⟩
      have B5 := Lib.hid (B4.out.trans (hB5.mono B4.out.size))
      have Y5 := Lib.hid hy5
      have Y4' := Lib.hid (Y4.out.later hB5)
      clear hB5 hy5 C5 CR1 B4 Y4 hd5 c0 c1 c2 c3
      obtain ⟨c0, c1, c2, c3⟩ := CS.out w5 B5.out
      have C6 := Lib.hid (CP.out w5 B5.out)
      go_wp2_with fail
      refine C6.out.mono ?_
      rintro e w6 ⟨A6, d6, A6', d6', rfl, hy6, hy6', hB6⟩
      have B6 := Lib.hid (B5.out.trans (hB6.mono B5.out.size))
      have Y6 := Lib.hid hy6
      have Y6' := Lib.hid hy6'
      have Z5 := Lib.hid (Y5.out.later hB6)
      have Z4 := Lib.hid (Y4'.out.later hB6)
      clear hB6 hy6 hy6' C6 CP B5 Y5 Y4' c0 c1 c2 c3
      obtain ⟨c0, c1, c2, c3⟩ := CS.out w6 B6.out
      have C7 := Lib.hid (CR2.out w6 B6.out)
      go_wp2_with fail
      refine C7.out.mono ?_
      rintro e w7 ⟨A7, d7, rfl, hd7, hy7, hB7⟩
      have B7 := Lib.hid (B6.out.trans (hB7.mono B6.out.size))
      have Y7 := Lib.hid hy7
      have Z6 := Lib.hid (Y6.out.later hB7)
      have Z6' := Lib.hid (Y6'.out.later hB7)
      have csm := same_any A4 A5 dl dl m m d4 d5 w7 HM.out HM.out (by omega) _ _ (Z4.out.later hB7) (Z5.out.later hB7)
      have ed : decide (dl = dl) = true := decide_eq_true rfl
      rw [ed] at csm
      have C8 := Lib.hid csm
      clear hB7 hy7 C7 CR2 B6 Y6 Y6' Z4 Z5 c0 c1 c2 c3 csm ed CS
      go_wp2_with fail
      refine C8.out.mono ?_
      rintro e w8 ⟨k8, rfl, rfl⟩
      clear C8
      have hs1 : ∀ W : World, (Instr.slice 22 (.slice A7 64 d7) none (some (.int .i64 32)) none).run Tryd.prog W = .ok (.slice (cutA A7 d7 0) 32 d7) W := fun W => run_cut_h A7 64 d7 32 (by omega) W
      have hs2 : ∀ W : World, (Instr.slice 22 (.slice A7 64 d7) (some (.int .i64 32)) none none).run Tryd.prog W = .ok (.slice (cutA A7 d7 32) 32 (d7 - 32)) W := fun W => run_cut_l A7 64 d7 32 (by omega) W
      have y1 : Bys w7 w7.heap.size (cutA A7 d7 0) (pl.take 32) := by
        have := bys_cut Y7.out d7 (by rw [LP.out]; exact hd7) 0 32 (by omega) (by rw [LP.out]; omega)
        rwa [List.drop_zero] at this
      have y2 : Bys w7 w7.heap.size (cutA A7 d7 32) (pl.drop 32) := by
        have := bys_cut Y7.out d7 (by rw [LP.out]; exact hd7) 32 64 (by omega) (by rw [LP.out]; omega)
        rwa [List.take_of_length_le (by rw [List.length_drop, LP.out]; omega)] at this
      have l1 : (pl.take 32).length = 32 := by rw [List.length_take, LP.out]; rfl
      have l2 : (pl.drop 32).length = 32 := by rw [List.length_drop, LP.out]
      have C9 : Go.RowKit.Hid (∀ k, Calls Tryd.prog 11 #[.slice A6 32 d6, .slice (cutA A7 d7 0) 32 d7] (w7.drewN k) (Ans true (w7.drewN k))) := Lib.hid (fun k => by
        have := same_any A6 (cutA A7 d7 0) (pl.take 32) (pl.take 32) 32 32 d6 d7 (w7.drewN k) l1 l1 (by omega) _ _ (Z6.out.drewN k) (y1.drewN k)
        rwa [decide_eq_true rfl] at this)
      have C10 : Go.RowKit.Hid (∀ k, Calls Tryd.prog 11 #[.slice A6' 32 d6', .slice (cutA A7 d7 32) 32 (d7 - 32)] (w7.drewN k) (Ans true (w7.drewN k))) := Lib.hid (fun k => by
        have := same_any A6' (cutA A7 d7 32) (pl.drop 32) (pl.drop 32) 32 32 d6' (d7 - 32) (w7.drewN k) l2 l2 (by omega) _ _ (Z6'.out.drewN k) (y2.drewN k)
        rwa [decide_eq_true rfl] at this)
      clear y1 y2 l1 l2 Z6 Z6' Y7 LP
      generalize cutA A7 d7 0 = P1 at *
      generalize cutA A7 d7 32 = P2 at *
      go_wp2_with fail
      refine (C9.out _).mono ?_
      rintro e w9 ⟨k9, rfl, rfl⟩
      rw [World.drewN_drewN]
      go_wp2_with fail
      refine (C10.out _).mono ?_
      rintro e w10 ⟨k10, rfl, rfl⟩
      rw [World.drewN_drewN]
      go_wp2_with fail
      go_ret
      exact ⟨rfl, B1.out.trans ((below_drewN B7.out _).mono (by rw [S1.out]; omega))⟩
    · as_aux_lemma =>
      obtain ⟨x2, ex2⟩ : ∃ x2, derErr n0 (labOf s) 64 = x2 := ⟨_, rfl⟩
      have hx2 : x2 ≠ 0 := by rw [← ex2]; exact he
      have e1 : derL ks (labOf s) (ps.map (·.bs)) 64 = [] := by unfold derL; rw [HL.out, if_neg he]
      have CR2 : Go.RowKit.Hid (∀ W, Below w1.heap.size w1 W → Calls Tryd.prog 9 #[.slice K n0 d0, .string s, .int .i64 64, .slice A N c] W (DerU [] 0 x2 W)) := Lib.hid (fun W h => by
        have := CR.out W 64 h
        rw [e1, ex2] at this
        exact this)
      have CP : Go.RowKit.Hid (∀ W, Calls Tryd.prog 10 #[.slice K n0 d0, .string s, .slice A N c] W (PairNone x2 W)) := Lib.hid (fun W => pair_none K n0 d0 s A N c x2 ex2 hx2 W)
      have tx : ((x2 : Int) != 0) = true := by rw [bne_iff_ne]; omega
      clear e1 ex2 hx2 he CR hf1 hf2 hf3 hf4 HK1 HP1 HV1 HKD HTN HL HN hd0 hN2
      generalize derErr n0 (labOf s) n = x1 at *
      generalize derL ks (labOf s) (ps.map (·.bs)) n = dl at *
      generalize hm : dl.length = m at CD CR1 DLL hDLE
      have HM := Lib.hid hm
      clear hm DLL
      obtain ⟨c0, c1, c2, c3⟩ := CS.out w3 B3.out
      have C4 := Lib.hid (CD.out w3 B3.out)
      go_wp2_with fail
      refine C4.out.mono ?_
      rintro e w4 ⟨A4, d4, rfl, hd4, hy4, hB4⟩
      have B4 := Lib.hid (B3.out.trans (hB4.mono B3.out.size))
      have Y4 := Lib.hid hy4
      clear hB4 hy4 C4 CD B3 hd4 c0 c1 c2 c3
      obtain ⟨c0, c1, c2, c3⟩ := CS.out w4 B4.out
      have C5 := Lib.hid (CR1.out w4 B4.out)
      go_wp2_with fail
      refine C5.out.mono ?_
      rintro e w5 ⟨A5, d5, rfl, hd5, hy5, hB5⟩
      have B5 := Lib.hid (B4.out.trans (hB5.mono B4.out.size))
      have Y5 := Lib.hid hy5
      have Y4' := Lib.hid (Y4.out.later hB5)
      clear hB5 hy5 C5 CR1 B4 Y4 hd5 c0 c1 c2 c3
      obtain ⟨c0, c1, c2, c3⟩ := CS.out w5 B5.out
      have C6 := Lib.hid (CP.out w5)
      go_wp2_with fail
      refine C6.out.mono ?_
      rintro e w6 ⟨rfl, rfl⟩
      clear C6 CP
      have C7 := Lib.hid (CR2.out w5 B5.out)
      go_wp2_with fail
      refine C7.out.mono ?_
      rintro e w7 ⟨A7, d7, rfl, hd7, hy7, hB7⟩
      have B7 := Lib.hid (B5.out.trans (hB7.mono B5.out.size))
      have csm := same_any A4 A5 dl dl m m d4 d5 w7 HM.out HM.out (by omega) _ _ (Y4'.out.later hB7) (Y5.out.later hB7)
      have ed : decide (dl = dl) = true := decide_eq_true rfl
      rw [ed] at csm
      have C8 := Lib.hid csm
      clear hB7 hy7 hd7 C7 CR2 B5 Y5 Y4' c0 c1 c2 c3 csm ed CS
      go_wp2_with fail
      refine C8.out.mono ?_
      rintro e w8 ⟨k8, rfl, rfl⟩
      clear C8
      go_wp2_with fail
      go_ret
      exact ⟨rfl, B1.out.trans ((below_drewN B7.out _).mono (by rw [S1.out]; omega))⟩
end Go.Proofs.YtihpjkidoingfaaDoor
