/-
  The walk of KdfSame. Conditions: the tables stand in their variables; what came in lies below, in its slices.
-/
import Derived.Test.YtihpjkidoingfaaDoorKdAsk
namespace Go.Proofs.YtihpjkidoingfaaDoor
open Go.RowKit Arr Sh Hm Kd

set_option maxHeartbeats 2000000 in
theorem same_walk (ks : List Nat) (K : Option Addr) (n0 d0 : Nat) (hl : ks.length = n0) (hd0 : n0 ≤ d0) (s : ByteArray) (n : Int) (ps : List Pt) (A : Option Addr) (N c : Nat) (hN : ps.length = N) (hN2 : N ≤ 9223372036854775807) (w : World) (hv : VarsS w)
    (hb : Bys w w.heap.size K ks) (hp : Parts w w.heap.size A ps) :
    Calls Tryd.prog 5 #[.agg #[.slice K n0 d0, .string s, .int .i64 n, .slice A N c]] w (True' w) := by
  have b1 := below_alloc w (.cells #[.slice K n0 d0, .string s, .int .i64 n, .slice A N c] 25)
  have s1 : (w.alloc (.cells #[.slice K n0 d0, .string s, .int .i64 n, .slice A N c] 25)).heap.size = w.heap.size + 1 := World.size_alloc ..
  have HW1 := Lib.hid (HV.new w 25 [.slice K n0 d0, .string s, .int .i64 n, .slice A N c])
  have HA := Lib.hid (awake_kdf _ (hv.below b1 (Nat.le_refl _)))
  have HV1 := Lib.hid (hv.below b1 (Nat.le_refl _))
  have HK1 := Lib.hid ((hb.below b1).more b1.size)
  have HP1 := Lib.hid (hp.later b1)
  have B1 := Lib.hid b1
  have S1 := Lib.hid s1
  have HL := Lib.hid hl
  have HN := Lib.hid hN
  clear b1 s1 hv hb hp hl hN
  go_enter Tryd.func5, Tryd.ntmps5
  go_upto_region 1 with fail
  generalize w.alloc (.cells #[.slice K n0 d0, .string s, .int .i64 n, .slice A N c] 25) = w1 at *
  go_wp2_with fail
  refine HA.out.mono ?_
  rintro e w2 ⟨rfl, hB2⟩
  have B2 := Lib.hid hB2
  have CS : Go.RowKit.Hid (∀ W, Below w1.heap.size w1 W → W.cell? ⟨w.heap.size, 0, none⟩ = some (.slice K n0 d0) ∧ W.cell? ⟨w.heap.size, 1, none⟩ = some (.string s) ∧ W.cell? ⟨w.heap.size, 2, none⟩ = some (.int .i64 n) ∧ W.cell? ⟨w.heap.size, 3, none⟩ = some (.slice A N c)) := Lib.hid (fun W h => by
    have hw := HW1.out.below h (by rw [S1.out]; omega)
    exact ⟨hw.cell 0 _ rfl, hw.cell 1 _ rfl, hw.cell 2 _ rfl, hw.cell 3 _ rfl⟩)
  obtain ⟨c0, c1, c2, c3⟩ := CS.out w2 hB2
  have CF := Lib.hid (few_any K n0 d0 s n ps A N c HN.out hN2 w2 (HP1.out.later hB2))
  clear HA hB2 HW1
  go_wp2_with fail
  refine CF.out.mono ?_
  rintro e w3 ⟨b, rfl, hB3, hf⟩
  have B3 := Lib.hid (B2.out.trans (hB3.mono B2.out.size))
  clear hB3 CF B2 c0 c1 c2 c3
  cases b with
  | false =>
    clear hf
    go_wp2
    go_ret
    exact ⟨rfl, B1.out.trans (B3.out.mono (by rw [S1.out]; omega))⟩
  | true =>
    obtain ⟨hf1, hf2, hf3, hf4⟩ := hf rfl
    clear hf
    have HF1 := Lib.hid hf1
    have HF2 := Lib.hid hf2
    have HF4 := Lib.hid hf4
    obtain ⟨c0, c1, c2, c3⟩ := CS.out w3 B3.out
    clear hf1 hf2 hf4
    by_cases he : derErr n0 (labOf s) n = 0
    · as_aux_lemma =>
      obtain ⟨h1, h2, h3, h4, h5⟩ := derErr_zero he
      obtain ⟨m, rfl⟩ := Int.eq_ofNat_of_zero_le (show 0 ≤ n by omega)
      have hm1 : 1 ≤ m := by omega
      have hm2 : m ≤ 128 := by omega
      rw [length_labOf] at h4
      have CD : Go.RowKit.Hid (∀ W, Below w1.heap.size w1 W → Calls Tryd.prog 8 #[.slice K n0 d0, .string s, .int .i64 (m : Int), .slice A N c] W (DeriveSome (der ks (labOf s) (ps.map (·.bs)) m) m W)) := Lib.hid (fun W h => by
        have hc8 := HF4.out
        have hk1 := HF2.out
        have hcx := length_ctx_le (ps.map (·.bs)) (fun i hi => by have hi' : i < ps.length := by simpa using hi
                                                                  have := HF1.out i hi'; simpa using this)
        rw [List.length_map, HN.out] at hcx
        exact derive_some ks K n0 d0 HL.out hd0 (by omega) s m he ps A N c HN.out (by omega) (fun i hi => by have := HF1.out i hi; omega) (by omega) W ((HK1.out.below h).more h.size) (HP1.out.later h) (HV1.out.below h (Nat.le_refl _)))
      have LD := Lib.hid (length_der ks (labOf s) (ps.map (·.bs)) m hm2)
      have LT := Lib.hid (der_lt ks (labOf s) (ps.map (·.bs)) m)
      have CD1 := Lib.hid (CD.out w3 B3.out)
      clear h1 h2 h3 h4 h5 he HF1 HF2 HF4 HK1 HP1 HV1 HN HL
      generalize der ks (labOf s) (ps.map (·.bs)) m = dl at *
      go_wp2_with fail
      refine CD1.out.mono ?_
      rintro e w4 ⟨g, rfl, hg, hH, hB4⟩
      have B4 := Lib.hid (B3.out.trans (hB4.mono B3.out.size))
      have hgl : g < w4.heap.size := hH.lt (by rw [LD.out]; omega)
      have HH := Lib.hid hH
      have hgw : w1.heap.size ≤ g := Nat.le_trans B3.out.size hg
      clear CD1 hH hB4 hg c0 c1 c2 c3 B3
      go_wp2_with (at_builtin; refine append_bys rfl (.tmp 31) (.tmp 32) 22 rfl w4.heap.size 5 Tryd.underlying22 info_u8 (.slice (some ⟨w4.heap.size, 0, none⟩) 0 0) 0 [] rfl (empty_owns w4) (some ⟨g, 0, none⟩) m m dl rfl (fun h => by cases h) LD.out w4.heap.size ((bys_of_holds HH.out LT.out).below ((Below.refl _ _).alloc (Nat.le_refl _) _)) (by omega) (by simp) (by simp) ?_; intro v' w5 hown hv5 hbel5)
      rw [List.nil_append, Nat.zero_add] at hown
      obtain ⟨A5, c5, rfl, hy5⟩ := own_beside (g := g) hown LT.out hgl
      have hb45 := ((Below.refl w4.heap.size w4).alloc (Nat.le_refl _) (.cells #[] 5)).trans hbel5
      have HY5 := Lib.hid hy5
      have HH5 := Lib.hid (HH.out.below hb45 hgl)
      have B5 := Lib.hid (B4.out.trans (hb45.mono B4.out.size))
      clear hown hv5 hbel5 hy5 hb45 HH B4 hgl
      go_wp2_with fail
      go_loopw [36] (fun i wr => ∃ (k : Nat) (x : List Nat), k ≤ m ∧ i = .int .i64 k ∧ x.length = m ∧ Holds wr g .u8 x ∧ Only g w5 wr) (fun i _ => m - (intOf i).toNat)
      case atStart => exact ⟨0, dl, Nat.zero_le _, rfl, LD.out, HH5.out, Only.refl _ _⟩
      case round =>
        obtain ⟨k, x, hk, rfl, hxl, hhx, hox⟩ := hrel
        have HX := Lib.hid hxl; clear hxl
        have HHX := Lib.hid hhx; clear hhx
        have HOX := Lib.hid hox; clear hox
        by_cases hlt : k < m
        · have hcell := HHX.out.cell k (by rw [HX.out]; exact hlt)
          have hfro := HHX.out.frozen k (by rw [HX.out]; exact hlt)
          generalize x.getD k 0 = y at *
          have hwy : IntKind.u8.wrap ((y : Int) + 1) = (((y + 1) % 256 : Nat) : Int) := by rw [IntKind.wrap_u8]; omega
          have HST := Lib.hid (HHX.out.set k ((y + 1) % 256) (by rw [HX.out]; exact hlt))
          have HSO := Lib.hid (HOX.out.setCell k (.int .u8 (((y + 1) % 256 : Nat) : Int)))
          generalize (y + 1) % 256 = z at *
          go_wp2
          go_roundw
          case rel => exact ⟨k + 1, x.set k z, by omega, by go_num, by rw [List.length_set]; exact HX.out, HST.out, HSO.out⟩
          case measure => simp [intOf]; omega
        · obtain rfl : k = m := by omega
          have h15 := B5.out.size
          have B6 := Lib.hid (B5.out.trans (HOX.out.below hgw h15))
          have HY6 := Lib.hid ((HY5.out.only HOX.out).bys)
          obtain ⟨c0, c1, c2, c3⟩ := CS.out wr B6.out
          have CD2 := Lib.hid (CD.out wr B6.out)
          clear HY5 HOX HHX HX CD h15 HH5
          go_wp2_with fail
          refine CD2.out.mono ?_
          rintro e w7 ⟨g7, rfl, hg7, hH7, hB7⟩
          have B7 := Lib.hid (B6.out.trans (hB7.mono B6.out.size))
          have hy7 := HY6.out.later hB7
          have CSM := Lib.hid (same_any (some ⟨g7, 0, none⟩) A5 dl dl k k k c5 w7 LD.out LD.out (by omega) _ _ (bys_of_holds hH7 LT.out) hy7)
          have e1 : decide (dl = dl) = true := decide_eq_true rfl
          rw [e1] at CSM
          clear c0 c1 c2 c3 CD2 hg7 hH7 hB7 hy7 HY6 B6
          obtain ⟨c0, c1, c2, c3⟩ := CS.out w7 B7.out
          clear c0 c1 c3 CS
          go_wp2_with fail
          refine CSM.out.mono ?_
          rintro e w8 ⟨q, rfl, rfl⟩
          go_wp2_with fail
          go_ret
          exact ⟨rfl, B1.out.trans ((below_drewN B7.out q).mono (by rw [S1.out]; omega))⟩
    · as_aux_lemma =>
      obtain ⟨x, ex⟩ : ∃ x, derErr n0 (labOf s) n = x := ⟨_, rfl⟩
      have CD := Lib.hid (derive_none K n0 d0 s n A N c x ex (by rw [← ex]; exact he) w3)
      have tx : ((x : Int) != 0) = true := by rw [bne_iff_ne]; omega
      clear he ex HF1 HF2 HF4 HK1 HP1 HV1 CS HL HN
      go_wp2_with fail
      refine CD.out.mono ?_
      rintro e w4 ⟨rfl, rfl⟩
      go_wp2_with fail
      go_ret
      exact ⟨rfl, B1.out.trans (B3.out.mono (by rw [S1.out]; omega))⟩
end Go.Proofs.YtihpjkidoingfaaDoor
