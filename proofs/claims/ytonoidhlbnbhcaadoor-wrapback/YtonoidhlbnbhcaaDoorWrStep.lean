/-
  Contracts of wrap.stepOn and wrap.stepBack: all steps on, and all steps back. Conditions: the cipher and the text lie in their blocks, the table of widths in its variable. (Written by tools/gen_step.py.)
-/
import Derived.Test.YtonoidhlbnbhcaaDoorWrBlock
import Derived.Test.YtonoidhlbnbhcaaDoorAesDec
import Derived.ScopeJumps
import Derived.WalkMore
namespace Go.Proofs.YtonoidhlbnbhcaaDoor
open Go.RowKit Arr Gf Sb Ae Wr

/-- A scope whose head runs to the label: what holds at the label, whether it is come to or jumped to. -/
theorem wp_scope_head {P : Program} {head rest : Code} {Q : Exit → Act → World → Prop} {a : Act} {w : World} (l : Nat) (J : Act → World → Prop) (μ : Act → World → Nat) (hf : findLabel (head.seq ((Code.label l).seq rest)) l = some (Code.skip.seq rest))
    (first : ∀ K : Act → World → Prop, (∀ a w, J a w → K a w) → head.wp P (Exit.then K (Exit.jump l J Q)) a w)
    (pass : ∀ a w, J a w → rest.wp P (Exit.jump l (fun a' w' => J a' w' ∧ μ a' w' < μ a w) Q) a w) : (Code.scope (head.seq ((Code.label l).seq rest))).wp P Q a w := by
  refine wp_scope_jumps l J μ hf (wp_seq (first _ fun a w hJ => wp_seq (wp_label ?_))) (fun a w hJ => wp_seq (wp_skip (pass a w hJ)))
  show rest.wp P (Exit.jump l J Q) a w
  refine Code.wp_mono (fun e a' w' h => ?_) (pass a w hJ)
  cases e with
  | goto l' => exact ⟨h.1, h.2.1⟩
  | normal => exact h
  | exit id => exact h
  | ret => exact h
  | panic ch => exact h
  | outgrown => exact h

theorem Ciph.only {w w' : World} {g gc r : Nat} {K : List Nat} (h : Ciph w gc r K) (hb : Only g w w') (hg : gc ≠ g) : Ciph w' gc r K :=
  ⟨(hb.cell (p := ⟨gc, 0, none⟩) h.lt hg).trans h.rounds, h.len, HAt.only h.keys hb h.lt hg, HAt.only h.box hb h.lt hg, HAt.only h.back hb h.lt hg, HAt.only h.twice hb h.lt hg⟩

/-- What stands while steps are gone. -/
structure Sp (w : World) (gc r : Nat) (K : List Nat) (g : Nat) (l : List Nat) (w' : World) : Prop where
  text : Holds w' g .u8 l
  ciph : Ciph w' gc r K
  tab : Tab w' 0
  only : Only g w w'
theorem Sp.later {w w' w'' : World} {gc r g : Nat} {K l : List Nat} (h : Sp w gc r K g l w') (hl : 0 < l.length) (hb : Below w'.heap.size w' w'') : Sp w gc r K g l w'' :=
  ⟨h.text.below hb (h.text.lt hl), h.ciph.below hb h.ciph.lt, h.tab.below hb h.tab.lt, h.only.trans (Only.of hb)⟩
theorem Sp.turned {w w' w'' : World} {gc r g : Nat} {K l m : List Nat} (h : Sp w gc r K g l w') (hg : gc ≠ g) (ht : 0 ≠ g) (hm : Holds w'' g .u8 m) (hb : Only g w' w'') : Sp w gc r K g m w'' :=
  ⟨hm, h.ciph.only hb hg, h.tab.only hb ht, h.only.trans hb⟩

section
variable {r : Nat} {K : List Nat}
set_option maxHeartbeats 2000000 in
theorem stepOn_any (hr : 1 ≤ r) (hr' : r ≤ 14) (hK : Keys r K) (gc g N c n : Nat) (l : List Nat) (hl : Tx n l) (hn0 : 0 < n) (hn : n ≤ 8) (hN : N = 8 * (n + 1)) (hc : N ≤ c) (hgc : gc ≠ g) (hgt : 0 ≠ g) (w : World) (h0 : Sp w gc r K g l w) :
    Calls Tryd.prog 16 #[.pointer (some ⟨gc, 0, none⟩), .slice (some ⟨g, 0, none⟩) N c] w (Turned g (wrp (enc r K) n l (6 * n)) w) := by
  have CS := Lib.hid (fun w' => steps_any (some ⟨g, 0, none⟩) N c n hN hn w')
  have CPl := Lib.hid (fun w' t h1 h2 => place_any (some ⟨g, 0, none⟩) N c n t hN hn hn0 h1 h2 w')
  have CJ := Lib.hid (fun o l' h1 h2 w' h => joined_any g N c n o l' h1 hN hc h2 w' h)
  have CE := Lib.hid (fun b hb w' h => encrypt_any gc r hr hr' K b hK hb w' h)
  have CC := Lib.hid (fun b t h1 h2 w' h => counted_any b t h1 h2 w' h)
  have CL := Lib.hid (fun o l' b h1 h2 h3 w' h => lay_any g N c n o l' b h1 hN hc h2 h3 w' h)
  have HTx := Lib.hid (fun k => tx_wrp (f := enc r K) (fun b hb => st_enc hK hb) hn0 hl k)
  have HST := Lib.hid (fun b (hb : St b) => st_enc hK hb)
  have H0 := Lib.hid h0
  have HPL := Lib.hid (fun t => pl_le (n := n) t hn0)
  have hl1 := hl.1
  clear hN hl h0 hK hl1
  obtain ⟨q, hq⟩ : ∃ q, q = 6 * n := ⟨_, rfl⟩
  have hq1 : q ≤ 48 := by omega
  rw [← hq] at CS ⊢
  clear hq
  go_enter Tryd.func16, Tryd.ntmps16
  go_wp2
  go_loopw [4] (fun i wr => ∃ t k : Nat, t = k + 1 ∧ k ≤ q ∧ i = .int .i64 (t : Nat) ∧ Sp w gc r K g (wrp (enc r K) n l k) wr) (fun i _ => q + 1 - (intOf i).toNat)
  case atStart => exact ⟨1, 0, rfl, by omega, rfl, H0.out⟩
  case round =>
    clear H0
    obtain ⟨t, k, htk, hk, rfl, h1⟩ := hrel
    have HTK := Lib.hid htk
    by_cases hlt : k < q
    · have tt : decide ((t : Int) ≤ (q : Int)) = true := by simp only [decide_eq_true_eq]; omega
      have tt2 : decide (t ≤ q) = true := by simp only [decide_eq_true_eq]; omega
      have ti : t ≤ q := by omega
      have w1 : IntKind.i64.wrap ((t : Int) + 1) = (t : Int) + 1 := by rw [IntKind.wrap_i64]; omega
      have ht1 : 1 ≤ t := by omega
      have ht2 : t ≤ 100 := by omega
      have HE := Lib.hid (show wrp (enc r K) n l t = stp (enc r K) n (wrp (enc r K) n l k) t by subst htk; rfl)
      have HX := HTx.out k
      generalize wrp (enc r K) n l k = L at *
      have H1 := Lib.hid h1
      have HL := Lib.hid HX
      have hL0 := Lib.hid (show 0 < L.length by have := HX.1; omega)
      have hL1 := Lib.hid HX.1
      have s0 := st_jn HX.2 (pl n t)
      have s1 := HST.out _ s0
      have s2 := st_ct s1 t
      have HF := Lib.hid (show stp (enc r K) n L t = ly L (pl n t) (ct (enc r K (jn L (pl n t))) t) from rfl)
      have S0 := Lib.hid s0
      have S1 := Lib.hid s1
      have S2 := Lib.hid s2
      have HPt := Lib.hid (HPL.out t)
      have CPt := Lib.hid (fun w' => CPl.out w' t ht1 ht2)
      clear htk h1 HX s0 s1 s2 CPl HPL HST HTx
      generalize pl n t = o at *
      go_wp2_with fail
      refine (CS.out _).mono ?_
      rintro e w2 ⟨rfl, rfl⟩
      go_wp2_with fail
      refine (CPt.out _).mono ?_
      rintro e w2 ⟨rfl, rfl⟩
      go_wp2_with fail
      refine (CJ.out o L HL.out HPt.out wr H1.out.text).mono ?_
      rintro e w2 ⟨rfl, hb2⟩
      have H2 := Lib.hid (H1.out.later hL0.out hb2)
      clear hb2 H1 CJ
      generalize jn L o = b1 at *
      go_wp2_with fail
      refine (CE.out b1 S0.out w2 H2.out.ciph).mono ?_
      rintro e w3 ⟨rfl, hb3⟩
      have H3 := Lib.hid (H2.out.later hL0.out hb3)
      clear hb3 H2 CE
      generalize enc r K b1 = b2 at *
      go_wp2_with fail
      refine (CC.out b2 t S1.out ht2 w3 H3.out.tab).mono ?_
      rintro e w4 ⟨rfl, hb4⟩
      have H4 := Lib.hid (H3.out.later hL0.out hb4)
      clear hb4 H3 CC
      generalize ct b2 t = b3 at *
      go_wp2_with fail
      refine (CL.out o L b3 hL1.out HPt.out S2.out.1 w4 H4.out.text).mono ?_
      rintro e w5 ⟨rfl, hh5, ho5⟩
      have H5 := Lib.hid (H4.out.turned hgc hgt hh5 ho5)
      rw [← HF.out, ← HE.out] at H5
      clear hh5 ho5 H4 CL HF HE
      go_wp2
      go_roundw
      case rel => exact ⟨t + 1, t, rfl, by have := HTK.out; omega, by go_num, H5.out⟩
      case measure => simp [intOf]; have := HTK.out; omega
    · obtain rfl : k = q := by omega
      have tt : decide ((t : Int) ≤ (k : Int)) = false := by simp only [decide_eq_false_iff_not]; omega
      have tt2 : decide (t ≤ k) = false := by simp only [decide_eq_false_iff_not]; omega
      have H1 := Lib.hid h1
      clear htk h1 HTx
      generalize wrp (enc r K) n l k = L at *
      go_wp2_with fail
      refine (CS.out _).mono ?_
      rintro e w2 ⟨rfl, rfl⟩
      go_wp2
      go_end0
      exact ⟨rfl, H1.out.text, H1.out.only⟩

set_option maxHeartbeats 2000000 in
theorem stepBack_any (hr : 1 ≤ r) (hr' : r ≤ 14) (hK : Keys r K) (gc g N c n : Nat) (l : List Nat) (hl : Tx n l) (hn0 : 0 < n) (hn : n ≤ 8) (hN : N = 8 * (n + 1)) (hc : N ≤ c) (hgc : gc ≠ g) (hgt : 0 ≠ g) (w : World) (h0 : Sp w gc r K g l w) :
    Calls Tryd.prog 21 #[.pointer (some ⟨gc, 0, none⟩), .slice (some ⟨g, 0, none⟩) N c] w (Turned g (ubk (dec r K) n l (6 * n)) w) := by
  have CS := Lib.hid (fun w' => steps_any (some ⟨g, 0, none⟩) N c n hN hn w')
  have CPl := Lib.hid (fun w' t h1 h2 => place_any (some ⟨g, 0, none⟩) N c n t hN hn hn0 h1 h2 w')
  have CJ := Lib.hid (fun o l' h1 h2 w' h => joined_any g N c n o l' h1 hN hc h2 w' h)
  have CE := Lib.hid (fun b hb w' h => decrypt_any gc r hr hr' K b hK hb w' h)
  have CC := Lib.hid (fun b t h1 h2 w' h => counted_any b t h1 h2 w' h)
  have CL := Lib.hid (fun o l' b h1 h2 h3 w' h => lay_any g N c n o l' b h1 hN hc h2 h3 w' h)
  have HTx := Lib.hid (fun L t (h : Tx n L) => tx_bck (g := dec r K) (fun b hb => st_dec hK hb) hn0 h t)
  have HST := Lib.hid (fun b (hb : St b) => st_dec hK hb)
  have H0 := Lib.hid h0
  have HPL := Lib.hid (fun t => pl_le (n := n) t hn0)
  have HLL := Lib.hid hl
  clear hN hl h0 hK
  obtain ⟨q, hq⟩ : ∃ q, q = 6 * n := ⟨_, rfl⟩
  have hq0 : 0 < q := by omega
  have hq1 : q ≤ 48 := by omega
  rw [← hq] at CS ⊢
  clear hq
  obtain ⟨fin, hfin⟩ : ∃ fin, fin = ubk (dec r K) n l q := ⟨_, rfl⟩
  rw [← hfin]
  have HFIN := Lib.hid hfin
  clear hfin
  go_enter Tryd.func21, Tryd.ntmps21
  refine wp_scope_head 0 (fun a' w' => ∃ (t k : Nat) (L : List Nat), t = k + 1 ∧ t ≤ q ∧ Tx n L ∧ ubk (dec r K) n L t = fin ∧ Sp w gc r K g L w' ∧ ∃ u2 u3 u5 u6 u7 u8 u9 u10 u11 u12 u13 u14 u15 u16 u17 u18 u19 u20 u21 u22 u23 u24 : Value, a' = { tmps := #[.pointer (some ⟨gc, 0, none⟩), .slice (some ⟨g, 0, none⟩) N c, u2, u3, .int .i64 (t : Int), u5, u6, u7, u8, u9, u10, u11, u12, u13, u14, u15, u16, u17, u18, u19, u20, u21, u22, u23, u24], defers := [] }) (fun a' _ => (intOf (a'.tmps.getD 4 undef)).toNat) rfl ?_ ?_
  · intro KK hKK
    have HKK := Lib.hid hKK
    clear hKK
    go_wp2_with fail
    refine (CS.out _).mono ?_
    rintro e w2 ⟨rfl, rfl⟩
    go_wp2
    exact HKK.out _ _ ⟨q, q - 1, l, by omega, Nat.le_refl _, HLL.out, HFIN.out.symm, H0.out, _, _, _, _, _, _, _, _, _, _, _, _, _, _, _, _, _, _, _, _, _, _, rfl⟩
  · clear H0 HLL HFIN CS
    rintro a' w1 ⟨t, k, L, htk, htq, HX, hfi, h1, u2, u3, u5, u6, u7, u8, u9, u10, u11, u12, u13, u14, u15, u16, u17, u18, u19, u20, u21, u22, u23, u24, rfl⟩
    have w1' : IntKind.i64.wrap ((t : Int) - 1) = (k : Int) := by rw [IntKind.wrap_i64]; omega
    have w1'' : (t : Int) - 1 = (k : Int) := by omega
    have ht1 : 1 ≤ t := by omega
    have ht2 : t ≤ 100 := by omega
    have HE := Lib.hid (show ubk (dec r K) n (bck (dec r K) n L t) k = fin by subst htk; exact hfi)
    have HXB := Lib.hid (HTx.out L t HX)
    have H1 := Lib.hid h1
    have HL := Lib.hid HX
    have HTK := Lib.hid htk
    have hL0 := Lib.hid (show 0 < L.length by have := HX.1; omega)
    have hL1 := Lib.hid HX.1
    have s0 := st_jn HX.2 (pl n t)
    have s1 := st_ct s0 t
    have s2 := HST.out _ s1
    have HF := Lib.hid (show bck (dec r K) n L t = ly L (pl n t) (dec r K (ct (jn L (pl n t)) t)) from rfl)
    have S0 := Lib.hid s0
    have S1 := Lib.hid s1
    have S2 := Lib.hid s2
    have HPt := Lib.hid (HPL.out t)
    have CPt := Lib.hid (fun w' => CPl.out w' t ht1 ht2)
    clear hfi h1 HX s0 s1 s2 CPl HPL HST HTx htk
    generalize pl n t = o at *
    go_wp2_with fail
    refine (CPt.out _).mono ?_
    rintro e w2 ⟨rfl, rfl⟩
    go_wp2_with fail
    refine (CJ.out o L HL.out HPt.out w1 H1.out.text).mono ?_
    rintro e w2 ⟨rfl, hb2⟩
    have H2 := Lib.hid (H1.out.later hL0.out hb2)
    clear hb2 H1 CJ
    generalize jn L o = b1 at *
    go_wp2_with fail
    refine (CC.out b1 t S0.out ht2 w2 H2.out.tab).mono ?_
    rintro e w3 ⟨rfl, hb3⟩
    have H3 := Lib.hid (H2.out.later hL0.out hb3)
    clear hb3 H2 CC
    generalize ct b1 t = b2 at *
    go_wp2_with fail
    refine (CE.out b2 S1.out w3 H3.out.ciph).mono ?_
    rintro e w4 ⟨rfl, hb4⟩
    have H4 := Lib.hid (H3.out.later hL0.out hb4)
    clear hb4 H3 CE
    generalize dec r K b2 = b3 at *
    go_wp2_with fail
    refine (CL.out o L b3 hL1.out HPt.out S2.out.1 w4 H4.out.text).mono ?_
    rintro e w5 ⟨rfl, hh5, ho5⟩
    have H5 := Lib.hid (H4.out.turned hgc hgt hh5 ho5)
    rw [← HF.out] at H5
    clear hh5 ho5 H4 CL HF
    generalize bck (dec r K) n L t = M at *
    by_cases hk : 0 < k
    · have tt : decide ((t : Int) > 1) = true := by simp only [decide_eq_true_eq]; have := HTK.out; omega
      have tt3 : decide (1 < t) = true := by simp only [decide_eq_true_eq]; have := HTK.out; omega
      have tt2 : decide (1 < (t : Int)) = true := by simp only [decide_eq_true_eq]; have := HTK.out; omega
      have ti : 1 < (t : Int) := by have := HTK.out; omega
      go_wp2
      go_step3
      refine ⟨rfl, ⟨k, k - 1, M, by omega, by have := HTK.out; omega, HXB.out, HE.out, H5.out, _, _, _, _, _, _, _, _, _, _, _, _, _, _, _, _, _, _, _, _, _, _, rfl⟩, ?_⟩
      have := HTK.out
      simp [intOf]
      omega
    · have tt : decide ((t : Int) > 1) = false := by simp only [decide_eq_false_iff_not]; have := HTK.out; omega
      have tt3 : decide (1 < t) = false := by simp only [decide_eq_false_iff_not]; have := HTK.out; omega
      have tt2 : decide (1 < (t : Int)) = false := by simp only [decide_eq_false_iff_not]; have := HTK.out; omega
      have ti : ¬ 1 < (t : Int) := by have := HTK.out; omega
      obtain rfl : k = 0 := by omega
      have HM := Lib.hid (show M = fin from HE.out)
      rw [HM.out] at H5
      clear w1' w1''
      go_wp2
      try simp only [Exit.jump]
      go_end0
      exact ⟨rfl, H5.out.text, H5.out.only⟩
end
end Go.Proofs.YtonoidhlbnbhcaaDoor
