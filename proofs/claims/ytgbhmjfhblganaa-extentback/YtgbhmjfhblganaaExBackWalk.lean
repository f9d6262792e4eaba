/-
  The walk of the law ExtentBack. Condition: the slices hold their extents.
-/
import Derived.Test.YtgbhmjfhblganaaExLess
import Derived.Test.YtgbhmjfhblganaaExAwake
import Derived.Test.YtgbhmjfhblganaaExFew
namespace Go.Proofs.Ytgbhmjfhblganaa
open Go.RowKit Arr Ex

theorem right_chain {l : List (Int × Int)} (h : right l = true) : chain l = true := by
  obtain ⟨h1, h2⟩ := (right_iff l).1 h
  exact (chain_iff l).2 ⟨h1, gap_dis h2⟩
theorem totC_right {l : List (Int × Int)} (h : right l = true) : totC l = total l := by unfold totC; rw [if_pos (right_chain h)]
theorem right_i64 {l : List (Int × Int)} (h : right l = true) : ∀ x, x ∈ l → I64 x := fun x hx => i64_may (((right_iff l).1 h).1 x hx)
theorem joins_right {a b : List (Int × Int)} (h : joins a b = true) : right a = true ∧ right b = true := by
  unfold joins at h
  simp only [Bool.and_eq_true] at h
  exact h.1
/-- What is joined and taken away again. -/
theorem less_back {a b x : List (Int × Int)} (h : joins a b = true) (hx : right x = true) (hm : ∀ u, Mem u x ↔ Mem u a ∨ Mem u b) : lessOk x a = true ∧ lessL x a = b := by
  obtain ⟨ha, hb⟩ := joins_right h
  have hd := (joins_iff ha hb).1 h
  obtain ⟨l1, l2⟩ := less_spec hx ha
  have ok := l1.2 (fun u hu => (hm u).2 (.inl hu))
  obtain ⟨r, hr⟩ := l2 ok
  refine ⟨ok, right_ext' r hb fun u => ?_⟩
  rw [hr, hm]
  exact ⟨fun ⟨q, n⟩ => q.elim (fun h => absurd h n) id, fun q => ⟨.inr q, fun h => hd u h q⟩⟩
/-- The law answers true, and what was there is as it was. -/
def TrueB (w : World) (e : Ending) (w' : World) : Prop := e = .returned (.bool true) ∧ Below w.heap.size w w'
theorem pes (w : World) (A0 A1 : Option Addr) (n0 c0 n1 c1 : Nat) (a b : List (Int × Int)) (h0 : a.length = n0) (h1 : b.length = n1) :
    ∀ (i : Nat) (p : Pe), ([⟨A0, c0, a⟩, ⟨A1, c1, b⟩] : List Pe)[i]? = some p → (w.alloc (.cells #[.slice A0 n0 c0, .slice A1 n1 c1] 22)).cell? ⟨w.heap.size, i, none⟩ = some (.slice p.A p.l.length p.c) := fun i p h => by
  subst h0 h1
  rw [World.cell?_alloc_new]
  match i, h with
  | 0, h => simp only [List.getElem?_cons_zero, Option.some.injEq] at h; subst h; rfl
  | 1, h => simp only [List.getElem?_cons_succ, List.getElem?_cons_zero, Option.some.injEq] at h; subst h; rfl
  | i + 2, h => simp at h
set_option maxHeartbeats 4000000 in
theorem back_walk (w : World) (A0 A1 : Option Addr) (n0 c0 n1 c1 : Nat) (a b : List (Int × Int)) (h0 : a.length = n0) (h1 : b.length = n1) (hc0 : n0 ≤ c0) (hc1 : n1 ≤ c1) (hA0 : A0 = none → c0 = 0) (hA1 : A1 = none → c1 = 0)
    (hb0 : Exts w w.heap.size A0 a) (hb1 : Exts w w.heap.size A1 b) :
    Calls Try.prog 5 #[.slice A0 n0 c0, .slice A1 n1 c1] w (TrueB w) := by
  have HA := Lib.hid hb0
  have HB := Lib.hid hb1
  have HL := Lib.hid (And.intro h0 h1)
  have HC := Lib.hid (And.intro hc0 hc1)
  have HN := Lib.hid (And.intro hA0 hA1)
  clear hb0 hb1 h0 h1 hc0 hc1 hA0 hA1
  have CA := Lib.hid (awake_any w)
  go_enter Try.func5, Try.ntmps5
  go_wp2_with fail
  refine CA.out.mono ?_
  rintro e w1 ⟨rfl, hb⟩
  have hal := below_alloc w1 (.cells #[.slice A0 n0 c0, .slice A1 n1 c1] 22)
  have HW2 := Lib.hid (hb.trans (hal.mono hb.size))
  have CF := Lib.hid (few_any (w1.alloc (.cells #[.slice A0 n0 c0, .slice A1 n1 c1] 22)) w1.heap.size 2 [⟨A0, c0, a⟩, ⟨A1, c1, b⟩] rfl (by omega) (by simp) (pes w1 A0 A1 n0 c0 n1 c1 a b HL.out.1 HL.out.2) (fun p hp => by
    simp only [List.mem_cons, List.not_mem_nil, or_false] at hp
    rcases hp with rfl | rfl
    · exact (HA.out.below HW2.out).more HW2.out.size
    · exact (HB.out.below HW2.out).more HW2.out.size))
  clear hb hal CA
  go_wp2_with fail
  refine CF.out.mono ?_
  rintro e w3 ⟨f, rfl, hf, hb3⟩
  have HW3 := Lib.hid (HW2.out.trans (hb3.mono HW2.out.size))
  clear hb3 CF
  cases f with
  | false =>
    clear hf
    go_wp2
    go_ret
    exact ⟨rfl, HW3.out⟩
  | true =>
    have hfew := hf.1 rfl
    have fa := hfew _ (List.mem_cons_self ..)
    have fb := hfew _ (List.mem_cons_of_mem _ (List.mem_cons_self ..))
    have hn0 : n0 ≤ 20 := by have := fa.1; have := HL.out.1; dsimp only at *; omega
    have hn1 : n1 ≤ 20 := by have := fb.1; have := HL.out.2; dsimp only at *; omega
    clear hf hfew fa fb
    have CJ := Lib.hid (join_any w3 A0 A1 n0 c0 n1 c1 a b HL.out.1 HL.out.2 (by omega) (by omega) HN.out.1 HN.out.2 ((HA.out.below HW3.out).more HW3.out.size) ((HB.out.below HW3.out).more HW3.out.size))
    go_wp2_with fail
    refine CJ.out.mono ?_
    rintro e w4 ⟨vx, x, rfl, hox, hbx, hjx, hjn, hlx⟩
    have HW4 := Lib.hid (HW3.out.trans (hbx.mono HW3.out.size))
    have HJX := Lib.hid (And.intro hjx hjn)
    have HLX := Lib.hid (show x.length ≤ 40 by have := HL.out; omega)
    have HOX := Lib.hid hox
    have CK := Lib.hid (join_any w4 A1 A0 n1 c1 n0 c0 b a HL.out.2 HL.out.1 (by omega) (by omega) HN.out.2 HN.out.1 ((HB.out.below HW4.out).more HW4.out.size) ((HA.out.below HW4.out).more HW4.out.size))
    clear hox hbx hjx hjn hlx CJ
    go_wp2_with fail
    refine CK.out.mono ?_
    rintro e w5 ⟨vy, y, rfl, hoy, hby, hjy, hjm, hly⟩
    have HW5 := Lib.hid (HW4.out.trans (hby.mono HW4.out.size))
    have hox5 := HOX.out.below hby
    obtain ⟨Ax, cx, rfl, hcx, hAx, _, hex⟩ := hox5.shape
    obtain ⟨Ay, cy, rfl, _, _, _, hey⟩ := hoy.shape
    rw [joins_comm b a] at hjy hjm ⊢
    by_cases hj : joins a b = true
    · obtain ⟨rx, mx, tx⟩ := HJX.out.1 hj
      obtain ⟨ry, my, _⟩ := hjy hj
      have hxy : x = y := right_ext' rx ry fun u => by rw [mx, my]; exact or_comm
      subst hxy
      have HEX := Lib.hid (hex (right_i64 rx))
      have CS := Lib.hid (same_any w5 Ax Ay x.length cx x.length cy x x rfl rfl (by have := HLX.out; omega) _ _ HEX.out (hey (right_i64 rx)))
      rw [show decide (x = x) = true from by simp] at CS
      have HRX := Lib.hid (And.intro rx (And.intro mx tx))
      have HJ := Lib.hid hj
      have HCX := Lib.hid (And.intro hcx hAx)
      have HLX' := Lib.hid (show x.length = x.length from rfl)
      rw [hj]
      generalize hnx : x.length = nx at CS HLX HCX HLX' ⊢
      have HNX := Lib.hid hnx
      clear hox5 hex hey hoy hby hjy hjm hly rx mx tx ry my HOX HJX CK hnx HLX' hj hcx hAx
      go_wp2_with fail
      refine CS.out.mono ?_
      rintro e w6 ⟨rfl, q, rfl⟩
      have HW6 := Lib.hid (below_drewN HW5.out q)
      have HX6 := Lib.hid (show Exts (w5.drewN q) (w5.drewN q).heap.size Ax x from HEX.out.drewN q)
      clear HEX CS HW5
      generalize w5.drewN q = w6 at *
      have CL := Lib.hid (less_any w6 Ax A0 nx cx n0 c0 x a HNX.out HL.out.1 (by have := HLX.out; omega) (by omega) HC.out.1 HX6.out ((HA.out.below HW6.out).more HW6.out.size))
      obtain ⟨ok1, eq1⟩ := less_back HJ.out HRX.out.1 HRX.out.2.1
      obtain ⟨ok2, eq2⟩ := less_back (a := b) (b := a) (x := x) (by rw [joins_comm]; exact HJ.out) HRX.out.1 (fun u => by rw [HRX.out.2.1]; exact or_comm)
      have HE := Lib.hid (And.intro (And.intro ok1 eq1) (And.intro ok2 eq2))
      clear ok1 eq1 ok2 eq2
      go_wp2_with fail
      refine CL.out.mono ?_
      rintro e w7 ⟨vp, p, rfl, hop, hbp, hp, _⟩
      obtain rfl : p = b := (hp HE.out.1.1).trans HE.out.1.2
      rw [HE.out.1.1]
      have HW7 := Lib.hid (HW6.out.trans (hbp.mono HW6.out.size))
      have HX7 := Lib.hid (HX6.out.later hbp)
      have HOP := Lib.hid hop
      have CM := Lib.hid (less_any w7 Ax A1 nx cx n1 c1 x p HNX.out HL.out.2 (by have := HLX.out; omega) (by omega) HC.out.2 HX7.out ((HB.out.below HW7.out).more HW7.out.size))
      clear hop hbp hp CL HX6
      go_wp2_with fail
      refine CM.out.mono ?_
      rintro e w8 ⟨vq, q', rfl, hoq, hbq, hq, _⟩
      obtain rfl : q' = a := (hq HE.out.2.1).trans HE.out.2.2
      rw [HE.out.2.1]
      have HW8 := Lib.hid (HW7.out.trans (hbq.mono HW7.out.size))
      have HX8 := Lib.hid (HX7.out.later hbq)
      have hop8 := HOP.out.below hbq
      obtain ⟨Ap, cp, rfl, _, _, _, hep⟩ := hop8.shape
      obtain ⟨Aq, cq, rfl, _, _, _, heq⟩ := hoq.shape
      rw [HL.out.1, HL.out.2]
      have HJR := Lib.hid (joins_right HJ.out)
      have HEP := Lib.hid (hep (right_i64 HJR.out.2))
      have HEQ := Lib.hid (heq (right_i64 HJR.out.1))
      have C1 := Lib.hid (same_any w8 Ap A1 n1 cp n1 c1 p p HL.out.2 HL.out.2 (by omega) _ _ HEP.out ((HB.out.below HW8.out).more HW8.out.size))
      rw [show decide (p = p) = true from by simp] at C1
      clear hop8 hep heq hoq hbq hq CM HX7 HOP
      go_wp2_with fail
      refine C1.out.mono ?_
      rintro e w9 ⟨rfl, m, rfl⟩
      have C2 := Lib.hid (same_any (w8.drewN m) Aq A0 n0 cq n0 c0 q' q' HL.out.1 HL.out.1 (by omega) _ _ (HEQ.out.drewN m) (((HA.out.below HW8.out).more HW8.out.size).drewN m))
      rw [show decide (q' = q') = true from by simp] at C2
      clear C1
      go_wp2_with fail
      refine C2.out.mono ?_
      rintro e w10 ⟨rfl, m', rfl⟩
      have HW10 := Lib.hid (below_drewN (below_drewN HW8.out m) m')
      have HX10 := Lib.hid (show Exts ((w8.drewN m).drewN m') ((w8.drewN m).drewN m').heap.size Ax x from (HX8.out.drewN m).drewN m')
      clear HX8 C2 HEP HEQ HW8
      generalize (w8.drewN m).drewN m' = w10 at *
      have C3 := Lib.hid (total_any w10 Ax cx nx x HNX.out HCX.out.2 (by have := HLX.out; omega) HX10.out)
      rw [totC_right HRX.out.1, HRX.out.2.2] at C3
      go_wp2_with fail
      refine C3.out.mono ?_
      rintro e w11 ⟨rfl, hb11⟩
      have HW11 := Lib.hid (HW10.out.trans (hb11.mono HW10.out.size))
      have HX11 := Lib.hid (HX10.out.later hb11)
      have C4 := Lib.hid (total_any w11 A0 c0 n0 q' HL.out.1 HN.out.1 (by omega) ((HA.out.below HW11.out).more HW11.out.size))
      rw [totC_right HJR.out.1] at C4
      clear hb11 C3 HX10 HW10
      go_wp2_with fail
      refine C4.out.mono ?_
      rintro e w12 ⟨rfl, hb12⟩
      have HW12 := Lib.hid (HW11.out.trans (hb12.mono HW11.out.size))
      have HX12 := Lib.hid (HX11.out.later hb12)
      have C5 := Lib.hid (total_any w12 A1 c1 n1 p HL.out.2 HN.out.2 (by omega) ((HB.out.below HW12.out).more HW12.out.size))
      rw [totC_right HJR.out.2] at C5
      clear hb12 C4 HX11 HW11
      have b0 := may_bound ((right_iff q').1 HJR.out.1).1
      have b1 := may_bound ((right_iff p).1 HJR.out.2).1
      have wt : IntKind.i64.wrap (total q' + total p) = total q' + total p := by have := HL.out; exact wrap_in (by omega) (by omega)
      have tt : decide (total q' + total p = total q' + total p) = true := by simp
      generalize total q' = ta at *
      generalize total p = tb at *
      clear b0 b1
      go_wp2_with fail
      refine C5.out.mono ?_
      rintro e w13 ⟨rfl, hb13⟩
      have HW13 := Lib.hid (HW12.out.trans (hb13.mono HW12.out.size))
      have C6 := Lib.hid (right_any w13 Ax cx nx x HNX.out (HX12.out.later hb13) (by have := HLX.out; omega))
      rw [HRX.out.1] at C6
      clear hb13 C5 HX12 HW12
      go_wp2_with fail
      refine C6.out.mono ?_
      rintro e w14 ⟨rfl, hb14⟩
      have HW14 := Lib.hid (HW13.out.trans (hb14.mono HW13.out.size))
      clear hb14
      go_wp2
      go_ret
      exact ⟨rfl, HW14.out⟩
    · rw [Bool.not_eq_true] at hj
      obtain rfl := HJX.out.2 hj
      obtain rfl := hjm hj
      have CS := Lib.hid (same_any w5 Ax Ay 0 cx 0 cy [] [] rfl rfl (by omega) w5.heap.size w5.heap.size (Exts.nil _ _ _) (Exts.nil _ _ _))
      rw [show decide (([] : List (Int × Int)) = []) = true from by simp] at CS
      rw [hj]
      have e0 : ([] : List (Int × Int)).length = 0 := rfl
      rw [e0]
      clear hox5 hex hey hoy hby hjy hjm hly HOX HJX CK hj
      go_wp2_with fail
      refine CS.out.mono ?_
      rintro e w6 ⟨rfl, q, rfl⟩
      have HW6 := Lib.hid (below_drewN HW5.out q)
      go_wp2
      go_ret
      exact ⟨rfl, HW6.out⟩
theorem back_all (w : World) (A0 : Option Addr) (n0 c0 : Nat) (a : List (Int × Int)) (h0 : a.length = n0) (hc0 : n0 ≤ c0) (hA0 : A0 = none → c0 = 0) (hb0 : Exts w w.heap.size A0 a)
    (A1 : Option Addr) (n1 c1 : Nat) (b : List (Int × Int)) (h1 : b.length = n1) (hc1 : n1 ≤ c1) (hA1 : A1 = none → c1 = 0) (hb1 : Exts w w.heap.size A1 b) :
    Calls Try.prog 5 #[.slice A0 n0 c0, .slice A1 n1 c1] w (TrueB w) := back_walk w A0 A1 n0 c0 n1 c1 a b h0 h1 hc0 hc1 hA0 hA1 hb0 hb1
end Go.Proofs.Ytgbhmjfhblganaa
