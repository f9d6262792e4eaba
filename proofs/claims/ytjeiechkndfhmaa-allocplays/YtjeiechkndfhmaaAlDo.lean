/-
  Contracts of the pool's Of, New, Take, Give, Free and List, and of these of a pool that is none. Conditions: the pool lies in memory as its calls leave it; it has at most 1000 extents; what is handed in are at most 1000.
-/
import Derived.Test.YtjeiechkndfhmaaAlPool
namespace Go.Proofs.Ytjeiechkndfhmaa
open Go.RowKit Arr Ex

set_option maxHeartbeats 1000000 in
/-- Free. -/
theorem afree_any {w : World} {g : Nat} {X : Nat → Prop} {F O : List (Int × Int)} (h : Pl w g X F O) (hF : F.length ≤ 1000) : Calls Try.prog 18 #[.pointer (some ⟨g, 0, none⟩)] w (Bel (.int .i64 (totC F)) w) := by
  have CN := Lib.hid (anone_any h)
  obtain ⟨AF, cF, AO, cO, h⟩ := h
  have c0 := h.c0
  have CT := Lib.hid (atotal_any (total_any w AF cF F.length F rfl h.zF (by omega) h.eF))
  clear h
  generalize F.length = n at *
  generalize totC F = z at *
  go_enter Try.func18, Try.ntmps18
  go_wp2_with fail
  refine CN.out.mono ?_
  rintro e w' ⟨rfl, rfl⟩
  go_wp2_with fail
  refine CT.out.mono ?_
  rintro e w' ⟨rfl, hb⟩
  have HF := Lib.hid hb
  clear hb
  go_wp2
  go_ret
  exact ⟨rfl, HF.out⟩
theorem afree_nil (w : World) : Calls Try.prog 18 #[.pointer none] w fun e w' => e = .returned (.int .i64 0) ∧ w' = w := by
  have CN := Lib.hid (anone_nil w)
  go_enter Try.func18, Try.ntmps18
  go_wp2_with fail
  refine CN.out.mono ?_
  rintro e w' ⟨rfl, rfl⟩
  go_wp2
  go_ret
  exact ⟨rfl, rfl⟩
set_option maxHeartbeats 1000000 in
/-- List. -/
theorem alist_any {w : World} {g : Nat} {X : Nat → Prop} {F O : List (Int × Int)} (h : Pl w g X F O) (hF : F.length ≤ 1000) : Calls Try.prog 20 #[.pointer (some ⟨g, 0, none⟩)] w (Made F w) := by
  have CN := Lib.hid (anone_any h)
  obtain ⟨AF, cF, AO, cO, h⟩ := h
  have c0 := h.c0
  have CT := Lib.hid (acopied_any (aclone_any w AF F.length cF F rfl h.zF (by omega) h.eF))
  clear h
  generalize F.length = n at *
  go_enter Try.func20, Try.ntmps20
  go_wp2_with fail
  refine CN.out.mono ?_
  rintro e w' ⟨rfl, rfl⟩
  go_wp2_with fail
  refine CT.out.mono ?_
  rintro e w' ⟨v, rfl, hb⟩
  have HF := Lib.hid hb
  clear hb
  go_wp2
  go_ret
  exact ⟨v, rfl, HF.out⟩
theorem alist_nil (w : World) : Calls Try.prog 20 #[.pointer none] w fun e w' => e = .returned (.slice none 0 0) ∧ w' = w := by
  have CN := Lib.hid (anone_nil w)
  go_enter Try.func20, Try.ntmps20
  go_wp2_with fail
  refine CN.out.mono ?_
  rintro e w' ⟨rfl, rfl⟩
  go_wp2
  go_ret
  exact ⟨rfl, rfl⟩
/-- Take's error. -/
def tkE (F : List (Int × Int)) (n : Int) : Nat := if n < 1 then 2 else if cutOk F n = true then 0 else 34
def TakeP (g : Nat) (X : Nat → Prop) (F O : List (Int × Int)) (n : Int) (w : World) (e : Ending) (w' : World) : Prop :=
  ∃ v h, e = .returned (.tuple #[v, .int .i64 (tkE F n : Nat)]) ∧ Own2 w' w.heap.size v h ∧ Only g w w' ∧ (tkE F n = 0 → h = hdL n F ∧ Pl w' g X (tlL n F) O) ∧ (tkE F n ≠ 0 → h = [] ∧ Pl w' g X F O)
set_option maxHeartbeats 2000000 in
theorem atake_any {w : World} {g : Nat} {X : Nat → Prop} {F O : List (Int × Int)} (h : Pl w g X F O) (hF : F.length ≤ 1000) (hm : ∀ x, x ∈ F → may x = true) (n : Int) (hz : -9223372036854775808 ≤ n ∧ n ≤ 9223372036854775807) : Calls Try.prog 12 #[.pointer (some ⟨g, 0, none⟩), .int .i64 n] w (TakeP g X F O n w) := by
  have CN := Lib.hid (anone_any h)
  have HP := Lib.hid h
  by_cases hn : n < 1
  · have e : tkE F n = 2 := by unfold tkE; rw [if_pos hn]
    have HF := Lib.hid (show TakeP g X F O n w (.returned (.tuple #[.slice none 0 0, .int .i64 2])) w from ⟨_, [], by rw [e]; rfl, own2_nil _ _, Only.refl _ _, fun e' => (by rw [e] at e'; cases e'), fun _ => ⟨rfl, h⟩⟩)
    have t1 : decide (n < 1) = true := by simpa using hn
    clear h
    go_enter Try.func12, Try.ntmps12
    go_wp2_with fail
    refine CN.out.mono ?_
    rintro e w' ⟨rfl, hw⟩
    subst w'
    go_wp2
    go_ret2
    exact HF.out
  · have t1 : decide (n < 1) = false := by simpa using hn
    obtain ⟨AF, cF, AO, cO, h⟩ := h
    have c0 := h.c0
    have f0 := h.f0
    have CC := Lib.hid (acut_any (cut_any w AF F.length cF F rfl h.zF hF h.eF n hz))
    have HV := Lib.hid h
    have hgl := h.gl
    by_cases ho : cutOk F n = true
    · have e : tkE F n = 0 := by unfold tkE; rw [if_neg hn, if_pos ho]
      have HE := Lib.hid e
      have HI := Lib.hid (show ∀ x, x ∈ tlL n F → I64 x from fun x hx => by
        obtain ⟨q, y, hy, r⟩ := tlL_in F n (by omega) hm x hx
        have := (may_iff y).1 (hm y hy)
        unfold I64; omega)
      have HO := Lib.hid ho
      clear h e
      generalize hN : F.length = N at *
      clear hN
      go_enter Try.func12, Try.ntmps12
      go_wp2_with fail
      refine CN.out.mono ?_
      rintro e w' ⟨rfl, hw⟩
      subst w'
      go_wp2_with fail
      refine CC.out.mono ?_
      rintro e w1 ⟨vh, vt, hd, tl, rfl, oh, ot, hb, h1, h2⟩
      obtain ⟨rfl, rfl⟩ := h1 HO.out
      rw [HO.out]
      obtain ⟨q1, q2⟩ := HV.out.put hb ot HI.out
      have a0 : w1.cell? ⟨g, 0, none⟩ = _ := (hb.cell (p := ⟨g, 0, none⟩) hgl).trans c0
      have a1 : w1.frozen? ⟨g, 0, none⟩ = false := (hb.frozen (p := ⟨g, 0, none⟩) hgl).trans f0
      have hlt := oh.lt
      have HF := Lib.hid (show TakeP g X F O n w (.returned (.tuple #[vh, .int .i64 0])) (w1.setCell ⟨g, 0, none⟩ vt) from
        ⟨vh, _, by rw [HE.out]; rfl, oh.kept fun k hk => Below.heap_setCell w1 ⟨g, 0, none⟩ vt k (show k ≠ g by have := (hlt k hk).1; omega), q2, fun _ => ⟨rfl, q1⟩, fun e => absurd HE.out e⟩)
      obtain ⟨Ah, ch, rfl, _⟩ := oh.shape
      obtain ⟨At, ct, rfl, _⟩ := ot.shape
      clear q1 q2 oh ot hb h2 hlt CC CN
      generalize (hdL n F).length = nh at *
      generalize (tlL n F).length = nt at *
      go_wp2
      go_ret2
      exact HF.out
    · have e : tkE F n = 34 := by unfold tkE; rw [if_neg hn, if_neg ho]
      have HE := Lib.hid e
      have ho' : cutOk F n = false := by simpa using ho
      have HO := Lib.hid ho'
      clear h e ho ho'
      generalize hN : F.length = N at *
      clear hN
      go_enter Try.func12, Try.ntmps12
      go_wp2_with fail
      refine CN.out.mono ?_
      rintro e w' ⟨rfl, hw⟩
      subst w'
      go_wp2_with fail
      refine CC.out.mono ?_
      rintro e w1 ⟨vh, vt, hd, tl, rfl, oh, ot, hb, h1, h2⟩
      obtain ⟨rfl, rfl⟩ := h2 HO.out
      rw [HO.out]
      have HF := Lib.hid (show TakeP g X F O n w (.returned (.tuple #[.slice none 0 0, .int .i64 34])) w1 from
        ⟨_, [], by rw [HE.out]; rfl, own2_nil _ _, Only.of hb, fun e => (by rw [HE.out] at e; cases e), fun _ => ⟨rfl, HP.out.below hb⟩⟩)
      obtain ⟨Ah, ch, rfl, _⟩ := oh.shape
      obtain ⟨At, ct, rfl, _⟩ := ot.shape
      clear oh ot hb h1 h2 CC CN
      go_wp2
      go_ret2
      exact HF.out
theorem atake_nil (w : World) (n : Int) : Calls Try.prog 12 #[.pointer none, .int .i64 n] w fun e w' => e = .returned (.tuple #[.slice none 0 0, .int .i64 1]) ∧ w' = w := by
  have CN := Lib.hid (anone_nil w)
  go_enter Try.func12, Try.ntmps12
  go_wp2_with fail
  refine CN.out.mono ?_
  rintro e w' ⟨rfl, rfl⟩
  go_wp2
  go_ret2
  exact ⟨rfl, rfl⟩
/-- Give's error. -/
def gvOk (F O l : List (Int × Int)) : Prop := chain l = true ∧ ∀ u, Mem u l → Mem u O ∧ ¬ Mem u F
def GiveP (g : Nat) (X : Nat → Prop) (F O l : List (Int × Int)) (w : World) (e : Ending) (w' : World) : Prop :=
  ∃ er : Nat, e = .returned (.int .i64 (er : Nat)) ∧ Only g w w' ∧ (er = 0 ∧ gvOk F O l ∧ (∃ F', right F' = true ∧ (∀ u, Mem u F' ↔ Mem u F ∨ Mem u l) ∧ total F' = total F + total l ∧ Pl w' g X F' O) ∨ er = 2 ∧ ¬ gvOk F O l ∧ Pl w' g X F O)
set_option maxHeartbeats 4000000 in
theorem agive_any {w : World} {g : Nat} {X : Nat → Prop} {F O : List (Int × Int)} (h : Pl w g X F O) (hF : F.length ≤ 1000) (hO : O.length ≤ 1000) (hrF : right F = true) (hrO : right O = true)
    (A : Option Addr) (n c : Nat) (l : List (Int × Int)) (hl : l.length = n) (hn : n ≤ 1000) (hx : Exts w w.heap.size A l) :
    Calls Try.prog 17 #[.pointer (some ⟨g, 0, none⟩), .slice A n c] w (GiveP g X F O l w) := by
  have CN := Lib.hid (anone_any h)
  have CG := Lib.hid (gather_any w A n c l hl hn hx)
  have HP := Lib.hid h
  have HLN := Lib.hid hl
  obtain ⟨AF, cF, AO, cO, h⟩ := h
  have HV := Lib.hid h
  have c0 := h.c0
  have c1 := h.c1
  have f0 := h.f0
  have hgl := h.gl
  clear h hx hl
  generalize hNF : F.length = NF at *
  generalize hNO : O.length = NO at *
  have HNF := Lib.hid hNF
  have HNO := Lib.hid hNO
  clear hNF hNO
  go_enter Try.func17, Try.ntmps17
  go_wp2_with fail
  refine CN.out.mono ?_
  rintro e w' ⟨rfl, hw⟩
  subst w'
  go_wp2_with fail
  refine CG.out.mono ?_
  rintro e w1 ⟨v, m, rfl, om, hb1, hm1, hm2, hm3⟩
  obtain ⟨Am, cm, rfl, hcm, hzm, _, hxm⟩ := om.shape
  have HRM := Lib.hid (show right m = true from by
    cases hc : chain l with
    | true => exact (hm1 hc).1
    | false => rw [hm2 hc]; rfl)
  have hxm := hxm fun x hx => i64_may (((right_iff m).1 HRM.out).1 x hx)
  have HM := Lib.hid (show (chain l = true → (∀ u, Mem u m ↔ Mem u l) ∧ total m = total l) ∧ m.length ≤ 1000 from ⟨fun hc => (hm1 hc).2, by have := HLN.out; omega⟩)
  have a0 : w1.cell? ⟨g, 0, none⟩ = some (.slice AF NF cF) := (hb1.cell (p := ⟨g, 0, none⟩) hgl).trans c0
  have a1 : w1.cell? ⟨g, 1, none⟩ = some (.slice AO NO cO) := (hb1.cell (p := ⟨g, 1, none⟩) hgl).trans c1
  have CJ := Lib.hid (ajoin_any (join_any w1 AF Am NF cF m.length cm F m HNF.out rfl (by omega) HM.out.2 HV.out.zF hzm (HV.out.eF.later hb1) hxm))
  have HXM := Lib.hid hxm
  have HB1 := Lib.hid hb1
  have HCM := Lib.hid hcm
  clear om hm1 hm2 hm3 hxm CG CN hcm hb1 hzm
  go_wp2_with fail
  refine CJ.out.mono ?_
  rintro e w2 ⟨vj, F', rfl, oj, hb2, hj1, hj2, hj3⟩
  have hs1 := HB1.out.size
  have HB2 := Lib.hid (HB1.out.trans (hb2.mono hs1))
  have b1 : w2.cell? ⟨g, 1, none⟩ = some (.slice AO NO cO) := (hb2.cell (p := ⟨g, 1, none⟩) (Nat.lt_of_lt_of_le hgl hs1)).trans a1
  have CL := Lib.hid (aless_any (less_any w2 AO Am NO cO m.length cm O m HNO.out rfl (by omega) HM.out.2 HCM.out (HV.out.eO.later HB2.out) (HXM.out.later hb2)))
  have HJ := Lib.hid (And.intro (oj.low hs1) hj1)
  obtain ⟨Aj, cj, rfl, _⟩ := oj.shape
  clear oj hb2 hj1 hj2 hj3 CJ
  go_wp2_with fail
  refine CL.out.mono ?_
  rintro e w3 ⟨vl, lz, rfl, ol, hb3, _, _⟩
  have HB3 := Lib.hid (HB2.out.trans (hb3.mono HB2.out.size))
  have HJ3 := Lib.hid (HJ.out.1.below hb3)
  obtain ⟨Al, cl, rfl, _⟩ := ol.shape
  have d0 : w3.cell? ⟨g, 0, none⟩ = some (.slice AF NF cF) := (HB3.out.cell (p := ⟨g, 0, none⟩) hgl).trans c0
  have d1 : w3.frozen? ⟨g, 0, none⟩ = false := (HB3.out.frozen (p := ⟨g, 0, none⟩) hgl).trans f0
  clear ol hb3 CL
  -- what the three say
  have HG := Lib.hid (show gvOk F O l ↔ (chain l = true ∧ joins F m = true ∧ lessOk O m = true) from by
    constructor
    · rintro ⟨g1, g2⟩
      have hmm := (HM.out.1 g1).1
      exact ⟨g1, (joins_iff hrF HRM.out).2 fun u hu hu2 => (g2 u ((hmm u).1 hu2)).2 hu, (less_spec hrO HRM.out).1.2 fun u hu => (g2 u ((hmm u).1 hu)).1⟩
    · rintro ⟨g1, g2, g3⟩
      have hmm := (HM.out.1 g1).1
      exact ⟨g1, fun u hu => ⟨(less_spec hrO HRM.out).1.1 g3 u ((hmm u).2 hu), fun hu2 => (joins_iff hrF HRM.out).1 g2 u hu2 ((hmm u).2 hu)⟩⟩)
  have HBAD := Lib.hid (show ¬ gvOk F O l → GiveP g X F O l w (.returned (.int .i64 2)) w3 from fun hg => ⟨2, rfl, Only.of HB3.out, .inr ⟨rfl, hg, HP.out.below HB3.out⟩⟩)
  have HOK := Lib.hid (show chain l = true → joins F m = true → lessOk O m = true → GiveP g X F O l w (.returned (.int .i64 0)) (w3.setCell ⟨g, 0, none⟩ (.slice Aj F'.length cj)) from fun g1 g2 g3 => by
    obtain ⟨r1, r2, r3⟩ := HJ.out.2 g2
    obtain ⟨q1, q2⟩ := HV.out.put HB3.out HJ3.out (fun x hx => i64_may (((right_iff F').1 r1).1 x hx))
    obtain ⟨s1, s2⟩ := HM.out.1 g1
    exact ⟨0, rfl, q2, .inl ⟨rfl, HG.out.2 ⟨g1, g2, g3⟩, F', r1, fun u => (r2 u).trans (or_congr Iff.rfl (s1 u)), by rw [r3, s2], q1⟩⟩)
  clear a0 a1 b1 HJ HJ3 HB2 HB1 HM HRM HXM hs1
  generalize F'.length = nj at *
  generalize lz.length = nl at *
  generalize m.length = nm at *
  by_cases g1 : chain l = true
  · by_cases g2 : joins F m = true
    · by_cases g3 : lessOk O m = true
      · have HF := Lib.hid (HOK.out g1 g2 g3)
        rw [g1, g2, g3]
        go_wp2
        go_ret
        exact HF.out
      · have HF := Lib.hid (HBAD.out fun hg => g3 (HG.out.1 hg).2.2)
        have g3' : lessOk O m = false := by simpa using g3
        rw [g1, g2, g3']
        go_wp2
        go_ret
        exact HF.out
    · have HF := Lib.hid (HBAD.out fun hg => g2 (HG.out.1 hg).2.1)
      have g2' : joins F m = false := by simpa using g2
      rw [g1, g2']
      generalize lessOk O m = b3 at *
      go_wp2
      go_ret
      exact HF.out
  · have HF := Lib.hid (HBAD.out fun hg => g1 (HG.out.1 hg).1)
    have g1' : chain l = false := by simpa using g1
    rw [g1']
    generalize lessOk O m = b3 at *
    generalize joins F m = b2 at *
    go_wp2
    go_ret
    exact HF.out
theorem agive_nil (w : World) (v : Value) : Calls Try.prog 17 #[.pointer none, v] w fun e w' => e = .returned (.int .i64 1) ∧ w' = w := by
  have CN := Lib.hid (anone_nil w)
  go_enter Try.func17, Try.ntmps17
  go_wp2_with fail
  refine CN.out.mono ?_
  rintro e w' ⟨rfl, rfl⟩
  go_wp2
  go_ret
  exact ⟨rfl, rfl⟩
end Go.Proofs.Ytjeiechkndfhmaa
