/-
  Contracts of wrap.Unwrap and wrap.Again. Conditions: the slices hold their bytes; the table of widths stands in its variable.
-/
import Derived.Test.YtonoidhlbnbhcaaDoorWrWrap
import Derived.Test.YtonoidhlbnbhcaaDoorWrCut
namespace Go.Proofs.YtonoidhlbnbhcaaDoor
open Go.RowKit Arr Gf Sb Ae Wr

/-- The key of a wrapped one, or none; the error. -/
def uErr (ks b : List Nat) : Nat :=
  if ks.length ≠ 16 ∧ ks.length ≠ 32 then 20 else if may ((b.length : Int) - 8) then (if (outL (rr ks) (kk ks) b).take 8 = mk then 0 else 21) else 2
def uL (ks b : List Nat) : List Nat := if uErr ks b = 0 then (outL (rr ks) (kk ks) b).drop 8 else []
theorem uErr_bad {ks b : List Nat} (h : ¬ (ks.length = 16 ∨ ks.length = 32)) : uErr ks b = 20 := by rw [uErr, if_pos (by omega)]
theorem uErr_ok {ks b : List Nat} (h : ks.length = 16 ∨ ks.length = 32) : uErr ks b = if may ((b.length : Int) - 8) then (if (outL (rr ks) (kk ks) b).take 8 = mk then 0 else 21) else 2 := by rw [uErr, if_neg (by omega)]

set_option maxHeartbeats 2000000 in
theorem unwrap_some (ks b : List Nat) (A0 A1 : Option Addr) (n0 c0 n1 c1 : Nat) (h0 : ks.length = n0) (h1 : b.length = n1) (hc0 : n0 ≤ c0) (hk : ks.length = 16 ∨ ks.length = 32) (hm : may ((n1 : Int) - 8) = true)
    (w : World) (hb0 : Bys w w.heap.size A0 ks) (hb1 : Bys w w.heap.size A1 b) (ht : Tab w 0) :
    Calls Tryd.prog 11 #[.slice A0 n0 c0, .slice A1 n1 c1] w (GivesE (if (outL (rr ks) (kk ks) b).take 8 = mk then (outL (rr ks) (kk ks) b).drop 8 else []) (if (outL (rr ks) (kk ks) b).take 8 = mk then 0 else 21) w) := by
  obtain ⟨m1, m2, m3⟩ := may_of hm
  obtain ⟨n, hn⟩ : ∃ n, n1 = 8 * (n + 1) := ⟨n1 / 8 - 1, by omega⟩
  have htw := ht.lt
  obtain ⟨ba, off, rfl, -, -⟩ := hb1.2 (by omega)
  have HT := Lib.hid ht
  have CN := Lib.hid (new_kek ks hk A0 n0 c0 h0 hc0 w hb0 ht)
  have CZ := Lib.hid (fun w' => by have := size_any ((n1 : Int) - 8) w'; rw [hm] at this; exact this)
  have w1 : IntKind.i64.wrap ((n1 : Int) - 8) = (n1 : Int) - 8 := by rw [IntKind.wrap_i64]; omega
  have HX := Lib.hid (tx_outL (kk_ok hk) n (by omega) (h1.trans hn) hb1.1)
  have CS := Lib.hid (fun gc g c hc hgc hgt w' h => stepBack_any (rr_le hk).1 (rr_le hk).2 (kk_ok hk) gc g n1 c n b (tx_of n (h1.trans hn) hb1.1) (by omega) (by omega) hn hc hgc hgt w' h)
  have HE := Lib.hid (show ubk (dec (rr ks) (kk ks)) n b (6 * n) = outL (rr ks) (kk ks) b by rw [outL, show b.length / 8 - 1 = n by omega])
  rw [HE.out] at CS
  have CC := Lib.hid (fun (w1 : World) (hb : Below w.heap.size w w1) => sclone_any ⟨ba, off, none⟩ n1 c1 b h1 (by omega) (by omega) w1 w.heap.size hb.size (hb1.below hb))
  have LX := HX.out.1
  rw [← hn] at LX
  have HLX := Lib.hid LX
  have H1 := Lib.hid h1
  have HN := Lib.hid hn
  clear hb0 hb1 ht h0 h1 hm hn m3 hk HE LX
  generalize outL (rr ks) (kk ks) b = X at *
  obtain ⟨out, hout⟩ : ∃ out, out = if X.take 8 = mk then X.drop 8 else [] := ⟨_, rfl⟩
  obtain ⟨x, hx⟩ : ∃ x, x = if X.take 8 = mk then 0 else 21 := ⟨_, rfl⟩
  rw [← hout, ← hx]
  have HOUT := Lib.hid hout
  have HXX := Lib.hid hx
  clear hout hx
  generalize rr ks = r at *
  generalize kk ks = K at *
  go_enter Tryd.func11, Tryd.ntmps11
  go_wp2_with fail
  refine CN.out.mono ?_
  rintro e w1 ⟨gc, rfl, hC, hge, hbel⟩
  have HC := Lib.hid hC
  have HBE := Lib.hid hbel
  clear hC hbel CN
  go_wp2_with fail
  refine (CZ.out w1).mono ?_
  rintro e w2 ⟨rfl, rfl⟩
  clear CZ
  go_wp2_with fail
  refine (CC.out w1 HBE.out).mono ?_
  rintro e w4 ⟨g, c, rfl, hgge, hgc2, hh, hbel4⟩
  have hgcl : gc < g := by have := HC.out.lt; omega
  have hwg : w.heap.size ≤ g := by have := HBE.out.size; omega
  have HB4 := Lib.hid (HBE.out.trans (hbel4.mono HBE.out.size))
  have HC4 := Lib.hid (HC.out.below hbel4 HC.out.lt)
  rw [H1.out] at hgc2
  have HS := Lib.hid (CS.out gc g c hgc2 (by omega) (by omega) w4 ⟨hh, HC4.out, HT.out.below HB4.out htw, Only.refl _ _⟩)
  clear hh hbel4 HC4 CS CC HC HBE
  rw [H1.out]
  go_wp2_with fail
  refine HS.out.mono ?_
  rintro e w5 ⟨rfl, hh5, ho5⟩
  have HB5 := Lib.hid (HB4.out.trans (ho5.below hwg HB4.out.size))
  have HY := Lib.hid (cutC_some (some ⟨g, 0, none⟩) n1 c 8 X HLX.out (by omega) hgc2 (fun h => by cases h) (by omega) w5 (holds_bys hh5 HX.out.mem))
  clear hh5 ho5 HB4 HS
  go_wp2_with fail
  refine HY.out.mono ?_
  rintro e w6 ⟨A1, d1, A2, d2, rfl, ha1, ha2, hy1, hy2, hbel6, hd1, hd2⟩
  have HB6 := Lib.hid (HB5.out.trans (hbel6.mono HB5.out.size))
  have HY1 := Lib.hid hy1
  have HY2 := Lib.hid hy2
  have HA2 := Lib.hid ha2
  have HD2 := Lib.hid hd2
  clear ha1 ha2 hy1 hy2 hbel6 hd1 hd2 HY HB5
  go_wp2_with fail
  refine (put64_any 12008468691120727718 w6 (HT.out.below HB6.out htw)).mono ?_
  rintro e w7 ⟨arr, hla, rfl, rfl⟩
  obtain rfl := laid8 hla
  clear hla
  rw [mk_bytes]
  have HM := Lib.hid (holds_bys (Holds.new w6 5 .u8 mk) (by decide))
  have hb67 := below_alloc w6 (.cells (na .u8 mk) 5)
  have HB7 := Lib.hid (HB6.out.trans (hb67.mono HB6.out.size))
  have HZ1 := Lib.hid (HY1.out.below hb67)
  have HZ2 := Lib.hid ((HY2.out.below hb67).more hb67.size)
  clear hb67 HY1 HY2 HB6
  generalize w6.alloc (.cells (na .u8 mk) 5) = w7 at *
  have l8 : (X.take 8).length = 8 := by rw [List.length_take, HLX.out]; omega
  have CB := bytes_any A1 (some ⟨w6.heap.size, 0, none⟩) (X.take 8) mk 8 8 d1 8 w7 l8 rfl (by omega) _ _ HZ1.out HM.out
  clear l8
  by_cases hq : X.take 8 = mk
  · rw [show decide (X.take 8 = mk) = true by simp [hq]] at CB
    have HO2 := Lib.hid (show out = X.drop 8 by rw [HOUT.out, if_pos hq])
    have HX2 := Lib.hid (show x = 0 by rw [HXX.out, if_pos hq])
    have CB := Lib.hid CB
    clear hq HOUT HXX
    go_wp2_with fail
    refine CB.out.mono ?_
    rintro e w8 ⟨rfl, rfl⟩
    have HF : Go.RowKit.Hid (GivesE (X.drop 8) 0 w (.returned (.tuple #[.slice A2 (X.length - 8) d2, .int .i64 0])) w7) := Lib.hid (by
      rw [← List.length_drop]
      exact ⟨_, _, rfl, by rw [List.length_drop]; exact HD2.out, HA2.out, HZ2.out, HB7.out⟩)
    go_wp2
    go_ret2
    rw [HO2.out, HX2.out]
    exact HF.out
  · rw [show decide (X.take 8 = mk) = false by simp [hq]] at CB
    have HO2 := Lib.hid (show out = [] by rw [HOUT.out, if_neg hq])
    have HX2 := Lib.hid (show x = 21 by rw [HXX.out, if_neg hq])
    have CB := Lib.hid CB
    clear hq HOUT HXX
    go_wp2_with fail
    refine CB.out.mono ?_
    rintro e w8 ⟨rfl, rfl⟩
    go_wp2
    go_ret2
    rw [HO2.out, HX2.out]
    exact givesE_none 21 HB7.out

theorem unwrap_any (ks b : List Nat) (A0 A1 : Option Addr) (n0 c0 n1 c1 : Nat) (h0 : ks.length = n0) (h1 : b.length = n1) (hn1 : n1 ≤ 1000) (hc0 : n0 ≤ c0)
    (w : World) (hb0 : Bys w w.heap.size A0 ks) (hb1 : Bys w w.heap.size A1 b) (ht : Tab w 0) :
    Calls Tryd.prog 11 #[.slice A0 n0 c0, .slice A1 n1 c1] w (GivesE (uL ks b) (uErr ks b) w) := by
  by_cases hk : ks.length = 16 ∨ ks.length = 32
  · rw [uL, uErr_ok hk]
    by_cases hm : may ((n1 : Int) - 8) = true
    · rw [h1, hm]
      refine (unwrap_some ks b A0 A1 n0 c0 n1 c1 h0 h1 hc0 hk hm w hb0 hb1 ht).mono fun e w' h => ?_
      by_cases hq : (outL (rr ks) (kk ks) b).take 8 = mk
      · simp only [hq, if_true] at h ⊢; exact h
      · simp only [hq, if_false, if_true] at h ⊢; exact h
    · have hm' : may ((n1 : Int) - 8) = false := by simpa using hm
      rw [h1, hm']
      have CN := Lib.hid (new_kek ks hk A0 n0 c0 h0 hc0 w hb0 ht)
      have CZ := Lib.hid (fun w' => by have := size_any ((n1 : Int) - 8) w'; rw [hm'] at this; exact this)
      have w1 : IntKind.i64.wrap ((n1 : Int) - 8) = (n1 : Int) - 8 := by rw [IntKind.wrap_i64]; omega
      clear hb0 hb1 ht h0 h1 hm hm' hk
      go_enter Tryd.func11, Tryd.ntmps11
      go_wp2_with fail
      refine CN.out.mono ?_
      rintro e w1 ⟨gc, rfl, hC, hge, hbel⟩
      have HBE := Lib.hid hbel
      clear hC hbel CN
      go_wp2_with fail
      refine (CZ.out w1).mono ?_
      rintro e w2 ⟨rfl, rfl⟩
      go_wp2
      go_ret2
      exact givesE_none 2 HBE.out
  · rw [uL, uErr_bad hk]
    have CN := Lib.hid (new_none A0 n0 c0 (by omega) (by omega) w)
    clear hb0 hb1 ht h0 h1 hk
    go_enter Tryd.func11, Tryd.ntmps11
    go_wp2_with fail
    refine CN.out.mono ?_
    rintro e w1 ⟨rfl, rfl⟩
    go_wp2
    go_ret2
    exact givesE_none 20 (Below.refl _ _)

/-- Again: the error, the bytes. -/
def aErr (fs ts b : List Nat) : Nat := if uErr fs b = 0 then wErr ts (uL fs b).length else uErr fs b
def aL (fs ts b : List Nat) : List Nat := if uErr fs b = 0 then wL ts (uL fs b) else []
theorem again_any (fs ts b : List Nat) (A0 A1 A2 : Option Addr) (n0 c0 n1 c1 n2 c2 : Nat) (h0 : fs.length = n0) (h1 : ts.length = n1) (h2 : b.length = n2) (hn2 : n2 ≤ 1000) (hc0 : n0 ≤ c0) (hc1 : n1 ≤ c1)
    (w : World) (hb0 : Bys w w.heap.size A0 fs) (hb1 : Bys w w.heap.size A1 ts) (hb2 : Bys w w.heap.size A2 b) (ht : Tab w 0) :
    Calls Tryd.prog 12 #[.slice A0 n0 c0, .slice A1 n1 c1, .slice A2 n2 c2] w (GivesE (aL fs ts b) (aErr fs ts b) w) := by
  have CU := Lib.hid (unwrap_any fs b A0 A2 n0 c0 n2 c2 h0 h2 hn2 hc0 w hb0 hb2 ht)
  have htw := ht.lt
  by_cases hq : uErr fs b = 0
  · rw [aL, aErr, if_pos hq, if_pos hq]
    rw [hq] at CU
    have CW : Go.RowKit.Hid (∀ (w1 : World) A n c, n = (uL fs b).length → (A = none → c = 0) → Bys w1 w1.heap.size A (uL fs b) → Below w.heap.size w w1 → Calls Tryd.prog 7 #[.slice A1 n1 c1, .slice A n c] w1 (GivesE (wL ts (uL fs b)) (wErr ts (uL fs b).length) w1)) :=
      Lib.hid (fun w1 A n c hn hA hB hbel => wrap_any ts (uL fs b) A1 A n1 c1 n c h1 hn.symm hc1 hA w1 ((hb1.below hbel).more hbel.size) hB (ht.below hbel htw))
    clear hb0 hb1 hb2 ht h0 h1 h2 hq
    generalize wL ts (uL fs b) = out at *
    generalize wErr ts (uL fs b).length = x at *
    generalize uL fs b = l at *
    go_enter Tryd.func12, Tryd.ntmps12
    go_wp2_with fail
    refine CU.out.mono ?_
    rintro e w1 ⟨A, c, rfl, hlc, hA, hB, hbel⟩
    have HC := Lib.hid (CW.out w1 A l.length c rfl hA hB hbel)
    have HBE := Lib.hid hbel
    clear hbel hB hA hlc CU CW
    generalize l.length = n at *
    go_wp2_with fail
    refine HC.out.mono ?_
    rintro e w2 ⟨A', c', rfl, hlc, hA', hB', hbel'⟩
    have HF : Go.RowKit.Hid (GivesE out x w (.returned (.tuple #[.slice A' out.length c', .int .i64 (x : Int)])) w2) := Lib.hid ⟨A', c', rfl, hlc, hA', hB', HBE.out.trans (hbel'.mono HBE.out.size)⟩
    clear hbel' hB' hA' hlc HC HBE
    generalize out.length = n' at *
    go_wp2
    go_ret2
    exact HF.out
  · rw [aL, aErr, if_neg hq, if_neg hq]
    have t1 : ((uErr fs b : Nat) : Int) ≠ 0 := by omega
    have t2 : (((uErr fs b : Nat) : Int) != 0) = true := by simp; omega
    have t3 : (((uErr fs b : Nat) : Int) == 0) = false := by simp; omega
    clear hb0 hb1 hb2 ht h0 h1 h2 hq
    generalize uErr fs b = x at *
    generalize uL fs b = l at *
    go_enter Tryd.func12, Tryd.ntmps12
    go_wp2_with fail
    refine CU.out.mono ?_
    rintro e w1 ⟨A, c, rfl, hlc, hA, hB, hbel⟩
    have HBE := Lib.hid hbel
    clear hbel hB hA hlc CU
    generalize l.length = n at *
    go_wp2
    go_ret2
    exact givesE_none x HBE.out
end Go.Proofs.YtonoidhlbnbhcaaDoor
