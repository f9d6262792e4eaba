/-
  Contracts of wrap.Wrap, wrap.Unwrap and wrap.Again. Conditions: the slices hold their bytes; the table of widths stands in its variable.
-/
import Derived.Test.YtonoidhlbnbhcaaDoorWrStep
import Derived.Test.YtonoidhlbnbhcaaDoorOwnAll
import Derived.Test.YtonoidhlbnbhcaaDoorAesNew
import Derived.Test.YtonoidhlbnbhcaaDoorSmAll
namespace Go.Proofs.YtonoidhlbnbhcaaDoor
open Go.RowKit Arr Gf Sb Ae Wr

/-- Bytes and an error's number; what was there is as it was. -/
def GivesE (l : List Nat) (x : Nat) (w : World) (e : Ending) (w' : World) : Prop :=
  ∃ A c, e = .returned (.tuple #[.slice A l.length c, .int .i64 (x : Int)]) ∧ l.length ≤ c ∧ (A = none → c = 0) ∧ Bys w' w'.heap.size A l ∧ Below w.heap.size w w'
theorem givesE_none {w w' : World} (x : Nat) (h : Below w.heap.size w w') : GivesE [] x w (.returned (.tuple #[.slice none 0 0, .int .i64 (x : Int)])) w' :=
  ⟨none, 0, rfl, Nat.le_refl _, fun _ => rfl, Bys.nil _ _ _, h⟩
theorem holds_bys {w : World} {g : Nat} {l : List Nat} (h : Holds w g .u8 l) (hl : ∀ x, x ∈ l → x < 256) : Bys w w.heap.size (some ⟨g, 0, none⟩) l :=
  ⟨hl, fun h0 => ⟨g, 0, rfl, h.lt h0, fun i hi => by rw [Nat.zero_add]; exact h.cell i hi⟩⟩

/-- A key's rounds and round keys. -/
def rr (ks : List Nat) : Nat := nk ks.length + 6
def kk (ks : List Nat) : List Nat := keysOf ks (nk ks.length)
theorem nk16 : nk 16 = 4 := rfl
theorem nk32 : nk 32 = 8 := rfl
theorem rr_le {ks : List Nat} (h : ks.length = 16 ∨ ks.length = 32) : 1 ≤ rr ks ∧ rr ks ≤ 14 := by
  rcases h with h | h <;> rw [rr, h]
  · rw [nk16]; omega
  · rw [nk32]; omega
theorem kk_ok {ks : List Nat} (h : ks.length = 16 ∨ ks.length = 32) : Keys (rr ks) (kk ks) := keys_ok _ _ _ (rr_le h).2
theorem new_kek (ks : List Nat) (h : ks.length = 16 ∨ ks.length = 32) (A : Option Addr) (n c : Nat) (hn : ks.length = n) (hc : n ≤ c) (w : World) (hb : Bys w w.heap.size A ks) (ht : Tab w 0) :
    Calls Tryd.prog 13 #[.slice A n c] w fun e w' => ∃ g, e = .returned (.tuple #[.pointer (some ⟨g, 0, none⟩), .int .i64 0]) ∧ Ciph w' g (rr ks) (kk ks) ∧ w.heap.size ≤ g ∧ Below w.heap.size w w' := by
  subst hn
  rcases h with h | h
  · have e1 : rr ks = 4 + 6 := by rw [rr, h]; rfl
    have e2 : kk ks = keysOf ks 4 := by rw [kk, h]; rfl
    rw [h, e1, e2]
    exact new4 ks h A c (by omega) w hb ht
  · have e1 : rr ks = 8 + 6 := by rw [rr, h]; rfl
    have e2 : kk ks = keysOf ks 8 := by rw [kk, h]; rfl
    rw [h, e1, e2]
    exact new8 ks h A c (by omega) w hb ht
theorem may_of {n : Int} (h : may n = true) : 16 ≤ n ∧ n ≤ 64 ∧ n % 8 = 0 := by
  simp only [may, Bool.and_eq_true, decide_eq_true_eq] at h
  exact ⟨h.1.1, h.1.2, h.2⟩

/-- The wrapped key, or none; the error. -/
def wErr (ks : List Nat) (n1 : Nat) : Nat := if ks.length ≠ 16 ∧ ks.length ≠ 32 then 20 else if may n1 then 0 else 2
def wL (ks key : List Nat) : List Nat := if wErr ks key.length = 0 then wrapL (rr ks) (kk ks) key else []
theorem wErr_bad {ks : List Nat} {n1 : Nat} (h : ¬ (ks.length = 16 ∨ ks.length = 32)) : wErr ks n1 = 20 := by rw [wErr, if_pos (by omega)]
theorem wErr_ok {ks : List Nat} {n1 : Nat} (h : ks.length = 16 ∨ ks.length = 32) : wErr ks n1 = if may n1 then 0 else 2 := by rw [wErr, if_neg (by omega)]

set_option maxHeartbeats 2000000 in
theorem wrap_some (ks key : List Nat) (A0 A1 : Option Addr) (n0 c0 n1 c1 : Nat) (h0 : ks.length = n0) (h1 : key.length = n1) (hc0 : n0 ≤ c0) (hA1 : A1 = none → c1 = 0) (hk : ks.length = 16 ∨ ks.length = 32) (hm : may (n1 : Int) = true)
    (w : World) (hb0 : Bys w w.heap.size A0 ks) (hb1 : Bys w w.heap.size A1 key) (ht : Tab w 0) :
    Calls Tryd.prog 7 #[.slice A0 n0 c0, .slice A1 n1 c1] w (GivesE (wrapL (rr ks) (kk ks) key) 0 w) := by
  obtain ⟨m1, m2, m3⟩ := may_of hm
  obtain ⟨n, hn⟩ : ∃ n, n1 = 8 * n := ⟨n1 / 8, by omega⟩
  have htw := ht.lt
  have HB1 := Lib.hid hb1
  have HT := Lib.hid ht
  have H1 := Lib.hid h1
  have CN := Lib.hid (new_kek ks hk A0 n0 c0 h0 hc0 w hb0 ht)
  have CZ := Lib.hid (fun w' => by have := size_any (n1 : Int) w'; rw [hm] at this; exact this)
  have HX := Lib.hid (tx_wrapL (kk_ok hk) n (by omega) (h1.trans hn) hb1.1)
  have HK := Lib.hid (tx_key n (h1.trans hn) hb1.1)
  have CS := Lib.hid (fun gc g c hc hgc hgt w' h => stepOn_any (rr_le hk).1 (rr_le hk).2 (kk_ok hk) gc g (mk ++ key).length c n (mk ++ key) (tx_key n (h1.trans hn) hb1.1) (by omega) (by omega) (tx_key n (h1.trans hn) hb1.1).1 hc hgc hgt w' h)
  have HE := Lib.hid (show wrp (enc (rr ks) (kk ks)) n (mk ++ key) (6 * n) = wrapL (rr ks) (kk ks) key by rw [wrapL, show key.length / 8 = n by omega])
  rw [HE.out] at CS
  have CC : Go.RowKit.Hid (∀ (w3 : World) (gs g0 : Nat), w3.cell? ⟨gs, 0, none⟩ = some (.slice (some ⟨g0, 0, none⟩) 8 8) → w3.cell? ⟨gs, 1, none⟩ = some (.slice A1 n1 c1) → Bys w3 w3.heap.size (some ⟨g0, 0, none⟩) mk → Bys w3 w3.heap.size A1 key → Calls Tryd.prog 14 #[.slice (some ⟨gs, 0, none⟩) 2 2] w3 (Fresh (mk ++ key) w3)) :=
    Lib.hid (fun w3 gs g0 h2 h3 h4 h5 => concat2 gs (some ⟨g0, 0, none⟩) A1 8 8 n1 c1 mk key rfl h1 (by omega) (by omega) (by omega) (fun h => by cases h) hA1 w3 h2 h3 h4 h5)
  clear hb0 hb1 ht h0 h1 hm hn m3 hk HE
  generalize wrapL (rr ks) (kk ks) key = out at *
  generalize rr ks = r at *
  generalize kk ks = K at *
  go_enter Tryd.func7, Tryd.ntmps7
  go_wp2_with fail
  refine CN.out.mono ?_
  rintro e w1 ⟨gc, rfl, hC, hge, hbel⟩
  have HC := Lib.hid hC
  have HBE := Lib.hid hbel
  clear hC hbel CN
  go_wp2_with fail
  refine (CZ.out w1).mono ?_
  rintro e w2 ⟨rfl, rfl⟩
  clear CZ
  go_wp2_with fail
  refine (put64_any 12008468691120727718 w1 (HT.out.below HBE.out htw)).mono ?_
  rintro e w2 ⟨arr, hla, rfl, rfl⟩
  obtain rfl := laid8 hla
  clear hla
  rw [mk_bytes]
  have hgc1 := HC.out.lt
  have HM := Lib.hid (Holds.new w1 5 .u8 mk)
  have HC2 := Lib.hid (HC.out.below (below_alloc w1 (.cells (na .u8 mk) 5)) hgc1)
  have HB2 := Lib.hid (HBE.out.alloc HBE.out.size (.cells (na .u8 mk) 5))
  have S2 := Lib.hid (World.size_alloc w1 (.cells (na .u8 mk) 5))
  clear HC HBE
  generalize hw2 : w1.alloc (.cells (na .u8 mk) 5) = w2 at *
  have hw2' := Lib.hid hw2
  clear hw2
  go_wp2_with fail
  have hlast := heap_alloc_last w2 (.cells #[.slice (some ⟨w1.heap.size, 0, none⟩) 8 8, .slice A1 n1 c1] 22)
  have HB3 := Lib.hid (HB2.out.alloc HB2.out.size (.cells #[.slice (some ⟨w1.heap.size, 0, none⟩) 8 8, .slice A1 n1 c1] 22))
  have HS3 := below_alloc w2 (.cells #[.slice (some ⟨w1.heap.size, 0, none⟩) 8 8, .slice A1 n1 c1] 22)
  refine (CC.out _ w2.heap.size w1.heap.size (by rw [cell_of_row _ _ _ _ _ _ hlast]; rfl) (by rw [cell_of_row _ _ _ _ _ _ hlast]; rfl) (holds_bys (HM.out.alloc _) (by decide)) (((HB1.out.below HB3.out).more HB3.out.size))).mono ?_
  rintro e w4 ⟨g, c, rfl, hgge, hgc2, hh, hbel4⟩
  have hgcl : gc < g := by have := HC2.out.lt; have := HS3.size; omega
  have hwg : w.heap.size ≤ g := by have := HB3.out.size; omega
  have HB4 := Lib.hid (HB3.out.trans (hbel4.mono HB3.out.size))
  have HC4 := Lib.hid ((HC2.out.below HS3 HC2.out.lt).below hbel4 (Nat.lt_of_lt_of_le HC2.out.lt HS3.size))
  have HS := Lib.hid (CS.out gc g c hgc2 (by omega) (by omega) w4 ⟨hh, HC4.out, HT.out.below HB4.out htw, Only.refl _ _⟩)
  clear hlast HB3 HS3 hh hbel4 HC4 CS CC HM HB2 HC2 S2 hw2' HB1
  have HL := Lib.hid (show out.length = (mk ++ key).length from HX.out.1.trans HK.out.1.symm)
  clear HK
  generalize (mk ++ key).length = N at *
  go_wp2_with fail
  refine HS.out.mono ?_
  rintro e w5 ⟨rfl, hh5, ho5⟩
  have HF : Go.RowKit.Hid (GivesE out 0 w (.returned (.tuple #[.slice (some ⟨g, 0, none⟩) N c, .int .i64 0])) w5) := Lib.hid (by
    rw [← HL.out]
    exact ⟨_, _, rfl, by rw [HL.out]; exact hgc2, (fun h => by cases h), holds_bys hh5 HX.out.mem, HB4.out.trans (ho5.below hwg HB4.out.size)⟩)
  clear hh5 ho5 HB4 HS
  go_wp2
  go_ret2
  exact HF.out

theorem wrap_any (ks key : List Nat) (A0 A1 : Option Addr) (n0 c0 n1 c1 : Nat) (h0 : ks.length = n0) (h1 : key.length = n1) (hc0 : n0 ≤ c0) (hA1 : A1 = none → c1 = 0)
    (w : World) (hb0 : Bys w w.heap.size A0 ks) (hb1 : Bys w w.heap.size A1 key) (ht : Tab w 0) :
    Calls Tryd.prog 7 #[.slice A0 n0 c0, .slice A1 n1 c1] w (GivesE (wL ks key) (wErr ks key.length) w) := by
  by_cases hk : ks.length = 16 ∨ ks.length = 32
  · rw [wL, wErr_ok hk]
    by_cases hm : may (n1 : Int) = true
    · rw [h1, hm]
      exact wrap_some ks key A0 A1 n0 c0 n1 c1 h0 h1 hc0 hA1 hk hm w hb0 hb1 ht
    · have hm' : may (n1 : Int) = false := by simpa using hm
      rw [h1, hm']
      have CN := Lib.hid (new_kek ks hk A0 n0 c0 h0 hc0 w hb0 ht)
      have CZ := Lib.hid (fun w' => by have := size_any (n1 : Int) w'; rw [hm'] at this; exact this)
      clear hb0 hb1 ht h0 h1 hm hm' hk
      go_enter Tryd.func7, Tryd.ntmps7
      go_wp2_with fail
      refine CN.out.mono ?_
      rintro e w1 ⟨gc, rfl, hC, hge, hbel⟩
      have HBE := Lib.hid hbel
      clear hC hbel CN
      go_wp2_with fail
      refine (CZ.out w1).mono ?_
      rintro e w2 ⟨rfl, rfl⟩
      go_wp2
      go_ret2
      exact givesE_none 2 HBE.out
  · rw [wL, wErr_bad hk]
    have CN := Lib.hid (new_none A0 n0 c0 (by omega) (by omega) w)
    clear hb0 hb1 ht h0 h1 hk
    go_enter Tryd.func7, Tryd.ntmps7
    go_wp2_with fail
    refine CN.out.mono ?_
    rintro e w1 ⟨rfl, rfl⟩
    go_wp2
    go_ret2
    exact givesE_none 20 (Below.refl _ _)
end Go.Proofs.YtonoidhlbnbhcaaDoor
