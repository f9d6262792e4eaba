/-
  The walk of SameChooses (written by tools/gen_chooses.py). No conditions but that both slices hold the bytes.
-/
import Derived.Test.YtgfcdfpbiiiliaaSmChoose
namespace Go.Proofs.Ytgfcdfpbiiiliaa
open Go.RowKit Sm Arr

theorem empty_owns (w : World) : (w.alloc (.cells #[] 5)).ownsRow w.heap.size 5 1 (.slice (some ⟨w.heap.size, 0, none⟩) 0 0) 0 (vals .u8 []) :=
  World.ownsRow_made w #[] 0 (Nat.le_refl _) (by unfold maxLen; omega) rfl
theorem BysN.bys {w : World} {g : Nat} {A : Option Addr} {bs : List Nat} (h : BysN w g A bs) : Bys w w.heap.size A bs :=
  ⟨h.1, fun hl => by obtain ⟨b, off, e, h1, _, hc⟩ := h.2 hl; exact ⟨b, off, e, h1, hc⟩⟩
theorem BysN.drewN {w : World} {g : Nat} {A : Option Addr} {bs : List Nat} (h : BysN w g A bs) (m : Nat) : BysN (w.drewN m) g A bs := h
/-- A row that the call owns lies beside what was there. -/
theorem own_beside {w : World} {base e n g : Nat} {v : Value} {bs : List Nat} (h : w.ownsRow base e 1 v n (vals .u8 bs)) (hb : ∀ x, x ∈ bs → x < 256) (hg : g < base) :
    ∃ A c, v = .slice A n c ∧ BysN w g A bs := by
  have hl : bs.length = n := by have := h.1; simpa [vals] using this
  rcases Nat.eq_zero_or_pos n with h0 | h0
  · subst h0
    obtain rfl : bs = [] := List.eq_nil_of_length_eq_zero hl
    rcases h.2 with ⟨rfl, _⟩ | ⟨g', cap, cur, rfl, _⟩
    · exact ⟨_, _, rfl, hb, fun hp => by simp at hp⟩
    · exact ⟨_, _, rfl, hb, fun hp => by simp at hp⟩
  · obtain ⟨g', cap, rfl, hbg, hlt⟩ := h.form h0
    refine ⟨_, _, rfl, hb, fun _ => ⟨g', 0, rfl, hlt, by omega, fun i hi => ?_⟩⟩
    rw [Nat.zero_add, h.cellAt i (by omega), vals_get .u8 bs i hi]
theorem bys_of_holds {w : World} {g : Nat} {l : List Nat} (h : Holds w g .u8 l) (hb : ∀ x, x ∈ l → x < 256) : Bys w w.heap.size (some ⟨g, 0, none⟩) l :=
  ⟨hb, fun hl => ⟨g, 0, rfl, h.lt hl, fun i hi => by rw [Nat.zero_add]; exact h.cell i hi⟩⟩
theorem Holds.drewN {w : World} {g : Nat} {k : IntKind} {l : List Nat} (h : Holds w g k l) (m : Nat) : Holds (w.drewN m) g k l := h

theorem chooses_long1 (f : Bool) (A : Option Addr) (n c : Nat) (A' : Option Addr) (n' c' : Nat) (w : World) (hn : 300 < n) : Calls Try.prog 5 #[.slice A n c, .slice A' n' c', .bool f] w (Tru w) := by
  have HA := Lib.hid (awake_any w)
  have h1 : decide ((300 : Int) < (n : Int)) = true := by simp; omega
  go_enter Try.func5, Try.ntmps5
  go_wp2_with fail
  refine HA.out.mono ?_
  rintro e w1 ⟨rfl, hbel⟩
  have HBEL := Lib.hid hbel; clear hbel
  go_wp2
  go_ret
  exact ⟨rfl, HBEL.out⟩
theorem chooses_long2 (f : Bool) (A : Option Addr) (n c : Nat) (A' : Option Addr) (n' c' : Nat) (w : World) (hn : n ≤ 300) (hn' : 300 < n') : Calls Try.prog 5 #[.slice A n c, .slice A' n' c', .bool f] w (Tru w) := by
  have HA := Lib.hid (awake_any w)
  have h1 : decide ((300 : Int) < (n : Int)) = false := by simp; omega
  have h2 : decide ((300 : Int) < (n' : Int)) = true := by simp; omega
  go_enter Try.func5, Try.ntmps5
  go_wp2_with fail
  refine HA.out.mono ?_
  rintro e w1 ⟨rfl, hbel⟩
  have HBEL := Lib.hid hbel; clear hbel
  go_wp2
  go_ret
  exact ⟨rfl, HBEL.out⟩
theorem chooses_unlike (f : Bool) (A : Option Addr) (n c : Nat) (A' : Option Addr) (n' c' : Nat) (w : World) (hn : n ≤ 300) (hn' : n' ≤ 300) (hne : n ≠ n') : Calls Try.prog 5 #[.slice A n c, .slice A' n' c', .bool f] w (Tru w) := by
  have HA := Lib.hid (awake_any w)
  have h1 : decide ((300 : Int) < (n : Int)) = false := by simp; omega
  have h2 : decide ((300 : Int) < (n' : Int)) = false := by simp; omega
  have h3 : ((n : Int) != (n' : Int)) = true := by simp; omega
  have C1 := Lib.hid (fun w => choose_len f A A' n n' c c' w hne)
  clear hne
  go_enter Try.func5, Try.ntmps5
  go_wp2_with fail
  refine HA.out.mono ?_
  rintro e w1 ⟨rfl, hbel⟩
  have HBEL := Lib.hid hbel; clear hbel
  go_wp2_with fail
  refine (C1.out w1).mono ?_
  rintro e w2 ⟨rfl, rfl⟩
  go_wp2
  go_ret
  exact ⟨rfl, HBEL.out⟩

set_option maxHeartbeats 1000000 in
theorem chooses_true (bs : List Nat) (A : Option Addr) (n c : Nat) (cs : List Nat) (A' : Option Addr) (c' : Nat) (w : World) (hl : bs.length = n) (hl' : cs.length = n) (hn : n ≤ 300)
    (hb : Bys w w.heap.size A bs) (hc : Bys w w.heap.size A' cs) (hcn : A = none → c = 0) : Calls Try.prog 5 #[.slice A n c, .slice A' n c', .bool true] w (Tru w) := by
  have HA := Lib.hid (awake_any w)
  have HL := Lib.hid hl; clear hl
  have HL' := Lib.hid hl'; clear hl'
  have HB := Lib.hid hb; clear hb
  have HC := Lib.hid hc; clear hc
  have HN := Lib.hid hcn; clear hcn
  have h1 : decide ((300 : Int) < (n : Int)) = false := by simp; omega
  have h3 : ((n : Int) != (n : Int)) = false := by simp
  go_enter Try.func5, Try.ntmps5
  go_wp2_with fail
  refine HA.out.mono ?_
  rintro e w1 ⟨rfl, hbel⟩
  have hb1 := (HB.out.below hbel).more hbel.size
  have hc1 := (HC.out.below hbel).more hbel.size
  have C1 := Lib.hid (choose_any true A A' bs cs n c c' w1 HL.out HL'.out (by omega) hb1 hc1)
  have HH := Lib.hid (Holds.new w1 5 .u8 bs)
  have HBW := Lib.hid (hb1.below (below_alloc w1 (.cells (na .u8 bs) 5)))
  have HS := Lib.hid (show (w1.alloc (.cells (na .u8 bs) 5)).heap.size = w1.heap.size + 1 from World.size_alloc ..)
  have HBEL := Lib.hid (hbel.alloc hbel.size (.cells (na .u8 bs) 5))
  have HSZ := Lib.hid hbel.size
  have HLW := Lib.hid (show bs.length = n from HL.out)
  have HLT := Lib.hid (HB.out.1)
  clear hb1 hc1 hbel HA HB HC
  go_wp2_with fail
  refine C1.out.mono ?_
  rintro e w2 ⟨rfl, hw2⟩
  rw [show pickL true bs cs = bs from rfl] at hw2
  clear C1 HL HL'
  rw [← hw2] at HH HBW HS HBEL
  clear hw2
  generalize bs = l at *
  generalize w1.heap.size = g at *
  go_wp2_with (at_builtin; refine append_bys rfl (.tmp 45) (.tmp 46) 22 rfl w2.heap.size 5 Try.underlying22 info_u8 (.slice (some ⟨w2.heap.size, 0, none⟩) 0 0) 0 [] rfl (empty_owns w2) A n c l rfl HN.out HLW.out g (HBW.out.below ((Below.refl _ _).alloc (by rw [HS.out]; omega) _)) (by omega) (by simp) (by simp) ?_; intro v' w3 hown hv hbel3)
  rw [List.nil_append, Nat.zero_add] at hown
  obtain ⟨A3, c3, rfl, hy3⟩ := own_beside (g := g) hown HLT.out (by rw [HS.out]; omega)
  have hb23 := ((Below.refl w2.heap.size w2).alloc (Nat.le_refl _) (.cells #[] 5)).trans hbel3
  have HY3 := Lib.hid hy3
  have HH3 := Lib.hid (HH.out.below hb23 (by rw [HS.out]; omega))
  have HW3 := Lib.hid (BysN.of (HBW.out.below (hb23.mono (show g ≤ w2.heap.size by rw [HS.out]; omega))) (Nat.le_refl g) (Nat.le_trans (by rw [HS.out]; omega) hb23.size))
  have HB3 := Lib.hid (HBEL.out.trans (hb23.mono HBEL.out.size))
  have HG3 := Lib.hid (show g < w3.heap.size from Nat.lt_of_lt_of_le (by rw [HS.out]; omega) hb23.size)
  have hs1 := same_any (some ⟨g, 0, none⟩) A l l n n n c w3 HLW.out HLW.out (by omega) _ _ (bys_of_holds HH3.out HLT.out) HW3.out.bys
  rw [show decide (l = l) = true by simp] at hs1
  have C2 := Lib.hid hs1
  clear hs1 hown hv hbel3 hb23 hy3 HH HBW HS HBEL HN
  go_wp2_with fail
  refine C2.out.mono ?_
  rintro e w4 ⟨m, rfl, rfl⟩
  clear C2
  have HO := Lib.hid (Only.refl g (w3.drewN m))
  have HHD := Lib.hid (Holds.drewN HH3.out m)
  clear HH3
  go_wp2_with fail
  go_loopw [57] (fun i wr => ∃ (k : Nat) (x : List Nat), k ≤ n ∧ i = .int .i64 k ∧ x.length = n ∧ Holds wr g .u8 x ∧ Only g (w3.drewN m) wr) (fun i _ => n - (intOf i).toNat)
  case atStart => exact ⟨0, l, Nat.zero_le _, rfl, HLW.out, HHD.out, HO.out⟩
  case round =>
    obtain ⟨k, x, hk, rfl, hxl, hhx, hox⟩ := hrel
    have HX := Lib.hid hxl; clear hxl
    have HHX := Lib.hid hhx; clear hhx
    have HOX := Lib.hid hox; clear hox
    by_cases hlt : k < n
    · have hcell := HHX.out.cell k (by rw [HX.out]; exact hlt)
      have hfro := HHX.out.frozen k (by rw [HX.out]; exact hlt)
      generalize x.getD k 0 = y at *
      have hwy : IntKind.u8.wrap ((y : Int) + 1) = (((y + 1) % 256 : Nat) : Int) := by rw [IntKind.wrap_u8]; omega
      have HST := Lib.hid (HHX.out.set k ((y + 1) % 256) (by rw [HX.out]; exact hlt))
      have HSO := Lib.hid (HOX.out.setCell k (.int .u8 (((y + 1) % 256 : Nat) : Int)))
      generalize (y + 1) % 256 = z at *
      go_wp2
      go_roundw
      case rel => exact ⟨k + 1, x.set k z, by omega, by go_num, by rw [List.length_set]; exact HX.out, HST.out, HSO.out⟩
      case measure => simp [intOf]; omega
    · obtain rfl : k = n := by omega
      have hw5 := ((HW3.out.drewN m).only HOX.out).bys
      have hy5 := ((HY3.out.drewN m).only HOX.out).bys
      have hs2 := same_any A A3 l l k k c c3 wr HLW.out HLW.out (by omega) _ _ hw5 hy5
      rw [show decide (l = l) = true by simp] at hs2
      have C3 := Lib.hid hs2
      have HBF := Lib.hid ((below_drewN HB3.out m).trans (HOX.out.below HSZ.out (Nat.le_trans HSZ.out (Nat.le_of_lt HG3.out))))
      clear hs2 hw5 hy5
      go_wp2_with fail
      refine C3.out.mono ?_
      rintro e w6 ⟨m2, rfl, rfl⟩
      go_wp2_with fail
      go_ret
      exact ⟨rfl, below_drewN HBF.out m2⟩

set_option maxHeartbeats 1000000 in
theorem chooses_false (bs : List Nat) (A : Option Addr) (n c : Nat) (cs : List Nat) (A' : Option Addr) (c' : Nat) (w : World) (hl : bs.length = n) (hl' : cs.length = n) (hn : n ≤ 300)
    (hb : Bys w w.heap.size A bs) (hc : Bys w w.heap.size A' cs) (hcn : A' = none → c' = 0) : Calls Try.prog 5 #[.slice A n c, .slice A' n c', .bool false] w (Tru w) := by
  have HA := Lib.hid (awake_any w)
  have HL := Lib.hid hl; clear hl
  have HL' := Lib.hid hl'; clear hl'
  have HB := Lib.hid hb; clear hb
  have HC := Lib.hid hc; clear hc
  have HN := Lib.hid hcn; clear hcn
  have h1 : decide ((300 : Int) < (n : Int)) = false := by simp; omega
  have h3 : ((n : Int) != (n : Int)) = false := by simp
  go_enter Try.func5, Try.ntmps5
  go_wp2_with fail
  refine HA.out.mono ?_
  rintro e w1 ⟨rfl, hbel⟩
  have hb1 := (HB.out.below hbel).more hbel.size
  have hc1 := (HC.out.below hbel).more hbel.size
  have C1 := Lib.hid (choose_any false A A' bs cs n c c' w1 HL.out HL'.out (by omega) hb1 hc1)
  have HH := Lib.hid (Holds.new w1 5 .u8 cs)
  have HBW := Lib.hid (hc1.below (below_alloc w1 (.cells (na .u8 cs) 5)))
  have HS := Lib.hid (show (w1.alloc (.cells (na .u8 cs) 5)).heap.size = w1.heap.size + 1 from World.size_alloc ..)
  have HBEL := Lib.hid (hbel.alloc hbel.size (.cells (na .u8 cs) 5))
  have HSZ := Lib.hid hbel.size
  have HLW := Lib.hid (show cs.length = n from HL'.out)
  have HLT := Lib.hid (HC.out.1)
  clear hb1 hc1 hbel HA HB HC
  go_wp2_with fail
  refine C1.out.mono ?_
  rintro e w2 ⟨rfl, hw2⟩
  rw [show pickL false bs cs = cs from rfl] at hw2
  clear C1 HL HL'
  rw [← hw2] at HH HBW HS HBEL
  clear hw2
  generalize cs = l at *
  generalize w1.heap.size = g at *
  go_wp2_with (at_builtin; refine append_bys rfl (.tmp 45) (.tmp 46) 22 rfl w2.heap.size 5 Try.underlying22 info_u8 (.slice (some ⟨w2.heap.size, 0, none⟩) 0 0) 0 [] rfl (empty_owns w2) A' n c' l rfl HN.out HLW.out g (HBW.out.below ((Below.refl _ _).alloc (by rw [HS.out]; omega) _)) (by omega) (by simp) (by simp) ?_; intro v' w3 hown hv hbel3)
  rw [List.nil_append, Nat.zero_add] at hown
  obtain ⟨A3, c3, rfl, hy3⟩ := own_beside (g := g) hown HLT.out (by rw [HS.out]; omega)
  have hb23 := ((Below.refl w2.heap.size w2).alloc (Nat.le_refl _) (.cells #[] 5)).trans hbel3
  have HY3 := Lib.hid hy3
  have HH3 := Lib.hid (HH.out.below hb23 (by rw [HS.out]; omega))
  have HW3 := Lib.hid (BysN.of (HBW.out.below (hb23.mono (show g ≤ w2.heap.size by rw [HS.out]; omega))) (Nat.le_refl g) (Nat.le_trans (by rw [HS.out]; omega) hb23.size))
  have HB3 := Lib.hid (HBEL.out.trans (hb23.mono HBEL.out.size))
  have HG3 := Lib.hid (show g < w3.heap.size from Nat.lt_of_lt_of_le (by rw [HS.out]; omega) hb23.size)
  have hs1 := same_any (some ⟨g, 0, none⟩) A' l l n n n c' w3 HLW.out HLW.out (by omega) _ _ (bys_of_holds HH3.out HLT.out) HW3.out.bys
  rw [show decide (l = l) = true by simp] at hs1
  have C2 := Lib.hid hs1
  clear hs1 hown hv hbel3 hb23 hy3 HH HBW HS HBEL HN
  go_wp2_with fail
  refine C2.out.mono ?_
  rintro e w4 ⟨m, rfl, rfl⟩
  clear C2
  have HO := Lib.hid (Only.refl g (w3.drewN m))
  have HHD := Lib.hid (Holds.drewN HH3.out m)
  clear HH3
  go_wp2_with fail
  go_loopw [57] (fun i wr => ∃ (k : Nat) (x : List Nat), k ≤ n ∧ i = .int .i64 k ∧ x.length = n ∧ Holds wr g .u8 x ∧ Only g (w3.drewN m) wr) (fun i _ => n - (intOf i).toNat)
  case atStart => exact ⟨0, l, Nat.zero_le _, rfl, HLW.out, HHD.out, HO.out⟩
  case round =>
    obtain ⟨k, x, hk, rfl, hxl, hhx, hox⟩ := hrel
    have HX := Lib.hid hxl; clear hxl
    have HHX := Lib.hid hhx; clear hhx
    have HOX := Lib.hid hox; clear hox
    by_cases hlt : k < n
    · have hcell := HHX.out.cell k (by rw [HX.out]; exact hlt)
      have hfro := HHX.out.frozen k (by rw [HX.out]; exact hlt)
      generalize x.getD k 0 = y at *
      have hwy : IntKind.u8.wrap ((y : Int) + 1) = (((y + 1) % 256 : Nat) : Int) := by rw [IntKind.wrap_u8]; omega
      have HST := Lib.hid (HHX.out.set k ((y + 1) % 256) (by rw [HX.out]; exact hlt))
      have HSO := Lib.hid (HOX.out.setCell k (.int .u8 (((y + 1) % 256 : Nat) : Int)))
      generalize (y + 1) % 256 = z at *
      go_wp2
      go_roundw
      case rel => exact ⟨k + 1, x.set k z, by omega, by go_num, by rw [List.length_set]; exact HX.out, HST.out, HSO.out⟩
      case measure => simp [intOf]; omega
    · obtain rfl : k = n := by omega
      have hw5 := ((HW3.out.drewN m).only HOX.out).bys
      have hy5 := ((HY3.out.drewN m).only HOX.out).bys
      have hs2 := same_any A' A3 l l k k c' c3 wr HLW.out HLW.out (by omega) _ _ hw5 hy5
      rw [show decide (l = l) = true by simp] at hs2
      have C3 := Lib.hid hs2
      have HBF := Lib.hid ((below_drewN HB3.out m).trans (HOX.out.below HSZ.out (Nat.le_trans HSZ.out (Nat.le_of_lt HG3.out))))
      clear hs2 hw5 hy5
      go_wp2_with fail
      refine C3.out.mono ?_
      rintro e w6 ⟨m2, rfl, rfl⟩
      go_wp2_with fail
      go_ret
      exact ⟨rfl, below_drewN HBF.out m2⟩

/-- SAMECHOOSES. -/
theorem sameChooses_any {w : World} (bs : List Nat) (A : Option Addr) (c : Nat) (hb : Bys w w.heap.size A bs) (_ : bs.length ≤ c) (hcn : A = none → c = 0) (cs : List Nat) (A' : Option Addr) (c' : Nat) (hc : Bys w w.heap.size A' cs) (_ : cs.length ≤ c') (hcn' : A' = none → c' = 0) (f : Bool) :
    Calls Try.prog 5 #[.slice A bs.length c, .slice A' cs.length c', .bool f] w (Tru w) := by
  rcases Nat.lt_or_ge 300 bs.length with h | h
  · exact chooses_long1 f A _ c A' _ c' w h
  · rcases Nat.lt_or_ge 300 cs.length with h' | h'
    · exact chooses_long2 f A _ c A' _ c' w h h'
    · by_cases hne : cs.length = bs.length
      · rw [hne]
        cases f
        · exact chooses_false bs A _ c cs A' c' w rfl hne h hb hc hcn'
        · exact chooses_true bs A _ c cs A' c' w rfl hne h hb hc hcn
      · exact chooses_unlike f A _ c A' _ c' w h h' (fun e => hne e.symm)
end Go.Proofs.Ytgfcdfpbiiiliaa
