/-
  The contract of aes.mixed. No conditions.
  The contract of aes.unmixed. No conditions.
-/
import Derived.Test.YtdjknmnmacppdaaDoorTogAll
import Derived.Test.YtdjknmnmacppdaaDoorBytes
namespace Go.Proofs.YtdjknmnmacppdaaDoor
open Go.RowKit Arr Gf Ae

set_option maxHeartbeats 2000000 in
set_option maxRecDepth 10000 in
theorem mixed_any (b : List Nat) (hb : St b) (g o : Nat) (w : World) (hg : HAt w g o .u8 twL) : Calls Tryd.prog 39 #[.agg (na .u8 b), .pointer (some ⟨g, o, none⟩)] w (GivesA (mixL b) w) := by
  have s1 : (w.alloc (.cells (na .u8 b) 34)).heap.size = w.heap.size + 1 := World.size_alloc ..
  have s2 : ((w.alloc (.cells (na .u8 b) 34)).alloc (.cells (na .u8 (zs 16)) 34)).heap.size = w.heap.size + 1 + 1 := by rw [World.size_alloc, s1]
  have A1 := ((Holds.new w 34 .u8 b).alloc (.cells (na .u8 (zs 16)) 34)).alloc (.cells (na .u8 (zs 16)) 34)
  have A2 := (Holds.new (w.alloc (.cells (na .u8 b) 34)) 34 .u8 (zs 16)).alloc (.cells (na .u8 (zs 16)) 34)
  have A3 := Holds.new ((w.alloc (.cells (na .u8 b) 34)).alloc (.cells (na .u8 (zs 16)) 34)) 34 .u8 (zs 16)
  have A4 := (((Below.refl w.heap.size w).alloc (Nat.le_refl _) (.cells (na .u8 b) 34)).alloc (by rw [s1]; omega) (.cells (na .u8 (zs 16)) 34)).alloc (by rw [s2]; omega) (.cells (na .u8 (zs 16)) 34)
  rw [s1] at A2
  rw [s2] at A3
  have hgw : g < w.heap.size := hg.lt (by rw [twL_len]; omega)
  have hlb := Lib.hid hb.1
  have B1 := Lib.hid A1
  have B2 := Lib.hid A2
  have B3 := Lib.hid A3
  have B4 := Lib.hid A4
  have HG := Lib.hid hg
  clear s1 s2 A1 A2 A3 A4 hg
  go_enter Tryd.func39, Tryd.ntmps39
  go_wp2_with (first | (with_reducible refine Arr.alloc (t := 34) _ z16 ?_) | fail)
  go_loopw [6] (fun i wr => ∃ c q : Nat, c ≤ 4 ∧ Go.RowKit.Hid (q = 4 * c) ∧ i = .int .i64 (q : Nat) ∧ Holds wr w.heap.size .u8 b ∧ Holds wr (w.heap.size + 1) .u8 (zs 16) ∧ Holds wr (w.heap.size + 1 + 1) .u8 (upto (mixAt b) (fun _ => 0) 16 q) ∧ Below w.heap.size w wr) (fun i _ => 16 - (intOf i).toNat)
  case atStart => exact ⟨0, 0, by omega, Lib.hid rfl, rfl, B1.out, B2.out, by rw [upto_noughts]; exact B3.out, B4.out⟩
  case round =>
    clear B1 B2 B3 B4
    obtain ⟨c, q, hc, HQ, rfl, h1, h2, h3, h4⟩ := hrel
    have H1 := Lib.hid h1
    have H2 := Lib.hid h2
    have H3 := Lib.hid h3
    have H4 := Lib.hid h4
    clear h1 h2 h3 h4
    by_cases hlt : c < 4
    · have hq := HQ.out
      obtain ⟨q1, hq1⟩ : ∃ q1, q1 = q + 1 := ⟨_, rfl⟩
      obtain ⟨q2, hq2⟩ : ∃ q2, q2 = q + 2 := ⟨_, rfl⟩
      obtain ⟨q3, hq3⟩ : ∃ q3, q3 = q + 3 := ⟨_, rfl⟩
      have e1 : (q : Int) + 1 = (q1 : Int) := by omega
      have e2 : (q : Int) + 2 = (q2 : Int) := by omega
      have e3 : (q : Int) + 3 = (q3 : Int) := by omega
      have i0 : (q : Int) < 16 := by omega
      have i1 : (q1 : Int) < 16 := by omega
      have i2 : (q2 : Int) < 16 := by omega
      have i3 : (q3 : Int) < 16 := by omega
      have n1 := wrap_nat q1 (by omega)
      have n2 := wrap_nat q2 (by omega)
      have n3 := wrap_nat q3 (by omega)
      have tq : decide ((q : Int) < 16) = true := by simp; omega
      have y1 : bits .xor .u8 ((b.getD q 0 : Nat) : Int) ((b.getD q1 0 : Nat) : Int) = ((b.getD q 0 ^^^ b.getD q1 0 : Nat) : Int) := u8_xor_nat _ _ (hb.2 _) (hb.2 _)
      have y2 : bits .xor .u8 ((b.getD q 0 ^^^ b.getD q1 0 : Nat) : Int) ((b.getD q2 0 : Nat) : Int) = ((b.getD q 0 ^^^ b.getD q1 0 ^^^ b.getD q2 0 : Nat) : Int) := u8_xor_nat _ _ (xor_lt (hb.2 _) (hb.2 _)) (hb.2 _)
      have y3 : bits .xor .u8 ((b.getD q 0 ^^^ b.getD q1 0 ^^^ b.getD q2 0 : Nat) : Int) ((b.getD q3 0 : Nat) : Int) = ((b.getD q 0 ^^^ b.getD q1 0 ^^^ b.getD q2 0 ^^^ b.getD q3 0 : Nat) : Int) := u8_xor_nat _ _ (xor_lt (xor_lt (hb.2 _) (hb.2 _)) (hb.2 _)) (hb.2 _)
      have hs : b.getD q 0 ^^^ b.getD q1 0 ^^^ b.getD q2 0 ^^^ b.getD q3 0 < 256 := xor_lt (xor_lt (xor_lt (hb.2 _) (hb.2 _)) (hb.2 _)) (hb.2 _)
      have MC : ∀ j, j < 4 → mixAt b (q + j) = (b.getD (q + j) 0 ^^^ (b.getD q 0 ^^^ b.getD q1 0 ^^^ b.getD q2 0 ^^^ b.getD q3 0)) ^^^ D (b.getD (q + j) 0 ^^^ b.getD (q + (j + 1) % 4) 0) := by
        intro j hj
        rw [hq1, hq2, hq3, hq]
        exact mixAt_col b c j hj
      have MC := Lib.hid MC
      go_wp2_with fail
      refine region_still (by kernel_rfl) (by kernel_rfl) ?_
      intro wd hwd
      have G1 : Holds wd w.heap.size .u8 b := by rw [hwd]; exact H1.out.drew
      have G2 : Holds wd (w.heap.size + 1) .u8 (zs 16) := by rw [hwd]; exact H2.out.drew
      have G3 : Holds wd (w.heap.size + 1 + 1) .u8 (upto (mixAt b) (fun _ => 0) 16 q) := by rw [hwd]; exact H3.out.drew
      have G4 : Below w.heap.size w wd := by rw [hwd]; exact below_drew H4.out
      have c0 := G1.cell q (by have := hlb.out; omega)
      have c1 := G1.cell q1 (by have := hlb.out; omega)
      have c2 := G1.cell q2 (by have := hlb.out; omega)
      have c3 := G1.cell q3 (by have := hlb.out; omega)
      clear hwd H1 H2 H3 H4
      have H1 := Lib.hid G1
      have H2 := Lib.hid G2
      have H3 := Lib.hid G3
      have H4 := Lib.hid G4
      clear G1 G2 G3 G4
      generalize b.getD q 0 ^^^ b.getD q1 0 ^^^ b.getD q2 0 ^^^ b.getD q3 0 = s at *
      generalize b.getD q 0 ^^^ b.getD q1 0 ^^^ b.getD q2 0 = x012 at *
      generalize b.getD q 0 ^^^ b.getD q1 0 = x01 at *
      generalize b.getD q 0 = x0 at *
      generalize b.getD q1 0 = x1 at *
      generalize b.getD q2 0 = x2 at *
      generalize b.getD q3 0 = x3 at *
      clear hq hq1 hq2 hq3
      repeat still_step
      refine wpStill_nil ?_
      clear c0 c1 c2 c3 y1 y2 y3
      go_wp2_with fail
      go_loopw [31] (fun i wr => ∃ r : Nat, r ≤ 4 ∧ i = .int .i64 (r : Nat) ∧ Holds wr w.heap.size .u8 b ∧ Holds wr (w.heap.size + 1) .u8 (zs 16) ∧ Holds wr (w.heap.size + 1 + 1) .u8 (upto (mixAt b) (fun _ => 0) 16 (q + r)) ∧ Below w.heap.size w wr) (fun i _ => 4 - (intOf i).toNat)
      case atStart => exact ⟨0, by omega, rfl, H1.out, H2.out, H3.out, H4.out⟩
      case round =>
        clear H1 H2 H3 H4
        obtain ⟨r, hr, rfl, h1, h2, h3, h4⟩ := hrel
        have H1 := Lib.hid h1
        have H2 := Lib.hid h2
        have H3 := Lib.hid h3
        have H4 := Lib.hid h4
        clear h1 h2 h3 h4
        by_cases hrt : r < 4
        · obtain ⟨y, hy⟩ : ∃ y, y = q + r := ⟨_, rfl⟩
          obtain ⟨r1, hr1⟩ : ∃ r1, r1 = (r + 1) % 4 := ⟨_, rfl⟩
          obtain ⟨z, hz⟩ : ∃ z, z = q + r1 := ⟨_, rfl⟩
          have n4 := wrap_nat y (by omega)
          have n5 := wrap_nat z (by omega)
          have n6 : IntKind.i64.wrap ((r : Int) + 1) = (r : Int) + 1 := by rw [IntKind.wrap_i64]; omega
          have n7 : Int.tmod ((r : Int) + 1) 4 = (r1 : Int) := by rw [Int.tmod_eq_emod_of_nonneg (by omega)]; omega
          have n8 := wrap_nat r1 (by omega)
          have tr : decide ((r : Int) < 4) = true := by simp; omega
          have a1 : (q : Int) + (r : Int) = (y : Int) := by omega
          have a2 : ((r : Int) + 1) % 4 = (r1 : Int) := by omega
          have a3 : (q : Int) + (r1 : Int) = (z : Int) := by omega
          have j1 : (y : Int) < 16 := by omega
          have j2 : (z : Int) < 16 := by omega
          have M := MC.out r hrt
          rw [← hr1, ← hz, ← hy] at M
          rw [← hy] at H3
          have hx1 : bits .xor .u8 ((b.getD y 0 : Nat) : Int) (s : Int) = ((b.getD y 0 ^^^ s : Nat) : Int) := u8_xor_nat _ _ (hb.2 _) hs
          have hx2 : bits .xor .u8 ((b.getD y 0 : Nat) : Int) ((b.getD z 0 : Nat) : Int) = ((b.getD y 0 ^^^ b.getD z 0 : Nat) : Int) := u8_xor_nat _ _ (hb.2 _) (hb.2 _)
          have hp : b.getD y 0 ^^^ b.getD z 0 < 256 := xor_lt (hb.2 _) (hb.2 _)
          have hx3 : bits .xor .u8 ((b.getD y 0 ^^^ s : Nat) : Int) ((D (b.getD y 0 ^^^ b.getD z 0) : Nat) : Int) = ((mixAt b y : Nat) : Int) := by
            rw [M]; exact u8_xor_nat _ _ (xor_lt (hb.2 _) hs) (D_lt _)
          have HS := Lib.hid (upto_succ (mixAt b) (fun _ => 0) 16 y (by omega))
          have lu := length_upto (mixAt b) (fun _ => 0) 16 y
          generalize upto (mixAt b) (fun _ => 0) 16 y = u at *
          clear M
          go_wp2_with fail
          refine region_tail 29 (by kernel_rfl) (by kernel_rfl) ?_
          intro wd hwd
          have G1 : Holds wd w.heap.size .u8 b := by rw [hwd]; exact H1.out.drew
          have G2 : Holds wd (w.heap.size + 1) .u8 (zs 16) := by rw [hwd]; exact H2.out.drew
          have G3 : Holds wd (w.heap.size + 1 + 1) .u8 u := by rw [hwd]; exact H3.out.drew
          have G4 : Below w.heap.size w wd := by rw [hwd]; exact below_drew H4.out
          clear hwd H1 H2 H3 H4
          have c1 := G1.cell y (by have := hlb.out; omega)
          have c2 := G1.cell z (by have := hlb.out; omega)
          have c3 := (HG.out.below G4 hgw).cell (b.getD y 0 ^^^ b.getD z 0) (by rw [twL_len]; exact hp)
          rw [twL_get _ hp] at c3
          have c4 := G3.cell y (by omega)
          have f4 := G3.frozen y (by omega)
          have X1 := G1.beside ⟨w.heap.size + 1 + 1, y, none⟩ (.int .u8 ((mixAt b y : Nat) : Int)) (show w.heap.size + 1 + 1 ≠ w.heap.size by omega)
          have X2 := G2.beside ⟨w.heap.size + 1 + 1, y, none⟩ (.int .u8 ((mixAt b y : Nat) : Int)) (show w.heap.size + 1 + 1 ≠ w.heap.size + 1 by omega)
          have X3 := G3.set y (mixAt b y) (by omega)
          rw [← HS.out] at X3
          have X4 := G4.setCell (p := ⟨w.heap.size + 1 + 1, y, none⟩) (show w.heap.size ≤ w.heap.size + 1 + 1 by omega) (.int .u8 ((mixAt b y : Nat) : Int))
          have X1 := Lib.hid X1
          have X2 := Lib.hid X2
          have X3 := Lib.hid X3
          have X4 := Lib.hid X4
          have HY := Lib.hid hy
          clear G1 G2 G3 G4 HS lu hy hz hr1
          generalize mixAt b y = v at *
          generalize D (b.getD y 0 ^^^ b.getD z 0) = d at *
          generalize b.getD y 0 ^^^ b.getD z 0 = p at *
          generalize b.getD y 0 ^^^ s = ys at *
          generalize b.getD y 0 = by' at *
          generalize b.getD z 0 = bz at *
          generalize u.getD y 0 = old at *
          have hp' : (p : Int) < 256 := by omega
          simp only [List.take_succ_cons, List.take_zero, List.drop_succ_cons, List.drop_zero]
          repeat still_step
          refine wpStill_nil ?_
          go_wp2
          go_roundw
          case rel => exact ⟨r + 1, by omega, by go_num, X1.out, X2.out, by rw [show q + (r + 1) = y + 1 by have := HY.out; omega]; exact X3.out, X4.out⟩
          case measure => simp [intOf]; omega
        · obtain rfl : r = 4 := by omega
          go_wp2
          go_roundw
          case rel => exact ⟨c + 1, q + 4, by omega, Lib.hid (by have := HQ.out; omega), by go_num, H1.out, H2.out, H3.out, H4.out⟩
          case measure => simp [intOf]; omega
    · obtain rfl : c = 4 := by omega
      obtain rfl : q = 16 := by have := HQ.out; omega
      have e : upto (mixAt b) (fun _ => 0) 16 16 = mixL b := upto_all ..
      rw [e] at H3
      have lm : (mixL b).length = 16 := by simp [mixL]
      generalize mixL b = m at *
      clear e
      go_wp2_with (first | (with_reducible refine Arr.load o16 (w.heap.size + 1 + 1) m lm H3.out rfl ?_) | (with_reducible refine Arr.store o16 (w.heap.size + 1) (zs 16) m (length_zs _) H2.out lm rfl rfl ?_))
      exact bodyPost_ret (v := .agg (na .u8 m)) (results_arr o16 rfl _ _ (w.heap.size + 1) m lm (H2.out.put _ (by rw [lm, length_zs])) rfl) rfl ⟨rfl, below_setCells (by omega) _ _ _ H4.out⟩
end Go.Proofs.YtdjknmnmacppdaaDoor
namespace Go.Proofs.YtdjknmnmacppdaaDoor
open Go.RowKit Arr Gf Ae

set_option maxHeartbeats 2000000 in
set_option maxRecDepth 10000 in
theorem unmixed_any (b : List Nat) (hb : St b) (g o : Nat) (w : World) (hg : HAt w g o .u8 twL) : Calls Tryd.prog 40 #[.agg (na .u8 b), .pointer (some ⟨g, o, none⟩)] w (GivesA (unmixL b) w) := by
  obtain ⟨A1, A2, A3⟩ := two_new w b 34
  have hgw : g < w.heap.size := hg.lt (by rw [twL_len]; omega)
  have hlb := Lib.hid hb.1
  have B1 := Lib.hid A1
  have B2 := Lib.hid A2
  have B3 := Lib.hid A3
  have HG := Lib.hid hg
  clear A1 A2 A3 hg
  go_enter Tryd.func40, Tryd.ntmps40
  go_wp2_with (first | (with_reducible refine Arr.alloc (t := 34) _ z16 ?_) | fail)
  go_loopw [5] (fun i wr => ∃ c q : Nat, c ≤ 4 ∧ Go.RowKit.Hid (q = 4 * c) ∧ i = .int .i64 (q : Nat) ∧ Holds wr w.heap.size .u8 (upto (preAt b) (fun i => b.getD i 0) 16 q) ∧ Holds wr (w.heap.size + 1) .u8 (zs 16) ∧ Below w.heap.size w wr) (fun i _ => 16 - (intOf i).toNat)
  case atStart => exact ⟨0, 0, by omega, Lib.hid rfl, rfl, by rw [upto_zero _ _ _ hlb.out]; exact B1.out, B2.out, B3.out⟩
  case round =>
    clear B1 B2 B3
    obtain ⟨c, q, hc, HQ, rfl, h1, h2, h3⟩ := hrel
    have H1 := Lib.hid h1
    have H2 := Lib.hid h2
    have H3 := Lib.hid h3
    clear h1 h2 h3
    by_cases hlt : c < 4
    · have hq := HQ.out
      obtain ⟨q1, hq1⟩ : ∃ q1, q1 = q + 1 := ⟨_, rfl⟩
      obtain ⟨q2, hq2⟩ : ∃ q2, q2 = q + 2 := ⟨_, rfl⟩
      obtain ⟨q3, hq3⟩ : ∃ q3, q3 = q + 3 := ⟨_, rfl⟩
      have e1 : (q : Int) + 1 = (q1 : Int) := by omega
      have e2 : (q : Int) + 2 = (q2 : Int) := by omega
      have e3 : (q : Int) + 3 = (q3 : Int) := by omega
      have i0 : (q : Int) < 16 := by omega
      have i1 : (q1 : Int) < 16 := by omega
      have i2 : (q2 : Int) < 16 := by omega
      have i3 : (q3 : Int) < 16 := by omega
      have n1 := wrap_nat q1 (by omega)
      have n2 := wrap_nat q2 (by omega)
      have n3 := wrap_nat q3 (by omega)
      have tq : decide ((q : Int) < 16) = true := by simp; omega
      have y1 : bits .xor .u8 ((b.getD q 0 : Nat) : Int) ((b.getD q2 0 : Nat) : Int) = ((b.getD q 0 ^^^ b.getD q2 0 : Nat) : Int) := u8_xor_nat _ _ (hb.2 _) (hb.2 _)
      have y2 : bits .xor .u8 ((b.getD q1 0 : Nat) : Int) ((b.getD q3 0 : Nat) : Int) = ((b.getD q1 0 ^^^ b.getD q3 0 : Nat) : Int) := u8_xor_nat _ _ (hb.2 _) (hb.2 _)
      have l1 : b.getD q 0 ^^^ b.getD q2 0 < 256 := xor_lt (hb.2 _) (hb.2 _)
      have l2 : b.getD q1 0 ^^^ b.getD q3 0 < 256 := xor_lt (hb.2 _) (hb.2 _)
      have l3 := D_lt (b.getD q 0 ^^^ b.getD q2 0)
      have l4 := D_lt (b.getD q1 0 ^^^ b.getD q3 0)
      have p0 : preAt b q = b.getD q 0 ^^^ D (D (b.getD q 0 ^^^ b.getD q2 0)) := by
        rw [hq2, hq]; exact preAt_col b c 0 (by omega)
      have p1 : preAt b q1 = b.getD q1 0 ^^^ D (D (b.getD q1 0 ^^^ b.getD q3 0)) := by
        rw [hq1, hq3, hq]; exact preAt_col b c 1 (by omega)
      have p2 : preAt b q2 = b.getD q2 0 ^^^ D (D (b.getD q 0 ^^^ b.getD q2 0)) := by
        rw [hq2, hq]; exact preAt_col b c 2 (by omega)
      have p3 : preAt b q3 = b.getD q3 0 ^^^ D (D (b.getD q1 0 ^^^ b.getD q3 0)) := by
        rw [hq1, hq3, hq]; exact preAt_col b c 3 (by omega)
      have v0 : bits .xor .u8 ((b.getD q 0 : Nat) : Int) ((D (D (b.getD q 0 ^^^ b.getD q2 0)) : Nat) : Int) = ((preAt b q : Nat) : Int) := by rw [p0]; exact u8_xor_nat _ _ (hb.2 _) (D_lt _)
      have v1 : bits .xor .u8 ((b.getD q1 0 : Nat) : Int) ((D (D (b.getD q1 0 ^^^ b.getD q3 0)) : Nat) : Int) = ((preAt b q1 : Nat) : Int) := by rw [p1]; exact u8_xor_nat _ _ (hb.2 _) (D_lt _)
      have v2 : bits .xor .u8 ((b.getD q2 0 : Nat) : Int) ((D (D (b.getD q 0 ^^^ b.getD q2 0)) : Nat) : Int) = ((preAt b q2 : Nat) : Int) := by rw [p2]; exact u8_xor_nat _ _ (hb.2 _) (D_lt _)
      have v3 : bits .xor .u8 ((b.getD q3 0 : Nat) : Int) ((D (D (b.getD q1 0 ^^^ b.getD q3 0)) : Nat) : Int) = ((preAt b q3 : Nat) : Int) := by rw [p3]; exact u8_xor_nat _ _ (hb.2 _) (D_lt _)
      have u4 : upto (preAt b) (fun i => b.getD i 0) 16 (q + 4) = ((((upto (preAt b) (fun i => b.getD i 0) 16 q).set q (preAt b q)).set q1 (preAt b q1)).set q2 (preAt b q2)).set q3 (preAt b q3) := by
        rw [hq1, hq2, hq3, show q + 4 = q + 1 + 1 + 1 + 1 from rfl, upto_succ _ _ _ _ (by omega), upto_succ _ _ _ _ (by omega), upto_succ _ _ _ _ (by omega), upto_succ _ _ _ _ (by omega)]
      have g0 : (upto (preAt b) (fun i => b.getD i 0) 16 q).getD q 0 = b.getD q 0 := by rw [upto_get _ _ _ _ _ (by omega), if_neg (by omega)]
      have g1 : (upto (preAt b) (fun i => b.getD i 0) 16 q).getD q1 0 = b.getD q1 0 := by rw [upto_get _ _ _ _ _ (by omega), if_neg (by omega)]
      have g2 : (upto (preAt b) (fun i => b.getD i 0) 16 q).getD q2 0 = b.getD q2 0 := by rw [upto_get _ _ _ _ _ (by omega), if_neg (by omega)]
      have g3 : (upto (preAt b) (fun i => b.getD i 0) 16 q).getD q3 0 = b.getD q3 0 := by rw [upto_get _ _ _ _ _ (by omega), if_neg (by omega)]
      have lu := length_upto (preAt b) (fun i => b.getD i 0) 16 q
      have U4 := Lib.hid u4
      generalize upto (preAt b) (fun i => b.getD i 0) 16 q = u at *
      clear u4 p0 p1 p2 p3
      go_wp2_with fail
      refine region_still (by kernel_rfl) (by kernel_rfl) ?_
      intro wd hwd
      have G1 : Holds wd w.heap.size .u8 u := by rw [hwd]; exact H1.out.drew
      have G2 : Holds wd (w.heap.size + 1) .u8 (zs 16) := by rw [hwd]; exact H2.out.drew
      have G3 : Below w.heap.size w wd := by rw [hwd]; exact below_drew H3.out
      clear hwd H1 H2 H3
      have GG := HG.out.below G3 hgw
      have c0 := G1.cell q (by omega)
      have c1 := G1.cell q1 (by omega)
      have c2 := G1.cell q2 (by omega)
      have c3 := G1.cell q3 (by omega)
      have t1 := GG.cell (b.getD q 0 ^^^ b.getD q2 0) (by rw [twL_len]; exact l1)
      have t2 := GG.cell (D (b.getD q 0 ^^^ b.getD q2 0)) (by rw [twL_len]; exact l3)
      rw [twL_get _ l1] at t1
      rw [twL_get _ l3] at t2
      rw [g0] at c0
      rw [g1] at c1
      rw [g2] at c2
      rw [g3] at c3
      have H1 := Lib.hid G1
      have H2 := Lib.hid G2
      have H3 := Lib.hid G3
      have GX := Lib.hid (show u.getD q 0 = b.getD q 0 ∧ u.getD q1 0 = b.getD q1 0 ∧ u.getD q2 0 = b.getD q2 0 ∧ u.getD q3 0 = b.getD q3 0 ∧ q1 = q + 1 ∧ q2 = q + 2 ∧ q3 = q + 3 ∧ q + 3 < 16 from ⟨g0, g1, g2, g3, hq1, hq2, hq3, by omega⟩)
      clear G1 G2 G3 GG hq hq1 hq2 hq3 g0 g1 g2 g3
      have l1' : ((b.getD q 0 ^^^ b.getD q2 0 : Nat) : Int) < 256 := by omega
      have l2' : ((b.getD q1 0 ^^^ b.getD q3 0 : Nat) : Int) < 256 := by omega
      have l3' : ((D (b.getD q 0 ^^^ b.getD q2 0) : Nat) : Int) < 256 := by omega
      have l4' : ((D (b.getD q1 0 ^^^ b.getD q3 0) : Nat) : Int) < 256 := by omega
      have T3 := Lib.hid (fun (w' : World) (hw' : HAt w' g o .u8 twL) => hw'.cell (b.getD q1 0 ^^^ b.getD q3 0) (by rw [twL_len]; exact l2))
      have T4 := Lib.hid (fun (w' : World) (hw' : HAt w' g o .u8 twL) => hw'.cell (D (b.getD q1 0 ^^^ b.getD q3 0)) (by rw [twL_len]; exact l4))
      rw [twL_get _ l2] at T3
      rw [twL_get _ l4] at T4
      generalize hev : D (D (b.getD q 0 ^^^ b.getD q2 0)) = ev at *
      generalize hod : D (D (b.getD q1 0 ^^^ b.getD q3 0)) = od at *
      clear hev hod
      generalize D (b.getD q 0 ^^^ b.getD q2 0) = d1 at *
      generalize D (b.getD q1 0 ^^^ b.getD q3 0) = d2 at *
      generalize b.getD q 0 ^^^ b.getD q2 0 = x02 at *
      generalize b.getD q1 0 ^^^ b.getD q3 0 = x13 at *
      generalize b.getD q 0 = x0 at *
      generalize b.getD q1 0 = x1 at *
      generalize b.getD q2 0 = x2 at *
      generalize b.getD q3 0 = x3 at *
      generalize preAt b q = m0 at *
      generalize preAt b q1 = m1 at *
      generalize preAt b q2 = m2 at *
      generalize preAt b q3 = m3 at *
      repeat still_step
      refine wpStill_nil ?_
      clear t1 t2 c0 c1 c2 c3
      go_wp2_with fail
      refine region_still (by kernel_rfl) (by kernel_rfl) ?_
      intro w2 hwd
      have G1 : Holds w2 w.heap.size .u8 u := by rw [hwd]; exact H1.out.drew
      have G2 : Holds w2 (w.heap.size + 1) .u8 (zs 16) := by rw [hwd]; exact H2.out.drew
      have G3 : Below w.heap.size w w2 := by rw [hwd]; exact below_drew H3.out
      clear hwd H1 H2 H3
      have GG := HG.out.below G3 hgw
      obtain ⟨g0, g1, g2, g3, k1, k2, k3, k4⟩ := GX.out
      have c0 := G1.cell q (by omega)
      have c1 := G1.cell q1 (by omega)
      have c2 := G1.cell q2 (by omega)
      have c3 := G1.cell q3 (by omega)
      have f0 := G1.frozen q (by omega)
      have f1 := G1.frozen q1 (by omega)
      have f2 := G1.frozen q2 (by omega)
      have f3 := G1.frozen q3 (by omega)
      have t3 := T3.out w2 GG
      have t4 := T4.out w2 GG
      rw [g0] at c0
      rw [g1] at c1
      rw [g2] at c2
      rw [g3] at c3
      have X1 := ((((G1.set q m0 (by omega)).set q1 m1 (by simp; omega)).set q2 m2 (by simp; omega)).set q3 m3 (by simp; omega))
      rw [← U4.out] at X1
      have X2 := (((G2.beside ⟨w.heap.size, q, none⟩ (.int .u8 (m0 : Int)) (show w.heap.size ≠ w.heap.size + 1 by omega)).beside ⟨w.heap.size, q1, none⟩ (.int .u8 (m1 : Int)) (show w.heap.size ≠ w.heap.size + 1 by omega)).beside ⟨w.heap.size, q2, none⟩ (.int .u8 (m2 : Int)) (show w.heap.size ≠ w.heap.size + 1 by omega)).beside ⟨w.heap.size, q3, none⟩ (.int .u8 (m3 : Int)) (show w.heap.size ≠ w.heap.size + 1 by omega)
      have X3 := (((G3.setCell (p := ⟨w.heap.size, q, none⟩) (Nat.le_refl _) (.int .u8 (m0 : Int))).setCell (p := ⟨w.heap.size, q1, none⟩) (Nat.le_refl _) (.int .u8 (m1 : Int))).setCell (p := ⟨w.heap.size, q2, none⟩) (Nat.le_refl _) (.int .u8 (m2 : Int))).setCell (p := ⟨w.heap.size, q3, none⟩) (Nat.le_refl _) (.int .u8 (m3 : Int))
      have H1 := Lib.hid X1
      have H2 := Lib.hid X2
      have H3 := Lib.hid X3
      have d01 : ¬ q = q1 := by omega
      have d02 : ¬ q = q2 := by omega
      have d03 : ¬ q = q3 := by omega
      have d12 : ¬ q1 = q2 := by omega
      have d13 : ¬ q1 = q3 := by omega
      have d23 : ¬ q2 = q3 := by omega
      have d10 : ¬ q1 = q := by omega
      have d20 : ¬ q2 = q := by omega
      have d30 : ¬ q3 = q := by omega
      have d21 : ¬ q2 = q1 := by omega
      have d31 : ¬ q3 = q1 := by omega
      have d32 : ¬ q3 = q2 := by omega
      clear X1 X2 X3 G1 G2 G3 GG g0 g1 g2 g3 k1 k2 k3 k4 T3 T4 GX U4 y1
      repeat still_step
      refine wpStill_nil ?_
      go_wp2
      go_roundw
      case rel => exact ⟨c + 1, q + 4, by omega, Lib.hid (by have := HQ.out; omega), by go_num, H1.out, H2.out, H3.out⟩
      case measure => simp [intOf]; omega
    · obtain rfl : c = 4 := by omega
      obtain rfl : q = 16 := by have := HQ.out; omega
      have e : upto (preAt b) (fun i => b.getD i 0) 16 16 = preL b := upto_all ..
      rw [e] at H1
      have lm : (preL b).length = 16 := by simp [preL]
      have HC := Lib.hid (fun w' h => mixed_any (preL b) (st_pre hb) g o w' h)
      have HM := Lib.hid (show unmixL b = mixL (preL b) from rfl)
      have ln : (mixL (preL b)).length = 16 := by simp [mixL]
      generalize mixL (preL b) = n at *
      generalize preL b = m at *
      have GG := Lib.hid (HG.out.below H3.out hgw)
      clear e
      go_wp2_with (first | (with_reducible refine Arr.load o16 w.heap.size m lm H1.out rfl ?_) | fail)
      refine (HC.out _ GG.out).mono ?_
      rintro e w1 ⟨rfl, hbel⟩
      have K1 := H3.out.size
      have N2 := Lib.hid (H2.out.below hbel (H2.out.lt (by rw [length_zs]; omega)))
      have N3 := Lib.hid (H3.out.trans (hbel.mono K1))
      rw [← HM.out] at ln ⊢
      generalize unmixL b = v at *
      clear hbel
      go_wp2_with (first | (with_reducible refine Arr.store o16 (w.heap.size + 1) (zs 16) v (length_zs _) N2.out ln rfl rfl ?_) | fail)
      exact bodyPost_ret (v := .agg (na .u8 v)) (results_arr o16 rfl _ _ (w.heap.size + 1) v ln (N2.out.put _ (by rw [ln, length_zs])) rfl) rfl ⟨rfl, below_setCells (by omega) _ _ _ N3.out⟩
end Go.Proofs.YtdjknmnmacppdaaDoor
