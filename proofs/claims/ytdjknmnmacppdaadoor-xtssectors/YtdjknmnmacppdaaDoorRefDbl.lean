/-
  The contract of the reference's Double (written by tools/gen_refdbl.py). No conditions.
-/
import Derived.Test.YtdjknmnmacppdaaDoorRefDblNum
import Derived.Test.YtdjknmnmacppdaaDoorIntRow
namespace Go.Proofs.YtdjknmnmacppdaaDoor
open Go.RowKit Gf

theorem below_alloc' (w : World) (o : Obj) : Below w.heap.size w (w.alloc o) := (Below.refl _ _).alloc (Nat.le_refl _) o

set_option maxHeartbeats 4000000 in
set_option maxRecDepth 20000 in
theorem rdouble_any (l : List Nat) (hl : l.length = 16) (hb : Bytes l) (w : World) : Calls Tryd.prog 22 #[.agg (blk l)] w (Gives (dbl l) w) := by
  have B1 := Lib.hid ((Blk.new w l hl).alloc (.cells (blk zeros) 34))
  have B2 := Lib.hid (Blk.new (w.alloc (.cells (blk l) 34)) zeros rfl)
  have B3 := Lib.hid (((Below.refl w.heap.size w).alloc (Nat.le_refl _) (.cells (blk l) 34)).alloc (by simp) (.cells (blk zeros) 34))
  have hsz : ((w.alloc (.cells (blk l) 34)).alloc (.cells (blk zeros) 34)).heap.size = w.heap.size + 2 := by simp
  rw [blk_zeros] at B1 B2 B3 hsz
  rw [World.size_alloc] at B2
  have HSZ := Lib.hid hsz; clear hsz
  have hm := length_dbl l hl
  obtain ⟨m, hmd⟩ : ∃ m, m = dbl l := ⟨_, rfl⟩
  have HM := Lib.hid (show pre m 16 = m from pre_all m (by rw [hmd]; exact hm))
  have HN := Lib.hid (show ∀ i, i < 16 → hn (fun q => (nxt l).getD (8 * i + q) 0) 8 = m.getD i 0 by rw [hmd]; exact nxt_sum l hl hb)
  rw [← hmd] at hm ⊢
  clear hmd
  go_enter Tryd.func22, Tryd.ntmps22
  go_wp2
  generalize hW : (w.alloc (.cells (blk l) 34)).alloc (.cells #[.int .u8 0, .int .u8 0, .int .u8 0, .int .u8 0, .int .u8 0, .int .u8 0, .int .u8 0, .int .u8 0, .int .u8 0, .int .u8 0, .int .u8 0, .int .u8 0, .int .u8 0, .int .u8 0, .int .u8 0, .int .u8 0] 34) = w0 at *
  clear hW
  go_loopw [3, 4, 5, 6] (fun v i _ _ wr => ∃ k : Nat, k ≤ 16 ∧ i = .int .i64 (k : Nat) ∧ wr.ownsRow (w.heap.size + 2) 3 1 v (8 * k) (vals .i64 (bitl l (8 * k))) ∧ Below (w.heap.size + 2) w0 wr) (fun _ i _ _ _ => 16 - (intOf i).toNat)
  case atStart => exact ⟨0, by omega, rfl, World.ownsRow_nil w0 _ 3 1, Below.refl _ _⟩
  case round =>
    obtain ⟨k, hk, rfl, hown, hbel⟩ := hrel
    have HO := Lib.hid hown; have HB0 := Lib.hid hbel
    clear hown hbel
    by_cases hlt : k < 16
    · have tk : decide ((k : Int) < 16) = true := by simp; omega
      have hc := (B1.out.below HB0.out (by omega)).cell k hlt
      have hv := hb k
      have HV := Lib.hid (show ∀ q, q < 8 → bitl l (8 * k + (q + 1)) = bitl l (8 * k + q) ++ [l.getD k 0 / 2 ^ q % 2] from fun q hq => bitl_at l k q hq)
      generalize l.getD k 0 = c at *
      go_wp2
      go_loopw [3, 5, 6] (fun v n i wq => ∃ q : Nat, q ≤ 8 ∧ i = .int .i64 (q : Nat) ∧ n = .int .i64 (c / 2 ^ q : Nat) ∧ wq.ownsRow (w.heap.size + 2) 3 1 v (8 * k + q) (vals .i64 (bitl l (8 * k + q))) ∧ Below (w.heap.size + 2) w0 wq) (fun _ _ i _ => 8 - (intOf i).toNat)
      case atStart => exact ⟨0, by omega, rfl, by simp, HO.out, HB0.out⟩
      case round =>
        obtain ⟨q, hq, rfl, rfl, hown, hbel⟩ := hrel
        have HO2 := Lib.hid hown; have HB2 := Lib.hid hbel
        clear hown hbel
        have hsz2 := HB2.out.size
        rw [HSZ.out] at hsz2
        have hd : c / 2 ^ q ≤ c := Nat.div_le_self _ _
        by_cases hq8 : q < 8
        · have HD := Lib.hid (half c q)
          have HV2 := Lib.hid (HV.out q hq8)
          generalize c / 2 ^ q = X at *
          go_wp2_with (at_builtin; refine append_one rfl (.tmp 25) (.tmp 28) 71 rfl (w.heap.size + 2) 3 (.int .i64 0) 8 Tryd.underlying71 info_int rfl _ (8 * k + q) _ (.int .i64 ((X : Int) % 2)) rfl HO2.out rfl rfl (by omega) (by omega) hsz2 ?_; intro v' w1 hown1 hbel1)
          go_roundw
          case rel => exact ⟨q + 1, by omega, by go_num, by rw [HD.out]; go_num, by rw [HV2.out, vals_snoc]; simpa [Nat.add_assoc] using hown1, HB2.out.trans hbel1⟩
          case measure => simp [intOf]; omega
        · obtain rfl : q = 8 := by omega
          go_wp2
          go_roundw
          case rel => exact ⟨k + 1, by omega, by go_num, HO2.out, HB2.out⟩
          case measure => simp [intOf]; omega
    · have tk : decide ((k : Int) < 16) = false := by simp; omega
      have HK := Lib.hid (show k = 16 by omega)
      have HO := HO.out
      rw [show 8 * k = 128 by omega] at HO
      obtain ⟨g1, c1, rfl, hg1, hc1, hlen1, hints⟩ := ints_of_owns HO (by omega)
      have HI1 := Lib.hid hints
      have HR1 := Lib.hid (B2.out.below HB0.out (by omega))
      have HL1 := Lib.hid (B3.out.trans (HB0.out.mono (by omega)))
      have hs1 := hints.lt (by omega)
      clear hints hlen1
      obtain ⟨w1, rfl⟩ : ∃ w1 : World, w1 = wr := ⟨_, rfl⟩
      clear HO HB0 B1 B2 B3 HSZ
      go_wp2
      go_loopw [7, 8] (fun v i wq => ∃ j : Nat, j ≤ 127 ∧ i = .int .i64 (j : Nat) ∧ wq.ownsRow w1.heap.size 3 1 v (j + 1) (vals .i64 (nx0 l j)) ∧ Below w1.heap.size w1 wq) (fun _ i _ => 127 - (intOf i).toNat)
      case atStart => exact ⟨0, by omega, rfl, one_owns w1, below_alloc' _ _⟩
      case round =>
        obtain ⟨j, hj, rfl, hown, hbel⟩ := hrel
        have HO := Lib.hid hown; have HB0 := Lib.hid hbel
        have hsz := hbel.size
        clear hown hbel
        have hlen1 := length_bitl l 128
        by_cases hlt : j < 127
        · have tj : decide ((j : Int) < 127) = true := by simp; omega
          have hc := ((HI1.out.below HB0.out hs1) j (by omega)).1
          have HS := Lib.hid (nx0_succ l j 128 (by omega))
          have hbt : (bitl l 128).getD j 0 < 2 := by rw [bitl_get l 128 j (by omega)]; exact Nat.mod_lt _ (by omega)
          generalize (bitl l 128).getD j 0 = bt at *
          have j128 : (j : Int) < 128 := by omega
          go_wp2_with (at_builtin; refine append_one rfl (.tmp 37) (.tmp 42) 71 rfl w1.heap.size 3 (.int .i64 0) 8 Tryd.underlying71 info_int rfl _ (j + 1) _ (.int .i64 (bt : Int)) rfl HO.out rfl rfl (by omega) (by omega) hsz ?_; intro v' w2 hown1 hbel1)
          go_roundw
          case rel => exact ⟨j + 1, by omega, by go_num, by rw [HS.out, vals_snoc]; exact hown1, HB0.out.trans hbel1⟩
          case measure => simp [intOf]; omega
        · have tj : decide ((j : Int) < 127) = false := by simp; omega
          have hj127 : j = 127 := by omega
          have HJ := Lib.hid hj127
          have HO := HO.out
          rw [hj127] at HO
          clear hj127
          obtain ⟨g2, c2, rfl, hg2, hc2, hlen2, hints⟩ := ints_of_owns HO (by omega)
          have hs2 := hints.lt (by omega)
          obtain ⟨w2, rfl⟩ : ∃ w2 : World, w2 = wr := ⟨_, rfl⟩
          have h127 := ((HI1.out.below HB0.out hs1) 127 (by omega)).1
          rw [bitl_get l 128 127 (by omega)] at h127
          have htop : l.getD (127 / 8) 0 / 2 ^ (127 % 8) % 2 = l.getD 15 0 / 128 := by have := hb 15; show l.getD 15 0 / 128 % 2 = _; omega
          rw [htop] at h127
          have HR2 := Lib.hid (HR1.out.below HB0.out HR1.out.lt)
          have HL2 := Lib.hid (HL1.out.trans (HB0.out.mono HL1.out.size))
          have HI2 := Lib.hid hints
          have HG := Lib.hid hs2
          have h2lt : l.getD 15 0 / 128 < 2 := by have := hb 15; omega
          have bits := nx0_bit l
          clear hints HO HB0 htop
          by_cases hone : l.getD 15 0 / 128 = 1
          · have HN2 := HN.out
            have HB2 := nxt_bit l
            have HX2 := length_nxt l
            unfold nxt at HN2 HB2 HX2
            rw [if_pos hone] at HB2 HX2
            simp only [if_pos hone] at HN2
            rw [hone] at h127
            clear HN h2lt hone
            have c0 := (HI2.out 0 (by omega)).1; have f0 := (HI2.out 0 (by omega)).2
            have c1' := (HI2.out 1 (by omega)).1; have f1 := (HI2.out 1 (by omega)).2
            have c2' := (HI2.out 2 (by omega)).1; have f2 := (HI2.out 2 (by omega)).2
            have c7 := (HI2.out 7 (by omega)).1; have f7 := (HI2.out 7 (by omega)).2
            have b0 := bits 0 (by omega); have b1 := bits 1 (by omega); have b2 := bits 2 (by omega); have b7 := bits 7 (by omega)
            obtain ⟨y0, hy0⟩ : ∃ y, y = 1 - (nx0 l 127).getD 0 0 := ⟨_, rfl⟩
            obtain ⟨y1, hy1⟩ : ∃ y, y = 1 - (nx0 l 127).getD 1 0 := ⟨_, rfl⟩
            obtain ⟨y2, hy2⟩ : ∃ y, y = 1 - (nx0 l 127).getD 2 0 := ⟨_, rfl⟩
            obtain ⟨y7, hy7⟩ : ∃ y, y = 1 - (nx0 l 127).getD 7 0 := ⟨_, rfl⟩
            have hI := (((HI2.out.set 0 y0 (by omega)).set 1 y1 (by simp; omega)).set 2 y2 (by simp; omega)).set 7 y7 (by simp; omega)
            have e : (((((nx0 l 127).set 0 y0).set 1 y1).set 2 y2).set 7 y7) = flip (nx0 l 127) := by rw [hy0, hy1, hy2, hy7]; rfl
            rw [e] at hI
            have HI := Lib.hid hI
            have z0 : (1 : Int) - (((nx0 l 127).getD 0 0 : Nat) : Int) = (y0 : Int) := by omega
            have z1 : (1 : Int) - (((nx0 l 127).getD 1 0 : Nat) : Int) = (y1 : Int) := by omega
            have z2 : (1 : Int) - (((nx0 l 127).getD 2 0 : Nat) : Int) = (y2 : Int) := by omega
            have z7 : (1 : Int) - (((nx0 l 127).getD 7 0 : Nat) : Int) = (y7 : Int) := by omega
            have hgne : g2 ≠ w.heap.size + 1 := by have := HR1.out.lt; omega
            have HR := Lib.hid ((((HR2.out.beside ⟨g2, 0, none⟩ (.int .i64 (y0 : Int)) hgne).beside ⟨g2, 1, none⟩ (.int .i64 (y1 : Int)) hgne).beside ⟨g2, 2, none⟩ (.int .i64 (y2 : Int)) hgne).beside ⟨g2, 7, none⟩ (.int .i64 (y7 : Int)) hgne)
            have hge : w.heap.size ≤ g2 := by have := HR1.out.lt; omega
            have HL := Lib.hid ((((HL2.out.setCell (p := ⟨g2, 0, none⟩) hge (.int .i64 (y0 : Int))).setCell (p := ⟨g2, 1, none⟩) hge (.int .i64 (y1 : Int))).setCell (p := ⟨g2, 2, none⟩) hge (.int .i64 (y2 : Int))).setCell (p := ⟨g2, 7, none⟩) hge (.int .i64 (y7 : Int)))
            have HZ := Lib.hid (show ((((w2.setCell ⟨g2, 0, none⟩ (.int .i64 (y0 : Int))).setCell ⟨g2, 1, none⟩ (.int .i64 (y1 : Int))).setCell ⟨g2, 2, none⟩ (.int .i64 (y2 : Int))).setCell ⟨g2, 7, none⟩ (.int .i64 (y7 : Int))).heap.size = w2.heap.size by simp)
            clear e hI hy0 hy1 hy2 hy7 bits
            have HN := Lib.hid HN2
            have HB := Lib.hid HB2
            have HX := Lib.hid HX2
            clear HN2 HB2 HX2
            generalize flip (nx0 l 127) = nx at *
            generalize (nx0 l 127).getD 0 0 = x0 at *
            generalize (nx0 l 127).getD 1 0 = x1 at *
            generalize (nx0 l 127).getD 2 0 = x2 at *
            generalize (nx0 l 127).getD 7 0 = x7 at *
            go_wp2
            generalize (((w2.setCell ⟨g2, 0, none⟩ (.int .i64 (y0 : Int))).setCell ⟨g2, 1, none⟩ (.int .i64 (y1 : Int))).setCell ⟨g2, 2, none⟩ (.int .i64 (y2 : Int))).setCell ⟨g2, 7, none⟩ (.int .i64 (y7 : Int)) = w3 at *
            clear c0 c1' c2' c7 f0 f1 f2 f7 z0 z1 z2 z7 b0 b1 b2 b7 h127
            go_loopw [10, 11, 12] (fun i _ _ wr => ∃ j : Nat, j ≤ 16 ∧ i = .int .i64 (j : Nat) ∧ Blk wr w2.heap.size (pre m j) ∧ Ints wr g2 nx ∧ Blk wr (w.heap.size + 1) zeros ∧ Below w.heap.size w wr) (fun i _ _ _ => 16 - (intOf i).toNat)
            case atStart =>
              have e0 := Blk.new w3 zeros rfl
              first | rw [blk_zeros, HZ.out] at e0 | rw [blk_zeros] at e0
              exact ⟨0, by omega, rfl, e0, HI.out.below (below_alloc' _ _) (HI.out.lt (by have := HX.out; omega)), HR.out.alloc _, HL.out.alloc (by have := HR.out.lt; have := HZ.out; omega) _⟩
            case round =>
              obtain ⟨j, hj, rfl, hP, hI, hR, hL⟩ := hrel
              have HP := Lib.hid hP; have HI4 := Lib.hid hI; have HR4 := Lib.hid hR; have HL4 := Lib.hid hL
              clear hP hI hR hL
              by_cases hjt : j < 16
              · have tj : decide ((j : Int) < 16) = true := by simp; omega
                go_wp2
                go_loop [11, 12] (fun n c => ∃ q : Nat, q ≤ 8 ∧ n = .int .i64 (hn (fun z => nx.getD (8 * j + z) 0) q : Nat) ∧ c = .int .i64 (7 - (q : Int))) (fun _ c => (intOf c + 1).toNat)
                case atStart => exact ⟨0, by omega, rfl, by go_num⟩
                case round =>
                  obtain ⟨q, hq, rfl, rfl⟩ := hrel
                  have hlt := hn_lt (fun z => nx.getD (8 * j + z) 0) (fun z => HB.out (8 * j + z)) q
                  have hpow : 2 ^ q ≤ 2 ^ 8 := Nat.pow_le_pow_right (by omega) hq
                  by_cases hq8 : q < 8
                  · obtain ⟨z, hz⟩ : ∃ z : Nat, z = 7 - q := ⟨_, rfl⟩
                    obtain ⟨y, hy⟩ : ∃ y : Nat, y = 8 * j + z := ⟨_, rfl⟩
                    have e1 : (7 : Int) - (q : Int) = (z : Int) := by omega
                    have e2 : 8 * (j : Int) + (z : Int) = (y : Int) := by omega
                    have hy128 : y < 128 := by omega
                    have hc := (HI4.out y (by have := HX.out; omega)).1
                    have hbit := HB.out y
                    have HS := Lib.hid (show hn (fun z => nx.getD (8 * j + z) 0) (q + 1) = 2 * hn (fun z => nx.getD (8 * j + z) 0) q + nx.getD y 0 by rw [hy, hz]; rfl)
                    have HE := Lib.hid e1
                    have hz0 : (0 : Int) ≤ (z : Int) := by omega
                    have hz7 : (z : Int) ≤ 7 := by omega
                    rw [e1]
                    clear e1 hz hy
                    generalize hn (fun z => nx.getD (8 * j + z) 0) q = N at *
                    generalize nx.getD y 0 = bt at *
                    have hN : N < 256 := by omega
                    clear hpow hlt
                    go_wp2
                    go_round
                    case rel => exact ⟨q + 1, by omega, by rw [HS.out]; go_num, by have := HE.out; go_num⟩
                    case measure => (have := HE.out; simp [intOf] <;> omega)
                  · obtain rfl : q = 8 := by omega
                    have HS := Lib.hid (HN.out j hjt)
                    have hold := HP.out.cell j hjt
                    have hfr := HP.out.frozen j hjt
                    have HPS := Lib.hid (show pre m (j + 1) = (pre m j).set j (m.getD j 0) from rfl)
                    rw [HS.out] at hlt ⊢
                    generalize m.getD j 0 = mj at *
                    generalize (pre m j).getD j 0 = od at *
                    have hm256 : mj < 256 := by omega
                    clear hpow hlt
                    go_wp2
                    go_roundw
                    case rel => exact ⟨j + 1, by omega, by go_num, by rw [HPS.out]; exact HP.out.set j mj hjt, HI4.out.beside _ _ (by dsimp only; have := HG.out; omega), HR4.out.beside _ _ (by dsimp only; have := HR.out.lt; have := HZ.out; omega), HL4.out.setCell (by dsimp only; have := HR.out.lt; have := HZ.out; omega) _⟩
                    case measure => simp [intOf]; omega
              · obtain rfl : j = 16 := by omega
                have hP := HP.out
                rw [HM.out] at hP
                have HP := Lib.hid hP; clear hP
                go_wp2_with (first | (with_reducible refine load_blk w2.heap.size m HP.out rfl ?_) | (with_reducible refine store_blk (w.heap.size + 1) zeros m HR4.out hm rfl rfl ?_))
                exact bodyPost_ret (v := .agg (blk m)) (results_blk rfl _ _ (w.heap.size + 1) m (HR4.out.put _ hm) rfl) rfl ⟨rfl, Below.setCells (by omega) _ _ _ HL4.out⟩
          · have HN2 := HN.out
            have HB2 := nxt_bit l
            have HX2 := length_nxt l
            unfold nxt at HN2 HB2 HX2
            rw [if_neg hone] at HB2 HX2
            simp only [if_neg hone] at HN2
            clear HN bits
            have HI := Lib.hid HI2.out
            have HR := Lib.hid HR2.out
            have HL := Lib.hid HL2.out
            have HZ := Lib.hid (show w2.heap.size = w2.heap.size from rfl)
            have HN := Lib.hid HN2
            have HB := Lib.hid HB2
            have HX := Lib.hid HX2
            clear HN2 HB2 HX2
            generalize nx0 l 127 = nx at *
            generalize l.getD 15 0 / 128 = top at *
            have t127 : ((top : Int) == 1) = false := by simp; omega
            clear hone
            go_wp2
            clear h127
            go_loopw [10, 11, 12] (fun i _ _ wr => ∃ j : Nat, j ≤ 16 ∧ i = .int .i64 (j : Nat) ∧ Blk wr w2.heap.size (pre m j) ∧ Ints wr g2 nx ∧ Blk wr (w.heap.size + 1) zeros ∧ Below w.heap.size w wr) (fun i _ _ _ => 16 - (intOf i).toNat)
            case atStart =>
              have e0 := Blk.new w2 zeros rfl
              first | rw [blk_zeros, HZ.out] at e0 | rw [blk_zeros] at e0
              exact ⟨0, by omega, rfl, e0, HI.out.below (below_alloc' _ _) (HI.out.lt (by have := HX.out; omega)), HR.out.alloc _, HL.out.alloc (by have := HR.out.lt; have := HZ.out; omega) _⟩
            case round =>
              obtain ⟨j, hj, rfl, hP, hI, hR, hL⟩ := hrel
              have HP := Lib.hid hP; have HI4 := Lib.hid hI; have HR4 := Lib.hid hR; have HL4 := Lib.hid hL
              clear hP hI hR hL
              by_cases hjt : j < 16
              · have tj : decide ((j : Int) < 16) = true := by simp; omega
                go_wp2
                go_loop [11, 12] (fun n c => ∃ q : Nat, q ≤ 8 ∧ n = .int .i64 (hn (fun z => nx.getD (8 * j + z) 0) q : Nat) ∧ c = .int .i64 (7 - (q : Int))) (fun _ c => (intOf c + 1).toNat)
                case atStart => exact ⟨0, by omega, rfl, by go_num⟩
                case round =>
                  obtain ⟨q, hq, rfl, rfl⟩ := hrel
                  have hlt := hn_lt (fun z => nx.getD (8 * j + z) 0) (fun z => HB.out (8 * j + z)) q
                  have hpow : 2 ^ q ≤ 2 ^ 8 := Nat.pow_le_pow_right (by omega) hq
                  by_cases hq8 : q < 8
                  · obtain ⟨z, hz⟩ : ∃ z : Nat, z = 7 - q := ⟨_, rfl⟩
                    obtain ⟨y, hy⟩ : ∃ y : Nat, y = 8 * j + z := ⟨_, rfl⟩
                    have e1 : (7 : Int) - (q : Int) = (z : Int) := by omega
                    have e2 : 8 * (j : Int) + (z : Int) = (y : Int) := by omega
                    have hy128 : y < 128 := by omega
                    have hc := (HI4.out y (by have := HX.out; omega)).1
                    have hbit := HB.out y
                    have HS := Lib.hid (show hn (fun z => nx.getD (8 * j + z) 0) (q + 1) = 2 * hn (fun z => nx.getD (8 * j + z) 0) q + nx.getD y 0 by rw [hy, hz]; rfl)
                    have HE := Lib.hid e1
                    have hz0 : (0 : Int) ≤ (z : Int) := by omega
                    have hz7 : (z : Int) ≤ 7 := by omega
                    rw [e1]
                    clear e1 hz hy
                    generalize hn (fun z => nx.getD (8 * j + z) 0) q = N at *
                    generalize nx.getD y 0 = bt at *
                    have hN : N < 256 := by omega
                    clear hpow hlt
                    go_wp2
                    go_round
                    case rel => exact ⟨q + 1, by omega, by rw [HS.out]; go_num, by have := HE.out; go_num⟩
                    case measure => (have := HE.out; simp [intOf] <;> omega)
                  · obtain rfl : q = 8 := by omega
                    have HS := Lib.hid (HN.out j hjt)
                    have hold := HP.out.cell j hjt
                    have hfr := HP.out.frozen j hjt
                    have HPS := Lib.hid (show pre m (j + 1) = (pre m j).set j (m.getD j 0) from rfl)
                    rw [HS.out] at hlt ⊢
                    generalize m.getD j 0 = mj at *
                    generalize (pre m j).getD j 0 = od at *
                    have hm256 : mj < 256 := by omega
                    clear hpow hlt
                    go_wp2
                    go_roundw
                    case rel => exact ⟨j + 1, by omega, by go_num, by rw [HPS.out]; exact HP.out.set j mj hjt, HI4.out.beside _ _ (by dsimp only; have := HG.out; omega), HR4.out.beside _ _ (by dsimp only; have := HR.out.lt; have := HZ.out; omega), HL4.out.setCell (by dsimp only; have := HR.out.lt; have := HZ.out; omega) _⟩
                    case measure => simp [intOf]; omega
              · obtain rfl : j = 16 := by omega
                have hP := HP.out
                rw [HM.out] at hP
                have HP := Lib.hid hP; clear hP
                go_wp2_with (first | (with_reducible refine load_blk w2.heap.size m HP.out rfl ?_) | (with_reducible refine store_blk (w.heap.size + 1) zeros m HR4.out hm rfl rfl ?_))
                exact bodyPost_ret (v := .agg (blk m)) (results_blk rfl _ _ (w.heap.size + 1) m (HR4.out.put _ hm) rfl) rfl ⟨rfl, Below.setCells (by omega) _ _ _ HL4.out⟩
end Go.Proofs.YtdjknmnmacppdaaDoor
