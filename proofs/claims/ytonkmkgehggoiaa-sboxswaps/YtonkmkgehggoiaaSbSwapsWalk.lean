/-
  The walk of the law SboxSwaps. No conditions.
-/
import Derived.Test.YtonkmkgehggoiaaSwap
import Derived.Test.YtonkmkgehggoiaaSboxFns
namespace Go.Proofs.Ytonkmkgehggoiaa
open Go.RowKit Arr Sw

theorem o30 : Arr.Of Try.prog 30 3 256 .i64 := ⟨by kernel_rfl, by kernel_rfl, by kernel_rfl, by kernel_rfl⟩
theorem z30 : (Try.prog.info? 30).bind (·.zero) = some (.agg (na .i64 (zs 256))) := by kernel_rfl
theorem cnt_zs (l : List Nat) : cnt l 0 = zs 256 := cnt_none l

def Done (w : World) (e : Ending) (w' : World) : Prop := e = .returned (.bool true) ∧ Below w.heap.size w w'

set_option maxHeartbeats 4000000 in
theorem sbSwaps_any (l : List Nat) (hl : l.length = 256) (hb : Sw.Bytes l) (w : World) : Calls Try.prog 4 #[.agg (na .u8 l)] w (Done w) := by
  have C0 := Lib.hid (awake_any (w.alloc (.cells (na .u8 l) 23)))
  have s1 : (w.alloc (.cells (na .u8 l) 23)).heap.size = w.heap.size + 1 := World.size_alloc ..
  have B1 := Lib.hid ((Holds.new w 23 .u8 l).alloc (.cells (na .i64 (zs 256)) 30))
  have B2 := Holds.new (w.alloc (.cells (na .u8 l) 23)) 30 .i64 (zs 256)
  rw [s1] at B2
  have B2 := Lib.hid B2
  have B3 := Lib.hid (((Below.refl w.heap.size w).alloc (Nat.le_refl _) (.cells (na .u8 l) 23)).alloc (by rw [s1]; omega) (.cells (na .i64 (zs 256)) 30))
  have hl' := Lib.hid hl
  have HO := Lib.hid (once_nodup hl hb)
  clear s1
  go_enter Try.func4, Try.ntmps4
  go_wp2_with fail
  refine C0.out.mono ?_
  rintro e w' ⟨rfl, rfl⟩
  go_wp2_with (first | (with_reducible refine Arr.alloc (t := 30) _ z30 ?_) | (with_reducible refine Arr.load o23 w.heap.size l hl'.out B1.out rfl ?_))
  go_loopw [18] (fun i wr => ∃ k : Nat, k ≤ 256 ∧ i = .int .i64 (k : Nat) ∧ Holds wr w.heap.size .u8 l ∧ Holds wr (w.heap.size + 1) .i64 (cnt l k) ∧ Below w.heap.size w wr) (fun i _ => 256 - (intOf i).toNat)
  case atStart => exact ⟨0, by omega, rfl, B1.out, by rw [cnt_zs]; exact B2.out, B3.out⟩
  case round =>
    clear B1 B2 B3 C0
    obtain ⟨k, hk, rfl, h1, h2, h3⟩ := hrel
    have H1 := Lib.hid h1; clear h1
    have H2 := Lib.hid h2; clear h2
    have H3 := Lib.hid h3; clear h3
    by_cases hlt : k < 256
    · have hg := Arr.index o23 wr l hl'.out .i64 k hlt
      have hc := hb k
      have ht : decide ((k : Int) < 256) = true := by simp; omega
      have HM := Lib.hid (cnt_more l k (by omega) hc)
      have hcell := H2.out.cell (l.getD k 0) (by rw [length_cnt]; exact hc)
      have hfro := H2.out.frozen (l.getD k 0) (by rw [length_cnt]; exact hc)
      have hold := cnt_le l k (l.getD k 0)
      have X1 := fun v => Lib.hid (H1.out.beside ⟨w.heap.size + 1, l.getD k 0, none⟩ v (show w.heap.size + 1 ≠ w.heap.size by omega))
      have X2 := H2.out.set (l.getD k 0) ((cnt l k).getD (l.getD k 0) 0 + 1) (by rw [length_cnt]; exact hc)
      rw [← HM.out] at X2
      have X3 := fun v => Lib.hid (H3.out.setCell (p := ⟨w.heap.size + 1, l.getD k 0, none⟩) (show w.heap.size ≤ w.heap.size + 1 by omega) v)
      have X2 := Lib.hid X2
      clear HM
      generalize l.getD k 0 = c at *
      generalize (cnt l k).getD c 0 = old at *
      go_wp2
      go_roundw
      case rel => exact ⟨k + 1, by omega, by go_num, (X1 _).out, X2.out, (X3 _).out⟩
      case measure => simp [intOf]; omega
    · obtain rfl : k = 256 := by omega
      have lC := length_cnt l 256
      generalize cnt l 256 = C at *
      go_wp2_with (with_reducible refine Arr.load o30 (w.heap.size + 1) C lC H2.out rfl ?_)
      go_loop [6, 28] (fun b i => ∃ k : Nat, k ≤ 256 ∧ b = .bool (once C k) ∧ i = .int .i64 (k : Nat)) (fun _ i => 256 - (intOf i).toNat)
      case atStart => exact ⟨0, by omega, rfl, rfl⟩
      case round =>
        obtain ⟨k, hk, rfl, rfl⟩ := hrel
        by_cases hlt : k < 256
        · have hg := Arr.index o30 wr C lC .i64 k hlt
          have ht : decide ((k : Int) < 256) = true := by simp; omega
          have HM := Lib.hid (once_more C k)
          generalize once C k = b at *
          generalize C.getD k 0 = c at *
          cases b
          · go_wp2
            go_round
            case rel => exact ⟨k + 1, by omega, by rw [HM.out]; rfl, by go_num⟩
            case measure => simp [intOf]; omega
          · rcases Nat.decEq c 1 with hc | hc
            · have t1 : ((c : Int) == 1) = false := by simp; omega
              have HC := Lib.hid (show (c == 1) = false by simpa using hc)
              clear hc
              go_wp2
              go_round
              case rel => exact ⟨k + 1, by omega, by rw [HM.out, HC.out]; rfl, by go_num⟩
              case measure => simp [intOf]; omega
            · have t1 : ((c : Int) == 1) = true := by simp; omega
              have HC := Lib.hid (show (c == 1) = true by simpa using hc)
              clear hc
              go_wp2
              go_round
              case rel => exact ⟨k + 1, by omega, by rw [HM.out, HC.out]; rfl, by go_num⟩
              case measure => simp [intOf]; omega
        · obtain rfl : k = 256 := by omega
          rw [HO.out]
          have HS := Lib.hid (swap_any l hl'.out hb wr)
          go_wp2_with (first | (with_reducible refine Arr.load o23 w.heap.size l hl'.out H1.out rfl ?_) | fail)
          refine HS.out.mono ?_
          rintro e w5 ⟨x, ok, rfl, hor, hbel⟩
          have hlt5 := H1.out.lt (by rw [hl'.out]; omega)
          have NA := H1.out.below hbel hlt5
          have NL := H3.out.trans (hbel.mono H3.out.size)
          have h5 : w.heap.size < w5.heap.size := NA.lt (by rw [hl'.out]; omega)
          clear hbel hlt5 H1 H2 H3 HS
          have N0 := Holds.new w5 23 .u8 (zs 256)
          rcases hor with ⟨rfl, hn, rfl⟩ | ⟨rfl, hn, rfl⟩
          · have lx := length_sw l
            have bx := sw_bytes hl'.out hb hn
            have nx := sw_nodup hl'.out hb hn
            have SX := Lib.hid (sw_sw hl'.out hb hn)
            have AX := Lib.hid (fun i hi => sw_at hl'.out hb hn i hi)
            have td : decide l.Nodup = true := decide_eq_true hn
            rw [td]
            clear hn td HO
            generalize sw l = x at *
            have W0 := Lib.hid ((NA.alloc (.cells (na .u8 (zs 256)) 23)).apart w5.heap.size 0 (nv .u8 x) (by omega))
            have W1 := Lib.hid (N0.put x (by rw [lx, length_zs]))
            have WB := Lib.hid (below_setCells (b := w5.heap.size) (Nat.le_of_lt h5) (nv .u8 x) 0 _ (NL.alloc (Nat.le_of_lt h5) (.cells (na .u8 (zs 256)) 23)))
            have N0 := Lib.hid N0
            clear NA NL
            go_wp2_with (first | (with_reducible refine Arr.alloc (t := 23) _ z23 ?_) | (with_reducible refine Arr.store o23 w5.heap.size (zs 256) x (length_zs _) N0.out lx rfl rfl ?_) | (with_reducible refine Arr.load o23 w.heap.size l hl'.out W0.out rfl ?_))
            generalize (w5.alloc (.cells (na .u8 (zs 256)) 23)).setCells w5.heap.size 0 (nv .u8 x) = w6 at *
            go_loop [51] (fun i => ∃ k : Nat, k ≤ 256 ∧ i = .int .i64 (k : Nat)) (fun i => 256 - (intOf i).toNat)
            case atStart => exact ⟨0, by omega, rfl⟩
            case round =>
              obtain ⟨k, hk, rfl⟩ := hrel
              by_cases hlt : k < 256
              · have hg := Arr.index o23 w6 l hl'.out .i64 k hlt
                have ht : decide ((k : Int) < 256) = true := by simp; omega
                have hc := hb k
                have hcell := W1.out.cell (l.getD k 0) (by rw [lx]; exact hc)
                rw [AX.out k hlt] at hcell
                generalize l.getD k 0 = c at *
                go_wp2
                go_round
                case rel => exact ⟨k + 1, by omega, by go_num⟩
                case measure => simp [intOf]; omega
              · obtain rfl : k = 256 := by omega
                have HS := Lib.hid (swap_any x lx bx w6)
                go_wp2_with (first | (with_reducible refine Arr.load o23 w5.heap.size x lx W1.out rfl ?_) | fail)
                refine HS.out.mono ?_
                rintro e w7 ⟨y, ok, rfl, hor, hbel⟩
                rcases hor with ⟨rfl, -, rfl⟩ | ⟨rfl, hn, rfl⟩
                · have hlt6 := W0.out.lt (by rw [hl'.out]; omega)
                  have NA := W0.out.below hbel hlt6
                  have NL := WB.out.trans (hbel.mono WB.out.size)
                  have h7 : w.heap.size < w7.heap.size := NA.lt (by rw [hl'.out]; omega)
                  rw [SX.out]
                  have N0 := Holds.new w7 23 .u8 (zs 256)
                  have Z0 := Lib.hid ((NA.alloc (.cells (na .u8 (zs 256)) 23)).apart w7.heap.size 0 (nv .u8 l) (by omega))
                  have Z1 := Lib.hid (N0.put l (by rw [hl'.out, length_zs]))
                  have ZB := Lib.hid (below_setCells (b := w7.heap.size) (Nat.le_of_lt h7) (nv .u8 l) 0 _ (NL.alloc (Nat.le_of_lt h7) (.cells (na .u8 (zs 256)) 23)))
                  have N0 := Lib.hid N0
                  have he := fun w => Arr.eql o23 w l l hl'.out hl'.out
                  clear NA NL hbel hlt6 W0 W1 WB HS AX SX
                  go_wp2_with (first | (with_reducible refine Arr.alloc (t := 23) _ z23 ?_) | (with_reducible refine Arr.store o23 w7.heap.size (zs 256) l (length_zs _) N0.out hl'.out rfl rfl ?_) | ((with_reducible refine Arr.loadG o23 w.heap.size l hl'.out Z0.out ?_ rfl ?_); rfl) | ((with_reducible refine Arr.loadG o23 w7.heap.size l hl'.out Z1.out ?_ rfl ?_); rfl))
                  go_ret
                  exact ⟨rfl, ZB.out⟩
                · exact absurd nx hn
          · have td : decide l.Nodup = false := decide_eq_false hn
            rw [td]
            clear hn td HO
            have W1 := Lib.hid (N0.put (zs 256) rfl)
            have WB := Lib.hid (below_setCells (b := w5.heap.size) (Nat.le_of_lt h5) (nv .u8 (zs 256)) 0 _ (NL.alloc (Nat.le_of_lt h5) (.cells (na .u8 (zs 256)) 23)))
            have N0 := Lib.hid N0
            have he := fun w => Arr.eql o23 w (zs 256) (zs 256) (length_zs _) (length_zs _)
            clear NA NL
            go_wp2_with (first | (with_reducible refine Arr.alloc (t := 23) _ z23 ?_) | (with_reducible refine Arr.build_none _ b23 ?_) | (with_reducible refine Arr.store o23 w5.heap.size (zs 256) (zs 256) (length_zs _) N0.out (length_zs _) rfl rfl ?_) | (with_reducible refine Arr.load o23 w5.heap.size (zs 256) (length_zs _) W1.out rfl ?_))
            go_ret
            exact ⟨rfl, WB.out⟩

theorem sbSwaps_walk (l : List Nat) (hl : l.length = 256) (hb : ∀ i, l.getD i 0 < 256) (w : World) :
    Calls Try.prog 4 #[.agg (na .u8 l)] w fun e w' => e = .returned (.bool true) ∧ Below w.heap.size w w' := sbSwaps_any l hl hb w
end Go.Proofs.Ytonkmkgehggoiaa
