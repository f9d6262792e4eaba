/-
  Contract of tape.Stretch: a seed's bytes. Conditions: the tables stand in their variables; the seed lies below, in its slice, and has fewer than 2^59 bytes.
-/
import Derived.Test.YtmookhbijmibiaaDoorTpStrNum
import Derived.Test.YtmookhbijmibiaaDoorShaAwake
import Derived.Test.YtmookhbijmibiaaDoorCut
import Derived.Test.YtmookhbijmibiaaDoorArrStore
import Derived.Test.YtmookhbijmibiaaDoorQuietTail2
import Derived.Deep.CutRange
import Derived.Deep.QuietTactic
import Derived.BigQuiet
namespace Go.Proofs.YtmookhbijmibiaaDoor
open Go.RowKit Arr Sh Tps

/-- What Stretch leaves. -/
def Stretched (l : List Nat) (n : Nat) (w : World) (e : Ending) (w' : World) : Prop :=
  ∃ g, e = .returned (.tuple #[.slice (some ⟨g, 0, none⟩) n n, .int .i64 0]) ∧ w.heap.size ≤ g ∧ Holds w' g .u8 l ∧ Below w.heap.size w w'

theorem stretch_bad (A : Option Addr) (n0 d0 : Nat) (n : Int) (h : n < 0 ∨ 1048576 < n) (w : World) : Calls Tryd.prog 5 #[.slice A n0 d0, .int .i64 n] w fun e w' => e = .returned (.tuple #[.slice none 0 0, .int .i64 2]) ∧ w = w' := by
  rcases h with h | h
  · have e1 : decide (n < 0) = true := by simp; omega
    clear h
    go_enter Tryd.func5, Tryd.ntmps5
    go_wp2
    go_ret2
    exact ⟨rfl, rfl⟩
  · have e1 : decide (n < 0) = false := by simp; omega
    have e2 : decide (n > 1048576) = true := by simp; omega
    clear h
    go_enter Tryd.func5, Tryd.ntmps5
    go_wp2
    go_ret2
    exact ⟨rfl, rfl⟩

theorem info1_byte : (Tryd.prog.info? 5).map (·.size) = some 1 := by kernel_rfl

set_option maxRecDepth 10000 in
set_option maxHeartbeats 2000000 in
theorem stretch_any (seed : List Nat) (A : Option Addr) (n0 d0 : Nat) (hl : seed.length = n0) (hd0 : n0 ≤ d0) (hn0 : n0 < 576460752303423488) (n : Nat) (hn : n ≤ 1048576) (w : World) (hb : Bys w w.heap.size A seed) (hv : VarsS w) :
    Calls Tryd.prog 5 #[.slice A n0 d0, .int .i64 (n : Int)] w (Stretched (str seed n) n w) := by
  have hmk : Go.RowKit.Hid (∀ W : World, (Instr.makeSlice 22 (.int .i64 (n : Int)) (.int .i64 (n : Int))).run Tryd.prog W = .ok (.slice (some ⟨W.heap.size, 0, none⟩) n n) (W.alloc (.cells (na .u8 (zs n)) 5))) := Lib.hid (fun W => by
    rw [← made_bytes]
    exact run_make_row' (P := Tryd.prog) 22 5 (.int .u8 0) 1 Tryd.underlying22 info_u8 rfl .i64 .i64 n (by omega) (by omega) W)
  have H0 : Go.RowKit.Hid (Holds (w.alloc (.cells (na .u8 (zs n)) 5)) w.heap.size .u8 (lain seed n 0)) := Lib.hid (by rw [lain_zero]; exact Holds.new w 5 .u8 (zs n))
  have B0 := Lib.hid (below_alloc w (.cells (na .u8 (zs n)) 5))
  have C1 : Go.RowKit.Hid (∀ wr (k : Nat), Below w.heap.size w wr → Calls Tryd.prog 13 #[.int .u64 (k : Int)] wr (Spread k 8 wr)) := Lib.hid (fun wr k hB => put64_any k wr (hv.below hB (Nat.le_refl _)).vars.tab)
  have C2 : Go.RowKit.Hid (∀ (wr : World) (k : Nat), Below w.heap.size w wr → Calls Tryd.prog 12 #[.slice (some ⟨wr.heap.size + 1, 0, none⟩) 2 2] ((wr.alloc (.cells (na .u8 (bytesOf k 8)) 5)).alloc (.cells #[.slice A n0 d0, .slice (some ⟨wr.heap.size, 0, none⟩) 8 8] 22))
      (GivesB (blk seed k) ((wr.alloc (.cells (na .u8 (bytesOf k 8)) 5)).alloc (.cells #[.slice A n0 d0, .slice (some ⟨wr.heap.size, 0, none⟩) 8 8] 22)))) := Lib.hid (fun wr k hB => by
    have b1 := below_alloc wr (.cells (na .u8 (bytesOf k 8)) 5)
    have hB1 := hB.trans (b1.mono hB.size)
    have P := Parts.new (wr.alloc (.cells (na .u8 (bytesOf k 8)) 5)) 22 [⟨A, d0, seed⟩, ⟨some ⟨wr.heap.size, 0, none⟩, 8, bytesOf k 8⟩] (fun i hi => by
      match i, hi with
      | 0, _ => exact ⟨by show seed.length ≤ d0; omega, (hb.below hB1).more hB1.size⟩
      | 1, _ => exact ⟨by show (bytesOf k 8).length ≤ 8; rw [length_bytesOf]; exact Nat.le_refl _, bys_new wr 5 _ (bytesOf_lt k 8)⟩) #[.slice A n0 d0, .slice (some ⟨wr.heap.size, 0, none⟩) 8 8] (by rw [← hl]; simp [length_bytesOf])
    have b2 := hB1.alloc hB1.size (.cells #[.slice A n0 d0, .slice (some ⟨wr.heap.size, 0, none⟩) 8 8] 22)
    have C := Sum_any [⟨A, d0, seed⟩, ⟨some ⟨wr.heap.size, 0, none⟩, 8, bytesOf k 8⟩] _ 2 2 rfl (by omega) (by simp [textOf, length_bytesOf]; omega) _ P (hv.below b2 (Nat.le_refl _))
    rw [World.size_alloc] at C
    rwa [show textOf [⟨A, d0, seed⟩, ⟨some ⟨wr.heap.size, 0, none⟩, 8, bytesOf k 8⟩] = seed ++ bytesOf k 8 by simp [textOf]] at C)
  have e1 : decide ((n : Int) < 0) = false := by simp
  have e2 : decide ((n : Int) > 1048576) = false := by simp; omega
  have hm0 := hmk.out w
  clear hl hb hv hmk
  go_enter Tryd.func5, Tryd.ntmps5
  go_wp2_with fail
  clear hm0
  obtain ⟨gm, hgm⟩ : ∃ gm, gm = w.heap.size := ⟨_, rfl⟩
  have HGM := Lib.hid hgm
  have hgw : w.heap.size ≤ gm := by omega
  rw [← hgm] at H0
  simp only [← HGM.out]
  clear hgm
  go_loopw [7, 8] (fun v i wr => ∃ k d : Nat, d ≤ n ∧ Go.RowKit.Hid (d = min n (32 * k)) ∧ k ≤ n ∧ v = .int .i64 (d : Nat) ∧ i = .int .u64 (k : Nat) ∧ Holds wr gm .u8 (lain seed n k) ∧ Below w.heap.size w wr) (fun v _ _ => n - (intOf v).toNat)
  case atStart => exact ⟨0, 0, by omega, Lib.hid (by simp), by omega, rfl, rfl, H0.out, B0.out⟩
  case round =>
    clear H0 B0
    obtain ⟨k, d, hd, hdk, hk, rfl, rfl, hH, hB⟩ := hrel
    by_cases hlt : d < n
    · have tt : decide ((d : Int) < (n : Int)) = true := by simp; omega
      have hd32 : d = 32 * k := by have := hdk.out; omega
      obtain ⟨ml, eml⟩ : ∃ ml, ml = min 32 (n - d) := ⟨_, rfl⟩
      have hml1 : 1 ≤ ml := by omega
      have hml2 : ml ≤ 32 := by omega
      have hml3 : d + ml ≤ n := by omega
      have hdn : Go.RowKit.Hid (d + ml = min n (32 * (k + 1))) := Lib.hid (by omega)
      have HMN := Lib.hid (show ml = Nat.min 32 (n - d) from eml)
      have HST := Lib.hid (show spl (lain seed n k) d ((blk seed k).take ml) = lain seed n (k + 1) by rw [eml, hd32]; exact lain_succ seed n k (by omega))
      have LM := Lib.hid (length_lain seed n k)
      have hk1 : k + 1 ≤ n := by omega
      have wml : IntKind.i64.wrap ((d : Int) + (ml : Int)) = (d : Int) + (ml : Int) := by rw [IntKind.wrap_i64]; omega
      have wk : IntKind.u64.wrap ((k : Int) + 1) = (k : Int) + 1 := by rw [IntKind.wrap_u64]; omega
      have LT := length_blk seed k
      have D1 := Lib.hid (C1.out wr k hB)
      have D2 := Lib.hid (C2.out wr k hB)
      have HH := Lib.hid hH
      have HB := Lib.hid hB
      have hgr : gm < wr.heap.size := hH.lt (by rw [LM.out]; omega)
      clear C1 C2 hH hB hd32 eml hdk
      generalize blk seed k = tg at *
      go_wp2_with fail
      refine D1.out.mono ?_
      rintro e w1 ⟨arr, hla, rfl, rfl⟩
      rw [laid_all hla]
      have b1 := below_alloc wr (.cells (na .u8 (bytesOf k 8)) 5)
      have b2 := b1.alloc b1.size (.cells #[.slice A n0 d0, .slice (some ⟨wr.heap.size, 0, none⟩) 8 8] 22)
      have HB2 := Lib.hid (HB.out.trans (b2.mono HB.out.size))
      have HH2 := Lib.hid (HH.out.below b2 hgr)
      have hgr2 := Lib.hid (Nat.lt_of_lt_of_le hgr b2.size)
      clear hla b1 b2 D1 HB HH hgr
      go_wp2_with fail
      refine D2.out.mono ?_
      rintro e wt ⟨rfl, hBt⟩
      have b5 := below_setCells (b := wt.heap.size) (Nat.le_refl _) (nv .u8 tg) 0 _ (below_alloc wt (.cells (na .u8 (zs 32)) 28))
      have A5 := Holds.new wt 28 .u8 (zs 32)
      have H5 := Lib.hid A5
      have H6 := Lib.hid (A5.put tg (by rw [LT, length_zs]))
      have hgt : gm < wt.heap.size := Nat.lt_of_lt_of_le hgr2.out hBt.size
      have H7 := Lib.hid ((HH2.out.below hBt hgr2.out).below b5 hgt)
      have bt := HB2.out.trans (hBt.mono HB2.out.size)
      have B7 := Lib.hid (bt.trans (b5.mono bt.size))
      clear bt b5 A5 hBt D2 HH2 HB2 hgr2 hgt
      go_upto_region 9 with (first | (with_reducible refine Arr.alloc (t := 28) _ z32 ?_) | (with_reducible refine Arr.store o32 wt.heap.size (zs 32) tg (length_zs _) H5.out LT rfl rfl ?_) | fail)
      generalize (wt.alloc (.cells (na .u8 (zs 32)) 28)).setCells wt.heap.size 0 (nv .u8 tg) = w6 at *
      clear H5
      have hs2 := fun W : World => sliceAll o32 W wt.heap.size 0
      generalize wt.heap.size = g at *
      have hsl : ∀ W : World, (Instr.slice 22 (.slice (some ⟨gm, 0, none⟩) n n) (some (.int .i64 (d : Int))) none none).run Tryd.prog W = .ok (.slice (some ⟨gm, d, none⟩) (n - d) (n - d)) W := fun W => by
        rw [run_cut_l _ n n d (by omega) W, cutA, if_neg (by omega), Option.map_some, add_nat, Nat.zero_add]
      refine region_move_quiet_tail 5 (by kernel_rfl) (by kernel_rfl) (.tmp 7) (.int .i64 (d : Int)) rfl rfl rfl (fun _ _ _ _ h => h) ?_
      simp only [List.take_succ_cons, List.take_zero, List.drop_succ_cons, List.drop_zero, Nat.add_one_sub_one, Act.put, List.setIfInBounds_toArray, List.set_cons_zero, List.set_cons_succ]
      repeat (go_big_quiet_step (fail))
      refine wpQuiet_nil ?_
      intro wd hwd
      have bd : Below w6.heap.size w6 wd := by obtain ⟨k, rfl⟩ := hwd; exact below_drewN (Below.refl _ _) k
      have K6 : Holds wd g .u8 tg := H6.out.below bd (H6.out.lt (by omega))
      have KD : Holds wd gm .u8 (lain seed n k) := H7.out.below bd (H7.out.lt (by rw [LM.out]; omega))
      have KB : Below w.heap.size w wd := B7.out.trans (bd.mono B7.out.size)
      clear hwd H6 H7 B7 bd
      have part := (Holds.at0 KD).part d (n - d) (by rw [LM.out]; omega)
      rw [Nat.zero_add] at part
      have lt2 : (tg.take ml).length = ml := by rw [List.length_take, LT]; omega
      have CN := run_copy_bytes (P := Tryd.prog) wd 22 22 3 5 Tryd.underlying22 info1_byte gm d (n - d) (n - d) g 0 32 32 _ (tg.take ml) part (by rw [lt2]; exact HMN.out) (by rw [lt2, List.length_take, List.length_drop, LM.out]; omega) (fun j hj => by
        rw [lt2] at hj
        have e : (tg.take ml).getD j 0 = tg.getD j 0 := by
          have h1 : j < tg.length := by omega
          simp [hj, h1]
        rw [Nat.zero_add, K6.cell j (by omega), e])
      rw [lt2] at CN
      have HCN := Lib.hid CN
      have sp := (Holds.at0 KD).spliced d (tg.take ml) (by rw [lt2, LM.out]; exact hml3)
      rw [HST.out, Nat.zero_add] at sp
      have X1 : Go.RowKit.Hid (Holds (wd.setCells gm d (nv .u8 (tg.take ml))) gm .u8 (lain seed n (k + 1))) := Lib.hid sp
      have X2 := Lib.hid (below_setCells hgw (nv .u8 (tg.take ml)) d _ KB)
      clear CN KD KB K6 part HST sp lt2
      generalize tg.take ml = tm at *
      go_wp2_with (first | (with_reducible refine Arr.list_copy (.slice (some ⟨gm, d, none⟩) (n - d) (n - d)) (.slice (some ⟨g, 0, none⟩) 32 32) _ (wd.setCells gm d (nv .u8 tm)) rfl rfl HCN.out ?_) | fail)
      go_roundw
      case rel => exact ⟨k + 1, d + ml, by omega, hdn, by omega, by go_num, by go_num, X1.out, X2.out⟩
      case measure => simp [intOf]; omega
    · obtain rfl : d = n := by omega
      have tt : decide ((d : Int) < (d : Int)) = false := by simp
      have HF := Lib.hid (show Stretched (str seed d) d w (.returned (.tuple #[.slice (some ⟨gm, 0, none⟩) d d, .int .i64 0])) wr from ⟨gm, rfl, hgw, by rw [← lain_all seed d k (by have := hdk.out; omega)]; exact hH, hB⟩)
      clear hH hB
      go_wp2_with fail
      go_ret2
      exact HF.out
end Go.Proofs.YtmookhbijmibiaaDoor
