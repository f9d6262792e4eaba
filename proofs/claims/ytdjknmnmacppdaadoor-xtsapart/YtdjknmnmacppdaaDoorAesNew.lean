/-
  The contract of aes.New. Conditions: the key's bytes lie in its slice, the table of widths in its variable. (Written by tools/gen_new.py.)
-/
import Derived.Test.YtdjknmnmacppdaaDoorAesCiph
import Derived.Test.YtdjknmnmacppdaaDoorLaidArr
import Derived.Deep.RegionHeld3
namespace Go.Proofs.YtdjknmnmacppdaaDoor
open Go.RowKit Arr Gf Sb Ae

theorem size_u8 : (Tryd.prog.info? 5).map (·.size) = some 1 := by kernel_rfl
/-- Four new bytes are copied into a cipher's keys. -/
theorem copy_keys (w : World) (g r : Nat) (K bb tw : List Nat) (o n x : Nat) (ty : TypeId) (h : Part (w.alloc (.cells (na .u8 (bytesOf x 4)) 5)) g r K bb tw) (ho : 1 ≤ o) (ho' : o + 4 ≤ 241) (hn : 4 ≤ n) :
    (Builtin.copy_ #[22, 22] ty #[.slice (some ⟨g, o, none⟩) n n, .slice (some ⟨w.heap.size, 0, none⟩) 4 4]).run Tryd.prog (w.alloc (.cells (na .u8 (bytesOf x 4)) 5)) = .ok (goInt 4) ((w.alloc (.cells (na .u8 (bytesOf x 4)) 5)).setCells g o (nv .u8 (bytesOf x 4))) := by
  have hl : (nv .u8 (bytesOf x 4)).length = 4 := by rw [length_nv, length_bytesOf]
  have hnew := Holds.new w 5 .u8 (bytesOf x 4)
  have hk := h.keys.2
  rw [h.lk] at hk
  have := run_copy_cells (P := Tryd.prog) (w.alloc (.cells (na .u8 (bytesOf x 4)) 5)) 22 22 ty 5 g o n n ⟨w.heap.size, 0, none⟩ 4 4 (nv .u8 (bytesOf x 4)) Tryd.underlying22 size_u8 (by rw [hl]; exact (Nat.min_eq_left hn).symm)
    (fun j v hv => by rw [add_nat]; exact hnew.1 j v hv) (fun j hj => by have := (hk (o - 1 + j) (by omega)).1; rwa [show 1 + (o - 1 + j) = o + j by omega] at this) (fun j hj => by have := (hk (o - 1 + j) (by omega)).2; rwa [show 1 + (o - 1 + j) = o + j by omega] at this) (nv_one _ _)
  rw [hl] at this
  exact this

/-- What holds while word i goes into the keys, whatever has come up. -/
def SK (w : World) (g h r i : Nat) (ws : List Nat) (w' : World) : Prop := (∃ K, (K = flat ws i ∨ K = flat ws (i + 1)) ∧ Part w' g r K bk twL) ∧ Holds w' h .u32 ws ∧ Below w.heap.size w w'
theorem SK.after {w w' w'' : World} {g h r i : Nat} {ws : List Nat} (s : SK w g h r i ws w') (hw : 0 < ws.length) (hb : Below w'.heap.size w' w'') : SK w g h r i ws w'' := by
  obtain ⟨⟨K, hK, hP⟩, hH, hB⟩ := s
  exact ⟨⟨K, hK, hP.below hb hP.lt⟩, hH.below hb (hH.lt hw), hB.trans (hb.mono hB.size)⟩
theorem SK.put {w w' : World} {g h r i : Nat} {ws : List Nat} (s : SK w g h r i ws w') (hi : 4 * i + 4 ≤ 240) (hne : g < h) (hg : w.heap.size ≤ g) (x : Nat) (hx : x = ws.getD i 0) (o : Nat) (ho : o = 1 + 4 * i) :
    Part (w'.setCells g o (nv .u8 (bytesOf x 4))) g r (flat ws (i + 1)) bk twL ∧ Holds (w'.setCells g o (nv .u8 (bytesOf x 4))) h .u32 ws ∧ Below w.heap.size w (w'.setCells g o (nv .u8 (bytesOf x 4))) := by
  subst hx ho
  obtain ⟨⟨K, hK, hP⟩, hH, hB⟩ := s
  refine ⟨hP.putKeys (4 * i) _ _ (length_bytesOf ..) hi (length_flat ..) (fun j hj => ?_), hH.apart _ _ _ (by omega), below_setCells hg _ _ _ hB⟩
  rcases hK with rfl | rfl
  · exact flat_more ws i j hj
  · by_cases h1 : 4 * i ≤ j ∧ j < 4 * i + 4
    · rw [flat_more ws i j hj, if_pos h1, if_pos h1]
    · rw [if_neg h1]

/-- What a call of New leaves, the key being one. -/
def Made (bs : List Nat) (k : Nat) (w : World) (e : Ending) (w' : World) : Prop :=
  ∃ g, e = .returned (.tuple #[.pointer (some ⟨g, 0, none⟩), .int .i64 0]) ∧ Ciph w' g (k + 6) (keysOf bs k) ∧ w.heap.size ≤ g ∧ Below w.heap.size w w'
theorem new_none (A : Option Addr) (n c : Nat) (h1 : n ≠ 16) (h2 : n ≠ 32) (w : World) : Calls Tryd.prog 16 #[.slice A n c] w fun e w' => e = .returned (.tuple #[.pointer none, .int .i64 20]) ∧ w = w' := by
  have C0 := wordsOf_any A n c w
  rw [show nk n = 0 by rw [nk, if_neg h1, if_neg h2]] at C0
  have C1 := Lib.hid C0
  clear C0
  go_enter Tryd.func16, Tryd.ntmps16
  go_wp2_with fail
  refine C1.out.mono ?_
  rintro e w' ⟨rfl, rfl⟩
  go_wp2
  go_ret2
  exact ⟨rfl, rfl⟩

set_option maxHeartbeats 4000000 in
set_option maxRecDepth 10000 in
theorem new4 (bs : List Nat) (hl : bs.length = 16) (A : Option Addr) (c : Nat) (hc : 16 ≤ c) (w : World) (hb : Bys w w.heap.size A bs) (ht : Tab w 0) :
    Calls Tryd.prog 16 #[.slice A 16 c] w (Made bs 4 w) := by
  have C0 := Lib.hid (show Calls Tryd.prog 26 #[.slice A 16 c] w fun e w' => e = .returned (.int .i64 4) ∧ w = w' from wordsOf_any A 16 c w)
  have C1 := Lib.hid (box_any w)
  obtain ⟨CC, hCC⟩ : ∃ CC, CC = (newC 10).toArray := ⟨_, rfl⟩
  have hbu := built10
  rw [← hCC] at hbu
  have PN := fun w' => Part.new w' 59 10
  rw [← hCC] at PN
  have PN := Lib.hid PN
  have HB := Lib.hid hb
  have HT := Lib.hid ht
  have htw := ht.lt
  have C2 := Lib.hid (fun w => swap_any boxL boxL_len boxL_bytes w)
  have ND := Lib.hid boxL_nodup
  have LB := boxL_len
  have C3 := Lib.hid (fun o g w' h1 h2 h3 => expanded4 bs hl A c hc g o w' h1 h2 h3)
  clear hb ht hCC
  go_enter Tryd.func16, Tryd.ntmps16
  go_wp2_with fail
  refine C0.out.mono ?_
  rintro e w' ⟨rfl, rfl⟩
  go_wp2_with fail
  refine C1.out.mono ?_
  rintro e w1 ⟨rfl, hb1⟩
  have P1 := Lib.hid (PN.out w1)
  have B1 := Lib.hid (hb1.alloc hb1.size (.cells CC 59))
  have hsz := hb1.size
  clear hb1 PN C0 C1
  go_wp2_with (first | (with_reducible refine Arr.build2 CC (.int .i64 10) (.agg (na .u8 boxL)) rfl rfl hbu ?_) | (with_reducible refine Arr.loadAt o23 w1.heap.size 241 boxL LB P1.out.box rfl ?_) | fail)
  have hgw : w.heap.size ≤ w1.heap.size := hsz
  generalize w1.heap.size = g at *
  refine (C2.out _).mono ?_
  rintro e w2 ⟨x, ok, rfl, hor, hb2⟩
  rcases hor with ⟨rfl, -, rfl⟩ | ⟨rfl, hn, rfl⟩
  rotate_left
  · exact absurd ND.out hn
  have P2 := Lib.hid (P1.out.below hb2 P1.out.lt)
  have B2 := Lib.hid (B1.out.trans (hb2.mono B1.out.size))
  clear hb2 ND P1 B1
  have HBK : Sw.sw boxL = bk := rfl
  rw [HBK]
  have lm : bk.length = 256 := Sw.length_sw _
  clear HBK
  have P3 := Lib.hid (P2.out.putBack bk lm)
  have B3 := Lib.hid (below_setCells (b := g) hgw (nv .u8 bk) 497 _ B2.out)
  go_wp2_with (first | (with_reducible refine Arr.storeAt o23 g 497 (zs 256) bk (length_zs _) P2.out.back lm rfl rfl ?_) | fail)
  generalize w2.setCells g 497 (nv .u8 bk) = w3 at *
  clear P2 B2
  go_loopw [29] (fun i wr => ∃ i0 : Nat, i0 ≤ 256 ∧ i = .int .i64 (i0 : Nat) ∧ Part wr g 10 (zs 240) bk (upto D (fun _ => 0) 256 i0) ∧ Below w.heap.size w wr) (fun i _ => 256 - (intOf i).toNat)
  case atStart => exact ⟨0, by omega, rfl, by rw [upto_noughts]; exact P3.out, B3.out⟩
  case round =>
    clear P3 B3
    obtain ⟨i, hi, rfl, h1, h2⟩ := hrel
    have H1 := Lib.hid h1
    have H2 := Lib.hid h2
    clear h1 h2
    by_cases hlt : i < 256
    · have ti : decide ((i : Int) < 256) = true := by simp; omega
      have ii : (i : Int) < 256 := by omega
      have wi : IntKind.u8.wrap (i : Int) = (i : Int) := by rw [IntKind.wrap_u8]; omega
      have HS := upto_succ D (fun _ => 0) 256 i hlt
      have hD := D_lt i
      have TC := fun w' => (times_any i 2 hlt (by omega) w').mono fun e w'' h => (⟨h.1, h.2.symm⟩ : e = .returned (.int .u8 ((T i 2 : Nat) : Int)) ∧ w'' = w')
      rw [D_eq i hlt] at TC
      generalize upto D (fun _ => 0) 256 i = u at *
      have HS := Lib.hid HS
      generalize D i = d at *
      have TC := Lib.hid TC
      go_wp2_with fail
      refine region_tail 8 (by kernel_rfl) (by kernel_rfl) ?_
      intro wd hwd
      have G1 : Part wd g 10 (zs 240) bk u := by rw [hwd]; exact H1.out.drew
      have G2 : Below w.heap.size w wd := by rw [hwd]; exact below_drew H2.out
      clear hwd H1 H2
      have cl := G1.twice.cell i (by rw [G1.lt']; exact hlt)
      have fr := G1.twice.frozen i (by rw [G1.lt']; exact hlt)
      have X1 := G1.setTwice i d hlt
      rw [← HS.out] at X1
      have X2 := G2.setCell (p := ⟨g, 753 + i, none⟩) hgw (.int .u8 (d : Int))
      have X1 := Lib.hid X1
      have X2 := Lib.hid X2
      have T1 := Lib.hid (TC.out wd)
      clear G1 G2 HS TC
      generalize u.getD i 0 = old at *
      simp only [List.take_succ_cons, List.take_zero, List.drop_succ_cons, List.drop_zero]
      still_step
      still_step
      still_step
      still_step
      still_call T1.out
      still_step
      still_step
      still_step
      refine wpStill_nil ?_
      go_wp2
      go_roundw
      case rel => exact ⟨i + 1, by omega, by go_num, X1.out, X2.out⟩
      case measure => simp [intOf]; omega
    · have ei : (i : Int) = 256 := by omega
      rw [ei]
      obtain rfl : i = 256 := by omega
      clear ei
      have eT : upto D (fun _ => 0) 256 256 = twL := upto_all ..
      rw [eT] at H1
      have C4 := Lib.hid (C3.out 241 g wr (HB.out.below H2.out |>.more H2.out.size) H1.out.box (HT.out.below H2.out htw))
      clear eT C3
      go_wp2_with fail
      refine C4.out.mono ?_
      rintro e w4 ⟨h, rfl, hH, hge, hbel⟩
      have P4 := Lib.hid (H1.out.below hbel H1.out.lt)
      have B4 := Lib.hid (H2.out.trans (hbel.mono H2.out.size))
      have hne : g < h := Nat.lt_of_lt_of_le H1.out.lt hge
      have HH := Lib.hid hH
      have WW := Lib.hid (ws_words HB.out.1 4)
      have LW : (words bs 4).length = 44 := length_words bs 4
      have KW := Lib.hid (show flat (words bs 4) 44 = keysOf bs 4 from rfl)
      clear hbel H1 H2 C4 hH
      generalize words bs 4 = ws at *
      go_wp2_with fail
      go_loopw [48] (fun i wr => ∃ i0 : Nat, i0 ≤ 44 ∧ i = .int .i64 (i0 : Nat) ∧ Part wr g 10 (flat ws i0) bk twL ∧ Holds wr h .u32 ws ∧ Below w.heap.size w wr) (fun i _ => 44 - (intOf i).toNat)
      case atStart => exact ⟨0, by omega, rfl, by rw [flat_zero]; exact P4.out, HH.out, B4.out⟩
      case round =>
        clear P4 HH B4
        obtain ⟨i, hi, rfl, h1, h2, h3⟩ := hrel
        have H1 := Lib.hid h1
        have H2 := Lib.hid h2
        have H3 := Lib.hid h3
        clear h1 h2 h3
        by_cases hlt : i < 44
        · have ti : decide ((i : Int) < 44) = true := by simp; omega
          have ii : (i : Int) < 44 := by omega
          have cw := H2.out.cell i (by omega)
          have hwl := WW.out i
          have hws0 : 0 < ws.length := by omega
          obtain ⟨x, hx⟩ : ∃ x, x = ws.getD i 0 := ⟨_, rfl⟩
          rw [← hx] at cw hwl
          obtain ⟨a, ha⟩ : ∃ a, a = i / 4 := ⟨_, rfl⟩
          obtain ⟨r0, hr0⟩ : ∃ r0, r0 = i % 4 := ⟨_, rfl⟩
          obtain ⟨r4, hr4⟩ : ∃ r4, r4 = r0 * 4 := ⟨_, rfl⟩
          have HO := Lib.hid (show 1 + a * 16 + r4 = 1 + 4 * i by omega)
          have d1 : Int.tdiv (i : Int) 4 = (a : Int) := by rw [Int.tdiv_eq_ediv_of_nonneg (by omega)]; omega
          have d2 : (i : Int) / 4 = (a : Int) := by omega
          have d3 : Int.tmod (i : Int) 4 = (r0 : Int) := by rw [Int.tmod_eq_emod_of_nonneg (by omega)]; omega
          have d4 : (i : Int) % 4 = (r0 : Int) := by omega
          have d5 : (r0 : Int) * 4 = (r4 : Int) := by omega
          have d6 := wrap_nat a (by omega)
          have d7 := wrap_nat r4 (by omega)
          have d8 : (a : Int) < 15 := by omega
          have d9 : (r4 : Int) ≤ 16 := by omega
          have r12 : r4 ≤ 12 := by omega
          have d10 : ¬ 16 = r4 := by omega
          have HX := Lib.hid hx
          clear ha hr0 hr4 hx
          go_wp2_with fail
          have ST := Lib.hid (show SK w g h 10 i ws wr.drew from ⟨⟨_, .inl rfl, H1.out.drew⟩, H2.out.drew, below_drew H3.out⟩)
          clear H1 H2 H3
          refine wp_region_held_drew (S := SK w g h 10 i ws) (by kernel_rfl) ST.out (fun hHeld => ?_)
          clear ST
          generalize wr.drew = wq at *
          refine wpAnyH_take (i := 0) (v := ?_) rfl (by kernel_rfl) (by kernel_rfl) (by kernel_rfl) (fun _ _ _ h => h) (Or.inl ⟨by rfl, ?_⟩) (by assumption) ?_
          rotate_left
          · (intro wz hSw; go_simp; try with_reducible rfl)
          try simp only [List.getElem_toArray, List.getElem_cons_zero, Act.put, List.setIfInBounds_toArray, List.set_cons_zero, List.set_cons_succ]
          refine wpAnyH_take (i := 1) (v := ?_) rfl (by kernel_rfl) (by kernel_rfl) (by kernel_rfl) (fun _ _ _ h => h) (Or.inl ⟨by rfl, ?_⟩) (by assumption) ?_
          rotate_left
          · (intro wz hSw; go_simp; try with_reducible rfl)
          try simp only [List.getElem_toArray, List.getElem_cons_zero, List.getElem_cons_succ, Act.put, List.setIfInBounds_toArray, List.set_cons_zero, List.set_cons_succ]
          refine wpAnyH_take (i := 2) (v := ?_) rfl (by kernel_rfl) (by kernel_rfl) (by kernel_rfl) (fun _ _ _ h => h) (Or.inl ⟨by rfl, ?_⟩) (by assumption) ?_
          rotate_left
          · (intro wz hSw; go_simp; try with_reducible rfl)
          try simp only [List.getElem_toArray, List.getElem_cons_zero, List.getElem_cons_succ, Act.put, List.setIfInBounds_toArray, List.set_cons_zero, List.set_cons_succ]
          refine wpAnyH_take (i := 3) (v := ?_) rfl (by kernel_rfl) (by kernel_rfl) (by kernel_rfl) (fun _ _ _ h => h) (Or.inl ⟨by rfl, ?_⟩) (by assumption) ?_
          rotate_left
          · (intro wz hSw; go_simp; try with_reducible rfl)
          try simp only [List.getElem_toArray, List.getElem_cons_zero, List.getElem_cons_succ, Act.put, List.setIfInBounds_toArray, List.set_cons_zero, List.set_cons_succ]
          refine wpAnyH_take (i := 4) (v := ?_) rfl (by kernel_rfl) (by kernel_rfl) (by kernel_rfl) (fun _ _ _ h => h) (Or.inl ⟨by rfl, ?_⟩) (by assumption) ?_
          rotate_left
          · (intro wz hSw; go_simp; try with_reducible rfl)
          try simp only [List.getElem_toArray, List.getElem_cons_zero, List.getElem_cons_succ, Act.put, List.setIfInBounds_toArray, List.set_cons_zero, List.set_cons_succ]
          refine wpAnyH_take (i := 5) (v := ?_) rfl (by kernel_rfl) (by kernel_rfl) (by kernel_rfl) (fun _ _ _ h => h) (Or.inl ⟨by rfl, ?_⟩) (by assumption) ?_
          rotate_left
          · (intro wz hSw; go_simp; try with_reducible rfl)
          try simp only [List.getElem_toArray, List.getElem_cons_zero, List.getElem_cons_succ, Act.put, List.setIfInBounds_toArray, List.set_cons_zero, List.set_cons_succ]
          refine wpAnyH_take (i := 6) (v := ?_) rfl (by kernel_rfl) (by kernel_rfl) (by kernel_rfl) (fun _ _ _ h => h) (Or.inl ⟨by rfl, ?_⟩) (by assumption) ?_
          rotate_left
          · (intro wz hSw; go_simp; try with_reducible rfl)
          try simp only [List.getElem_toArray, List.getElem_cons_zero, List.getElem_cons_succ, Act.put, List.setIfInBounds_toArray, List.set_cons_zero, List.set_cons_succ]
          refine wpAnyH_take (i := 7) (v := ?_) rfl (by kernel_rfl) (by kernel_rfl) (by kernel_rfl) (fun _ _ _ h => h) (Or.inl ⟨by rfl, ?_⟩) (by assumption) ?_
          rotate_left
          · (intro wz hSw; go_simp; try with_reducible rfl)
          try simp only [List.getElem_toArray, List.getElem_cons_zero, List.getElem_cons_succ, Act.put, List.setIfInBounds_toArray, List.set_cons_zero, List.set_cons_succ]
          refine wpAnyH_take (i := 8) (v := ?_) rfl (by kernel_rfl) (by kernel_rfl) (by kernel_rfl) (fun _ _ _ h => h) (Or.inl ⟨by rfl, ?_⟩) (by assumption) ?_
          rotate_left
          · (intro wz hSw; go_simp; try with_reducible rfl)
          try simp only [List.getElem_toArray, List.getElem_cons_zero, List.getElem_cons_succ, Act.put, List.setIfInBounds_toArray, List.set_cons_zero, List.set_cons_succ]
          refine wpAnyH_take (i := 9) (v := ?_) rfl (by kernel_rfl) (by kernel_rfl) (by kernel_rfl) (fun _ _ _ h => h) (Or.inl ⟨by rfl, ?_⟩) (by assumption) ?_
          rotate_left
          · (intro wz hSw; go_simp; try with_reducible rfl)
          try simp only [List.getElem_toArray, List.getElem_cons_zero, List.getElem_cons_succ, Act.put, List.setIfInBounds_toArray, List.set_cons_zero, List.set_cons_succ]
          refine wpAnyH_take (i := 10) (v := ?_) rfl (by kernel_rfl) (by kernel_rfl) (by kernel_rfl) (fun _ _ _ h => h) (Or.inl ⟨by rfl, ?_⟩) (by assumption) ?_
          rotate_left
          · (intro wz hSw; go_simp; try with_reducible rfl)
          try simp only [List.getElem_toArray, List.getElem_cons_zero, List.getElem_cons_succ, Act.put, List.setIfInBounds_toArray, List.set_cons_zero, List.set_cons_succ]
          refine wpAnyH_ready (rs := [11]) (by kernel_rfl) (by simp) (AllReadyH.cons rfl (fun K hK => ?_) AllReadyH.nil)
          go_simp
          refine (put32_any x hwl _ (HT.out.below hHeld.2.2 htw)).mono ?_
          rintro e w5 ⟨arr, hla, rfl, rfl⟩
          rw [laid_cells hla] at *
          clear hla
          refine hK.out _ _ (hHeld.after hws0 (below_alloc _ _)) (fun hHeld2 => ?_)
          clear hHeld hK K; have hHeld := hHeld2; clear hHeld2
          try simp only [List.getElem_toArray, List.getElem_cons_zero, List.getElem_cons_succ, Act.put, List.setIfInBounds_toArray, List.set_cons_zero, List.set_cons_succ]
          refine wpAnyH_ready (rs := [12]) (by kernel_rfl) (by simp) (AllReadyH.cons rfl (fun K hK => ?_) AllReadyH.nil)
          obtain ⟨⟨K0, hK0, hP⟩, -, -⟩ := id hHeld
          refine Arr.step_copy rfl (.tmp 62) (.tmp 64) 22 22 rfl (.slice (some ⟨g, 1 + a * 16 + r4, none⟩) (16 - r4) (16 - r4)) (.slice (some ⟨wq.heap.size, 0, none⟩) 4 4) rfl rfl (copy_keys wq g _ K0 bk twL (1 + a * 16 + r4) (16 - r4) x _ hP (by omega) (by have := HO.out; omega) (by omega)) ?_
          obtain ⟨Y1, Y2, Y3⟩ := hHeld.put (by omega) hne hgw x HX.out (1 + a * 16 + r4) HO.out
          refine hK.out _ _ ⟨⟨_, .inr rfl, Y1⟩, Y2, Y3⟩ (fun hHeld2 => ?_)
          clear hHeld hK K hHeld2 hP hK0
          try simp only [List.getElem_toArray, List.getElem_cons_zero, List.getElem_cons_succ, Act.put, List.setIfInBounds_toArray, List.set_cons_zero, List.set_cons_succ]
          refine wpAnyH_done (by kernel_rfl) ?_ _
          have Y1 := Lib.hid Y1
          have Y2 := Lib.hid Y2
          have Y3 := Lib.hid Y3
          go_wp2
          go_roundw
          case rel => exact ⟨i + 1, by omega, by go_num, Y1.out, Y2.out, Y3.out⟩
          case measure => simp [intOf]; omega
        · obtain rfl : i = 44 := by omega
          have HP := H1.out.ciph
          rw [KW.out] at HP
          have HP := Lib.hid HP
          go_wp2
          go_ret2
          exact ⟨g, rfl, HP.out, hgw, H3.out⟩

set_option maxHeartbeats 4000000 in
set_option maxRecDepth 10000 in
theorem new8 (bs : List Nat) (hl : bs.length = 32) (A : Option Addr) (c : Nat) (hc : 32 ≤ c) (w : World) (hb : Bys w w.heap.size A bs) (ht : Tab w 0) :
    Calls Tryd.prog 16 #[.slice A 32 c] w (Made bs 8 w) := by
  have C0 := Lib.hid (show Calls Tryd.prog 26 #[.slice A 32 c] w fun e w' => e = .returned (.int .i64 8) ∧ w = w' from wordsOf_any A 32 c w)
  have C1 := Lib.hid (box_any w)
  obtain ⟨CC, hCC⟩ : ∃ CC, CC = (newC 14).toArray := ⟨_, rfl⟩
  have hbu := built14
  rw [← hCC] at hbu
  have PN := fun w' => Part.new w' 59 14
  rw [← hCC] at PN
  have PN := Lib.hid PN
  have HB := Lib.hid hb
  have HT := Lib.hid ht
  have htw := ht.lt
  have C2 := Lib.hid (fun w => swap_any boxL boxL_len boxL_bytes w)
  have ND := Lib.hid boxL_nodup
  have LB := boxL_len
  have C3 := Lib.hid (fun o g w' h1 h2 h3 => expanded8 bs hl A c hc g o w' h1 h2 h3)
  clear hb ht hCC
  go_enter Tryd.func16, Tryd.ntmps16
  go_wp2_with fail
  refine C0.out.mono ?_
  rintro e w' ⟨rfl, rfl⟩
  go_wp2_with fail
  refine C1.out.mono ?_
  rintro e w1 ⟨rfl, hb1⟩
  have P1 := Lib.hid (PN.out w1)
  have B1 := Lib.hid (hb1.alloc hb1.size (.cells CC 59))
  have hsz := hb1.size
  clear hb1 PN C0 C1
  go_wp2_with (first | (with_reducible refine Arr.build2 CC (.int .i64 14) (.agg (na .u8 boxL)) rfl rfl hbu ?_) | (with_reducible refine Arr.loadAt o23 w1.heap.size 241 boxL LB P1.out.box rfl ?_) | fail)
  have hgw : w.heap.size ≤ w1.heap.size := hsz
  generalize w1.heap.size = g at *
  refine (C2.out _).mono ?_
  rintro e w2 ⟨x, ok, rfl, hor, hb2⟩
  rcases hor with ⟨rfl, -, rfl⟩ | ⟨rfl, hn, rfl⟩
  rotate_left
  · exact absurd ND.out hn
  have P2 := Lib.hid (P1.out.below hb2 P1.out.lt)
  have B2 := Lib.hid (B1.out.trans (hb2.mono B1.out.size))
  clear hb2 ND P1 B1
  have HBK : Sw.sw boxL = bk := rfl
  rw [HBK]
  have lm : bk.length = 256 := Sw.length_sw _
  clear HBK
  have P3 := Lib.hid (P2.out.putBack bk lm)
  have B3 := Lib.hid (below_setCells (b := g) hgw (nv .u8 bk) 497 _ B2.out)
  go_wp2_with (first | (with_reducible refine Arr.storeAt o23 g 497 (zs 256) bk (length_zs _) P2.out.back lm rfl rfl ?_) | fail)
  generalize w2.setCells g 497 (nv .u8 bk) = w3 at *
  clear P2 B2
  go_loopw [29] (fun i wr => ∃ i0 : Nat, i0 ≤ 256 ∧ i = .int .i64 (i0 : Nat) ∧ Part wr g 14 (zs 240) bk (upto D (fun _ => 0) 256 i0) ∧ Below w.heap.size w wr) (fun i _ => 256 - (intOf i).toNat)
  case atStart => exact ⟨0, by omega, rfl, by rw [upto_noughts]; exact P3.out, B3.out⟩
  case round =>
    clear P3 B3
    obtain ⟨i, hi, rfl, h1, h2⟩ := hrel
    have H1 := Lib.hid h1
    have H2 := Lib.hid h2
    clear h1 h2
    by_cases hlt : i < 256
    · have ti : decide ((i : Int) < 256) = true := by simp; omega
      have ii : (i : Int) < 256 := by omega
      have wi : IntKind.u8.wrap (i : Int) = (i : Int) := by rw [IntKind.wrap_u8]; omega
      have HS := upto_succ D (fun _ => 0) 256 i hlt
      have hD := D_lt i
      have TC := fun w' => (times_any i 2 hlt (by omega) w').mono fun e w'' h => (⟨h.1, h.2.symm⟩ : e = .returned (.int .u8 ((T i 2 : Nat) : Int)) ∧ w'' = w')
      rw [D_eq i hlt] at TC
      generalize upto D (fun _ => 0) 256 i = u at *
      have HS := Lib.hid HS
      generalize D i = d at *
      have TC := Lib.hid TC
      go_wp2_with fail
      refine region_tail 8 (by kernel_rfl) (by kernel_rfl) ?_
      intro wd hwd
      have G1 : Part wd g 14 (zs 240) bk u := by rw [hwd]; exact H1.out.drew
      have G2 : Below w.heap.size w wd := by rw [hwd]; exact below_drew H2.out
      clear hwd H1 H2
      have cl := G1.twice.cell i (by rw [G1.lt']; exact hlt)
      have fr := G1.twice.frozen i (by rw [G1.lt']; exact hlt)
      have X1 := G1.setTwice i d hlt
      rw [← HS.out] at X1
      have X2 := G2.setCell (p := ⟨g, 753 + i, none⟩) hgw (.int .u8 (d : Int))
      have X1 := Lib.hid X1
      have X2 := Lib.hid X2
      have T1 := Lib.hid (TC.out wd)
      clear G1 G2 HS TC
      generalize u.getD i 0 = old at *
      simp only [List.take_succ_cons, List.take_zero, List.drop_succ_cons, List.drop_zero]
      still_step
      still_step
      still_step
      still_step
      still_call T1.out
      still_step
      still_step
      still_step
      refine wpStill_nil ?_
      go_wp2
      go_roundw
      case rel => exact ⟨i + 1, by omega, by go_num, X1.out, X2.out⟩
      case measure => simp [intOf]; omega
    · have ei : (i : Int) = 256 := by omega
      rw [ei]
      obtain rfl : i = 256 := by omega
      clear ei
      have eT : upto D (fun _ => 0) 256 256 = twL := upto_all ..
      rw [eT] at H1
      have C4 := Lib.hid (C3.out 241 g wr (HB.out.below H2.out |>.more H2.out.size) H1.out.box (HT.out.below H2.out htw))
      clear eT C3
      go_wp2_with fail
      refine C4.out.mono ?_
      rintro e w4 ⟨h, rfl, hH, hge, hbel⟩
      have P4 := Lib.hid (H1.out.below hbel H1.out.lt)
      have B4 := Lib.hid (H2.out.trans (hbel.mono H2.out.size))
      have hne : g < h := Nat.lt_of_lt_of_le H1.out.lt hge
      have HH := Lib.hid hH
      have WW := Lib.hid (ws_words HB.out.1 8)
      have LW : (words bs 8).length = 60 := length_words bs 8
      have KW := Lib.hid (show flat (words bs 8) 60 = keysOf bs 8 from rfl)
      clear hbel H1 H2 C4 hH
      generalize words bs 8 = ws at *
      go_wp2_with fail
      go_loopw [48] (fun i wr => ∃ i0 : Nat, i0 ≤ 60 ∧ i = .int .i64 (i0 : Nat) ∧ Part wr g 14 (flat ws i0) bk twL ∧ Holds wr h .u32 ws ∧ Below w.heap.size w wr) (fun i _ => 60 - (intOf i).toNat)
      case atStart => exact ⟨0, by omega, rfl, by rw [flat_zero]; exact P4.out, HH.out, B4.out⟩
      case round =>
        clear P4 HH B4
        obtain ⟨i, hi, rfl, h1, h2, h3⟩ := hrel
        have H1 := Lib.hid h1
        have H2 := Lib.hid h2
        have H3 := Lib.hid h3
        clear h1 h2 h3
        by_cases hlt : i < 60
        · have ti : decide ((i : Int) < 60) = true := by simp; omega
          have ii : (i : Int) < 60 := by omega
          have cw := H2.out.cell i (by omega)
          have hwl := WW.out i
          have hws0 : 0 < ws.length := by omega
          obtain ⟨x, hx⟩ : ∃ x, x = ws.getD i 0 := ⟨_, rfl⟩
          rw [← hx] at cw hwl
          obtain ⟨a, ha⟩ : ∃ a, a = i / 4 := ⟨_, rfl⟩
          obtain ⟨r0, hr0⟩ : ∃ r0, r0 = i % 4 := ⟨_, rfl⟩
          obtain ⟨r4, hr4⟩ : ∃ r4, r4 = r0 * 4 := ⟨_, rfl⟩
          have HO := Lib.hid (show 1 + a * 16 + r4 = 1 + 4 * i by omega)
          have d1 : Int.tdiv (i : Int) 4 = (a : Int) := by rw [Int.tdiv_eq_ediv_of_nonneg (by omega)]; omega
          have d2 : (i : Int) / 4 = (a : Int) := by omega
          have d3 : Int.tmod (i : Int) 4 = (r0 : Int) := by rw [Int.tmod_eq_emod_of_nonneg (by omega)]; omega
          have d4 : (i : Int) % 4 = (r0 : Int) := by omega
          have d5 : (r0 : Int) * 4 = (r4 : Int) := by omega
          have d6 := wrap_nat a (by omega)
          have d7 := wrap_nat r4 (by omega)
          have d8 : (a : Int) < 15 := by omega
          have d9 : (r4 : Int) ≤ 16 := by omega
          have r12 : r4 ≤ 12 := by omega
          have d10 : ¬ 16 = r4 := by omega
          have HX := Lib.hid hx
          clear ha hr0 hr4 hx
          go_wp2_with fail
          have ST := Lib.hid (show SK w g h 14 i ws wr.drew from ⟨⟨_, .inl rfl, H1.out.drew⟩, H2.out.drew, below_drew H3.out⟩)
          clear H1 H2 H3
          refine wp_region_held_drew (S := SK w g h 14 i ws) (by kernel_rfl) ST.out (fun hHeld => ?_)
          clear ST
          generalize wr.drew = wq at *
          refine wpAnyH_take (i := 0) (v := ?_) rfl (by kernel_rfl) (by kernel_rfl) (by kernel_rfl) (fun _ _ _ h => h) (Or.inl ⟨by rfl, ?_⟩) (by assumption) ?_
          rotate_left
          · (intro wz hSw; go_simp; try with_reducible rfl)
          try simp only [List.getElem_toArray, List.getElem_cons_zero, Act.put, List.setIfInBounds_toArray, List.set_cons_zero, List.set_cons_succ]
          refine wpAnyH_take (i := 1) (v := ?_) rfl (by kernel_rfl) (by kernel_rfl) (by kernel_rfl) (fun _ _ _ h => h) (Or.inl ⟨by rfl, ?_⟩) (by assumption) ?_
          rotate_left
          · (intro wz hSw; go_simp; try with_reducible rfl)
          try simp only [List.getElem_toArray, List.getElem_cons_zero, List.getElem_cons_succ, Act.put, List.setIfInBounds_toArray, List.set_cons_zero, List.set_cons_succ]
          refine wpAnyH_take (i := 2) (v := ?_) rfl (by kernel_rfl) (by kernel_rfl) (by kernel_rfl) (fun _ _ _ h => h) (Or.inl ⟨by rfl, ?_⟩) (by assumption) ?_
          rotate_left
          · (intro wz hSw; go_simp; try with_reducible rfl)
          try simp only [List.getElem_toArray, List.getElem_cons_zero, List.getElem_cons_succ, Act.put, List.setIfInBounds_toArray, List.set_cons_zero, List.set_cons_succ]
          refine wpAnyH_take (i := 3) (v := ?_) rfl (by kernel_rfl) (by kernel_rfl) (by kernel_rfl) (fun _ _ _ h => h) (Or.inl ⟨by rfl, ?_⟩) (by assumption) ?_
          rotate_left
          · (intro wz hSw; go_simp; try with_reducible rfl)
          try simp only [List.getElem_toArray, List.getElem_cons_zero, List.getElem_cons_succ, Act.put, List.setIfInBounds_toArray, List.set_cons_zero, List.set_cons_succ]
          refine wpAnyH_take (i := 4) (v := ?_) rfl (by kernel_rfl) (by kernel_rfl) (by kernel_rfl) (fun _ _ _ h => h) (Or.inl ⟨by rfl, ?_⟩) (by assumption) ?_
          rotate_left
          · (intro wz hSw; go_simp; try with_reducible rfl)
          try simp only [List.getElem_toArray, List.getElem_cons_zero, List.getElem_cons_succ, Act.put, List.setIfInBounds_toArray, List.set_cons_zero, List.set_cons_succ]
          refine wpAnyH_take (i := 5) (v := ?_) rfl (by kernel_rfl) (by kernel_rfl) (by kernel_rfl) (fun _ _ _ h => h) (Or.inl ⟨by rfl, ?_⟩) (by assumption) ?_
          rotate_left
          · (intro wz hSw; go_simp; try with_reducible rfl)
          try simp only [List.getElem_toArray, List.getElem_cons_zero, List.getElem_cons_succ, Act.put, List.setIfInBounds_toArray, List.set_cons_zero, List.set_cons_succ]
          refine wpAnyH_take (i := 6) (v := ?_) rfl (by kernel_rfl) (by kernel_rfl) (by kernel_rfl) (fun _ _ _ h => h) (Or.inl ⟨by rfl, ?_⟩) (by assumption) ?_
          rotate_left
          · (intro wz hSw; go_simp; try with_reducible rfl)
          try simp only [List.getElem_toArray, List.getElem_cons_zero, List.getElem_cons_succ, Act.put, List.setIfInBounds_toArray, List.set_cons_zero, List.set_cons_succ]
          refine wpAnyH_take (i := 7) (v := ?_) rfl (by kernel_rfl) (by kernel_rfl) (by kernel_rfl) (fun _ _ _ h => h) (Or.inl ⟨by rfl, ?_⟩) (by assumption) ?_
          rotate_left
          · (intro wz hSw; go_simp; try with_reducible rfl)
          try simp only [List.getElem_toArray, List.getElem_cons_zero, List.getElem_cons_succ, Act.put, List.setIfInBounds_toArray, List.set_cons_zero, List.set_cons_succ]
          refine wpAnyH_take (i := 8) (v := ?_) rfl (by kernel_rfl) (by kernel_rfl) (by kernel_rfl) (fun _ _ _ h => h) (Or.inl ⟨by rfl, ?_⟩) (by assumption) ?_
          rotate_left
          · (intro wz hSw; go_simp; try with_reducible rfl)
          try simp only [List.getElem_toArray, List.getElem_cons_zero, List.getElem_cons_succ, Act.put, List.setIfInBounds_toArray, List.set_cons_zero, List.set_cons_succ]
          refine wpAnyH_take (i := 9) (v := ?_) rfl (by kernel_rfl) (by kernel_rfl) (by kernel_rfl) (fun _ _ _ h => h) (Or.inl ⟨by rfl, ?_⟩) (by assumption) ?_
          rotate_left
          · (intro wz hSw; go_simp; try with_reducible rfl)
          try simp only [List.getElem_toArray, List.getElem_cons_zero, List.getElem_cons_succ, Act.put, List.setIfInBounds_toArray, List.set_cons_zero, List.set_cons_succ]
          refine wpAnyH_take (i := 10) (v := ?_) rfl (by kernel_rfl) (by kernel_rfl) (by kernel_rfl) (fun _ _ _ h => h) (Or.inl ⟨by rfl, ?_⟩) (by assumption) ?_
          rotate_left
          · (intro wz hSw; go_simp; try with_reducible rfl)
          try simp only [List.getElem_toArray, List.getElem_cons_zero, List.getElem_cons_succ, Act.put, List.setIfInBounds_toArray, List.set_cons_zero, List.set_cons_succ]
          refine wpAnyH_ready (rs := [11]) (by kernel_rfl) (by simp) (AllReadyH.cons rfl (fun K hK => ?_) AllReadyH.nil)
          go_simp
          refine (put32_any x hwl _ (HT.out.below hHeld.2.2 htw)).mono ?_
          rintro e w5 ⟨arr, hla, rfl, rfl⟩
          rw [laid_cells hla] at *
          clear hla
          refine hK.out _ _ (hHeld.after hws0 (below_alloc _ _)) (fun hHeld2 => ?_)
          clear hHeld hK K; have hHeld := hHeld2; clear hHeld2
          try simp only [List.getElem_toArray, List.getElem_cons_zero, List.getElem_cons_succ, Act.put, List.setIfInBounds_toArray, List.set_cons_zero, List.set_cons_succ]
          refine wpAnyH_ready (rs := [12]) (by kernel_rfl) (by simp) (AllReadyH.cons rfl (fun K hK => ?_) AllReadyH.nil)
          obtain ⟨⟨K0, hK0, hP⟩, -, -⟩ := id hHeld
          refine Arr.step_copy rfl (.tmp 62) (.tmp 64) 22 22 rfl (.slice (some ⟨g, 1 + a * 16 + r4, none⟩) (16 - r4) (16 - r4)) (.slice (some ⟨wq.heap.size, 0, none⟩) 4 4) rfl rfl (copy_keys wq g _ K0 bk twL (1 + a * 16 + r4) (16 - r4) x _ hP (by omega) (by have := HO.out; omega) (by omega)) ?_
          obtain ⟨Y1, Y2, Y3⟩ := hHeld.put (by omega) hne hgw x HX.out (1 + a * 16 + r4) HO.out
          refine hK.out _ _ ⟨⟨_, .inr rfl, Y1⟩, Y2, Y3⟩ (fun hHeld2 => ?_)
          clear hHeld hK K hHeld2 hP hK0
          try simp only [List.getElem_toArray, List.getElem_cons_zero, List.getElem_cons_succ, Act.put, List.setIfInBounds_toArray, List.set_cons_zero, List.set_cons_succ]
          refine wpAnyH_done (by kernel_rfl) ?_ _
          have Y1 := Lib.hid Y1
          have Y2 := Lib.hid Y2
          have Y3 := Lib.hid Y3
          go_wp2
          go_roundw
          case rel => exact ⟨i + 1, by omega, by go_num, Y1.out, Y2.out, Y3.out⟩
          case measure => simp [intOf]; omega
        · obtain rfl : i = 60 := by omega
          have HP := H1.out.ciph
          rw [KW.out] at HP
          have HP := Lib.hid HP
          go_wp2
          go_ret2
          exact ⟨g, rfl, HP.out, hgw, H3.out⟩

end Go.Proofs.YtdjknmnmacppdaaDoor
