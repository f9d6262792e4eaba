/-
  The walk of the law AesKeys: for every key it answers true and leaves what was there. Condition: the table of widths stands in its variable. (Written by tools/gen_keys4.py.)
-/
import Derived.Test.YtkpifmnojmenaaaDoorAesAwake
import Derived.Test.YtkpifmnojmenaaaDoorAesWords
import Derived.Test.YtkpifmnojmenaaaDoorAesMake4
import Derived.Test.YtkpifmnojmenaaaDoorAesMake8
namespace Go.Proofs.YtkpifmnojmenaaaDoor
open Go.RowKit Arr Gf Sb Ae

/-- One, and noughts. -/
def oneL : List Nat := [1, 0, 0, 0, 0, 0, 0, 0, 0, 0, 0, 0, 0, 0, 0, 0]

set_option maxHeartbeats 8000000 in
set_option maxRecDepth 10000 in
theorem aesKeys_walk (bs : List Nat) (A : Option Addr) (cap : Nat) (w : World) (ht : Tab w 0) (hb : Bys w w.heap.size A bs) (hc : bs.length ≤ cap) (_hn : A = none → cap = 0) :
    Calls Tryd.prog 3 #[.slice A bs.length cap] w (Ret true w) := by
  have HB := Lib.hid hb
  have HT := Lib.hid ht
  have htw := ht.lt
  have CA := Lib.hid (awake_any w ht)
  clear hb ht
  generalize hn : bs.length = n at *
  have HN := Lib.hid hn
  clear hn
  go_enter Tryd.func3, Tryd.ntmps3
  go_wp2_with fail
  refine CA.out.mono ?_
  rintro e w1 ⟨rfl, hbel⟩
  have D1 := Lib.hid hbel
  clear hbel CA
  by_cases h100 : 100 < n
  · have t1 : decide ((n : Int) > 100) = true := by simp; omega
    have t2 : decide (100 < (n : Int)) = true := by simp; omega
    go_wp2
    go_ret
    exact ⟨rfl, D1.out⟩
  · have t1 : decide (100 < (n : Int)) = false := by simp; omega
    by_cases h16 : n = 16
    · subst h16
      have C0 := Lib.hid (new4 bs HN.out A cap hc w1 ((HB.out.below D1.out).more D1.out.size) (HT.out.below D1.out htw))
      go_wp2_with fail
      refine C0.out.mono ?_
      rintro e w2 ⟨g, rfl, hC, hg, hbel⟩
      have D2 := Lib.hid (D1.out.trans (hbel.mono D1.out.size))
      have HC := Lib.hid hC
      clear hbel hC C0
      have C1 := Lib.hid (words4 bs HN.out A cap hc w2 ((HB.out.below D2.out).more D2.out.size) (HT.out.below D2.out htw))
      go_wp2_with fail
      refine C1.out.mono ?_
      rintro e w3 ⟨h, rfl, hH, hbel⟩
      have D3 := Lib.hid (D2.out.trans (hbel.mono D2.out.size))
      have HC3 := Lib.hid (HC.out.below hbel HC.out.lt)
      have HH := Lib.hid hH
      clear hbel hH C1 HC
      have C2 := Lib.hid (make4 bs HN.out A cap w3 ((HB.out.below D3.out).more D3.out.size))
      go_wp2_with fail
      refine C2.out.mono ?_
      rintro e w4 ⟨gk, gB, cB, gb, cb, rfl, hK, hbel⟩
      have D4 := Lib.hid (D3.out.trans (hbel.mono D3.out.size))
      have HC4 := Lib.hid (HC3.out.below hbel HC3.out.lt)
      have LW : (words bs 4).length = 44 := length_words bs 4
      have HH4 := Lib.hid (HH.out.below hbel (HH.out.lt (by omega)))
      have LA : (allB (words bs 4) (4 * (4 + 7))).length = 176 := length_allB _ _
      have WW := Lib.hid (ws_words HB.out.1 4)
      have AB := Lib.hid (fun j (hj : j < 176) => allB_get (words bs 4) (4 * (4 + 7)) j hj)
      have kc1 := hK.c1
      have kc0 := hK.c0
      rw [LA] at kc1
      have kle := hK.le
      rw [LA] at kle
      have HKB := Lib.hid hK.bytes
      clear hbel hK C2 HC3 HH
      generalize allB (words bs 4) (4 * (4 + 7)) = al at *
      generalize words bs 4 = ws at *
      have KC0 := Lib.hid kc0
      have KC1 := Lib.hid kc1
      clear kc0 kc1
      go_wp2_with fail
      refine region_still (by kernel_rfl) (by kernel_rfl) ?_
      intro wd hwd
      have R1 := Lib.hid (fun (h : Ciph wd g 10 (keysOf bs 4)) => (rounds_any g 10 _ wd h).mono fun e w'' h' => (⟨h'.1, h'.2.symm⟩ : e = .returned (.int .i64 ((10 : Nat) : Int)) ∧ w'' = wd))
      have G0 : wd.cell? ⟨gk, 0, none⟩ = some (.int .i64 10) := by rw [hwd]; exact KC0.out
      have G1 : wd.cell? ⟨gk, 1, none⟩ = some (.slice (some ⟨gB, 0, none⟩) 176 cB) := by rw [hwd]; exact KC1.out
      have G2 := Lib.hid (show Holds wd gB .i64 al by rw [hwd]; exact HKB.out.drew)
      have G3 := Lib.hid (show Holds wd h .u32 ws by rw [hwd]; exact HH4.out.drew)
      have G4 := Lib.hid (show Below w.heap.size w wd by rw [hwd]; exact below_drew D4.out)
      have G5 := Lib.hid (show Ciph wd g 10 (keysOf bs 4) by rw [hwd]; exact HC4.out.below (B := w4.heap.size) (below_drew (Below.refl _ _)) HC4.out.lt)
      clear hwd KC0 KC1 HKB HH4 D4 HC4
      have R2 := Lib.hid (show Calls Tryd.prog 9 #[.pointer (some ⟨g, 0, none⟩)] wd (fun e w'' => e = .returned (.int .i64 10) ∧ w'' = wd) from R1.out G5.out)
      clear R1
      have w176 : IntKind.i64.wrap 176 = 176 := by decide
      repeat still_step
      still_call R2.out
      repeat still_step
      refine wpStill_nil ?_
      go_wp2_with fail
      go_loopw [98] (fun iv wr => ∃ i : Nat, i ≤ 44 ∧ iv = .int .i64 (i : Nat) ∧ wr.cell? ⟨gk, 1, none⟩ = some (.slice (some ⟨gB, 0, none⟩) 176 cB) ∧ Holds wr gB .i64 al ∧ Holds wr h .u32 ws ∧ Below w.heap.size w wr) (fun iv _ => 44 - (intOf iv).toNat)
      case atStart => exact ⟨0, by omega, rfl, G1, G2.out, G3.out, G4.out⟩
      case round =>
        clear G0 G1 G2 G3 G4 G5 R2
        obtain ⟨i, hi, rfl, hk1, h2, h3, h4⟩ := hrel
        have H2 := Lib.hid h2
        have H3 := Lib.hid h3
        have H4 := Lib.hid h4
        clear h2 h3 h4
        by_cases hlt : i < 44
        · have ti : decide ((i : Int) < 44) = true := by simp; omega
          have ii : (i : Int) < 44 := by omega
          have cx := H3.out.cell i (by omega)
          have hx := WW.out i
          obtain ⟨q, hq⟩ : ∃ q, q = 4 * i := ⟨_, rfl⟩
          have eq : 4 * (i : Int) = (q : Int) := by omega
          have hql : (q : Int) + 4 ≤ (cB : Int) := by omega
          have q4 : q + 4 - q = 4 := by omega
          have v0 : al.getD (q + 0) 0 = byt (ws.getD i 0) 0 := by rw [AB.out _ (by omega), hq, wb_byt _ _ _ (by omega)]
          have v1 : al.getD (q + 1) 0 = byt (ws.getD i 0) 1 := by rw [AB.out _ (by omega), hq, wb_byt _ _ _ (by omega)]
          have v2 : al.getD (q + 2) 0 = byt (ws.getD i 0) 2 := by rw [AB.out _ (by omega), hq, wb_byt _ _ _ (by omega)]
          have v3 : al.getD (q + 3) 0 = byt (ws.getD i 0) 3 := by rw [AB.out _ (by omega), hq, wb_byt _ _ _ (by omega)]
          have hnum := byt_num (ws.getD i 0) hx
          have b0 := byt_lt (ws.getD i 0) 0
          have b1 := byt_lt (ws.getD i 0) 1
          have b2 := byt_lt (ws.getD i 0) 2
          have b3 := byt_lt (ws.getD i 0) 3
          have hq3 : q + 3 < 176 := by omega
          have hcq : (q : Int) ≤ (cB : Int) := by omega
          have hcq2 : ¬ cB = q := by omega
          clear hq
          generalize byt (ws.getD i 0) 0 = y0 at *
          generalize byt (ws.getD i 0) 1 = y1 at *
          generalize byt (ws.getD i 0) 2 = y2 at *
          generalize byt (ws.getD i 0) 3 = y3 at *
          generalize ws.getD i 0 = x at *
          go_wp2_with fail
          refine region_still (by kernel_rfl) (by kernel_rfl) ?_
          intro wd hwd
          have G1 : wd.cell? ⟨gk, 1, none⟩ = some (.slice (some ⟨gB, 0, none⟩) 176 cB) := by rw [hwd]; exact hk1
          have G2 : Holds wd gB .i64 al := by rw [hwd]; exact H2.out.drew
          have G3 := Lib.hid (show Holds wd h .u32 ws by rw [hwd]; exact H3.out.drew)
          have G4 := Lib.hid (show Below w.heap.size w wd by rw [hwd]; exact below_drew H4.out)
          clear hwd hk1 H2 H3 H4 cx
          have c0 := G2.cell (q + 0) (by omega)
          have c1 := G2.cell (q + 1) (by omega)
          have c2 := G2.cell (q + 2) (by omega)
          have c3 := G2.cell (q + 3) (by omega)
          rw [v0, Nat.add_zero] at c0
          rw [v1] at c1
          rw [v2] at c2
          rw [v3] at c3
          have G2 := Lib.hid G2
          clear v0 v1 v2 v3
          have s1 : IntKind.i64.wrap (x : Int) = (x : Int) := by rw [IntKind.wrap_i64]; omega
          have s2 : IntKind.i64.wrap (16777216 * (y0 : Int)) = 16777216 * (y0 : Int) := by rw [IntKind.wrap_i64]; omega
          have s3 : IntKind.i64.wrap (65536 * (y1 : Int)) = 65536 * (y1 : Int) := by rw [IntKind.wrap_i64]; omega
          have s4 : IntKind.i64.wrap (256 * (y2 : Int)) = 256 * (y2 : Int) := by rw [IntKind.wrap_i64]; omega
          have s5 : IntKind.i64.wrap (16777216 * (y0 : Int) + 65536 * (y1 : Int)) = 16777216 * (y0 : Int) + 65536 * (y1 : Int) := by rw [IntKind.wrap_i64]; omega
          have s6 : IntKind.i64.wrap (16777216 * (y0 : Int) + 65536 * (y1 : Int) + 256 * (y2 : Int)) = 16777216 * (y0 : Int) + 65536 * (y1 : Int) + 256 * (y2 : Int) := by rw [IntKind.wrap_i64]; omega
          have s7 : IntKind.i64.wrap (16777216 * (y0 : Int) + 65536 * (y1 : Int) + 256 * (y2 : Int) + (y3 : Int)) = (x : Int) := by rw [IntKind.wrap_i64]; omega
          clear hnum
          repeat still_step
          refine wpStill_nil ?_
          go_wp2
          go_roundw
          case rel => exact ⟨i + 1, by omega, by go_num, G1, G2.out, G3.out, G4.out⟩
          case measure => simp [intOf]; omega
        · obtain rfl : i = 44 := by omega
          go_wp2
          go_ret
          exact ⟨rfl, H4.out⟩
    · by_cases h32 : n = 32
      · subst h32
        have C0 := Lib.hid (new8 bs HN.out A cap hc w1 ((HB.out.below D1.out).more D1.out.size) (HT.out.below D1.out htw))
        go_wp2_with fail
        refine C0.out.mono ?_
        rintro e w2 ⟨g, rfl, hC, hg, hbel⟩
        have D2 := Lib.hid (D1.out.trans (hbel.mono D1.out.size))
        have HC := Lib.hid hC
        clear hbel hC C0
        have C1 := Lib.hid (words8 bs HN.out A cap hc w2 ((HB.out.below D2.out).more D2.out.size) (HT.out.below D2.out htw))
        go_wp2_with fail
        refine C1.out.mono ?_
        rintro e w3 ⟨h, rfl, hH, hbel⟩
        have D3 := Lib.hid (D2.out.trans (hbel.mono D2.out.size))
        have HC3 := Lib.hid (HC.out.below hbel HC.out.lt)
        have HH := Lib.hid hH
        clear hbel hH C1 HC
        have C2 := Lib.hid (make8 bs HN.out A cap w3 ((HB.out.below D3.out).more D3.out.size))
        go_wp2_with fail
        refine C2.out.mono ?_
        rintro e w4 ⟨gk, gB, cB, gb, cb, rfl, hK, hbel⟩
        have D4 := Lib.hid (D3.out.trans (hbel.mono D3.out.size))
        have HC4 := Lib.hid (HC3.out.below hbel HC3.out.lt)
        have LW : (words bs 8).length = 60 := length_words bs 8
        have HH4 := Lib.hid (HH.out.below hbel (HH.out.lt (by omega)))
        have LA : (allB (words bs 8) (4 * (8 + 7))).length = 240 := length_allB _ _
        have WW := Lib.hid (ws_words HB.out.1 8)
        have AB := Lib.hid (fun j (hj : j < 240) => allB_get (words bs 8) (4 * (8 + 7)) j hj)
        have kc1 := hK.c1
        have kc0 := hK.c0
        rw [LA] at kc1
        have kle := hK.le
        rw [LA] at kle
        have HKB := Lib.hid hK.bytes
        clear hbel hK C2 HC3 HH
        generalize allB (words bs 8) (4 * (8 + 7)) = al at *
        generalize words bs 8 = ws at *
        have KC0 := Lib.hid kc0
        have KC1 := Lib.hid kc1
        clear kc0 kc1
        go_wp2_with fail
        refine region_still (by kernel_rfl) (by kernel_rfl) ?_
        intro wd hwd
        have R1 := Lib.hid (fun (h : Ciph wd g 14 (keysOf bs 8)) => (rounds_any g 14 _ wd h).mono fun e w'' h' => (⟨h'.1, h'.2.symm⟩ : e = .returned (.int .i64 ((14 : Nat) : Int)) ∧ w'' = wd))
        have G0 : wd.cell? ⟨gk, 0, none⟩ = some (.int .i64 14) := by rw [hwd]; exact KC0.out
        have G1 : wd.cell? ⟨gk, 1, none⟩ = some (.slice (some ⟨gB, 0, none⟩) 240 cB) := by rw [hwd]; exact KC1.out
        have G2 := Lib.hid (show Holds wd gB .i64 al by rw [hwd]; exact HKB.out.drew)
        have G3 := Lib.hid (show Holds wd h .u32 ws by rw [hwd]; exact HH4.out.drew)
        have G4 := Lib.hid (show Below w.heap.size w wd by rw [hwd]; exact below_drew D4.out)
        have G5 := Lib.hid (show Ciph wd g 14 (keysOf bs 8) by rw [hwd]; exact HC4.out.below (B := w4.heap.size) (below_drew (Below.refl _ _)) HC4.out.lt)
        clear hwd KC0 KC1 HKB HH4 D4 HC4
        have R2 := Lib.hid (show Calls Tryd.prog 9 #[.pointer (some ⟨g, 0, none⟩)] wd (fun e w'' => e = .returned (.int .i64 14) ∧ w'' = wd) from R1.out G5.out)
        clear R1
        have w176 : IntKind.i64.wrap 240 = 240 := by decide
        repeat still_step
        still_call R2.out
        repeat still_step
        refine wpStill_nil ?_
        go_wp2_with fail
        go_loopw [98] (fun iv wr => ∃ i : Nat, i ≤ 60 ∧ iv = .int .i64 (i : Nat) ∧ wr.cell? ⟨gk, 1, none⟩ = some (.slice (some ⟨gB, 0, none⟩) 240 cB) ∧ Holds wr gB .i64 al ∧ Holds wr h .u32 ws ∧ Below w.heap.size w wr) (fun iv _ => 60 - (intOf iv).toNat)
        case atStart => exact ⟨0, by omega, rfl, G1, G2.out, G3.out, G4.out⟩
        case round =>
          clear G0 G1 G2 G3 G4 G5 R2
          obtain ⟨i, hi, rfl, hk1, h2, h3, h4⟩ := hrel
          have H2 := Lib.hid h2
          have H3 := Lib.hid h3
          have H4 := Lib.hid h4
          clear h2 h3 h4
          by_cases hlt : i < 60
          · have ti : decide ((i : Int) < 60) = true := by simp; omega
            have ii : (i : Int) < 60 := by omega
            have cx := H3.out.cell i (by omega)
            have hx := WW.out i
            obtain ⟨q, hq⟩ : ∃ q, q = 4 * i := ⟨_, rfl⟩
            have eq : 4 * (i : Int) = (q : Int) := by omega
            have hql : (q : Int) + 4 ≤ (cB : Int) := by omega
            have q4 : q + 4 - q = 4 := by omega
            have v0 : al.getD (q + 0) 0 = byt (ws.getD i 0) 0 := by rw [AB.out _ (by omega), hq, wb_byt _ _ _ (by omega)]
            have v1 : al.getD (q + 1) 0 = byt (ws.getD i 0) 1 := by rw [AB.out _ (by omega), hq, wb_byt _ _ _ (by omega)]
            have v2 : al.getD (q + 2) 0 = byt (ws.getD i 0) 2 := by rw [AB.out _ (by omega), hq, wb_byt _ _ _ (by omega)]
            have v3 : al.getD (q + 3) 0 = byt (ws.getD i 0) 3 := by rw [AB.out _ (by omega), hq, wb_byt _ _ _ (by omega)]
            have hnum := byt_num (ws.getD i 0) hx
            have b0 := byt_lt (ws.getD i 0) 0
            have b1 := byt_lt (ws.getD i 0) 1
            have b2 := byt_lt (ws.getD i 0) 2
            have b3 := byt_lt (ws.getD i 0) 3
            have hq3 : q + 3 < 240 := by omega
            have hcq : (q : Int) ≤ (cB : Int) := by omega
            have hcq2 : ¬ cB = q := by omega
            clear hq
            generalize byt (ws.getD i 0) 0 = y0 at *
            generalize byt (ws.getD i 0) 1 = y1 at *
            generalize byt (ws.getD i 0) 2 = y2 at *
            generalize byt (ws.getD i 0) 3 = y3 at *
            generalize ws.getD i 0 = x at *
            go_wp2_with fail
            refine region_still (by kernel_rfl) (by kernel_rfl) ?_
            intro wd hwd
            have G1 : wd.cell? ⟨gk, 1, none⟩ = some (.slice (some ⟨gB, 0, none⟩) 240 cB) := by rw [hwd]; exact hk1
            have G2 : Holds wd gB .i64 al := by rw [hwd]; exact H2.out.drew
            have G3 := Lib.hid (show Holds wd h .u32 ws by rw [hwd]; exact H3.out.drew)
            have G4 := Lib.hid (show Below w.heap.size w wd by rw [hwd]; exact below_drew H4.out)
            clear hwd hk1 H2 H3 H4 cx
            have c0 := G2.cell (q + 0) (by omega)
            have c1 := G2.cell (q + 1) (by omega)
            have c2 := G2.cell (q + 2) (by omega)
            have c3 := G2.cell (q + 3) (by omega)
            rw [v0, Nat.add_zero] at c0
            rw [v1] at c1
            rw [v2] at c2
            rw [v3] at c3
            have G2 := Lib.hid G2
            clear v0 v1 v2 v3
            have s1 : IntKind.i64.wrap (x : Int) = (x : Int) := by rw [IntKind.wrap_i64]; omega
            have s2 : IntKind.i64.wrap (16777216 * (y0 : Int)) = 16777216 * (y0 : Int) := by rw [IntKind.wrap_i64]; omega
            have s3 : IntKind.i64.wrap (65536 * (y1 : Int)) = 65536 * (y1 : Int) := by rw [IntKind.wrap_i64]; omega
            have s4 : IntKind.i64.wrap (256 * (y2 : Int)) = 256 * (y2 : Int) := by rw [IntKind.wrap_i64]; omega
            have s5 : IntKind.i64.wrap (16777216 * (y0 : Int) + 65536 * (y1 : Int)) = 16777216 * (y0 : Int) + 65536 * (y1 : Int) := by rw [IntKind.wrap_i64]; omega
            have s6 : IntKind.i64.wrap (16777216 * (y0 : Int) + 65536 * (y1 : Int) + 256 * (y2 : Int)) = 16777216 * (y0 : Int) + 65536 * (y1 : Int) + 256 * (y2 : Int) := by rw [IntKind.wrap_i64]; omega
            have s7 : IntKind.i64.wrap (16777216 * (y0 : Int) + 65536 * (y1 : Int) + 256 * (y2 : Int) + (y3 : Int)) = (x : Int) := by rw [IntKind.wrap_i64]; omega
            clear hnum
            repeat still_step
            refine wpStill_nil ?_
            go_wp2
            go_roundw
            case rel => exact ⟨i + 1, by omega, by go_num, G1, G2.out, G3.out, G4.out⟩
            case measure => simp [intOf]; omega
          · obtain rfl : i = 60 := by omega
            go_wp2
            go_ret
            exact ⟨rfl, H4.out⟩
      · have C0 := Lib.hid (new_none A n cap h16 h32 w1)
        have C1 := Lib.hid (words_none A n cap h16 h32 w1)
        have C2 := Lib.hid (fun w' => rounds_nil w')
        have C3 := Lib.hid (fun w' => encrypt_nil oneL w')
        have C4 := Lib.hid (fun w' => decrypt_nil oneL w')
        have q0 : ∀ wx : World, (Op.equalIn 10000 32 (.agg (na .u8 (zs 16))) (.agg (na .u8 (zs 16)))).run Tryd.prog wx = .ok true wx := fun wx => by
          rw [Arr.eql o16 wx (zs 16) (zs 16) (length_zs _) (length_zs _)]; simp
        have q1 : ∀ wx : World, (Op.equalIn 10000 32 (.agg (na .u8 (zs 16))) (.agg #[.int .u8 0, .int .u8 0, .int .u8 0, .int .u8 0, .int .u8 0, .int .u8 0, .int .u8 0, .int .u8 0, .int .u8 0, .int .u8 0, .int .u8 0, .int .u8 0, .int .u8 0, .int .u8 0, .int .u8 0, .int .u8 0])).run Tryd.prog wx = .ok true wx := q0
        have a1 : ((n : Int) == 16) = false := by simp; omega
        have a2 : ((n : Int) != 16) = true := by simp; omega
        have a3 : ((n : Int) == 32) = false := by simp; omega
        have a4 : ((n : Int) != 32) = true := by simp; omega
        go_wp2_with fail
        refine C0.out.mono ?_
        rintro e w2 ⟨rfl, rfl⟩
        go_wp2_with fail
        refine C1.out.mono ?_
        rintro e w2 ⟨rfl, rfl⟩
        go_wp2_with fail
        refine (C2.out _).mono ?_
        rintro e w2 ⟨rfl, rfl⟩
        go_wp2_with fail
        refine (C3.out _).mono ?_
        rintro e w3 ⟨rfl, hbel⟩
        have D2 := Lib.hid (D1.out.trans (hbel.mono D1.out.size))
        clear hbel
        go_wp2_with fail
        refine (C4.out _).mono ?_
        rintro e w4 ⟨rfl, hbel⟩
        have D3 := Lib.hid (D2.out.trans (hbel.mono D2.out.size))
        clear hbel
        go_wp2
        go_ret
        exact ⟨rfl, D3.out⟩
end Go.Proofs.YtkpifmnojmenaaaDoor
