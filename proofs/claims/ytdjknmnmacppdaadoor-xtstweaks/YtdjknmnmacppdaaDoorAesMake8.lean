/-
  The contract of the reference's Make. Condition: the key's bytes lie in its slice. (Written by tools/gen_make4.py.)
-/
import Derived.Test.YtdjknmnmacppdaaDoorAesMakeHd
namespace Go.Proofs.YtdjknmnmacppdaaDoor
open Go.RowKit Arr Gf Sb Ae
set_option linter.unusedSimpArgs false

set_option maxHeartbeats 8000000 in
set_option maxRecDepth 10000 in
theorem make8 (bs : List Nat) (hl : bs.length = 32) (A : Option Addr) (c : Nat) (w : World) (hb : Bys w w.heap.size A bs) : Calls Tryd.prog 20 #[.slice A 32 c] w (RMade bs 8 w) := by
  obtain ⟨b, off, rfl, hbw, -⟩ := hb.2 (by omega)
  have HB := Lib.hid hb
  have HL := Lib.hid hl
  have C0 := Lib.hid (rbox_any w)
  clear hb hl
  go_enter Tryd.func20, Tryd.ntmps20
  go_wp2_with fail
  refine C0.out.mono ?_
  rintro e w1 ⟨gb, cb, rfl, hBox, hgb, hb1⟩
  rw [boxL_len]
  have hgl := hBox.lt (by rw [boxL_len]; omega)
  obtain ⟨cs, hcs⟩ : ∃ cs : Array Value, cs = #[.int .i64 14, .slice none 0 0, .slice (some ⟨gb, 0, none⟩) 256 cb] := ⟨_, rfl⟩
  have RK0 : RK w (w1.alloc (.cells cs 74)) w1.heap.size gb cb 14 (w1.heap.size + 1) (.slice none 0 0) [] := by
    have hh := heap_alloc_last w1 (.cells cs 74)
    have hc : ∀ j, (w1.alloc (.cells cs 74)).cell? ⟨w1.heap.size, j, none⟩ = cs[j]? := fun j => cell_of_row _ _ _ _ _ _ hh
    exact ⟨(hc 0).trans (by rw [hcs]; rfl), (hc 1).trans (by rw [hcs]; rfl), frozen_of_row _ _ _ _ _ hh, (hc 2).trans (by rw [hcs]; rfl), hBox.alloc _, World.ownsRow_nil _ _ _ _, hb1.alloc hb1.size _, by omega, by omega, hb1.size, by rw [World.size_alloc]; omega⟩
  have R0 := Lib.hid RK0
  clear RK0 C0 hBox hb1
  rw [hcs] at R0
  clear hcs
  go_wp2_with fail
  generalize w1.alloc (.cells #[.int .i64 14, .slice none 0 0, .slice (some ⟨gb, 0, none⟩) 256 cb] 74) = w2 at *
  generalize w1.heap.size + 1 = base at *
  generalize w1.heap.size = g at *
  go_loopw [5] (fun i wr => ∃ (i0 : Nat) (v : Value), i0 ≤ 32 ∧ i = .int .i64 (i0 : Nat) ∧ RK w wr g gb cb 14 base v (bs.take i0)) (fun i _ => 32 - (intOf i).toNat)
  case atStart => exact ⟨0, _, by omega, rfl, R0.out⟩
  case round =>
    clear R0
    obtain ⟨i, v, hi, rfl, hR⟩ := hrel
    have R1 := Lib.hid hR
    clear hR
    by_cases hlt : i < 32
    · have ti : decide ((i : Int) < 32) = true := by simp; omega
      have ii : (i : Int) < 32 := by omega
      have hx := HB.out.lt i
      have htk := take_more' bs i (by have := HL.out; omega)
      have hlen : (bs.take i).length = i := by have := HL.out; simp; omega
      have hcell : ∀ w', Below w.heap.size w w' → w'.cell? ⟨b, off + i, none⟩ = some (.int .u8 ((bs.getD i 0 : Nat) : Int)) := fun w' h => by
        obtain ⟨b', off', e, hb', hc'⟩ := (HB.out.below h).2 (by have := HL.out; omega)
        simp only [Option.some.injEq, Addr.mk.injEq, and_true] at e
        obtain ⟨rfl, rfl⟩ := e
        exact hc' i (by have := HL.out; omega)
      have HC := Lib.hid hcell
      have HTK := Lib.hid htk
      clear hcell htk
      generalize hxx : bs.getD i 0 = x at *
      clear hxx
      have wx : IntKind.i64.wrap (x : Int) = (x : Int) := by rw [IntKind.wrap_i64]; omega
      go_wp2_with fail
      have D1 := Lib.hid R1.out.drew
      have A1 := D1.out.c1
      have A2 := HC.out _ D1.out.bel
      refine wp_region_L [(11, fun w' => w'.cell? ⟨g, 1, none⟩ = some v), (10, fun w' => w'.cell? ⟨b, off + i, none⟩ = some (.int .u8 (x : Int)))] 15 #[false, false, false, false, false, false, false, false, false, false, false, false, false, false, false] (by kernel_rfl) (by rfl) (by kernel_rfl) (by intro p hp; simp only [List.mem_cons, List.not_mem_nil, or_false] at hp; rcases hp with rfl | rfl; exact A1; exact A2) (fun hHeld => ?_)
      clear A1 A2 R1
      generalize wr.drew = wq at *
      refine wpAnyL_take (i := 0) (v := ?_) rfl (by kernel_rfl) (by kernel_rfl) (by kernel_rfl) (by rfl) (fun _ _ _ h => h) (Or.inl ⟨by rfl, ?_⟩) hHeld (fun hHeld2 => ?_)
      rotate_left
      · (intro wz hSw; go_simp; try with_reducible rfl)
      clear hHeld; have hHeld := hHeld2; clear hHeld2
      try simp only [List.getElem_toArray, List.getElem_cons_zero, List.getElem_cons_succ, Act.put, List.setIfInBounds_toArray, List.set_cons_zero, List.set_cons_succ]
      refine wpAnyL_take (i := 1) (v := ?_) rfl (by kernel_rfl) (by kernel_rfl) (by kernel_rfl) (by rfl) (fun _ _ _ h => h) (Or.inl ⟨by rfl, ?_⟩) hHeld (fun hHeld2 => ?_)
      rotate_left
      · (intro wz hSw; go_simp; try with_reducible rfl)
      clear hHeld; have hHeld := hHeld2; clear hHeld2
      try simp only [List.getElem_toArray, List.getElem_cons_zero, List.getElem_cons_succ, Act.put, List.setIfInBounds_toArray, List.set_cons_zero, List.set_cons_succ]
      refine wpAnyL_take (i := 2) (v := ?_) rfl (by kernel_rfl) (by kernel_rfl) (by kernel_rfl) (by rfl) (fun _ _ _ h => h) (Or.inl ⟨by rfl, ?_⟩) hHeld (fun hHeld2 => ?_)
      rotate_left
      · (intro wz hSw; go_simp; try with_reducible rfl)
      clear hHeld; have hHeld := hHeld2; clear hHeld2
      try simp only [List.getElem_toArray, List.getElem_cons_zero, List.getElem_cons_succ, Act.put, List.setIfInBounds_toArray, List.set_cons_zero, List.set_cons_succ]
      refine wpAnyL_take (i := 3) (v := ?_) rfl (by kernel_rfl) (by kernel_rfl) (by kernel_rfl) (by rfl) (fun _ _ _ h => h) (Or.inl ⟨by rfl, ?_⟩) hHeld (fun hHeld2 => ?_)
      rotate_left
      · (intro wz hSw; go_simp; try with_reducible rfl)
      clear hHeld; have hHeld := hHeld2; clear hHeld2
      try simp only [List.getElem_toArray, List.getElem_cons_zero, List.getElem_cons_succ, Act.put, List.setIfInBounds_toArray, List.set_cons_zero, List.set_cons_succ]
      refine wpAnyL_take (i := 4) (v := ?_) rfl (by kernel_rfl) (by kernel_rfl) (by kernel_rfl) (by rfl) (fun _ _ _ h => h) (Or.inl ⟨by rfl, ?_⟩) hHeld (fun hHeld2 => ?_)
      rotate_left
      · (intro wz hSw; have k1 : wz.cell? ⟨g, 1, none⟩ = some v := hSw.get _ (List.Mem.head _) 0 (by kernel_rfl); go_simp; try with_reducible rfl)
      clear hHeld; have hHeld := hHeld2; clear hHeld2
      try simp only [List.getElem_toArray, List.getElem_cons_zero, List.getElem_cons_succ, Act.put, List.setIfInBounds_toArray, List.set_cons_zero, List.set_cons_succ]
      refine wpAnyL_take (i := 5) (v := ?_) rfl (by kernel_rfl) (by kernel_rfl) (by kernel_rfl) (by rfl) (fun _ _ _ h => h) (Or.inl ⟨by rfl, ?_⟩) hHeld (fun hHeld2 => ?_)
      rotate_left
      · (intro wz hSw; go_simp; try with_reducible rfl)
      clear hHeld; have hHeld := hHeld2; clear hHeld2
      try simp only [List.getElem_toArray, List.getElem_cons_zero, List.getElem_cons_succ, Act.put, List.setIfInBounds_toArray, List.set_cons_zero, List.set_cons_succ]
      refine wpAnyL_take (i := 6) (v := ?_) rfl (by kernel_rfl) (by kernel_rfl) (by kernel_rfl) (by rfl) (fun _ _ _ h => h) (Or.inl ⟨by rfl, ?_⟩) hHeld (fun hHeld2 => ?_)
      rotate_left
      · (intro wz hSw; go_simp; try with_reducible rfl)
      clear hHeld; have hHeld := hHeld2; clear hHeld2
      try simp only [List.getElem_toArray, List.getElem_cons_zero, List.getElem_cons_succ, Act.put, List.setIfInBounds_toArray, List.set_cons_zero, List.set_cons_succ]
      refine wpAnyL_take (i := 7) (v := ?_) rfl (by kernel_rfl) (by kernel_rfl) (by kernel_rfl) (by rfl) (fun _ _ _ h => h) (Or.inl ⟨by rfl, ?_⟩) hHeld (fun hHeld2 => ?_)
      rotate_left
      · (intro wz hSw; go_simp; try with_reducible rfl)
      clear hHeld; have hHeld := hHeld2; clear hHeld2
      try simp only [List.getElem_toArray, List.getElem_cons_zero, List.getElem_cons_succ, Act.put, List.setIfInBounds_toArray, List.set_cons_zero, List.set_cons_succ]
      refine wpAnyL_take (i := 8) (v := ?_) rfl (by kernel_rfl) (by kernel_rfl) (by kernel_rfl) (by rfl) (fun _ _ _ h => h) (Or.inl ⟨by rfl, ?_⟩) hHeld (fun hHeld2 => ?_)
      rotate_left
      · (intro wz hSw; have k1 : wz.cell? ⟨b, off + i, none⟩ = some (.int .u8 (x : Int)) := hSw.get _ (List.Mem.tail _ (List.Mem.head _)) 2 (by kernel_rfl); go_simp; try with_reducible rfl)
      clear hHeld; have hHeld := hHeld2; clear hHeld2
      try simp only [List.getElem_toArray, List.getElem_cons_zero, List.getElem_cons_succ, Act.put, List.setIfInBounds_toArray, List.set_cons_zero, List.set_cons_succ]
      refine wpAnyL_take (i := 9) (v := ?_) rfl (by kernel_rfl) (by kernel_rfl) (by kernel_rfl) (by rfl) (fun _ _ _ h => h) (Or.inl ⟨by rfl, ?_⟩) hHeld (fun hHeld2 => ?_)
      rotate_left
      · (intro wz hSw; go_simp; try with_reducible rfl)
      clear hHeld; have hHeld := hHeld2; clear hHeld2
      try simp only [List.getElem_toArray, List.getElem_cons_zero, List.getElem_cons_succ, Act.put, List.setIfInBounds_toArray, List.set_cons_zero, List.set_cons_succ]
      refine wpAnyL_one (i := 10) (by kernel_rfl) rfl rfl hHeld (fun K hK => ?_)
      go_simp
      have D2 := Lib.hid (D1.out.alloc (.cells #[.int .i64 (x : Int)] 3))
      refine hK.out _ _ (by intro p hp hl; simp only [List.mem_cons, List.not_mem_nil, or_false] at hp; rcases hp with rfl | rfl; exact D2.out.c1; exact HC.out _ D2.out.bel) (fun hHeld2 => ?_)
      clear hHeld hK K ; have hHeld := hHeld2; clear hHeld2
      try simp only [List.getElem_toArray, List.getElem_cons_zero, List.getElem_cons_succ, Act.put, List.setIfInBounds_toArray, List.set_cons_zero, List.set_cons_succ]
      refine wpAnyL_one (i := 11) (by kernel_rfl) rfl rfl hHeld (fun K hK => ?_)
      refine wp_append_row (.tmp 28) (.tmp 34) 71 rfl base 3 (.int .i64 0) 8 Tryd.underlying71 info_int rfl v (bs.take i).length (vals .i64 (bs.take i)) (.int .i64 (x : Int)) rfl D1.out.own rfl rfl (by omega) (by omega) D1.out.hbase ?_
      intro gB cB w3 hown3 hbel3 _
      obtain ⟨k1, kf, hR3⟩ := D1.out.more hown3 hbel3
      have R3 := Lib.hid hR3
      clear hR3 hown3 hbel3 D2
      refine hK.out _ _ (by intro p hp hl; simp only [List.mem_cons, List.not_mem_nil, or_false] at hp; rcases hp with rfl | rfl <;> exact Bool.noConfusion (hl.symm.trans (show _ = true by kernel_rfl))) (fun hHeld2 => ?_)
      clear hHeld hK K ; have hHeld := hHeld2; clear hHeld2
      try simp only [List.getElem_toArray, List.getElem_cons_zero, List.getElem_cons_succ, Act.put, List.setIfInBounds_toArray, List.set_cons_zero, List.set_cons_succ]
      refine wpAnyL_one (i := 12) (by kernel_rfl) rfl rfl hHeld (fun K hK => ?_)
      go_simp
      refine hK.out _ _ (by intro p hp hl; simp only [List.mem_cons, List.not_mem_nil, or_false] at hp; rcases hp with rfl | rfl <;> exact Bool.noConfusion (hl.symm.trans (show _ = true by kernel_rfl))) (fun hHeld2 => ?_)
      clear hHeld hK K ; have hHeld := hHeld2; clear hHeld2
      try simp only [List.getElem_toArray, List.getElem_cons_zero, List.getElem_cons_succ, Act.put, List.setIfInBounds_toArray, List.set_cons_zero, List.set_cons_succ]
      refine wpAnyL_one (i := 13) (by kernel_rfl) rfl rfl hHeld (fun K hK => ?_)
      go_simp
      refine hK.out _ _ (by intro p hp hl; simp only [List.mem_cons, List.not_mem_nil, or_false] at hp; rcases hp with rfl | rfl <;> exact Bool.noConfusion (hl.symm.trans (show _ = true by kernel_rfl))) (fun hHeld2 => ?_)
      clear hHeld hK K ; have hHeld := hHeld2; clear hHeld2
      try simp only [List.getElem_toArray, List.getElem_cons_zero, List.getElem_cons_succ, Act.put, List.setIfInBounds_toArray, List.set_cons_zero, List.set_cons_succ]
      refine wpAnyL_one (i := 14) (by kernel_rfl) rfl rfl hHeld (fun K hK => ?_)
      go_simp
      refine hK.out _ _ (by intro p hp hl; simp only [List.mem_cons, List.not_mem_nil, or_false] at hp; rcases hp with rfl | rfl <;> exact Bool.noConfusion (hl.symm.trans (show _ = true by kernel_rfl))) (fun hHeld2 => ?_)
      clear hHeld hK K ; have hHeld := hHeld2; clear hHeld2
      try simp only [List.getElem_toArray, List.getElem_cons_zero, List.getElem_cons_succ, Act.put, List.setIfInBounds_toArray, List.set_cons_zero, List.set_cons_succ]
      refine wpAnyL_done (by kernel_rfl) ?_ _
      rw [← HTK.out, hlen] at R3
      clear hHeld D1 k1 kf
      go_wp2
      go_roundw
      case rel => exact ⟨i + 1, _, by omega, by go_num, R3.out⟩
      case measure => simp [intOf]; omega
    · have ei : (i : Int) = 32 := by omega
      rw [ei]
      obtain rfl : i = 32 := by omega
      clear ei
      have hbs : bs.take 32 = bs := List.take_of_length_le (by rw [HL.out]; omega)
      rw [hbs] at R1
      clear hbs
      have HM := Lib.hid (make_same bs HB.out.1 8 (by omega) HL.out)
      obtain ⟨whole, hwh⟩ : ∃ whole, whole = allB (words bs 8) (4 * (8 + 7)) := ⟨_, rfl⟩
      rw [← hwh] at HM
      have HWH := Lib.hid hwh
      clear hwh
      have HBy := Lib.hid (bytes_of HB.out.1)
      go_wp2_with fail
      go_loopw [6, 7] (fun pv i wr => ∃ (i0 p : Nat) (l : List Nat) (v : Value), 8 ≤ i0 ∧ i0 ≤ 60 ∧ i = .int .i64 (i0 : Nat) ∧ pv = .int .i64 (p : Nat) ∧ p < 256 ∧ l.length = 4 * i0 ∧ (∀ j, l.getD j 0 < 256) ∧ rfill 8 (60 - i0) i0 p l = whole ∧ RK w wr g gb cb 14 base v l) (fun _ i _ => 60 - (intOf i).toNat)
      case atStart => exact ⟨8, 1, bs, _, by omega, by omega, rfl, rfl, by omega, HL.out, HBy.out, HM.out, R1.out⟩
      case round =>
        clear R1 HM HBy
        obtain ⟨i, p, l, v, hi1, hi2, rfl, rfl, hp, hll, hlb, hf, hR⟩ := hrel
        have R1 := Lib.hid hR
        clear hR
        have hrd := R1.out.c0
        by_cases hlt : i < 60
        · have ti : decide ((i : Int) < 60) = true := by simp; omega
          obtain ⟨gB, cB, hv, hgB, hKey⟩ := R1.out.key (by omega)
          subst hv
          have hlI := hll
          obtain ⟨ln, hln⟩ : ∃ ln, ln = l.length := ⟨_, rfl⟩
          rw [← hln] at hlI
          have Rv := R1.out
          rw [← hln] at Rv
          have R2 := Lib.hid Rv
          have HK := Lib.hid hKey
          clear R1 Rv hKey
          obtain ⟨m, hm⟩ : ∃ m, m = 4 * i := ⟨_, rfl⟩
          obtain ⟨q0, hq0⟩ : ∃ q, q = 4 * i - 4 := ⟨_, rfl⟩
          obtain ⟨q1, hq1⟩ : ∃ q, q = 4 * i - 4 + 1 := ⟨_, rfl⟩
          obtain ⟨q2, hq2⟩ : ∃ q, q = 4 * i - 4 + 2 := ⟨_, rfl⟩
          obtain ⟨q3, hq3⟩ : ∃ q, q = 4 * i - 4 + 3 := ⟨_, rfl⟩
          have em : 4 * (i : Int) = (m : Int) := by omega
          have e0 : (m : Int) - 4 = (q0 : Int) := by omega
          have e1 : (m : Int) - 3 = (q1 : Int) := by omega
          have e2 : (m : Int) - 2 = (q2 : Int) := by omega
          have e3 : (m : Int) - 1 = (q3 : Int) := by omega
          have n0 := wrap_nat q0 (by omega)
          have n1 := wrap_nat q1 (by omega)
          have n2 := wrap_nat q2 (by omega)
          have n3 := wrap_nat q3 (by omega)
          have nm := wrap_nat m (by omega)
          have i0 : (q0 : Int) < (ln : Int) := by omega
          have i1 : (q1 : Int) < (ln : Int) := by omega
          have i2 : (q2 : Int) < (ln : Int) := by omega
          have i3 : (q3 : Int) < (ln : Int) := by omega
          have W0 : rw4 8 i p l 0 = if i % 8 = 0 then boxL.getD (l.getD q1 0) 0 ^^^ p else if 8 = 8 ∧ i % 8 = 4 then boxL.getD (l.getD q0 0) 0 else l.getD q0 0 := by rw [hq0, hq1]; rfl
          have W1 : rw4 8 i p l 1 = if i % 8 = 0 then boxL.getD (l.getD q2 0) 0 else if 8 = 8 ∧ i % 8 = 4 then boxL.getD (l.getD q1 0) 0 else l.getD q1 0 := by rw [hq1, hq2]; unfold rw4; simp
          have W2 : rw4 8 i p l 2 = if i % 8 = 0 then boxL.getD (l.getD q3 0) 0 else if 8 = 8 ∧ i % 8 = 4 then boxL.getD (l.getD q2 0) 0 else l.getD q2 0 := by rw [hq2, hq3]; unfold rw4; simp
          have W3 : rw4 8 i p l 3 = if i % 8 = 0 then boxL.getD (l.getD q0 0) 0 else if 8 = 8 ∧ i % 8 = 4 then boxL.getD (l.getD q3 0) 0 else l.getD q3 0 := by rw [hq0, hq3]; unfold rw4; simp
          have V0 := Lib.hid W0
          have V1 := Lib.hid W1
          have V2 := Lib.hid W2
          have V3 := Lib.hid W3
          clear W0 W1 W2 W3
          have xl0 := hlb q0
          have xl1 := hlb q1
          have xl2 := hlb q2
          have xl3 := hlb q3
          have hq3l : q3 < ln := by omega
          have hq0' : q0 ≤ q3 := by omega
          have hq1' : q1 ≤ q3 := by omega
          have hq2' : q2 ≤ q3 := by omega
          have HLN := Lib.hid hln
          have HLI := Lib.hid hlI
          have HFF := Lib.hid hf
          have HLB := Lib.hid hlb
          clear hm hq0 hq1 hq2 hq3 hln hlI hf hlb hll
          go_wp2_with fail
          refine region_tail 36 (by kernel_rfl) (by kernel_rfl) ?_
          intro wd hwd
          have G1 : RK w wd g gb cb 14 base (.slice (some ⟨gB, 0, none⟩) ln cB) l := by rw [hwd]; exact R2.out.drew
          have G2 : Holds wd gB .i64 l := by rw [hwd]; exact HK.out.bytes.drew
          clear hwd R2 HK hrd
          have h1 := G1.c1
          have c0 := G2.cell q0 (by have := HLN.out; omega)
          have c1 := G2.cell q1 (by have := HLN.out; omega)
          have c2 := G2.cell q2 (by have := HLN.out; omega)
          have c3 := G2.cell q3 (by have := HLN.out; omega)
          have gBlt := G2.lt (by have := HLN.out; omega)
          have G2 := Lib.hid G2
          generalize l.getD q0 0 = x0 at *
          generalize l.getD q1 0 = x1 at *
          generalize l.getD q2 0 = x2 at *
          generalize l.getD q3 0 = x3 at *
          have G3 := Lib.hid (G1.alloc (.cells #[.int .i64 (x0 : Int), .int .i64 (x1 : Int), .int .i64 (x2 : Int), .int .i64 (x3 : Int)] 3))
          have G4 := Lib.hid (show Holds (wd.alloc (.cells #[.int .i64 (x0 : Int), .int .i64 (x1 : Int), .int .i64 (x2 : Int), .int .i64 (x3 : Int)] 3)) wd.heap.size .i64 [x0, x1, x2, x3] from Holds.new wd 3 .i64 [x0, x1, x2, x3])
          have G5 := Lib.hid (G2.out.alloc (.cells #[.int .i64 (x0 : Int), .int .i64 (x1 : Int), .int .i64 (x2 : Int), .int .i64 (x3 : Int)] 3))
          clear G1 G2
          simp only [List.take_succ_cons, List.take_zero, List.drop_succ_cons, List.drop_zero]
          repeat still_step
          refine wpStill_nil ?_
          clear c0 c1 c2 c3 h1 e0 e1 e2 e3 i0 i1 i2 i3 n0 n1 n2 n3
          by_cases hk0 : i % 8 = 0
          · have t0 : ((i : Int) % 8 == 0) = true := by simp; omega
            go_wp2_with fail
            generalize wd.alloc (.cells #[.int .i64 (x0 : Int), .int .i64 (x1 : Int), .int .i64 (x2 : Int), .int .i64 (x3 : Int)] 3) = wy at *
            generalize wd.heap.size = gw0 at *
            refine region_tail 38 (by kernel_rfl) (by kernel_rfl) ?_
            intro wd2 hwd
            have G6 : RK w wd2 g gb cb 14 base (.slice (some ⟨gB, 0, none⟩) ln cB) l := by rw [hwd]; exact G3.out.drew
            have G7 : Holds wd2 gw0 .i64 [x0, x1, x2, x3] := by rw [hwd]; exact G4.out.drew
            have G8 : Holds wd2 gB .i64 l := by rw [hwd]; exact G5.out.drew
            clear hwd G3 G4 G5
            have a0 : wd2.cell? ⟨gw0, 0, none⟩ = some (.int .i64 (x0 : Int)) := G7.cell 0 (by simp)
            have a1 : wd2.cell? ⟨gw0, 1, none⟩ = some (.int .i64 (x1 : Int)) := G7.cell 1 (by simp)
            have a2 : wd2.cell? ⟨gw0, 2, none⟩ = some (.int .i64 (x2 : Int)) := G7.cell 2 (by simp)
            have a3 : wd2.cell? ⟨gw0, 3, none⟩ = some (.int .i64 (x3 : Int)) := G7.cell 3 (by simp)
            have hh2 := G6.c2
            have d0 := G6.box.cell x0 (by rw [boxL_len]; omega)
            have d1 := G6.box.cell x1 (by rw [boxL_len]; omega)
            have d2 := G6.box.cell x2 (by rw [boxL_len]; omega)
            have d3 := G6.box.cell x3 (by rw [boxL_len]; omega)
            have xi0 : (x0 : Int) < 256 := by omega
            have xi1 : (x1 : Int) < 256 := by omega
            have xi2 : (x2 : Int) < 256 := by omega
            have xi3 : (x3 : Int) < 256 := by omega
            have gBlt2 := G8.lt (by have := HLN.out; omega)
            have G6 := Lib.hid G6
            have G8 := Lib.hid G8
            clear G7
            have XC := Lib.hid (xor64' (boxL.getD x1 0) p (by have := boxL_lt x1; omega) (by omega) wd2)
            have y0l : boxL.getD x1 0 ^^^ p < 256 := xor_lt (boxL_lt _) hp
            have y1l := boxL_lt x2
            have y2l := boxL_lt x3
            have y3l := boxL_lt x0
            have PL : rplus 8 i p = T p 2 := by rw [rplus, if_pos hk0]
            have hp2 := T_lt p 2 hp
            have TC := Lib.hid (fun w' => rtimes_any p 2 hp (by omega) w')
            rw [if_pos hk0] at V0 V1 V2 V3
            generalize boxL.getD x1 0 ^^^ p = y0 at *
            generalize boxL.getD x0 0 = y3 at *
            generalize boxL.getD x1 0 = bx1 at *
            generalize boxL.getD x2 0 = y1 at *
            generalize boxL.getD x3 0 = y2 at *
            generalize T p 2 = pp at *
            have PL := Lib.hid PL
            simp only [List.take_succ_cons, List.take_zero, List.drop_succ_cons, List.drop_zero]
            repeat still_step
            still_call XC.out
            repeat still_step
            refine wpStill_nil ?_
            clear a0 a1 a2 a3 d0 d1 d2 d3 hh2 XC
            go_wp2_with fail
            refine (TC.out _).mono ?_
            rintro e w' ⟨rfl, rfl⟩
            go_wp2_with fail
            as_aux_lemma =>
              have H6 := Lib.hid (G6.out.alloc (.cells #[.int .i64 (y0 : Int), .int .i64 (y1 : Int), .int .i64 (y2 : Int), .int .i64 (y3 : Int)] 3))
              have H7 := Lib.hid (show Holds (wd2.alloc (.cells #[.int .i64 (y0 : Int), .int .i64 (y1 : Int), .int .i64 (y2 : Int), .int .i64 (y3 : Int)] 3)) wd2.heap.size .i64 [y0, y1, y2, y3] from Holds.new wd2 3 .i64 [y0, y1, y2, y3])
              clear G6 G8
              generalize wd2.alloc (.cells #[.int .i64 (y0 : Int), .int .i64 (y1 : Int), .int .i64 (y2 : Int), .int .i64 (y3 : Int)] 3) = wz0 at *
              generalize wd2.heap.size = gw at *
              have hgw : gB ≠ gw := by omega
              have WY : ∀ t, t < 4 → [y0, y1, y2, y3].getD t 0 = rw4 8 i p l t := by
                intro t ht
                have h4 : t = 0 ∨ t = 1 ∨ t = 2 ∨ t = 3 := by omega
                rcases h4 with rfl | rfl | rfl | rfl
                · exact V0.out.symm
                · exact V1.out.symm
                · exact V2.out.symm
                · exact V3.out.symm
              have WL : ∀ t, [y0, y1, y2, y3].getD t 0 < 256 := by
                intro t
                match t with
                | 0 => exact (show y0 < 256 by omega)
                | 1 => exact (show y1 < 256 by omega)
                | 2 => exact (show y2 < 256 by omega)
                | 3 => exact (show y3 < 256 by omega)
                | t + 4 => exact (show (0 : Nat) < 256 by omega)
              have LY : [y0, y1, y2, y3].length = 4 := rfl
              have WY := Lib.hid WY
              have WL := Lib.hid WL
              have NR := Lib.hid (show rstep 8 i p l = l ++ (List.range 4).map (rby 8 i p l) from rfl)
              have NB := Lib.hid (show ∀ t, t < 4 → rby 8 i p l t < 256 from fun t ht => xor_lt (HLB.out _) (by rw [← WY.out t ht]; exact WL.out t))
              generalize [y0, y1, y2, y3] = yl at *
              clear V0 V1 V2 V3
              go_loopw [9] (fun jv wr => ∃ (j : Nat) (v : Value), j ≤ 4 ∧ jv = .int .i64 (j : Nat) ∧ RK w wr g gb cb 14 base v (l ++ ((List.range 4).map (rby 8 i p l)).take j) ∧ Holds wr gw .i64 yl ∧ v.ownBlock ≠ some gw) (fun jv _ => 4 - (intOf jv).toNat)
              case atStart => exact ⟨0, _, by omega, rfl, by simpa using H6.out, H7.out, fun e => hgw (by simpa [Value.ownBlock] using e)⟩
              case round =>
                clear H6 H7
                obtain ⟨j, v, hj, rfl, hR, hY, hne⟩ := hrel
                by_cases hjt : j < 4
                · have tj : decide ((j : Int) < 4) = true := by simp; omega
                  have jj : (j : Int) < 4 := by omega
                  have hlen : (l ++ ((List.range 4).map (rby 8 i p l)).take j).length = ln + j := by
                    rw [List.length_append, ← HLN.out, List.length_take, List.length_map, List.length_range, Nat.min_eq_left (by omega)]
                  obtain ⟨gC, cC, hv, -, hKey⟩ := hR.key (by rw [hlen]; have := HLI.out; omega)
                  subst hv
                  obtain ⟨mi, hmi⟩ : ∃ mi, mi = i - 8 := ⟨_, rfl⟩
                  obtain ⟨m4, hm4⟩ : ∃ m4, m4 = 4 * mi := ⟨_, rfl⟩
                  obtain ⟨ee, hee⟩ : ∃ ee, ee = m4 + j := ⟨_, rfl⟩
                  have f1 : (i : Int) - 8 = (mi : Int) := by omega
                  have f2 : 4 * (mi : Int) = (m4 : Int) := by omega
                  have f3 : (m4 : Int) + (j : Int) = (ee : Int) := by omega
                  have g1 := wrap_nat mi (by omega)
                  have g2 := wrap_nat m4 (by omega)
                  have g3 := wrap_nat ee (by omega)
                  have hel : ee < ln := by have := HLI.out; omega
                  have hge : (l ++ ((List.range 4).map (rby 8 i p l)).take j).getD ee 0 = l.getD ee 0 := by
                    rw [List.getD_eq_getElem?_getD, List.getD_eq_getElem?_getD, List.getElem?_append_left (by rw [← HLN.out]; exact hel)]
                  have hnb : rby 8 i p l j = l.getD ee 0 ^^^ yl.getD j 0 := by rw [rby, WY.out j hjt, hee, hm4, hmi]
                  have hx1 := HLB.out ee
                  have hx2 := WL.out j
                  have XC := Lib.hid (fun w' => xor64' (l.getD ee 0) (yl.getD j 0) (by omega) (by omega) w')
                  rw [← hnb] at XC
                  have ce := hKey.bytes.cell ee (by rw [hlen]; omega)
                  rw [hge] at ce
                  have cy := hY.cell j (by omega)
                  have hTK : (l ++ ((List.range 4).map (rby 8 i p l)).take (j + 1)) = (l ++ ((List.range 4).map (rby 8 i p l)).take j) ++ [rby 8 i p l j] := by
                    rw [take_more' _ j (by simp; omega), map_get _ _ _ hjt, List.append_assoc]
                  have hii : (ee : Int) < ((ln + j : Nat) : Int) := by omega
                  have hbr := NB.out j hjt
                  rw [hlen] at hR
                  have HR := Lib.hid hR
                  have HY := Lib.hid hY
                  have HTK := Lib.hid hTK
                  have HLE := Lib.hid hlen
                  clear hnb hge hKey hR hY hTK hlen hmi hm4 hee
                  generalize hLL : l ++ ((List.range 4).map (rby 8 i p l)).take j = ll at *
                  clear hLL
                  generalize rby 8 i p l j = nb at *
                  generalize l.getD ee 0 = ex at *
                  generalize yl.getD j 0 = ey at *
                  obtain ⟨lj, hlj⟩ : ∃ lj, lj = ln + j := ⟨_, rfl⟩
                  rw [← hlj] at HR HLE hii
                  have HLJ := Lib.hid hlj
                  clear hlj
                  have hlj32 : lj ≤ 4294967296 := by have := HLJ.out; have := HLI.out; omega
                  go_wp2_with fail
                  have D1 := Lib.hid HR.out.drew
                  have A1 := D1.out.c1
                  refine wp_region_L [(23, fun w' => w'.cell? ⟨g, 1, none⟩ = some (.slice (some ⟨gC, 0, none⟩) lj cC)), (21, fun w' => w'.cell? ⟨gC, ee, none⟩ = some (.int .i64 (ex : Int)) ∧ w'.cell? ⟨gw, j, none⟩ = some (.int .i64 (ey : Int)) ∧ w'.cell? ⟨g, 1, none⟩ = some (.slice (some ⟨gC, 0, none⟩) lj cC))] 27 #[false, false, false, false, false, false, false, false, false, false, false, false, false, false, false, false, false, false, false, false, false, false, false, false, false, false, false] (by kernel_rfl) (by rfl) (by kernel_rfl) (by intro p hp; simp only [List.mem_cons, List.not_mem_nil, or_false] at hp; rcases hp with rfl | rfl; exact A1; exact ⟨ce, cy, A1⟩) (fun hHeld => ?_)
                  have HYd := Lib.hid HY.out.drew
                  clear A1 ce cy HR HY
                  generalize wr.drew = wq at *
                  refine wpAnyL_take (i := 0) (v := ?_) rfl (by kernel_rfl) (by kernel_rfl) (by kernel_rfl) (by rfl) (fun _ _ _ h => h) (Or.inl ⟨by rfl, ?_⟩) hHeld (fun hHeld2 => ?_)
                  rotate_left
                  · (intro wz hSw; go_simp; try with_reducible rfl)
                  clear hHeld; have hHeld := hHeld2; clear hHeld2
                  try simp only [List.getElem_toArray, List.getElem_cons_zero, List.getElem_cons_succ, Act.put, List.setIfInBounds_toArray, List.set_cons_zero, List.set_cons_succ]
                  refine wpAnyL_take (i := 1) (v := ?_) rfl (by kernel_rfl) (by kernel_rfl) (by kernel_rfl) (by rfl) (fun _ _ _ h => h) (Or.inl ⟨by rfl, ?_⟩) hHeld (fun hHeld2 => ?_)
                  rotate_left
                  · (intro wz hSw; go_simp; try with_reducible rfl)
                  clear hHeld; have hHeld := hHeld2; clear hHeld2
                  try simp only [List.getElem_toArray, List.getElem_cons_zero, List.getElem_cons_succ, Act.put, List.setIfInBounds_toArray, List.set_cons_zero, List.set_cons_succ]
                  refine wpAnyL_take (i := 2) (v := ?_) rfl (by kernel_rfl) (by kernel_rfl) (by kernel_rfl) (by rfl) (fun _ _ _ h => h) (Or.inl ⟨by rfl, ?_⟩) hHeld (fun hHeld2 => ?_)
                  rotate_left
                  · (intro wz hSw; go_simp; try with_reducible rfl)
                  clear hHeld; have hHeld := hHeld2; clear hHeld2
                  try simp only [List.getElem_toArray, List.getElem_cons_zero, List.getElem_cons_succ, Act.put, List.setIfInBounds_toArray, List.set_cons_zero, List.set_cons_succ]
                  refine wpAnyL_take (i := 3) (v := ?_) rfl (by kernel_rfl) (by kernel_rfl) (by kernel_rfl) (by rfl) (fun _ _ _ h => h) (Or.inl ⟨by rfl, ?_⟩) hHeld (fun hHeld2 => ?_)
                  rotate_left
                  · (intro wz hSw; go_simp; try with_reducible rfl)
                  clear hHeld; have hHeld := hHeld2; clear hHeld2
                  try simp only [List.getElem_toArray, List.getElem_cons_zero, List.getElem_cons_succ, Act.put, List.setIfInBounds_toArray, List.set_cons_zero, List.set_cons_succ]
                  refine wpAnyL_take (i := 4) (v := ?_) rfl (by kernel_rfl) (by kernel_rfl) (by kernel_rfl) (by rfl) (fun _ _ _ h => h) (Or.inl ⟨by rfl, ?_⟩) hHeld (fun hHeld2 => ?_)
                  rotate_left
                  · (intro wz hSw; have k1 : wz.cell? ⟨g, 1, none⟩ = some (.slice (some ⟨gC, 0, none⟩) lj cC) := hSw.get _ (List.Mem.head _) 0 (by kernel_rfl); go_simp; try with_reducible rfl)
                  clear hHeld; have hHeld := hHeld2; clear hHeld2
                  try simp only [List.getElem_toArray, List.getElem_cons_zero, List.getElem_cons_succ, Act.put, List.setIfInBounds_toArray, List.set_cons_zero, List.set_cons_succ]
                  refine wpAnyL_take (i := 5) (v := ?_) rfl (by kernel_rfl) (by kernel_rfl) (by kernel_rfl) (by rfl) (fun _ _ _ h => h) (Or.inl ⟨by rfl, ?_⟩) hHeld (fun hHeld2 => ?_)
                  rotate_left
                  · (intro wz hSw; go_simp; try with_reducible rfl)
                  clear hHeld; have hHeld := hHeld2; clear hHeld2
                  try simp only [List.getElem_toArray, List.getElem_cons_zero, List.getElem_cons_succ, Act.put, List.setIfInBounds_toArray, List.set_cons_zero, List.set_cons_succ]
                  refine wpAnyL_take (i := 6) (v := ?_) rfl (by kernel_rfl) (by kernel_rfl) (by kernel_rfl) (by rfl) (fun _ _ _ h => h) (Or.inl ⟨by rfl, ?_⟩) hHeld (fun hHeld2 => ?_)
                  rotate_left
                  · (intro wz hSw; go_simp; try with_reducible rfl)
                  clear hHeld; have hHeld := hHeld2; clear hHeld2
                  try simp only [List.getElem_toArray, List.getElem_cons_zero, List.getElem_cons_succ, Act.put, List.setIfInBounds_toArray, List.set_cons_zero, List.set_cons_succ]
                  refine wpAnyL_take (i := 7) (v := ?_) rfl (by kernel_rfl) (by kernel_rfl) (by kernel_rfl) (by rfl) (fun _ _ _ h => h) (Or.inl ⟨by rfl, ?_⟩) hHeld (fun hHeld2 => ?_)
                  rotate_left
                  · (intro wz hSw; go_simp; try with_reducible rfl)
                  clear hHeld; have hHeld := hHeld2; clear hHeld2
                  try simp only [List.getElem_toArray, List.getElem_cons_zero, List.getElem_cons_succ, Act.put, List.setIfInBounds_toArray, List.set_cons_zero, List.set_cons_succ]
                  refine wpAnyL_take (i := 8) (v := ?_) rfl (by kernel_rfl) (by kernel_rfl) (by kernel_rfl) (by rfl) (fun _ _ _ h => h) (Or.inl ⟨by rfl, ?_⟩) hHeld (fun hHeld2 => ?_)
                  rotate_left
                  · (intro wz hSw; have k0 : wz.cell? ⟨gC, ee, none⟩ = some (.int .i64 (ex : Int)) ∧ wz.cell? ⟨gw, j, none⟩ = some (.int .i64 (ey : Int)) ∧ wz.cell? ⟨g, 1, none⟩ = some (.slice (some ⟨gC, 0, none⟩) lj cC) := hSw.get _ (List.Mem.tail _ (List.Mem.head _)) 3 (by kernel_rfl); obtain ⟨k1, k2, k3⟩ := k0; go_simp; try with_reducible rfl)
                  clear hHeld; have hHeld := hHeld2; clear hHeld2
                  try simp only [List.getElem_toArray, List.getElem_cons_zero, List.getElem_cons_succ, Act.put, List.setIfInBounds_toArray, List.set_cons_zero, List.set_cons_succ]
                  refine wpAnyL_take (i := 9) (v := ?_) rfl (by kernel_rfl) (by kernel_rfl) (by kernel_rfl) (by rfl) (fun _ _ _ h => h) (Or.inl ⟨by rfl, ?_⟩) hHeld (fun hHeld2 => ?_)
                  rotate_left
                  · (intro wz hSw; go_simp; try with_reducible rfl)
                  clear hHeld; have hHeld := hHeld2; clear hHeld2
                  try simp only [List.getElem_toArray, List.getElem_cons_zero, List.getElem_cons_succ, Act.put, List.setIfInBounds_toArray, List.set_cons_zero, List.set_cons_succ]
                  refine wpAnyL_take (i := 10) (v := ?_) rfl (by kernel_rfl) (by kernel_rfl) (by kernel_rfl) (by rfl) (fun _ _ _ h => h) (Or.inl ⟨by rfl, ?_⟩) hHeld (fun hHeld2 => ?_)
                  rotate_left
                  · (intro wz hSw; go_simp; try with_reducible rfl)
                  clear hHeld; have hHeld := hHeld2; clear hHeld2
                  try simp only [List.getElem_toArray, List.getElem_cons_zero, List.getElem_cons_succ, Act.put, List.setIfInBounds_toArray, List.set_cons_zero, List.set_cons_succ]
                  refine wpAnyL_take (i := 11) (v := ?_) rfl (by kernel_rfl) (by kernel_rfl) (by kernel_rfl) (by rfl) (fun _ _ _ h => h) (Or.inl ⟨by rfl, ?_⟩) hHeld (fun hHeld2 => ?_)
                  rotate_left
                  · (intro wz hSw; go_simp; try with_reducible rfl)
                  clear hHeld; have hHeld := hHeld2; clear hHeld2
                  try simp only [List.getElem_toArray, List.getElem_cons_zero, List.getElem_cons_succ, Act.put, List.setIfInBounds_toArray, List.set_cons_zero, List.set_cons_succ]
                  refine wpAnyL_take (i := 12) (v := ?_) rfl (by kernel_rfl) (by kernel_rfl) (by kernel_rfl) (by rfl) (fun _ _ _ h => h) (Or.inl ⟨by rfl, ?_⟩) hHeld (fun hHeld2 => ?_)
                  rotate_left
                  · (intro wz hSw; go_simp; try with_reducible rfl)
                  clear hHeld; have hHeld := hHeld2; clear hHeld2
                  try simp only [List.getElem_toArray, List.getElem_cons_zero, List.getElem_cons_succ, Act.put, List.setIfInBounds_toArray, List.set_cons_zero, List.set_cons_succ]
                  refine wpAnyL_take (i := 13) (v := ?_) rfl (by kernel_rfl) (by kernel_rfl) (by kernel_rfl) (by rfl) (fun _ _ _ h => h) (Or.inl ⟨by rfl, ?_⟩) hHeld (fun hHeld2 => ?_)
                  rotate_left
                  · (intro wz hSw; go_simp; try with_reducible rfl)
                  clear hHeld; have hHeld := hHeld2; clear hHeld2
                  try simp only [List.getElem_toArray, List.getElem_cons_zero, List.getElem_cons_succ, Act.put, List.setIfInBounds_toArray, List.set_cons_zero, List.set_cons_succ]
                  refine wpAnyL_take (i := 14) (v := ?_) rfl (by kernel_rfl) (by kernel_rfl) (by kernel_rfl) (by rfl) (fun _ _ _ h => h) (Or.inl ⟨by rfl, ?_⟩) hHeld (fun hHeld2 => ?_)
                  rotate_left
                  · (intro wz hSw; go_simp; try with_reducible rfl)
                  clear hHeld; have hHeld := hHeld2; clear hHeld2
                  try simp only [List.getElem_toArray, List.getElem_cons_zero, List.getElem_cons_succ, Act.put, List.setIfInBounds_toArray, List.set_cons_zero, List.set_cons_succ]
                  refine wpAnyL_take (i := 15) (v := ?_) rfl (by kernel_rfl) (by kernel_rfl) (by kernel_rfl) (by rfl) (fun _ _ _ h => h) (Or.inl ⟨by rfl, ?_⟩) hHeld (fun hHeld2 => ?_)
                  rotate_left
                  · (intro wz hSw; go_simp; try with_reducible rfl)
                  clear hHeld; have hHeld := hHeld2; clear hHeld2
                  try simp only [List.getElem_toArray, List.getElem_cons_zero, List.getElem_cons_succ, Act.put, List.setIfInBounds_toArray, List.set_cons_zero, List.set_cons_succ]
                  refine wpAnyL_take (i := 16) (v := ?_) rfl (by kernel_rfl) (by kernel_rfl) (by kernel_rfl) (by rfl) (fun _ _ _ h => h) (Or.inl ⟨by rfl, ?_⟩) hHeld (fun hHeld2 => ?_)
                  rotate_left
                  · (intro wz hSw; have k0 : wz.cell? ⟨gC, ee, none⟩ = some (.int .i64 (ex : Int)) ∧ wz.cell? ⟨gw, j, none⟩ = some (.int .i64 (ey : Int)) ∧ wz.cell? ⟨g, 1, none⟩ = some (.slice (some ⟨gC, 0, none⟩) lj cC) := hSw.get _ (List.Mem.tail _ (List.Mem.head _)) 0 (by kernel_rfl); obtain ⟨k1, k2, k3⟩ := k0; go_simp; try with_reducible rfl)
                  clear hHeld; have hHeld := hHeld2; clear hHeld2
                  try simp only [List.getElem_toArray, List.getElem_cons_zero, List.getElem_cons_succ, Act.put, List.setIfInBounds_toArray, List.set_cons_zero, List.set_cons_succ]
                  refine wpAnyL_take (i := 17) (v := ?_) rfl (by kernel_rfl) (by kernel_rfl) (by kernel_rfl) (by rfl) (fun _ _ _ h => h) (Or.inl ⟨by rfl, ?_⟩) hHeld (fun hHeld2 => ?_)
                  rotate_left
                  · (intro wz hSw; go_simp; try with_reducible rfl)
                  clear hHeld; have hHeld := hHeld2; clear hHeld2
                  try simp only [List.getElem_toArray, List.getElem_cons_zero, List.getElem_cons_succ, Act.put, List.setIfInBounds_toArray, List.set_cons_zero, List.set_cons_succ]
                  refine wpAnyL_take (i := 18) (v := ?_) rfl (by kernel_rfl) (by kernel_rfl) (by kernel_rfl) (by rfl) (fun _ _ _ h => h) (Or.inl ⟨by rfl, ?_⟩) hHeld (fun hHeld2 => ?_)
                  rotate_left
                  · (intro wz hSw; go_simp; try with_reducible rfl)
                  clear hHeld; have hHeld := hHeld2; clear hHeld2
                  try simp only [List.getElem_toArray, List.getElem_cons_zero, List.getElem_cons_succ, Act.put, List.setIfInBounds_toArray, List.set_cons_zero, List.set_cons_succ]
                  refine wpAnyL_take (i := 19) (v := ?_) rfl (by kernel_rfl) (by kernel_rfl) (by kernel_rfl) (by rfl) (fun _ _ _ h => h) (Or.inl ⟨by rfl, ?_⟩) hHeld (fun hHeld2 => ?_)
                  rotate_left
                  · (intro wz hSw; go_simp; try with_reducible rfl)
                  clear hHeld; have hHeld := hHeld2; clear hHeld2
                  try simp only [List.getElem_toArray, List.getElem_cons_zero, List.getElem_cons_succ, Act.put, List.setIfInBounds_toArray, List.set_cons_zero, List.set_cons_succ]
                  refine wpAnyL_take (i := 20) (v := ?_) rfl (by kernel_rfl) (by kernel_rfl) (by kernel_rfl) (by rfl) (fun _ _ _ h => h) (Or.inl ⟨by rfl, ?_⟩) hHeld (fun hHeld2 => ?_)
                  rotate_left
                  · (intro wz hSw; have k0 : wz.cell? ⟨gC, ee, none⟩ = some (.int .i64 (ex : Int)) ∧ wz.cell? ⟨gw, j, none⟩ = some (.int .i64 (ey : Int)) ∧ wz.cell? ⟨g, 1, none⟩ = some (.slice (some ⟨gC, 0, none⟩) lj cC) := hSw.get _ (List.Mem.tail _ (List.Mem.head _)) 0 (by kernel_rfl); obtain ⟨k1, k2, k3⟩ := k0; go_simp; try with_reducible rfl)
                  clear hHeld; have hHeld := hHeld2; clear hHeld2
                  try simp only [List.getElem_toArray, List.getElem_cons_zero, List.getElem_cons_succ, Act.put, List.setIfInBounds_toArray, List.set_cons_zero, List.set_cons_succ]
                  refine wpAnyL_one (i := 21) (by kernel_rfl) rfl rfl hHeld (fun K hK => ?_)
                  go_simp
                  refine (XC.out _).mono ?_
                  rintro e w' ⟨rfl, rfl⟩
                  refine hK.out _ _ (by intro p hp hl; simp only [List.mem_cons, List.not_mem_nil, or_false] at hp; rcases hp with rfl | rfl; exact D1.out.c1; exact Bool.noConfusion (hl.symm.trans (show _ = true by kernel_rfl))) (fun hHeld2 => ?_)
                  clear hHeld hK K ; have hHeld := hHeld2; clear hHeld2
                  try simp only [List.getElem_toArray, List.getElem_cons_zero, List.getElem_cons_succ, Act.put, List.setIfInBounds_toArray, List.set_cons_zero, List.set_cons_succ]
                  refine wpAnyL_one (i := 22) (by kernel_rfl) rfl rfl hHeld (fun K hK => ?_)
                  go_simp
                  have D2 := Lib.hid (D1.out.alloc (.cells #[.int .i64 (nb : Int)] 3))
                  refine hK.out _ _ (by intro p hp hl; simp only [List.mem_cons, List.not_mem_nil, or_false] at hp; rcases hp with rfl | rfl; exact D2.out.c1; exact Bool.noConfusion (hl.symm.trans (show _ = true by kernel_rfl))) (fun hHeld2 => ?_)
                  clear hHeld hK K ; have hHeld := hHeld2; clear hHeld2
                  try simp only [List.getElem_toArray, List.getElem_cons_zero, List.getElem_cons_succ, Act.put, List.setIfInBounds_toArray, List.set_cons_zero, List.set_cons_succ]
                  refine wpAnyL_one (i := 23) (by kernel_rfl) rfl rfl hHeld (fun K hK => ?_)
                  have hown1 := D1.out.own
                  rw [HLE.out] at hown1
                  refine wp_append_row (.tmp 183) (.tmp 201) 71 rfl base 3 (.int .i64 0) 8 Tryd.underlying71 info_int rfl _ lj (vals .i64 ll) (.int .i64 (nb : Int)) rfl hown1 rfl rfl hlj32 (by omega) D1.out.hbase ?_
                  intro gD cD w3 hown3 hbel3 hoth3
                  obtain ⟨hY3, hneD⟩ := hoth3 gw yl HYd.out (by omega) hne
                  rw [← HLE.out] at hown3
                  obtain ⟨k1, kf, hR3⟩ := D1.out.more hown3 hbel3
                  rw [HLE.out] at hR3
                  have R3 := Lib.hid hR3
                  have hgwg : g ≠ gw := fun e => by
                    have h1 := HYd.out.cell 1 (by omega)
                    have h2 := D1.out.c1
                    rw [e] at h2
                    rw [h1] at h2
                    cases h2
                  have Y3 := Lib.hid (hY3.beside ⟨g, 1, none⟩ (.slice (some ⟨gD, 0, none⟩) (lj + 1) cD) hgwg)
                  clear hR3 hown3 hbel3 hoth3 D2 hY3 hown1
                  refine hK.out _ _ (by intro p hp hl; simp only [List.mem_cons, List.not_mem_nil, or_false] at hp; rcases hp with rfl | rfl <;> exact Bool.noConfusion (hl.symm.trans (show _ = true by kernel_rfl))) (fun hHeld2 => ?_)
                  clear hHeld hK K ; have hHeld := hHeld2; clear hHeld2
                  try simp only [List.getElem_toArray, List.getElem_cons_zero, List.getElem_cons_succ, Act.put, List.setIfInBounds_toArray, List.set_cons_zero, List.set_cons_succ]
                  refine wpAnyL_one (i := 24) (by kernel_rfl) rfl rfl hHeld (fun K hK => ?_)
                  go_simp
                  refine hK.out _ _ (by intro p hp hl; simp only [List.mem_cons, List.not_mem_nil, or_false] at hp; rcases hp with rfl | rfl <;> exact Bool.noConfusion (hl.symm.trans (show _ = true by kernel_rfl))) (fun hHeld2 => ?_)
                  clear hHeld hK K ; have hHeld := hHeld2; clear hHeld2
                  try simp only [List.getElem_toArray, List.getElem_cons_zero, List.getElem_cons_succ, Act.put, List.setIfInBounds_toArray, List.set_cons_zero, List.set_cons_succ]
                  refine wpAnyL_one (i := 25) (by kernel_rfl) rfl rfl hHeld (fun K hK => ?_)
                  go_simp
                  refine hK.out _ _ (by intro p hp hl; simp only [List.mem_cons, List.not_mem_nil, or_false] at hp; rcases hp with rfl | rfl <;> exact Bool.noConfusion (hl.symm.trans (show _ = true by kernel_rfl))) (fun hHeld2 => ?_)
                  clear hHeld hK K ; have hHeld := hHeld2; clear hHeld2
                  try simp only [List.getElem_toArray, List.getElem_cons_zero, List.getElem_cons_succ, Act.put, List.setIfInBounds_toArray, List.set_cons_zero, List.set_cons_succ]
                  refine wpAnyL_one (i := 26) (by kernel_rfl) rfl rfl hHeld (fun K hK => ?_)
                  go_simp
                  refine hK.out _ _ (by intro p hp hl; simp only [List.mem_cons, List.not_mem_nil, or_false] at hp; rcases hp with rfl | rfl <;> exact Bool.noConfusion (hl.symm.trans (show _ = true by kernel_rfl))) (fun hHeld2 => ?_)
                  clear hHeld hK K ; have hHeld := hHeld2; clear hHeld2
                  try simp only [List.getElem_toArray, List.getElem_cons_zero, List.getElem_cons_succ, Act.put, List.setIfInBounds_toArray, List.set_cons_zero, List.set_cons_succ]
                  refine wpAnyL_done (by kernel_rfl) ?_ _
                  rw [← HTK.out] at R3
                  clear hHeld D1 k1 kf HYd
                  go_wp2
                  go_roundw
                  case rel => exact ⟨j + 1, _, by omega, by go_num, R3.out, Y3.out, fun e => hneD (by simpa [Value.ownBlock] using e)⟩
                  case measure => simp [intOf]; omega
                · obtain rfl : j = 4 := by omega
                  have e4 : ((List.range 4).map (rby 8 i p l)).take 4 = (List.range 4).map (rby 8 i p l) := List.take_of_length_le (by simp)
                  rw [e4, ← NR.out] at hR
                  have HR := Lib.hid hR
                  have hls : (rstep 8 i p l).length = 4 * (i + 1) := by rw [NR.out, List.length_append, ← HLN.out]; simp; have := HLI.out; omega
                  have hbs : ∀ t, (rstep 8 i p l).getD t 0 < 256 := by
                    intro t
                    rw [NR.out]
                    by_cases h1 : t < l.length
                    · rw [List.getD_eq_getElem?_getD, List.getElem?_append_left h1, ← List.getD_eq_getElem?_getD]; exact HLB.out t
                    · rw [List.getD_eq_getElem?_getD, List.getElem?_append_right (by omega), ← List.getD_eq_getElem?_getD]
                      by_cases h2 : t - l.length < 4
                      · rw [map_get _ _ _ h2]; exact NB.out _ h2
                      · rw [getD_out _ _ (by simp; omega)]; omega
                  have hfn := HFF.out
                  rw [show 60 - i = (60 - (i + 1)) + 1 by omega] at hfn
                  have HFN := Lib.hid (show rfill 8 (60 - (i + 1)) (i + 1) (rplus 8 i p) (rstep 8 i p l) = whole from hfn)
                  rw [PL.out] at HFN
                  have HLS := Lib.hid hls
                  have HBS := Lib.hid hbs
                  clear hR hfn hls hbs e4 HFF NR
                  generalize rstep 8 i p l = lnew at *
                  go_wp2
                  go_roundw
                  case rel => exact ⟨i + 1, _, lnew, _, by omega, by omega, by go_num, rfl, hp2, HLS.out, HBS.out, HFN.out, HR.out⟩
                  case measure => simp [intOf]; omega
          · have t0 : ((i : Int) % 8 == 0) = false := by simp; omega
            have PL : rplus 8 i p = p := by rw [rplus, if_neg hk0]
            have PL := Lib.hid PL
            have hp2 := hp
            rw [if_neg hk0] at V0 V1 V2 V3
            by_cases hk4 : i % 8 = 4
            · have t4 : ((i : Int) % 8 == 4) = true := by simp; omega
              rw [if_pos ⟨by simp, hk4⟩] at V0 V1 V2 V3
              go_wp2_with fail
              generalize wd.alloc (.cells #[.int .i64 (x0 : Int), .int .i64 (x1 : Int), .int .i64 (x2 : Int), .int .i64 (x3 : Int)] 3) = wy at *
              generalize wd.heap.size = gw0 at *
              refine region_tail 36 (by kernel_rfl) (by kernel_rfl) ?_
              intro wd2 hwd
              have G6 : RK w wd2 g gb cb 14 base (.slice (some ⟨gB, 0, none⟩) ln cB) l := by rw [hwd]; exact G3.out.drew
              have G7 : Holds wd2 gw0 .i64 [x0, x1, x2, x3] := by rw [hwd]; exact G4.out.drew
              have G8 : Holds wd2 gB .i64 l := by rw [hwd]; exact G5.out.drew
              clear hwd G3 G4 G5
              have a0 : wd2.cell? ⟨gw0, 0, none⟩ = some (.int .i64 (x0 : Int)) := G7.cell 0 (by simp)
              have a1 : wd2.cell? ⟨gw0, 1, none⟩ = some (.int .i64 (x1 : Int)) := G7.cell 1 (by simp)
              have a2 : wd2.cell? ⟨gw0, 2, none⟩ = some (.int .i64 (x2 : Int)) := G7.cell 2 (by simp)
              have a3 : wd2.cell? ⟨gw0, 3, none⟩ = some (.int .i64 (x3 : Int)) := G7.cell 3 (by simp)
              have hh2 := G6.c2
              have d0 := G6.box.cell x0 (by rw [boxL_len]; omega)
              have d1 := G6.box.cell x1 (by rw [boxL_len]; omega)
              have d2 := G6.box.cell x2 (by rw [boxL_len]; omega)
              have d3 := G6.box.cell x3 (by rw [boxL_len]; omega)
              have xi0 : (x0 : Int) < 256 := by omega
              have xi1 : (x1 : Int) < 256 := by omega
              have xi2 : (x2 : Int) < 256 := by omega
              have xi3 : (x3 : Int) < 256 := by omega
              have gBlt2 := G8.lt (by have := HLN.out; omega)
              have G6 := Lib.hid G6
              have G8 := Lib.hid G8
              clear G7
              have y0l := boxL_lt x0
              have y1l := boxL_lt x1
              have y2l := boxL_lt x2
              have y3l := boxL_lt x3
              generalize boxL.getD x0 0 = y0 at *
              generalize boxL.getD x1 0 = y1 at *
              generalize boxL.getD x2 0 = y2 at *
              generalize boxL.getD x3 0 = y3 at *
              simp only [List.take_succ_cons, List.take_zero, List.drop_succ_cons, List.drop_zero]
              repeat still_step
              refine wpStill_nil ?_
              clear a0 a1 a2 a3 d0 d1 d2 d3 hh2
              go_wp2_with fail
              as_aux_lemma =>
                have H6 := Lib.hid (G6.out.alloc (.cells #[.int .i64 (y0 : Int), .int .i64 (y1 : Int), .int .i64 (y2 : Int), .int .i64 (y3 : Int)] 3))
                have H7 := Lib.hid (show Holds (wd2.alloc (.cells #[.int .i64 (y0 : Int), .int .i64 (y1 : Int), .int .i64 (y2 : Int), .int .i64 (y3 : Int)] 3)) wd2.heap.size .i64 [y0, y1, y2, y3] from Holds.new wd2 3 .i64 [y0, y1, y2, y3])
                clear G6 G8
                generalize wd2.alloc (.cells #[.int .i64 (y0 : Int), .int .i64 (y1 : Int), .int .i64 (y2 : Int), .int .i64 (y3 : Int)] 3) = wz0 at *
                generalize wd2.heap.size = gw at *
                have hgw : gB ≠ gw := by omega
                have WY : ∀ t, t < 4 → [y0, y1, y2, y3].getD t 0 = rw4 8 i p l t := by
                  intro t ht
                  have h4 : t = 0 ∨ t = 1 ∨ t = 2 ∨ t = 3 := by omega
                  rcases h4 with rfl | rfl | rfl | rfl
                  · exact V0.out.symm
                  · exact V1.out.symm
                  · exact V2.out.symm
                  · exact V3.out.symm
                have WL : ∀ t, [y0, y1, y2, y3].getD t 0 < 256 := by
                  intro t
                  match t with
                  | 0 => exact (show y0 < 256 by omega)
                  | 1 => exact (show y1 < 256 by omega)
                  | 2 => exact (show y2 < 256 by omega)
                  | 3 => exact (show y3 < 256 by omega)
                  | t + 4 => exact (show (0 : Nat) < 256 by omega)
                have LY : [y0, y1, y2, y3].length = 4 := rfl
                have WY := Lib.hid WY
                have WL := Lib.hid WL
                have NR := Lib.hid (show rstep 8 i p l = l ++ (List.range 4).map (rby 8 i p l) from rfl)
                have NB := Lib.hid (show ∀ t, t < 4 → rby 8 i p l t < 256 from fun t ht => xor_lt (HLB.out _) (by rw [← WY.out t ht]; exact WL.out t))
                generalize [y0, y1, y2, y3] = yl at *
                clear V0 V1 V2 V3
                go_loopw [9] (fun jv wr => ∃ (j : Nat) (v : Value), j ≤ 4 ∧ jv = .int .i64 (j : Nat) ∧ RK w wr g gb cb 14 base v (l ++ ((List.range 4).map (rby 8 i p l)).take j) ∧ Holds wr gw .i64 yl ∧ v.ownBlock ≠ some gw) (fun jv _ => 4 - (intOf jv).toNat)
                case atStart => exact ⟨0, _, by omega, rfl, by simpa using H6.out, H7.out, fun e => hgw (by simpa [Value.ownBlock] using e)⟩
                case round =>
                  clear H6 H7
                  obtain ⟨j, v, hj, rfl, hR, hY, hne⟩ := hrel
                  by_cases hjt : j < 4
                  · have tj : decide ((j : Int) < 4) = true := by simp; omega
                    have jj : (j : Int) < 4 := by omega
                    have hlen : (l ++ ((List.range 4).map (rby 8 i p l)).take j).length = ln + j := by
                      rw [List.length_append, ← HLN.out, List.length_take, List.length_map, List.length_range, Nat.min_eq_left (by omega)]
                    obtain ⟨gC, cC, hv, -, hKey⟩ := hR.key (by rw [hlen]; have := HLI.out; omega)
                    subst hv
                    obtain ⟨mi, hmi⟩ : ∃ mi, mi = i - 8 := ⟨_, rfl⟩
                    obtain ⟨m4, hm4⟩ : ∃ m4, m4 = 4 * mi := ⟨_, rfl⟩
                    obtain ⟨ee, hee⟩ : ∃ ee, ee = m4 + j := ⟨_, rfl⟩
                    have f1 : (i : Int) - 8 = (mi : Int) := by omega
                    have f2 : 4 * (mi : Int) = (m4 : Int) := by omega
                    have f3 : (m4 : Int) + (j : Int) = (ee : Int) := by omega
                    have g1 := wrap_nat mi (by omega)
                    have g2 := wrap_nat m4 (by omega)
                    have g3 := wrap_nat ee (by omega)
                    have hel : ee < ln := by have := HLI.out; omega
                    have hge : (l ++ ((List.range 4).map (rby 8 i p l)).take j).getD ee 0 = l.getD ee 0 := by
                      rw [List.getD_eq_getElem?_getD, List.getD_eq_getElem?_getD, List.getElem?_append_left (by rw [← HLN.out]; exact hel)]
                    have hnb : rby 8 i p l j = l.getD ee 0 ^^^ yl.getD j 0 := by rw [rby, WY.out j hjt, hee, hm4, hmi]
                    have hx1 := HLB.out ee
                    have hx2 := WL.out j
                    have XC := Lib.hid (fun w' => xor64' (l.getD ee 0) (yl.getD j 0) (by omega) (by omega) w')
                    rw [← hnb] at XC
                    have ce := hKey.bytes.cell ee (by rw [hlen]; omega)
                    rw [hge] at ce
                    have cy := hY.cell j (by omega)
                    have hTK : (l ++ ((List.range 4).map (rby 8 i p l)).take (j + 1)) = (l ++ ((List.range 4).map (rby 8 i p l)).take j) ++ [rby 8 i p l j] := by
                      rw [take_more' _ j (by simp; omega), map_get _ _ _ hjt, List.append_assoc]
                    have hii : (ee : Int) < ((ln + j : Nat) : Int) := by omega
                    have hbr := NB.out j hjt
                    rw [hlen] at hR
                    have HR := Lib.hid hR
                    have HY := Lib.hid hY
                    have HTK := Lib.hid hTK
                    have HLE := Lib.hid hlen
                    clear hnb hge hKey hR hY hTK hlen hmi hm4 hee
                    generalize hLL : l ++ ((List.range 4).map (rby 8 i p l)).take j = ll at *
                    clear hLL
                    generalize rby 8 i p l j = nb at *
                    generalize l.getD ee 0 = ex at *
                    generalize yl.getD j 0 = ey at *
                    obtain ⟨lj, hlj⟩ : ∃ lj, lj = ln + j := ⟨_, rfl⟩
                    rw [← hlj] at HR HLE hii
                    have HLJ := Lib.hid hlj
                    clear hlj
                    have hlj32 : lj ≤ 4294967296 := by have := HLJ.out; have := HLI.out; omega
                    go_wp2_with fail
                    have D1 := Lib.hid HR.out.drew
                    have A1 := D1.out.c1
                    refine wp_region_L [(23, fun w' => w'.cell? ⟨g, 1, none⟩ = some (.slice (some ⟨gC, 0, none⟩) lj cC)), (21, fun w' => w'.cell? ⟨gC, ee, none⟩ = some (.int .i64 (ex : Int)) ∧ w'.cell? ⟨gw, j, none⟩ = some (.int .i64 (ey : Int)) ∧ w'.cell? ⟨g, 1, none⟩ = some (.slice (some ⟨gC, 0, none⟩) lj cC))] 27 #[false, false, false, false, false, false, false, false, false, false, false, false, false, false, false, false, false, false, false, false, false, false, false, false, false, false, false] (by kernel_rfl) (by rfl) (by kernel_rfl) (by intro p hp; simp only [List.mem_cons, List.not_mem_nil, or_false] at hp; rcases hp with rfl | rfl; exact A1; exact ⟨ce, cy, A1⟩) (fun hHeld => ?_)
                    have HYd := Lib.hid HY.out.drew
                    clear A1 ce cy HR HY
                    generalize wr.drew = wq at *
                    refine wpAnyL_take (i := 0) (v := ?_) rfl (by kernel_rfl) (by kernel_rfl) (by kernel_rfl) (by rfl) (fun _ _ _ h => h) (Or.inl ⟨by rfl, ?_⟩) hHeld (fun hHeld2 => ?_)
                    rotate_left
                    · (intro wz hSw; go_simp; try with_reducible rfl)
                    clear hHeld; have hHeld := hHeld2; clear hHeld2
                    try simp only [List.getElem_toArray, List.getElem_cons_zero, List.getElem_cons_succ, Act.put, List.setIfInBounds_toArray, List.set_cons_zero, List.set_cons_succ]
                    refine wpAnyL_take (i := 1) (v := ?_) rfl (by kernel_rfl) (by kernel_rfl) (by kernel_rfl) (by rfl) (fun _ _ _ h => h) (Or.inl ⟨by rfl, ?_⟩) hHeld (fun hHeld2 => ?_)
                    rotate_left
                    · (intro wz hSw; go_simp; try with_reducible rfl)
                    clear hHeld; have hHeld := hHeld2; clear hHeld2
                    try simp only [List.getElem_toArray, List.getElem_cons_zero, List.getElem_cons_succ, Act.put, List.setIfInBounds_toArray, List.set_cons_zero, List.set_cons_succ]
                    refine wpAnyL_take (i := 2) (v := ?_) rfl (by kernel_rfl) (by kernel_rfl) (by kernel_rfl) (by rfl) (fun _ _ _ h => h) (Or.inl ⟨by rfl, ?_⟩) hHeld (fun hHeld2 => ?_)
                    rotate_left
                    · (intro wz hSw; go_simp; try with_reducible rfl)
                    clear hHeld; have hHeld := hHeld2; clear hHeld2
                    try simp only [List.getElem_toArray, List.getElem_cons_zero, List.getElem_cons_succ, Act.put, List.setIfInBounds_toArray, List.set_cons_zero, List.set_cons_succ]
                    refine wpAnyL_take (i := 3) (v := ?_) rfl (by kernel_rfl) (by kernel_rfl) (by kernel_rfl) (by rfl) (fun _ _ _ h => h) (Or.inl ⟨by rfl, ?_⟩) hHeld (fun hHeld2 => ?_)
                    rotate_left
                    · (intro wz hSw; go_simp; try with_reducible rfl)
                    clear hHeld; have hHeld := hHeld2; clear hHeld2
                    try simp only [List.getElem_toArray, List.getElem_cons_zero, List.getElem_cons_succ, Act.put, List.setIfInBounds_toArray, List.set_cons_zero, List.set_cons_succ]
                    refine wpAnyL_take (i := 4) (v := ?_) rfl (by kernel_rfl) (by kernel_rfl) (by kernel_rfl) (by rfl) (fun _ _ _ h => h) (Or.inl ⟨by rfl, ?_⟩) hHeld (fun hHeld2 => ?_)
                    rotate_left
                    · (intro wz hSw; have k1 : wz.cell? ⟨g, 1, none⟩ = some (.slice (some ⟨gC, 0, none⟩) lj cC) := hSw.get _ (List.Mem.head _) 0 (by kernel_rfl); go_simp; try with_reducible rfl)
                    clear hHeld; have hHeld := hHeld2; clear hHeld2
                    try simp only [List.getElem_toArray, List.getElem_cons_zero, List.getElem_cons_succ, Act.put, List.setIfInBounds_toArray, List.set_cons_zero, List.set_cons_succ]
                    refine wpAnyL_take (i := 5) (v := ?_) rfl (by kernel_rfl) (by kernel_rfl) (by kernel_rfl) (by rfl) (fun _ _ _ h => h) (Or.inl ⟨by rfl, ?_⟩) hHeld (fun hHeld2 => ?_)
                    rotate_left
                    · (intro wz hSw; go_simp; try with_reducible rfl)
                    clear hHeld; have hHeld := hHeld2; clear hHeld2
                    try simp only [List.getElem_toArray, List.getElem_cons_zero, List.getElem_cons_succ, Act.put, List.setIfInBounds_toArray, List.set_cons_zero, List.set_cons_succ]
                    refine wpAnyL_take (i := 6) (v := ?_) rfl (by kernel_rfl) (by kernel_rfl) (by kernel_rfl) (by rfl) (fun _ _ _ h => h) (Or.inl ⟨by rfl, ?_⟩) hHeld (fun hHeld2 => ?_)
                    rotate_left
                    · (intro wz hSw; go_simp; try with_reducible rfl)
                    clear hHeld; have hHeld := hHeld2; clear hHeld2
                    try simp only [List.getElem_toArray, List.getElem_cons_zero, List.getElem_cons_succ, Act.put, List.setIfInBounds_toArray, List.set_cons_zero, List.set_cons_succ]
                    refine wpAnyL_take (i := 7) (v := ?_) rfl (by kernel_rfl) (by kernel_rfl) (by kernel_rfl) (by rfl) (fun _ _ _ h => h) (Or.inl ⟨by rfl, ?_⟩) hHeld (fun hHeld2 => ?_)
                    rotate_left
                    · (intro wz hSw; go_simp; try with_reducible rfl)
                    clear hHeld; have hHeld := hHeld2; clear hHeld2
                    try simp only [List.getElem_toArray, List.getElem_cons_zero, List.getElem_cons_succ, Act.put, List.setIfInBounds_toArray, List.set_cons_zero, List.set_cons_succ]
                    refine wpAnyL_take (i := 8) (v := ?_) rfl (by kernel_rfl) (by kernel_rfl) (by kernel_rfl) (by rfl) (fun _ _ _ h => h) (Or.inl ⟨by rfl, ?_⟩) hHeld (fun hHeld2 => ?_)
                    rotate_left
                    · (intro wz hSw; have k0 : wz.cell? ⟨gC, ee, none⟩ = some (.int .i64 (ex : Int)) ∧ wz.cell? ⟨gw, j, none⟩ = some (.int .i64 (ey : Int)) ∧ wz.cell? ⟨g, 1, none⟩ = some (.slice (some ⟨gC, 0, none⟩) lj cC) := hSw.get _ (List.Mem.tail _ (List.Mem.head _)) 3 (by kernel_rfl); obtain ⟨k1, k2, k3⟩ := k0; go_simp; try with_reducible rfl)
                    clear hHeld; have hHeld := hHeld2; clear hHeld2
                    try simp only [List.getElem_toArray, List.getElem_cons_zero, List.getElem_cons_succ, Act.put, List.setIfInBounds_toArray, List.set_cons_zero, List.set_cons_succ]
                    refine wpAnyL_take (i := 9) (v := ?_) rfl (by kernel_rfl) (by kernel_rfl) (by kernel_rfl) (by rfl) (fun _ _ _ h => h) (Or.inl ⟨by rfl, ?_⟩) hHeld (fun hHeld2 => ?_)
                    rotate_left
                    · (intro wz hSw; go_simp; try with_reducible rfl)
                    clear hHeld; have hHeld := hHeld2; clear hHeld2
                    try simp only [List.getElem_toArray, List.getElem_cons_zero, List.getElem_cons_succ, Act.put, List.setIfInBounds_toArray, List.set_cons_zero, List.set_cons_succ]
                    refine wpAnyL_take (i := 10) (v := ?_) rfl (by kernel_rfl) (by kernel_rfl) (by kernel_rfl) (by rfl) (fun _ _ _ h => h) (Or.inl ⟨by rfl, ?_⟩) hHeld (fun hHeld2 => ?_)
                    rotate_left
                    · (intro wz hSw; go_simp; try with_reducible rfl)
                    clear hHeld; have hHeld := hHeld2; clear hHeld2
                    try simp only [List.getElem_toArray, List.getElem_cons_zero, List.getElem_cons_succ, Act.put, List.setIfInBounds_toArray, List.set_cons_zero, List.set_cons_succ]
                    refine wpAnyL_take (i := 11) (v := ?_) rfl (by kernel_rfl) (by kernel_rfl) (by kernel_rfl) (by rfl) (fun _ _ _ h => h) (Or.inl ⟨by rfl, ?_⟩) hHeld (fun hHeld2 => ?_)
                    rotate_left
                    · (intro wz hSw; go_simp; try with_reducible rfl)
                    clear hHeld; have hHeld := hHeld2; clear hHeld2
                    try simp only [List.getElem_toArray, List.getElem_cons_zero, List.getElem_cons_succ, Act.put, List.setIfInBounds_toArray, List.set_cons_zero, List.set_cons_succ]
                    refine wpAnyL_take (i := 12) (v := ?_) rfl (by kernel_rfl) (by kernel_rfl) (by kernel_rfl) (by rfl) (fun _ _ _ h => h) (Or.inl ⟨by rfl, ?_⟩) hHeld (fun hHeld2 => ?_)
                    rotate_left
                    · (intro wz hSw; go_simp; try with_reducible rfl)
                    clear hHeld; have hHeld := hHeld2; clear hHeld2
                    try simp only [List.getElem_toArray, List.getElem_cons_zero, List.getElem_cons_succ, Act.put, List.setIfInBounds_toArray, List.set_cons_zero, List.set_cons_succ]
                    refine wpAnyL_take (i := 13) (v := ?_) rfl (by kernel_rfl) (by kernel_rfl) (by kernel_rfl) (by rfl) (fun _ _ _ h => h) (Or.inl ⟨by rfl, ?_⟩) hHeld (fun hHeld2 => ?_)
                    rotate_left
                    · (intro wz hSw; go_simp; try with_reducible rfl)
                    clear hHeld; have hHeld := hHeld2; clear hHeld2
                    try simp only [List.getElem_toArray, List.getElem_cons_zero, List.getElem_cons_succ, Act.put, List.setIfInBounds_toArray, List.set_cons_zero, List.set_cons_succ]
                    refine wpAnyL_take (i := 14) (v := ?_) rfl (by kernel_rfl) (by kernel_rfl) (by kernel_rfl) (by rfl) (fun _ _ _ h => h) (Or.inl ⟨by rfl, ?_⟩) hHeld (fun hHeld2 => ?_)
                    rotate_left
                    · (intro wz hSw; go_simp; try with_reducible rfl)
                    clear hHeld; have hHeld := hHeld2; clear hHeld2
                    try simp only [List.getElem_toArray, List.getElem_cons_zero, List.getElem_cons_succ, Act.put, List.setIfInBounds_toArray, List.set_cons_zero, List.set_cons_succ]
                    refine wpAnyL_take (i := 15) (v := ?_) rfl (by kernel_rfl) (by kernel_rfl) (by kernel_rfl) (by rfl) (fun _ _ _ h => h) (Or.inl ⟨by rfl, ?_⟩) hHeld (fun hHeld2 => ?_)
                    rotate_left
                    · (intro wz hSw; go_simp; try with_reducible rfl)
                    clear hHeld; have hHeld := hHeld2; clear hHeld2
                    try simp only [List.getElem_toArray, List.getElem_cons_zero, List.getElem_cons_succ, Act.put, List.setIfInBounds_toArray, List.set_cons_zero, List.set_cons_succ]
                    refine wpAnyL_take (i := 16) (v := ?_) rfl (by kernel_rfl) (by kernel_rfl) (by kernel_rfl) (by rfl) (fun _ _ _ h => h) (Or.inl ⟨by rfl, ?_⟩) hHeld (fun hHeld2 => ?_)
                    rotate_left
                    · (intro wz hSw; have k0 : wz.cell? ⟨gC, ee, none⟩ = some (.int .i64 (ex : Int)) ∧ wz.cell? ⟨gw, j, none⟩ = some (.int .i64 (ey : Int)) ∧ wz.cell? ⟨g, 1, none⟩ = some (.slice (some ⟨gC, 0, none⟩) lj cC) := hSw.get _ (List.Mem.tail _ (List.Mem.head _)) 0 (by kernel_rfl); obtain ⟨k1, k2, k3⟩ := k0; go_simp; try with_reducible rfl)
                    clear hHeld; have hHeld := hHeld2; clear hHeld2
                    try simp only [List.getElem_toArray, List.getElem_cons_zero, List.getElem_cons_succ, Act.put, List.setIfInBounds_toArray, List.set_cons_zero, List.set_cons_succ]
                    refine wpAnyL_take (i := 17) (v := ?_) rfl (by kernel_rfl) (by kernel_rfl) (by kernel_rfl) (by rfl) (fun _ _ _ h => h) (Or.inl ⟨by rfl, ?_⟩) hHeld (fun hHeld2 => ?_)
                    rotate_left
                    · (intro wz hSw; go_simp; try with_reducible rfl)
                    clear hHeld; have hHeld := hHeld2; clear hHeld2
                    try simp only [List.getElem_toArray, List.getElem_cons_zero, List.getElem_cons_succ, Act.put, List.setIfInBounds_toArray, List.set_cons_zero, List.set_cons_succ]
                    refine wpAnyL_take (i := 18) (v := ?_) rfl (by kernel_rfl) (by kernel_rfl) (by kernel_rfl) (by rfl) (fun _ _ _ h => h) (Or.inl ⟨by rfl, ?_⟩) hHeld (fun hHeld2 => ?_)
                    rotate_left
                    · (intro wz hSw; go_simp; try with_reducible rfl)
                    clear hHeld; have hHeld := hHeld2; clear hHeld2
                    try simp only [List.getElem_toArray, List.getElem_cons_zero, List.getElem_cons_succ, Act.put, List.setIfInBounds_toArray, List.set_cons_zero, List.set_cons_succ]
                    refine wpAnyL_take (i := 19) (v := ?_) rfl (by kernel_rfl) (by kernel_rfl) (by kernel_rfl) (by rfl) (fun _ _ _ h => h) (Or.inl ⟨by rfl, ?_⟩) hHeld (fun hHeld2 => ?_)
                    rotate_left
                    · (intro wz hSw; go_simp; try with_reducible rfl)
                    clear hHeld; have hHeld := hHeld2; clear hHeld2
                    try simp only [List.getElem_toArray, List.getElem_cons_zero, List.getElem_cons_succ, Act.put, List.setIfInBounds_toArray, List.set_cons_zero, List.set_cons_succ]
                    refine wpAnyL_take (i := 20) (v := ?_) rfl (by kernel_rfl) (by kernel_rfl) (by kernel_rfl) (by rfl) (fun _ _ _ h => h) (Or.inl ⟨by rfl, ?_⟩) hHeld (fun hHeld2 => ?_)
                    rotate_left
                    · (intro wz hSw; have k0 : wz.cell? ⟨gC, ee, none⟩ = some (.int .i64 (ex : Int)) ∧ wz.cell? ⟨gw, j, none⟩ = some (.int .i64 (ey : Int)) ∧ wz.cell? ⟨g, 1, none⟩ = some (.slice (some ⟨gC, 0, none⟩) lj cC) := hSw.get _ (List.Mem.tail _ (List.Mem.head _)) 0 (by kernel_rfl); obtain ⟨k1, k2, k3⟩ := k0; go_simp; try with_reducible rfl)
                    clear hHeld; have hHeld := hHeld2; clear hHeld2
                    try simp only [List.getElem_toArray, List.getElem_cons_zero, List.getElem_cons_succ, Act.put, List.setIfInBounds_toArray, List.set_cons_zero, List.set_cons_succ]
                    refine wpAnyL_one (i := 21) (by kernel_rfl) rfl rfl hHeld (fun K hK => ?_)
                    go_simp
                    refine (XC.out _).mono ?_
                    rintro e w' ⟨rfl, rfl⟩
                    refine hK.out _ _ (by intro p hp hl; simp only [List.mem_cons, List.not_mem_nil, or_false] at hp; rcases hp with rfl | rfl; exact D1.out.c1; exact Bool.noConfusion (hl.symm.trans (show _ = true by kernel_rfl))) (fun hHeld2 => ?_)
                    clear hHeld hK K ; have hHeld := hHeld2; clear hHeld2
                    try simp only [List.getElem_toArray, List.getElem_cons_zero, List.getElem_cons_succ, Act.put, List.setIfInBounds_toArray, List.set_cons_zero, List.set_cons_succ]
                    refine wpAnyL_one (i := 22) (by kernel_rfl) rfl rfl hHeld (fun K hK => ?_)
                    go_simp
                    have D2 := Lib.hid (D1.out.alloc (.cells #[.int .i64 (nb : Int)] 3))
                    refine hK.out _ _ (by intro p hp hl; simp only [List.mem_cons, List.not_mem_nil, or_false] at hp; rcases hp with rfl | rfl; exact D2.out.c1; exact Bool.noConfusion (hl.symm.trans (show _ = true by kernel_rfl))) (fun hHeld2 => ?_)
                    clear hHeld hK K ; have hHeld := hHeld2; clear hHeld2
                    try simp only [List.getElem_toArray, List.getElem_cons_zero, List.getElem_cons_succ, Act.put, List.setIfInBounds_toArray, List.set_cons_zero, List.set_cons_succ]
                    refine wpAnyL_one (i := 23) (by kernel_rfl) rfl rfl hHeld (fun K hK => ?_)
                    have hown1 := D1.out.own
                    rw [HLE.out] at hown1
                    refine wp_append_row (.tmp 183) (.tmp 201) 71 rfl base 3 (.int .i64 0) 8 Tryd.underlying71 info_int rfl _ lj (vals .i64 ll) (.int .i64 (nb : Int)) rfl hown1 rfl rfl hlj32 (by omega) D1.out.hbase ?_
                    intro gD cD w3 hown3 hbel3 hoth3
                    obtain ⟨hY3, hneD⟩ := hoth3 gw yl HYd.out (by omega) hne
                    rw [← HLE.out] at hown3
                    obtain ⟨k1, kf, hR3⟩ := D1.out.more hown3 hbel3
                    rw [HLE.out] at hR3
                    have R3 := Lib.hid hR3
                    have hgwg : g ≠ gw := fun e => by
                      have h1 := HYd.out.cell 1 (by omega)
                      have h2 := D1.out.c1
                      rw [e] at h2
                      rw [h1] at h2
                      cases h2
                    have Y3 := Lib.hid (hY3.beside ⟨g, 1, none⟩ (.slice (some ⟨gD, 0, none⟩) (lj + 1) cD) hgwg)
                    clear hR3 hown3 hbel3 hoth3 D2 hY3 hown1
                    refine hK.out _ _ (by intro p hp hl; simp only [List.mem_cons, List.not_mem_nil, or_false] at hp; rcases hp with rfl | rfl <;> exact Bool.noConfusion (hl.symm.trans (show _ = true by kernel_rfl))) (fun hHeld2 => ?_)
                    clear hHeld hK K ; have hHeld := hHeld2; clear hHeld2
                    try simp only [List.getElem_toArray, List.getElem_cons_zero, List.getElem_cons_succ, Act.put, List.setIfInBounds_toArray, List.set_cons_zero, List.set_cons_succ]
                    refine wpAnyL_one (i := 24) (by kernel_rfl) rfl rfl hHeld (fun K hK => ?_)
                    go_simp
                    refine hK.out _ _ (by intro p hp hl; simp only [List.mem_cons, List.not_mem_nil, or_false] at hp; rcases hp with rfl | rfl <;> exact Bool.noConfusion (hl.symm.trans (show _ = true by kernel_rfl))) (fun hHeld2 => ?_)
                    clear hHeld hK K ; have hHeld := hHeld2; clear hHeld2
                    try simp only [List.getElem_toArray, List.getElem_cons_zero, List.getElem_cons_succ, Act.put, List.setIfInBounds_toArray, List.set_cons_zero, List.set_cons_succ]
                    refine wpAnyL_one (i := 25) (by kernel_rfl) rfl rfl hHeld (fun K hK => ?_)
                    go_simp
                    refine hK.out _ _ (by intro p hp hl; simp only [List.mem_cons, List.not_mem_nil, or_false] at hp; rcases hp with rfl | rfl <;> exact Bool.noConfusion (hl.symm.trans (show _ = true by kernel_rfl))) (fun hHeld2 => ?_)
                    clear hHeld hK K ; have hHeld := hHeld2; clear hHeld2
                    try simp only [List.getElem_toArray, List.getElem_cons_zero, List.getElem_cons_succ, Act.put, List.setIfInBounds_toArray, List.set_cons_zero, List.set_cons_succ]
                    refine wpAnyL_one (i := 26) (by kernel_rfl) rfl rfl hHeld (fun K hK => ?_)
                    go_simp
                    refine hK.out _ _ (by intro p hp hl; simp only [List.mem_cons, List.not_mem_nil, or_false] at hp; rcases hp with rfl | rfl <;> exact Bool.noConfusion (hl.symm.trans (show _ = true by kernel_rfl))) (fun hHeld2 => ?_)
                    clear hHeld hK K ; have hHeld := hHeld2; clear hHeld2
                    try simp only [List.getElem_toArray, List.getElem_cons_zero, List.getElem_cons_succ, Act.put, List.setIfInBounds_toArray, List.set_cons_zero, List.set_cons_succ]
                    refine wpAnyL_done (by kernel_rfl) ?_ _
                    rw [← HTK.out] at R3
                    clear hHeld D1 k1 kf HYd
                    go_wp2
                    go_roundw
                    case rel => exact ⟨j + 1, _, by omega, by go_num, R3.out, Y3.out, fun e => hneD (by simpa [Value.ownBlock] using e)⟩
                    case measure => simp [intOf]; omega
                  · obtain rfl : j = 4 := by omega
                    have e4 : ((List.range 4).map (rby 8 i p l)).take 4 = (List.range 4).map (rby 8 i p l) := List.take_of_length_le (by simp)
                    rw [e4, ← NR.out] at hR
                    have HR := Lib.hid hR
                    have hls : (rstep 8 i p l).length = 4 * (i + 1) := by rw [NR.out, List.length_append, ← HLN.out]; simp; have := HLI.out; omega
                    have hbs : ∀ t, (rstep 8 i p l).getD t 0 < 256 := by
                      intro t
                      rw [NR.out]
                      by_cases h1 : t < l.length
                      · rw [List.getD_eq_getElem?_getD, List.getElem?_append_left h1, ← List.getD_eq_getElem?_getD]; exact HLB.out t
                      · rw [List.getD_eq_getElem?_getD, List.getElem?_append_right (by omega), ← List.getD_eq_getElem?_getD]
                        by_cases h2 : t - l.length < 4
                        · rw [map_get _ _ _ h2]; exact NB.out _ h2
                        · rw [getD_out _ _ (by simp; omega)]; omega
                    have hfn := HFF.out
                    rw [show 60 - i = (60 - (i + 1)) + 1 by omega] at hfn
                    have HFN := Lib.hid (show rfill 8 (60 - (i + 1)) (i + 1) (rplus 8 i p) (rstep 8 i p l) = whole from hfn)
                    rw [PL.out] at HFN
                    have HLS := Lib.hid hls
                    have HBS := Lib.hid hbs
                    clear hR hfn hls hbs e4 HFF NR
                    generalize rstep 8 i p l = lnew at *
                    go_wp2
                    go_roundw
                    case rel => exact ⟨i + 1, _, lnew, _, by omega, by omega, by go_num, rfl, hp2, HLS.out, HBS.out, HFN.out, HR.out⟩
                    case measure => simp [intOf]; omega
            · have t4 : ((i : Int) % 8 == 4) = false := by simp; omega
              rw [if_neg (fun h => hk4 h.2)] at V0 V1 V2 V3
              go_wp2_with fail
              as_aux_lemma =>
                have H6 := G3
                have H7 := G4
                clear G3 G4 G5
                generalize wd.alloc (.cells #[.int .i64 (x0 : Int), .int .i64 (x1 : Int), .int .i64 (x2 : Int), .int .i64 (x3 : Int)] 3) = wz0 at *
                generalize wd.heap.size = gw at *
                have hgw : gB ≠ gw := by omega
                have WY : ∀ t, t < 4 → [x0, x1, x2, x3].getD t 0 = rw4 8 i p l t := by
                  intro t ht
                  have h4 : t = 0 ∨ t = 1 ∨ t = 2 ∨ t = 3 := by omega
                  rcases h4 with rfl | rfl | rfl | rfl
                  · exact V0.out.symm
                  · exact V1.out.symm
                  · exact V2.out.symm
                  · exact V3.out.symm
                have WL : ∀ t, [x0, x1, x2, x3].getD t 0 < 256 := by
                  intro t
                  match t with
                  | 0 => exact (show x0 < 256 by omega)
                  | 1 => exact (show x1 < 256 by omega)
                  | 2 => exact (show x2 < 256 by omega)
                  | 3 => exact (show x3 < 256 by omega)
                  | t + 4 => exact (show (0 : Nat) < 256 by omega)
                have LY : [x0, x1, x2, x3].length = 4 := rfl
                have WY := Lib.hid WY
                have WL := Lib.hid WL
                have NR := Lib.hid (show rstep 8 i p l = l ++ (List.range 4).map (rby 8 i p l) from rfl)
                have NB := Lib.hid (show ∀ t, t < 4 → rby 8 i p l t < 256 from fun t ht => xor_lt (HLB.out _) (by rw [← WY.out t ht]; exact WL.out t))
                generalize [x0, x1, x2, x3] = yl at *
                clear V0 V1 V2 V3
                go_loopw [9] (fun jv wr => ∃ (j : Nat) (v : Value), j ≤ 4 ∧ jv = .int .i64 (j : Nat) ∧ RK w wr g gb cb 14 base v (l ++ ((List.range 4).map (rby 8 i p l)).take j) ∧ Holds wr gw .i64 yl ∧ v.ownBlock ≠ some gw) (fun jv _ => 4 - (intOf jv).toNat)
                case atStart => exact ⟨0, _, by omega, rfl, by simpa using H6.out, H7.out, fun e => hgw (by simpa [Value.ownBlock] using e)⟩
                case round =>
                  clear H6 H7
                  obtain ⟨j, v, hj, rfl, hR, hY, hne⟩ := hrel
                  by_cases hjt : j < 4
                  · have tj : decide ((j : Int) < 4) = true := by simp; omega
                    have jj : (j : Int) < 4 := by omega
                    have hlen : (l ++ ((List.range 4).map (rby 8 i p l)).take j).length = ln + j := by
                      rw [List.length_append, ← HLN.out, List.length_take, List.length_map, List.length_range, Nat.min_eq_left (by omega)]
                    obtain ⟨gC, cC, hv, -, hKey⟩ := hR.key (by rw [hlen]; have := HLI.out; omega)
                    subst hv
                    obtain ⟨mi, hmi⟩ : ∃ mi, mi = i - 8 := ⟨_, rfl⟩
                    obtain ⟨m4, hm4⟩ : ∃ m4, m4 = 4 * mi := ⟨_, rfl⟩
                    obtain ⟨ee, hee⟩ : ∃ ee, ee = m4 + j := ⟨_, rfl⟩
                    have f1 : (i : Int) - 8 = (mi : Int) := by omega
                    have f2 : 4 * (mi : Int) = (m4 : Int) := by omega
                    have f3 : (m4 : Int) + (j : Int) = (ee : Int) := by omega
                    have g1 := wrap_nat mi (by omega)
                    have g2 := wrap_nat m4 (by omega)
                    have g3 := wrap_nat ee (by omega)
                    have hel : ee < ln := by have := HLI.out; omega
                    have hge : (l ++ ((List.range 4).map (rby 8 i p l)).take j).getD ee 0 = l.getD ee 0 := by
                      rw [List.getD_eq_getElem?_getD, List.getD_eq_getElem?_getD, List.getElem?_append_left (by rw [← HLN.out]; exact hel)]
                    have hnb : rby 8 i p l j = l.getD ee 0 ^^^ yl.getD j 0 := by rw [rby, WY.out j hjt, hee, hm4, hmi]
                    have hx1 := HLB.out ee
                    have hx2 := WL.out j
                    have XC := Lib.hid (fun w' => xor64' (l.getD ee 0) (yl.getD j 0) (by omega) (by omega) w')
                    rw [← hnb] at XC
                    have ce := hKey.bytes.cell ee (by rw [hlen]; omega)
                    rw [hge] at ce
                    have cy := hY.cell j (by omega)
                    have hTK : (l ++ ((List.range 4).map (rby 8 i p l)).take (j + 1)) = (l ++ ((List.range 4).map (rby 8 i p l)).take j) ++ [rby 8 i p l j] := by
                      rw [take_more' _ j (by simp; omega), map_get _ _ _ hjt, List.append_assoc]
                    have hii : (ee : Int) < ((ln + j : Nat) : Int) := by omega
                    have hbr := NB.out j hjt
                    rw [hlen] at hR
                    have HR := Lib.hid hR
                    have HY := Lib.hid hY
                    have HTK := Lib.hid hTK
                    have HLE := Lib.hid hlen
                    clear hnb hge hKey hR hY hTK hlen hmi hm4 hee
                    generalize hLL : l ++ ((List.range 4).map (rby 8 i p l)).take j = ll at *
                    clear hLL
                    generalize rby 8 i p l j = nb at *
                    generalize l.getD ee 0 = ex at *
                    generalize yl.getD j 0 = ey at *
                    obtain ⟨lj, hlj⟩ : ∃ lj, lj = ln + j := ⟨_, rfl⟩
                    rw [← hlj] at HR HLE hii
                    have HLJ := Lib.hid hlj
                    clear hlj
                    have hlj32 : lj ≤ 4294967296 := by have := HLJ.out; have := HLI.out; omega
                    go_wp2_with fail
                    have D1 := Lib.hid HR.out.drew
                    have A1 := D1.out.c1
                    refine wp_region_L [(23, fun w' => w'.cell? ⟨g, 1, none⟩ = some (.slice (some ⟨gC, 0, none⟩) lj cC)), (21, fun w' => w'.cell? ⟨gC, ee, none⟩ = some (.int .i64 (ex : Int)) ∧ w'.cell? ⟨gw, j, none⟩ = some (.int .i64 (ey : Int)) ∧ w'.cell? ⟨g, 1, none⟩ = some (.slice (some ⟨gC, 0, none⟩) lj cC))] 27 #[false, false, false, false, false, false, false, false, false, false, false, false, false, false, false, false, false, false, false, false, false, false, false, false, false, false, false] (by kernel_rfl) (by rfl) (by kernel_rfl) (by intro p hp; simp only [List.mem_cons, List.not_mem_nil, or_false] at hp; rcases hp with rfl | rfl; exact A1; exact ⟨ce, cy, A1⟩) (fun hHeld => ?_)
                    have HYd := Lib.hid HY.out.drew
                    clear A1 ce cy HR HY
                    generalize wr.drew = wq at *
                    refine wpAnyL_take (i := 0) (v := ?_) rfl (by kernel_rfl) (by kernel_rfl) (by kernel_rfl) (by rfl) (fun _ _ _ h => h) (Or.inl ⟨by rfl, ?_⟩) hHeld (fun hHeld2 => ?_)
                    rotate_left
                    · (intro wz hSw; go_simp; try with_reducible rfl)
                    clear hHeld; have hHeld := hHeld2; clear hHeld2
                    try simp only [List.getElem_toArray, List.getElem_cons_zero, List.getElem_cons_succ, Act.put, List.setIfInBounds_toArray, List.set_cons_zero, List.set_cons_succ]
                    refine wpAnyL_take (i := 1) (v := ?_) rfl (by kernel_rfl) (by kernel_rfl) (by kernel_rfl) (by rfl) (fun _ _ _ h => h) (Or.inl ⟨by rfl, ?_⟩) hHeld (fun hHeld2 => ?_)
                    rotate_left
                    · (intro wz hSw; go_simp; try with_reducible rfl)
                    clear hHeld; have hHeld := hHeld2; clear hHeld2
                    try simp only [List.getElem_toArray, List.getElem_cons_zero, List.getElem_cons_succ, Act.put, List.setIfInBounds_toArray, List.set_cons_zero, List.set_cons_succ]
                    refine wpAnyL_take (i := 2) (v := ?_) rfl (by kernel_rfl) (by kernel_rfl) (by kernel_rfl) (by rfl) (fun _ _ _ h => h) (Or.inl ⟨by rfl, ?_⟩) hHeld (fun hHeld2 => ?_)
                    rotate_left
                    · (intro wz hSw; go_simp; try with_reducible rfl)
                    clear hHeld; have hHeld := hHeld2; clear hHeld2
                    try simp only [List.getElem_toArray, List.getElem_cons_zero, List.getElem_cons_succ, Act.put, List.setIfInBounds_toArray, List.set_cons_zero, List.set_cons_succ]
                    refine wpAnyL_take (i := 3) (v := ?_) rfl (by kernel_rfl) (by kernel_rfl) (by kernel_rfl) (by rfl) (fun _ _ _ h => h) (Or.inl ⟨by rfl, ?_⟩) hHeld (fun hHeld2 => ?_)
                    rotate_left
                    · (intro wz hSw; go_simp; try with_reducible rfl)
                    clear hHeld; have hHeld := hHeld2; clear hHeld2
                    try simp only [List.getElem_toArray, List.getElem_cons_zero, List.getElem_cons_succ, Act.put, List.setIfInBounds_toArray, List.set_cons_zero, List.set_cons_succ]
                    refine wpAnyL_take (i := 4) (v := ?_) rfl (by kernel_rfl) (by kernel_rfl) (by kernel_rfl) (by rfl) (fun _ _ _ h => h) (Or.inl ⟨by rfl, ?_⟩) hHeld (fun hHeld2 => ?_)
                    rotate_left
                    · (intro wz hSw; have k1 : wz.cell? ⟨g, 1, none⟩ = some (.slice (some ⟨gC, 0, none⟩) lj cC) := hSw.get _ (List.Mem.head _) 0 (by kernel_rfl); go_simp; try with_reducible rfl)
                    clear hHeld; have hHeld := hHeld2; clear hHeld2
                    try simp only [List.getElem_toArray, List.getElem_cons_zero, List.getElem_cons_succ, Act.put, List.setIfInBounds_toArray, List.set_cons_zero, List.set_cons_succ]
                    refine wpAnyL_take (i := 5) (v := ?_) rfl (by kernel_rfl) (by kernel_rfl) (by kernel_rfl) (by rfl) (fun _ _ _ h => h) (Or.inl ⟨by rfl, ?_⟩) hHeld (fun hHeld2 => ?_)
                    rotate_left
                    · (intro wz hSw; go_simp; try with_reducible rfl)
                    clear hHeld; have hHeld := hHeld2; clear hHeld2
                    try simp only [List.getElem_toArray, List.getElem_cons_zero, List.getElem_cons_succ, Act.put, List.setIfInBounds_toArray, List.set_cons_zero, List.set_cons_succ]
                    refine wpAnyL_take (i := 6) (v := ?_) rfl (by kernel_rfl) (by kernel_rfl) (by kernel_rfl) (by rfl) (fun _ _ _ h => h) (Or.inl ⟨by rfl, ?_⟩) hHeld (fun hHeld2 => ?_)
                    rotate_left
                    · (intro wz hSw; go_simp; try with_reducible rfl)
                    clear hHeld; have hHeld := hHeld2; clear hHeld2
                    try simp only [List.getElem_toArray, List.getElem_cons_zero, List.getElem_cons_succ, Act.put, List.setIfInBounds_toArray, List.set_cons_zero, List.set_cons_succ]
                    refine wpAnyL_take (i := 7) (v := ?_) rfl (by kernel_rfl) (by kernel_rfl) (by kernel_rfl) (by rfl) (fun _ _ _ h => h) (Or.inl ⟨by rfl, ?_⟩) hHeld (fun hHeld2 => ?_)
                    rotate_left
                    · (intro wz hSw; go_simp; try with_reducible rfl)
                    clear hHeld; have hHeld := hHeld2; clear hHeld2
                    try simp only [List.getElem_toArray, List.getElem_cons_zero, List.getElem_cons_succ, Act.put, List.setIfInBounds_toArray, List.set_cons_zero, List.set_cons_succ]
                    refine wpAnyL_take (i := 8) (v := ?_) rfl (by kernel_rfl) (by kernel_rfl) (by kernel_rfl) (by rfl) (fun _ _ _ h => h) (Or.inl ⟨by rfl, ?_⟩) hHeld (fun hHeld2 => ?_)
                    rotate_left
                    · (intro wz hSw; have k0 : wz.cell? ⟨gC, ee, none⟩ = some (.int .i64 (ex : Int)) ∧ wz.cell? ⟨gw, j, none⟩ = some (.int .i64 (ey : Int)) ∧ wz.cell? ⟨g, 1, none⟩ = some (.slice (some ⟨gC, 0, none⟩) lj cC) := hSw.get _ (List.Mem.tail _ (List.Mem.head _)) 3 (by kernel_rfl); obtain ⟨k1, k2, k3⟩ := k0; go_simp; try with_reducible rfl)
                    clear hHeld; have hHeld := hHeld2; clear hHeld2
                    try simp only [List.getElem_toArray, List.getElem_cons_zero, List.getElem_cons_succ, Act.put, List.setIfInBounds_toArray, List.set_cons_zero, List.set_cons_succ]
                    refine wpAnyL_take (i := 9) (v := ?_) rfl (by kernel_rfl) (by kernel_rfl) (by kernel_rfl) (by rfl) (fun _ _ _ h => h) (Or.inl ⟨by rfl, ?_⟩) hHeld (fun hHeld2 => ?_)
                    rotate_left
                    · (intro wz hSw; go_simp; try with_reducible rfl)
                    clear hHeld; have hHeld := hHeld2; clear hHeld2
                    try simp only [List.getElem_toArray, List.getElem_cons_zero, List.getElem_cons_succ, Act.put, List.setIfInBounds_toArray, List.set_cons_zero, List.set_cons_succ]
                    refine wpAnyL_take (i := 10) (v := ?_) rfl (by kernel_rfl) (by kernel_rfl) (by kernel_rfl) (by rfl) (fun _ _ _ h => h) (Or.inl ⟨by rfl, ?_⟩) hHeld (fun hHeld2 => ?_)
                    rotate_left
                    · (intro wz hSw; go_simp; try with_reducible rfl)
                    clear hHeld; have hHeld := hHeld2; clear hHeld2
                    try simp only [List.getElem_toArray, List.getElem_cons_zero, List.getElem_cons_succ, Act.put, List.setIfInBounds_toArray, List.set_cons_zero, List.set_cons_succ]
                    refine wpAnyL_take (i := 11) (v := ?_) rfl (by kernel_rfl) (by kernel_rfl) (by kernel_rfl) (by rfl) (fun _ _ _ h => h) (Or.inl ⟨by rfl, ?_⟩) hHeld (fun hHeld2 => ?_)
                    rotate_left
                    · (intro wz hSw; go_simp; try with_reducible rfl)
                    clear hHeld; have hHeld := hHeld2; clear hHeld2
                    try simp only [List.getElem_toArray, List.getElem_cons_zero, List.getElem_cons_succ, Act.put, List.setIfInBounds_toArray, List.set_cons_zero, List.set_cons_succ]
                    refine wpAnyL_take (i := 12) (v := ?_) rfl (by kernel_rfl) (by kernel_rfl) (by kernel_rfl) (by rfl) (fun _ _ _ h => h) (Or.inl ⟨by rfl, ?_⟩) hHeld (fun hHeld2 => ?_)
                    rotate_left
                    · (intro wz hSw; go_simp; try with_reducible rfl)
                    clear hHeld; have hHeld := hHeld2; clear hHeld2
                    try simp only [List.getElem_toArray, List.getElem_cons_zero, List.getElem_cons_succ, Act.put, List.setIfInBounds_toArray, List.set_cons_zero, List.set_cons_succ]
                    refine wpAnyL_take (i := 13) (v := ?_) rfl (by kernel_rfl) (by kernel_rfl) (by kernel_rfl) (by rfl) (fun _ _ _ h => h) (Or.inl ⟨by rfl, ?_⟩) hHeld (fun hHeld2 => ?_)
                    rotate_left
                    · (intro wz hSw; go_simp; try with_reducible rfl)
                    clear hHeld; have hHeld := hHeld2; clear hHeld2
                    try simp only [List.getElem_toArray, List.getElem_cons_zero, List.getElem_cons_succ, Act.put, List.setIfInBounds_toArray, List.set_cons_zero, List.set_cons_succ]
                    refine wpAnyL_take (i := 14) (v := ?_) rfl (by kernel_rfl) (by kernel_rfl) (by kernel_rfl) (by rfl) (fun _ _ _ h => h) (Or.inl ⟨by rfl, ?_⟩) hHeld (fun hHeld2 => ?_)
                    rotate_left
                    · (intro wz hSw; go_simp; try with_reducible rfl)
                    clear hHeld; have hHeld := hHeld2; clear hHeld2
                    try simp only [List.getElem_toArray, List.getElem_cons_zero, List.getElem_cons_succ, Act.put, List.setIfInBounds_toArray, List.set_cons_zero, List.set_cons_succ]
                    refine wpAnyL_take (i := 15) (v := ?_) rfl (by kernel_rfl) (by kernel_rfl) (by kernel_rfl) (by rfl) (fun _ _ _ h => h) (Or.inl ⟨by rfl, ?_⟩) hHeld (fun hHeld2 => ?_)
                    rotate_left
                    · (intro wz hSw; go_simp; try with_reducible rfl)
                    clear hHeld; have hHeld := hHeld2; clear hHeld2
                    try simp only [List.getElem_toArray, List.getElem_cons_zero, List.getElem_cons_succ, Act.put, List.setIfInBounds_toArray, List.set_cons_zero, List.set_cons_succ]
                    refine wpAnyL_take (i := 16) (v := ?_) rfl (by kernel_rfl) (by kernel_rfl) (by kernel_rfl) (by rfl) (fun _ _ _ h => h) (Or.inl ⟨by rfl, ?_⟩) hHeld (fun hHeld2 => ?_)
                    rotate_left
                    · (intro wz hSw; have k0 : wz.cell? ⟨gC, ee, none⟩ = some (.int .i64 (ex : Int)) ∧ wz.cell? ⟨gw, j, none⟩ = some (.int .i64 (ey : Int)) ∧ wz.cell? ⟨g, 1, none⟩ = some (.slice (some ⟨gC, 0, none⟩) lj cC) := hSw.get _ (List.Mem.tail _ (List.Mem.head _)) 0 (by kernel_rfl); obtain ⟨k1, k2, k3⟩ := k0; go_simp; try with_reducible rfl)
                    clear hHeld; have hHeld := hHeld2; clear hHeld2
                    try simp only [List.getElem_toArray, List.getElem_cons_zero, List.getElem_cons_succ, Act.put, List.setIfInBounds_toArray, List.set_cons_zero, List.set_cons_succ]
                    refine wpAnyL_take (i := 17) (v := ?_) rfl (by kernel_rfl) (by kernel_rfl) (by kernel_rfl) (by rfl) (fun _ _ _ h => h) (Or.inl ⟨by rfl, ?_⟩) hHeld (fun hHeld2 => ?_)
                    rotate_left
                    · (intro wz hSw; go_simp; try with_reducible rfl)
                    clear hHeld; have hHeld := hHeld2; clear hHeld2
                    try simp only [List.getElem_toArray, List.getElem_cons_zero, List.getElem_cons_succ, Act.put, List.setIfInBounds_toArray, List.set_cons_zero, List.set_cons_succ]
                    refine wpAnyL_take (i := 18) (v := ?_) rfl (by kernel_rfl) (by kernel_rfl) (by kernel_rfl) (by rfl) (fun _ _ _ h => h) (Or.inl ⟨by rfl, ?_⟩) hHeld (fun hHeld2 => ?_)
                    rotate_left
                    · (intro wz hSw; go_simp; try with_reducible rfl)
                    clear hHeld; have hHeld := hHeld2; clear hHeld2
                    try simp only [List.getElem_toArray, List.getElem_cons_zero, List.getElem_cons_succ, Act.put, List.setIfInBounds_toArray, List.set_cons_zero, List.set_cons_succ]
                    refine wpAnyL_take (i := 19) (v := ?_) rfl (by kernel_rfl) (by kernel_rfl) (by kernel_rfl) (by rfl) (fun _ _ _ h => h) (Or.inl ⟨by rfl, ?_⟩) hHeld (fun hHeld2 => ?_)
                    rotate_left
                    · (intro wz hSw; go_simp; try with_reducible rfl)
                    clear hHeld; have hHeld := hHeld2; clear hHeld2
                    try simp only [List.getElem_toArray, List.getElem_cons_zero, List.getElem_cons_succ, Act.put, List.setIfInBounds_toArray, List.set_cons_zero, List.set_cons_succ]
                    refine wpAnyL_take (i := 20) (v := ?_) rfl (by kernel_rfl) (by kernel_rfl) (by kernel_rfl) (by rfl) (fun _ _ _ h => h) (Or.inl ⟨by rfl, ?_⟩) hHeld (fun hHeld2 => ?_)
                    rotate_left
                    · (intro wz hSw; have k0 : wz.cell? ⟨gC, ee, none⟩ = some (.int .i64 (ex : Int)) ∧ wz.cell? ⟨gw, j, none⟩ = some (.int .i64 (ey : Int)) ∧ wz.cell? ⟨g, 1, none⟩ = some (.slice (some ⟨gC, 0, none⟩) lj cC) := hSw.get _ (List.Mem.tail _ (List.Mem.head _)) 0 (by kernel_rfl); obtain ⟨k1, k2, k3⟩ := k0; go_simp; try with_reducible rfl)
                    clear hHeld; have hHeld := hHeld2; clear hHeld2
                    try simp only [List.getElem_toArray, List.getElem_cons_zero, List.getElem_cons_succ, Act.put, List.setIfInBounds_toArray, List.set_cons_zero, List.set_cons_succ]
                    refine wpAnyL_one (i := 21) (by kernel_rfl) rfl rfl hHeld (fun K hK => ?_)
                    go_simp
                    refine (XC.out _).mono ?_
                    rintro e w' ⟨rfl, rfl⟩
                    refine hK.out _ _ (by intro p hp hl; simp only [List.mem_cons, List.not_mem_nil, or_false] at hp; rcases hp with rfl | rfl; exact D1.out.c1; exact Bool.noConfusion (hl.symm.trans (show _ = true by kernel_rfl))) (fun hHeld2 => ?_)
                    clear hHeld hK K ; have hHeld := hHeld2; clear hHeld2
                    try simp only [List.getElem_toArray, List.getElem_cons_zero, List.getElem_cons_succ, Act.put, List.setIfInBounds_toArray, List.set_cons_zero, List.set_cons_succ]
                    refine wpAnyL_one (i := 22) (by kernel_rfl) rfl rfl hHeld (fun K hK => ?_)
                    go_simp
                    have D2 := Lib.hid (D1.out.alloc (.cells #[.int .i64 (nb : Int)] 3))
                    refine hK.out _ _ (by intro p hp hl; simp only [List.mem_cons, List.not_mem_nil, or_false] at hp; rcases hp with rfl | rfl; exact D2.out.c1; exact Bool.noConfusion (hl.symm.trans (show _ = true by kernel_rfl))) (fun hHeld2 => ?_)
                    clear hHeld hK K ; have hHeld := hHeld2; clear hHeld2
                    try simp only [List.getElem_toArray, List.getElem_cons_zero, List.getElem_cons_succ, Act.put, List.setIfInBounds_toArray, List.set_cons_zero, List.set_cons_succ]
                    refine wpAnyL_one (i := 23) (by kernel_rfl) rfl rfl hHeld (fun K hK => ?_)
                    have hown1 := D1.out.own
                    rw [HLE.out] at hown1
                    refine wp_append_row (.tmp 183) (.tmp 201) 71 rfl base 3 (.int .i64 0) 8 Tryd.underlying71 info_int rfl _ lj (vals .i64 ll) (.int .i64 (nb : Int)) rfl hown1 rfl rfl hlj32 (by omega) D1.out.hbase ?_
                    intro gD cD w3 hown3 hbel3 hoth3
                    obtain ⟨hY3, hneD⟩ := hoth3 gw yl HYd.out (by omega) hne
                    rw [← HLE.out] at hown3
                    obtain ⟨k1, kf, hR3⟩ := D1.out.more hown3 hbel3
                    rw [HLE.out] at hR3
                    have R3 := Lib.hid hR3
                    have hgwg : g ≠ gw := fun e => by
                      have h1 := HYd.out.cell 1 (by omega)
                      have h2 := D1.out.c1
                      rw [e] at h2
                      rw [h1] at h2
                      cases h2
                    have Y3 := Lib.hid (hY3.beside ⟨g, 1, none⟩ (.slice (some ⟨gD, 0, none⟩) (lj + 1) cD) hgwg)
                    clear hR3 hown3 hbel3 hoth3 D2 hY3 hown1
                    refine hK.out _ _ (by intro p hp hl; simp only [List.mem_cons, List.not_mem_nil, or_false] at hp; rcases hp with rfl | rfl <;> exact Bool.noConfusion (hl.symm.trans (show _ = true by kernel_rfl))) (fun hHeld2 => ?_)
                    clear hHeld hK K ; have hHeld := hHeld2; clear hHeld2
                    try simp only [List.getElem_toArray, List.getElem_cons_zero, List.getElem_cons_succ, Act.put, List.setIfInBounds_toArray, List.set_cons_zero, List.set_cons_succ]
                    refine wpAnyL_one (i := 24) (by kernel_rfl) rfl rfl hHeld (fun K hK => ?_)
                    go_simp
                    refine hK.out _ _ (by intro p hp hl; simp only [List.mem_cons, List.not_mem_nil, or_false] at hp; rcases hp with rfl | rfl <;> exact Bool.noConfusion (hl.symm.trans (show _ = true by kernel_rfl))) (fun hHeld2 => ?_)
                    clear hHeld hK K ; have hHeld := hHeld2; clear hHeld2
                    try simp only [List.getElem_toArray, List.getElem_cons_zero, List.getElem_cons_succ, Act.put, List.setIfInBounds_toArray, List.set_cons_zero, List.set_cons_succ]
                    refine wpAnyL_one (i := 25) (by kernel_rfl) rfl rfl hHeld (fun K hK => ?_)
                    go_simp
                    refine hK.out _ _ (by intro p hp hl; simp only [List.mem_cons, List.not_mem_nil, or_false] at hp; rcases hp with rfl | rfl <;> exact Bool.noConfusion (hl.symm.trans (show _ = true by kernel_rfl))) (fun hHeld2 => ?_)
                    clear hHeld hK K ; have hHeld := hHeld2; clear hHeld2
                    try simp only [List.getElem_toArray, List.getElem_cons_zero, List.getElem_cons_succ, Act.put, List.setIfInBounds_toArray, List.set_cons_zero, List.set_cons_succ]
                    refine wpAnyL_one (i := 26) (by kernel_rfl) rfl rfl hHeld (fun K hK => ?_)
                    go_simp
                    refine hK.out _ _ (by intro p hp hl; simp only [List.mem_cons, List.not_mem_nil, or_false] at hp; rcases hp with rfl | rfl <;> exact Bool.noConfusion (hl.symm.trans (show _ = true by kernel_rfl))) (fun hHeld2 => ?_)
                    clear hHeld hK K ; have hHeld := hHeld2; clear hHeld2
                    try simp only [List.getElem_toArray, List.getElem_cons_zero, List.getElem_cons_succ, Act.put, List.setIfInBounds_toArray, List.set_cons_zero, List.set_cons_succ]
                    refine wpAnyL_done (by kernel_rfl) ?_ _
                    rw [← HTK.out] at R3
                    clear hHeld D1 k1 kf HYd
                    go_wp2
                    go_roundw
                    case rel => exact ⟨j + 1, _, by omega, by go_num, R3.out, Y3.out, fun e => hneD (by simpa [Value.ownBlock] using e)⟩
                    case measure => simp [intOf]; omega
                  · obtain rfl : j = 4 := by omega
                    have e4 : ((List.range 4).map (rby 8 i p l)).take 4 = (List.range 4).map (rby 8 i p l) := List.take_of_length_le (by simp)
                    rw [e4, ← NR.out] at hR
                    have HR := Lib.hid hR
                    have hls : (rstep 8 i p l).length = 4 * (i + 1) := by rw [NR.out, List.length_append, ← HLN.out]; simp; have := HLI.out; omega
                    have hbs : ∀ t, (rstep 8 i p l).getD t 0 < 256 := by
                      intro t
                      rw [NR.out]
                      by_cases h1 : t < l.length
                      · rw [List.getD_eq_getElem?_getD, List.getElem?_append_left h1, ← List.getD_eq_getElem?_getD]; exact HLB.out t
                      · rw [List.getD_eq_getElem?_getD, List.getElem?_append_right (by omega), ← List.getD_eq_getElem?_getD]
                        by_cases h2 : t - l.length < 4
                        · rw [map_get _ _ _ h2]; exact NB.out _ h2
                        · rw [getD_out _ _ (by simp; omega)]; omega
                    have hfn := HFF.out
                    rw [show 60 - i = (60 - (i + 1)) + 1 by omega] at hfn
                    have HFN := Lib.hid (show rfill 8 (60 - (i + 1)) (i + 1) (rplus 8 i p) (rstep 8 i p l) = whole from hfn)
                    rw [PL.out] at HFN
                    have HLS := Lib.hid hls
                    have HBS := Lib.hid hbs
                    clear hR hfn hls hbs e4 HFF NR
                    generalize rstep 8 i p l = lnew at *
                    go_wp2
                    go_roundw
                    case rel => exact ⟨i + 1, _, lnew, _, by omega, by omega, by go_num, rfl, hp2, HLS.out, HBS.out, HFN.out, HR.out⟩
                    case measure => simp [intOf]; omega
        · obtain rfl : i = 60 := by omega
          have hfin : l = allB (words bs 8) (4 * (8 + 7)) := Eq.trans hf HWH.out
          subst hfin
          obtain ⟨gB, cB, -, -, hKey⟩ := R1.out.key (by omega)
          have HK := Lib.hid hKey
          clear hKey hf hll hlb
          go_wp2
          go_ret
          exact ⟨g, gB, cB, gb, cb, rfl, HK.out, R1.out.bel⟩
end Go.Proofs.YtdjknmnmacppdaaDoor
