/-
  Contracts of xts's turned, Encrypt and Decrypt. Conditions: the sector lies in its block, the bytes in their slice. (Written by tools/gen_turn10.py.)
-/
import Derived.Test.YtdjknmnmacppdaaDoorXtTwAll
import Derived.Test.YtdjknmnmacppdaaDoorAesDec
import Derived.Test.YtdjknmnmacppdaaDoorHeldList
import Derived.Deep.Cut
namespace Go.Proofs.YtdjknmnmacppdaaDoor
open Go.RowKit Arr Gf Sb Ae Xt
set_option linter.unusedSimpArgs false

section
variable {ks b : List Nat} {g g1 g2 n c : Nat} {A : Option Addr} {w : World}
/-- Where there is no tweak there is no sector. -/
theorem turned_none (sv tv : Value) (nu : Int) (x : Nat) (hx : x ≠ 0) (CT : Calls Tryd.prog 13 #[sv, .int .i64 nu, .int .i64 0] w (GivesT (zs 16) x w)) :
    Calls Tryd.prog 17 #[sv, .int .i64 nu, .slice A n c, tv] w (GivesX [] x w) := by
  have C0 := Lib.hid CT
  have t1 : ((x : Int) != 0) = true := by simp; omega
  have t2 : ((x : Int) == 0) = false := by simp; omega
  have t3 : (x : Int) ≠ 0 := by omega
  clear CT hx
  go_enter Tryd.func17, Tryd.ntmps17
  go_wp2_with fail
  refine C0.out.mono ?_
  rintro e w1 ⟨rfl, hb1⟩
  have B1 := Lib.hid (Holds.new w1 34 .u8 (zs 16))
  have B2 := Lib.hid (below_setCells (b := w1.heap.size) hb1.size (nv .u8 (zs 16)) 0 _ (hb1.alloc hb1.size (.cells (na .u8 (zs 16)) 34)))
  clear hb1 C0
  go_wp2_with (first | (with_reducible refine Arr.alloc (t := 34) _ z16 ?_) | (with_reducible refine Arr.store o16 w1.heap.size (zs 16) (zs 16) (length_zs _) B1.out (length_zs _) rfl rfl ?_) | fail)
  go_ret2
  exact givesX_none x B2.out

theorem turned_odd (sv tv : Value) (nu : Int) (m : List Nat) (hm : m.length = 16) (hs : isSec n = false) (CT : Calls Tryd.prog 13 #[sv, .int .i64 nu, .int .i64 0] w (GivesT m 0 w)) :
    Calls Tryd.prog 17 #[sv, .int .i64 nu, .slice A n c, tv] w (GivesX [] 2 w) := by
  have C0 := Lib.hid CT
  have C1 := Lib.hid (fun w' => by have := isSector_any A n c w'; rw [hs] at this; exact this)
  clear CT hs
  go_enter Tryd.func17, Tryd.ntmps17
  go_wp2_with fail
  refine C0.out.mono ?_
  rintro e w1 ⟨rfl, hb1⟩
  have B1 := Lib.hid (Holds.new w1 34 .u8 (zs 16))
  have B2 := Lib.hid (below_setCells (b := w1.heap.size) hb1.size (nv .u8 m) 0 _ (hb1.alloc hb1.size (.cells (na .u8 (zs 16)) 34)))
  clear hb1 C0
  go_wp2_with (first | (with_reducible refine Arr.alloc (t := 34) _ z16 ?_) | (with_reducible refine Arr.store o16 w1.heap.size (zs 16) m (length_zs _) B1.out hm rfl rfl ?_) | fail)
  refine (C1.out _).mono ?_
  rintro e w2 ⟨rfl, rfl⟩
  go_wp2
  go_ret2
  exact givesX_none 2 B2.out

set_option maxHeartbeats 4000000 in
theorem turned_enc (h : Sec w g g1 g2 ks) (hk : okKey ks.length) (nu : Nat) (hnu : nu ≤ 4611686018427387904) (m : Nat) (hn : n = 16 * m) (hm0 : 0 < m) (hm : m ≤ 256) (hc : n ≤ c) (hl : b.length = n) (hb : Bys w w.heap.size A b) :
    Calls Tryd.prog 17 #[.pointer (some ⟨g, 0, none⟩), .int .i64 (nu : Int), .slice A n c, .func (.func 18) #[] #[]] w (GivesX (outN (enc (rr (ka ks)) (kk (ka ks))) (twk ks nu 0) b m) 0 w) := by
  obtain ⟨bb, off, rfl, hbw, hbc⟩ := hb.2 (by omega)
  have C0 := Lib.hid (xtweak_ok h hk nu 0 hnu (by omega))
  have C1 := Lib.hid (fun w' => by have := isSector_any (some ⟨bb, off, none⟩) n c w'; rw [show isSec n = true by simp [isSec]; omega] at this; exact this)
  have MK := Lib.hid (fun W => run_mk n (by omega) W)
  have st0 := st_twk hk nu 0
  have HF : Step (enc (rr (ka ks)) (kk (ka ks))) := fun x hx => st_enc (kk_ok (len_ka hk)) hx
  have CE : Go.RowKit.Hid (∀ x, St x → ∀ w', Ciph w' g1 (rr (ka ks)) (kk (ka ks)) → Calls Tryd.prog 18 #[.pointer (some ⟨g1, 0, none⟩), .agg (na .u8 x)] w' (GivesA (enc (rr (ka ks)) (kk (ka ks)) x) w')) :=
    Lib.hid (fun x hx w' h' => encrypt_any g1 _ (rr_le (len_ka hk)).1 (rr_le (len_ka hk)).2 _ x (kk_ok (len_ka hk)) hx w' h')
  generalize enc (rr (ka ks)) (kk (ka ks)) = f at *
  generalize twk ks nu 0 = t at *
  have HSc := Lib.hid h
  have HST := Lib.hid st0
  have HFs := Lib.hid HF
  have HSP := Lib.hid (fun k (hk : k < m) => st_pc (hl.trans hn) hk hb.1)
  have HBC := Lib.hid hbc
  have HPG := Lib.hid (fun k i (hi : i < 16) => pc_get b k i hi)
  have HLT := Lib.hid (out_lt HF st0 (hl.trans hn) hb.1 m (Nat.le_refl _))
  have lt0 := st0.1
  have HL := Lib.hid hl
  have HN := Lib.hid hn
  have ON := Lib.hid (fun k => outP_next (f := f) (t := t) (b := b) (n := n) (k := k))
  have OA := Lib.hid (outP_all (f := f) (t := t) (b := b) hn)
  have OL := Lib.hid (fun k (hk : k ≤ m) => len_outP (f := f) (t := t) (b := b) (n := n) (k := k) (by omega))
  have OZ := Lib.hid (outP_zero f t b n)
  have hn0 : 0 < n := by omega
  have hn1 : n ≤ 4096 := by omega
  clear h hk hnu hb hbc hl hn st0 HF
  go_enter Tryd.func17, Tryd.ntmps17
  go_wp2_with fail
  refine C0.out.mono ?_
  rintro e w1 ⟨rfl, hb1⟩
  have B1 := Lib.hid (Holds.new w1 34 .u8 (zs 16))
  have P1 := Lib.hid (B1.out.put t (by rw [lt0, length_zs]))
  have B2 := Lib.hid (below_setCells (b := w1.heap.size) hb1.size (nv .u8 t) 0 _ (hb1.alloc hb1.size (.cells (na .u8 (zs 16)) 34)))
  have hge := Lib.hid hb1.size
  clear hb1 C0
  go_wp2_with (first | (with_reducible refine Arr.alloc (t := 34) _ z16 ?_) | (with_reducible refine Arr.store o16 w1.heap.size (zs 16) t (length_zs _) B1.out lt0 rfl rfl ?_) | fail)
  generalize (w1.alloc (.cells (na .u8 (zs 16)) 34)).setCells w1.heap.size 0 (nv .u8 t) = w2 at *
  clear B1
  have hlt2 := Lib.hid (P1.out.lt (by omega))
  refine (C1.out _).mono ?_
  rintro e w3 ⟨rfl, rfl⟩
  clear C1
  generalize w1.heap.size = gt at *
  have T0 : Go.RowKit.Hid (Tu w g g1 g2 gt w2.heap.size ks (dblN t 0) (outP f t b n 0) (w2.alloc (.cells (na .u8 (zs n)) 5))) := Lib.hid (by
    have hba := below_alloc w2 (.cells (na .u8 (zs n)) 5)
    have hs2 := B2.out.size
    have h1 := HSc.out.lt
    have h2 := HSc.out.c1.lt
    have h3 := HSc.out.c2.lt
    have h4 := hge.out
    have h5 := hlt2.out
    exact ⟨(HSc.out.below B2.out).below hba, P1.out.below hba h5, by rw [OZ.out]; exact Holds.new _ _ _ _, lt0, by rw [OZ.out, length_zs]; omega, B2.out.trans (hba.mono hs2), by omega, by omega⟩)
  clear B2 hge hlt2 P1 OZ
  have hmk := MK.out w2
  clear MK
  go_upto_region 7 with fail
  clear hmk
  generalize w2.alloc (.cells (na .u8 (zs n)) 5) = w4 at *
  generalize w2.heap.size = go at *
  go_wp2
  go_loopw [13] (fun i wr => ∃ k a : Nat, k ≤ m ∧ Go.RowKit.Hid (a = 16 * k) ∧ i = .int .i64 (a : Nat) ∧ Tu w g g1 g2 gt go ks (dblN t k) (outP f t b n k) wr) (fun i _ => n - (intOf i).toNat)
  case atStart => exact ⟨0, 0, by omega, Lib.hid rfl, rfl, T0.out⟩
  case round =>
    clear T0
    obtain ⟨k, a, hk, HA, rfl, hT⟩ := hrel
    have HT := Lib.hid hT
    clear hT
    by_cases hlt : k < m
    · have hna : a + 16 ≤ n := by have := HN.out; have := HA.out; omega
      have ta : decide ((a : Int) < (n : Int)) = true := by simp; omega
      have ta' : decide (a < n) = true := by simp; omega
      have hx := HSP.out k hlt
      have htk := st_dblN HST.out k
      have s1 := st_xor hx htk
      have s2 := HFs.out _ s1
      have s3 := st_xor s2 htk
      have HO := Lib.hid (ON.out k)
      rw [← HA.out] at HO
      have HD := Lib.hid (show dblN t (k + 1) = dbl (dblN t k) from rfl)
      have HB3 := Lib.hid (show bkt f (dblN t k) (pc b k) = xorL (f (xorL (pc b k) (dblN t k))) (dblN t k) from rfl)
      have CX1 := Lib.hid (fun w' => xtogether_any _ _ hx htk w')
      have CX2 := Lib.hid (fun w' => CE.out _ s1 w')
      have CX3 := Lib.hid (fun w' => xtogether_any _ _ s2 htk w')
      have CX4 : Go.RowKit.Hid (∀ w', Calls Tryd.prog 34 #[.agg (na .u8 (dblN t k))] w' (GivesA (dbl (dblN t k)) w')) := Lib.hid (fun w' => double_any _ htk.1 htk.2 w')
      have lx := hx.1
      have lt' := htk.1
      have ly := s3.1
      have lz := (st_dbl htk).1
      have HOL := Lib.hid (OL.out k hk)
      have HPK := Lib.hid (fun i (hi : i < 16) => by have := HPG.out k i hi; rw [← HA.out] at this; exact this)
      generalize dbl (dblN t k) = z at *
      rw [HB3.out] at HO
      clear HB3 hx htk s1 s2 s3
      generalize xorL (f (xorL (pc b k) (dblN t k))) (dblN t k) = y at *
      generalize f (xorL (pc b k) (dblN t k)) = x2 at *
      generalize xorL (pc b k) (dblN t k) = x1 at *
      generalize pc b k = x at *
      generalize dblN t k = tk at *
      generalize outP f t b n k = ol at *
      have gbn : Go.RowKit.Hid (∃ gb, gb = wr.heap.size ∧ gb ≠ go ∧ gb ≠ gt) := Lib.hid ⟨_, rfl, fun e => by have := HT.out.out.lt HT.out.lo; omega, fun e => by have := HT.out.twe.lt (by omega); omega⟩
      have K0 := Lib.hid (Holds.new wr 34 .u8 (zs 16))
      have BA := Lib.hid (below_alloc wr (.cells (na .u8 (zs 16)) 34))
      have F1 := Lib.hid (fun W => sliceAll o16 W wr.heap.size 0)
      have F2 := Lib.hid (fun W => run_from bb off n c a (by omega) (by omega) W)
      have F3 := Lib.hid (fun W => by have := run_from go 0 n n a (by omega) (by omega) W; rw [Nat.zero_add] at this; exact this)
      have wa : IntKind.i64.wrap ((a : Int) + 16) = (a : Int) + 16 := by rw [IntKind.wrap_i64]; omega
      have hWB := Lib.hid (fun W (hW : Below w.heap.size w W) i (hi : i < b.length) => (hW.cell (p := ⟨bb, off + i, none⟩) hbw).trans (HBC.out i hi))
      -- the block is copied out
      go_upto_region 11 with (first | (with_reducible refine Arr.alloc (t := 34) _ z16 ?_) | fail)
      generalize wr.alloc (.cells (na .u8 (zs 16)) 34) = wa0 at *
      have f1 := F1.out
      have f2 := F2.out
      refine region_tail 4 (by kernel_rfl) (by kernel_rfl) ?_
      intro wd hwd
      have K1 : Holds wd wr.heap.size .u8 (zs 16) := by rw [hwd]; exact K0.out.drew
      have BD : Below wr.heap.size wr wd := by rw [hwd]; exact below_drew BA.out
      clear hwd K0 BA
      have D1 := Lib.hid (show (Builtin.copy_ #[22, 22] 3 #[.slice (some ⟨wr.heap.size, 0, none⟩) 16 16, .slice (some ⟨bb, off + a, none⟩) (n - a) (c - a)]).run Tryd.prog wd = .ok (goInt 16) (wd.setCells wr.heap.size 0 (nv .u8 x)) from by
        have := run_copy_bytes (P := Tryd.prog) wd 22 22 3 5 Tryd.underlying22 size1_b wr.heap.size 0 16 16 bb (off + a) (n - a) (c - a) (zs 16) x (Holds.at0 K1) (by rw [lx]; show 16 = min (n - a) 16; omega) (by rw [lx, length_zs]; omega) (fun i hi => by
          rw [show off + a + i = off + (a + i) by omega, hWB.out wd (HT.out.bel.trans (BD.mono HT.out.bel.size)) (a + i) (by have := HL.out; omega), HPK.out i (by omega)])
        rwa [lx] at this)
      have K2 := Lib.hid (K1.put x (by rw [lx, length_zs]))
      have BE := Lib.hid (below_setCells (b := wr.heap.size) (Nat.le_refl _) (nv .u8 x) 0 wd BD)
      clear K1 BD hWB HPK
      simp only [List.take_succ_cons, List.take_zero, List.drop_succ_cons, List.drop_zero]
      repeat still_step
      refine wpStill_nil ?_
      clear f1 f2
      go_upto_region 12 with (first | (with_reducible refine Arr.list_copy (.slice (some ⟨wr.heap.size, 0, none⟩) 16 16) (.slice (some ⟨bb, off + a, none⟩) (n - a) (c - a)) _ (wd.setCells wr.heap.size 0 (nv .u8 x)) rfl rfl D1.out ?_) | fail)
      generalize wd.setCells wr.heap.size 0 (nv .u8 x) = we at *
      clear D1
      -- it is turned
      have KD := Lib.hid K2.out.drew
      have BDr := Lib.hid (below_drew BE.out)
      clear K2 BE
      refine wp_region_L [(11, (fun w' => Holds w' wr.heap.size .u8 x ∧ Below wr.heap.size wr w'))] 12 #[false, false, false, false, false, false, false, false, false, false, false, false] (by kernel_rfl) (by rfl) (by kernel_rfl) (by intro p hp; simp only [List.mem_cons, List.not_mem_nil, or_false] at hp; rcases hp with rfl; exact ⟨KD.out, BDr.out⟩) (fun hHeld => ?_)
      have HSo := Lib.hid (fun W (hW : Below wr.heap.size wr W) => (HT.out.next hW).sec.one)
      have HTw := Lib.hid (fun W (hW : Below wr.heap.size wr W) => (HT.out.next hW).twe.1)
      have HC1 := Lib.hid (fun W (hW : Below wr.heap.size wr W) => (HT.out.next hW).sec.c1)
      generalize we.drew = wq at *
      refine wpAnyL_take (i := 0) (v := ?_) rfl (by kernel_rfl) (by kernel_rfl) (by kernel_rfl) (by rfl) (fun _ _ _ h => h) (Or.inl ⟨by rfl, ?_⟩) hHeld (fun hHeld2 => ?_)
      rotate_left
      · (intro wz hSw; go_simp; try with_reducible rfl)
      clear hHeld; have hHeld := hHeld2; clear hHeld2
      try simp only [List.getElem_toArray, List.getElem_cons_zero, List.getElem_cons_succ, Act.put, List.setIfInBounds_toArray, List.set_cons_zero, List.set_cons_succ]
      refine wpAnyL_take (i := 1) (v := ?_) rfl (by kernel_rfl) (by kernel_rfl) (by kernel_rfl) (by rfl) (fun _ _ _ h => h) (Or.inl ⟨by rfl, ?_⟩) hHeld (fun hHeld2 => ?_)
      rotate_left
      · (intro wz hSw; go_simp; try with_reducible rfl)
      clear hHeld; have hHeld := hHeld2; clear hHeld2
      try simp only [List.getElem_toArray, List.getElem_cons_zero, List.getElem_cons_succ, Act.put, List.setIfInBounds_toArray, List.set_cons_zero, List.set_cons_succ]
      refine wpAnyL_take (i := 2) (v := ?_) rfl (by kernel_rfl) (by kernel_rfl) (by kernel_rfl) (by rfl) (fun _ _ _ h => h) (Or.inl ⟨by rfl, ?_⟩) hHeld (fun hHeld2 => ?_)
      rotate_left
      · (intro wz hSw; go_simp; try with_reducible rfl)
      clear hHeld; have hHeld := hHeld2; clear hHeld2
      try simp only [List.getElem_toArray, List.getElem_cons_zero, List.getElem_cons_succ, Act.put, List.setIfInBounds_toArray, List.set_cons_zero, List.set_cons_succ]
      refine wpAnyL_take (i := 3) (v := ?_) rfl (by kernel_rfl) (by kernel_rfl) (by kernel_rfl) (by rfl) (fun _ _ _ h => h) (Or.inl ⟨by rfl, ?_⟩) hHeld (fun hHeld2 => ?_)
      rotate_left
      · (intro wz hSw; go_simp; try with_reducible rfl)
      clear hHeld; have hHeld := hHeld2; clear hHeld2
      try simp only [List.getElem_toArray, List.getElem_cons_zero, List.getElem_cons_succ, Act.put, List.setIfInBounds_toArray, List.set_cons_zero, List.set_cons_succ]
      refine wpAnyL_take (i := 4) (v := ?_) rfl (by kernel_rfl) (by kernel_rfl) (by kernel_rfl) (by rfl) (fun _ _ _ h => h) (Or.inl ⟨by rfl, ?_⟩) hHeld (fun hHeld2 => ?_)
      rotate_left
      · (intro wz hSw; have hq := hSw.get _ (List.Mem.head _) 0 (by kernel_rfl); have hq1 := HSo.out wz hq.2; clear hq; go_simp; try with_reducible rfl)
      clear hHeld; have hHeld := hHeld2; clear hHeld2
      try simp only [List.getElem_toArray, List.getElem_cons_zero, List.getElem_cons_succ, Act.put, List.setIfInBounds_toArray, List.set_cons_zero, List.set_cons_succ]
      refine' wpAnyL_take (i := 5) (v := _) rfl (by kernel_rfl) (by kernel_rfl) (by kernel_rfl) (by rfl) (fun _ _ _ h => h) (yieldsIf_load_mid (by rfl) _ _ rfl _ _ rfl (nv .u8 x) _ (fun _ hs => (hs.get _ (List.Mem.head _) 0 (by kernel_rfl)).1.1) o16.hu rfl (by rw [length_nv, lx]; exact o16.hi)) hHeld (fun hHeld2 => ?_)
      clear hHeld; have hHeld := hHeld2; clear hHeld2
      try simp only [List.getElem_toArray, List.getElem_cons_zero, List.getElem_cons_succ, Act.put, List.setIfInBounds_toArray, List.set_cons_zero, List.set_cons_succ]
      refine' wpAnyL_take (i := 6) (v := _) rfl (by kernel_rfl) (by kernel_rfl) (by kernel_rfl) (by rfl) (fun _ _ _ h => h) (yieldsIf_load_mid (by rfl) _ _ rfl _ _ rfl (nv .u8 tk) _ (fun _ hs => HTw.out _ (hs.get _ (List.Mem.head _) 0 (by kernel_rfl)).2) o16.hu rfl (by rw [length_nv, lt']; exact o16.hi)) hHeld (fun hHeld2 => ?_)
      clear hHeld; have hHeld := hHeld2; clear hHeld2
      try simp only [List.getElem_toArray, List.getElem_cons_zero, List.getElem_cons_succ, Act.put, List.setIfInBounds_toArray, List.set_cons_zero, List.set_cons_succ]
      refine' wpAnyL_take (i := 9) (v := _) rfl (by kernel_rfl) (by kernel_rfl) (by kernel_rfl) (by rfl) (fun _ _ _ h => h) (yieldsIf_load_mid (by rfl) _ _ rfl _ _ rfl (nv .u8 tk) _ (fun _ hs => HTw.out _ (hs.get _ (List.Mem.head _) 0 (by kernel_rfl)).2) o16.hu rfl (by rw [length_nv, lt']; exact o16.hi)) hHeld (fun hHeld2 => ?_)
      clear hHeld; have hHeld := hHeld2; clear hHeld2
      try simp only [List.getElem_toArray, List.getElem_cons_zero, List.getElem_cons_succ, Act.put, List.setIfInBounds_toArray, List.set_cons_zero, List.set_cons_succ]
      have hKB := hHeld.2 _ (List.Mem.head _) (by kernel_rfl)
      refine wpAnyL_one (i := 7) (by kernel_rfl) rfl rfl hHeld (fun K hK => ?_)
      go_simp
      refine (CX1.out _).mono ?_
      rintro e w5 ⟨rfl, hb5⟩
      have hKB5 := And.intro (hKB.1.below hb5 (hKB.1.lt (by omega))) (hKB.2.trans (hb5.mono hKB.2.size))
      refine hK.out _ _ (by intro p hp hl; simp only [List.mem_cons, List.not_mem_nil, or_false] at hp; rcases hp with rfl; exact hKB5) (fun hHeld2 => ?_)
      clear hHeld hK K hKB hb5; have hHeld := hHeld2; clear hHeld2
      try simp only [List.getElem_toArray, List.getElem_cons_zero, List.getElem_cons_succ, Act.put, List.setIfInBounds_toArray, List.set_cons_zero, List.set_cons_succ]
      refine wpAnyL_one (i := 8) (by kernel_rfl) rfl rfl hHeld (fun K hK => ?_)
      go_simp
      refine (CX2.out _ (HC1.out _ hKB5.2)).mono ?_
      rintro e w6 ⟨rfl, hb6⟩
      have hKB6 := And.intro (hKB5.1.below hb6 (hKB5.1.lt (by omega))) (hKB5.2.trans (hb6.mono hKB5.2.size))
      refine hK.out _ _ (by intro p hp hl; simp only [List.mem_cons, List.not_mem_nil, or_false] at hp; rcases hp with rfl; exact hKB6) (fun hHeld2 => ?_)
      clear hHeld hK K hKB5 hb6; have hHeld := hHeld2; clear hHeld2
      try simp only [List.getElem_toArray, List.getElem_cons_zero, List.getElem_cons_succ, Act.put, List.setIfInBounds_toArray, List.set_cons_zero, List.set_cons_succ]
      refine wpAnyL_one (i := 10) (by kernel_rfl) rfl rfl hHeld (fun K hK => ?_)
      go_simp
      refine (CX3.out _).mono ?_
      rintro e w7 ⟨rfl, hb7⟩
      have hKB7 := And.intro (hKB6.1.below hb7 (hKB6.1.lt (by omega))) (hKB6.2.trans (hb7.mono hKB6.2.size))
      refine hK.out _ _ (by intro p hp hl; simp only [List.mem_cons, List.not_mem_nil, or_false] at hp; rcases hp with rfl; exact hKB7) (fun hHeld2 => ?_)
      clear hHeld hK K hKB6 hb7; have hHeld := hHeld2; clear hHeld2
      try simp only [List.getElem_toArray, List.getElem_cons_zero, List.getElem_cons_succ, Act.put, List.setIfInBounds_toArray, List.set_cons_zero, List.set_cons_succ]
      refine wpAnyL_one (i := 11) (by kernel_rfl) rfl rfl hHeld (fun K hK => ?_)
      refine op_store o16 wr.heap.size x y lx hKB7.1 ly (x := .tmp 14) (y := .tmp 51) rfl rfl rfl ?_
      have hK5 := hKB7.1.put y (by rw [ly, lx])
      have hB5 := below_setCells (b := wr.heap.size) (Nat.le_refl _) (nv .u8 y) 0 _ hKB7.2
      refine hK.out _ _ (by intro p hp hl; simp only [List.mem_cons, List.not_mem_nil, or_false] at hp; rcases hp with rfl <;> exact Bool.noConfusion (hl.symm.trans (show _ = true by kernel_rfl))) (fun hHeld2 => ?_)
      clear hHeld hK K hKB7 hHeld2
      try simp only [List.getElem_toArray, List.getElem_cons_zero, List.getElem_cons_succ, Act.put]
      refine wpAnyL_done (by kernel_rfl) ?_ _
      have K5 := Lib.hid hK5
      have B5 := Lib.hid hB5
      clear hK5 hB5
      go_upto_region 13 with fail
      -- it is copied back
      have f1 := F1.out
      have f3 := F3.out
      refine region_tail 4 (by kernel_rfl) (by kernel_rfl) ?_
      intro wd2 hwd
      have K6 : Holds wd2 wr.heap.size .u8 y := by rw [hwd]; exact K5.out.drew
      have B6 : Below wr.heap.size wr wd2 := by rw [hwd]; exact below_drew B5.out
      clear hwd K5 B5
      have T6 := HT.out.next B6
      have D2 := Lib.hid (show (Builtin.copy_ #[22, 22] 3 #[.slice (some ⟨go, a, none⟩) (n - a) (n - a), .slice (some ⟨wr.heap.size, 0, none⟩) 16 16]).run Tryd.prog wd2 = .ok (goInt 16) (wd2.setCells go a (nv .u8 y)) from by
        have h1 := HAt.part (Holds.at0 T6.out) a 16 (by rw [HOL.out]; exact hna)
        rw [Nat.zero_add] at h1
        have := run_copy_bytes (P := Tryd.prog) wd2 22 22 3 5 Tryd.underlying22 size1_b go a (n - a) (n - a) wr.heap.size 0 16 16 ((ol.drop a).take 16) y h1 (by rw [ly]; show 16 = min 16 (n - a); omega) (by rw [ly, List.length_take, List.length_drop, HOL.out]; omega) (fun i hi => by rw [Nat.zero_add]; exact K6.cell i hi)
        rw [ly] at this
        exact this)
      have T7 := T6.setOut a y (by rw [ly, HOL.out]; exact hna)
      rw [HO.out] at T7
      have T7 := Lib.hid T7
      clear K6 B6 T6 HT HO HOL
      simp only [List.take_succ_cons, List.take_zero, List.drop_succ_cons, List.drop_zero]
      repeat still_step
      refine wpStill_nil ?_
      clear f1 f3
      go_upto_region 14 with (first | (with_reducible refine Arr.list_copy (.slice (some ⟨go, a, none⟩) (n - a) (n - a)) (.slice (some ⟨wr.heap.size, 0, none⟩) 16 16) _ (wd2.setCells go a (nv .u8 y)) rfl rfl D2.out ?_) | fail)
      generalize wd2.setCells go a (nv .u8 y) = w7 at *
      clear D2 F1 F2 F3
      -- the tweak is doubled
      go_wp2_with (first | (with_reducible refine Arr.load o16 gt tk lt' T7.out.twe rfl ?_) | fail)
      refine (CX4.out w7).mono ?_
      rintro e w8 ⟨rfl, hb8⟩
      have T8 := Lib.hid (T7.out.next hb8)
      have T9 := Lib.hid (T8.out.setTw z lz)
      clear T7 hb8
      go_wp2_with (first | (with_reducible refine Arr.store o16 gt tk z lt' T8.out.twe lz rfl rfl ?_) | fail)
      go_roundw
      case rel => exact ⟨k + 1, a + 16, by omega, Lib.hid (by have := HA.out; omega), by go_num, by rw [HD.out]; exact T9.out⟩
      case measure => simp [intOf]; omega
    · obtain rfl : k = m := by omega
      have hna : a = n := by have := HN.out; have := HA.out; omega
      have ta : decide ((a : Int) < (n : Int)) = false := by simp; omega
      have ta' : decide (a < n) = false := by simp; omega
      have hout := HT.out.out
      rw [OA.out] at hout
      have HR := Lib.hid (show GivesX (outN f t b k) 0 w (.returned (.tuple #[.slice (some ⟨go, 0, none⟩) n n, .int .i64 0])) wr from by
        have hll := len_outN (f := f) t b k
        rw [← HN.out] at hll
        exact ⟨some ⟨go, 0, none⟩, n, by rw [hll]; rfl, by omega, (fun h => by cases h), bysOf hout HLT.out, HT.out.bel⟩)
      clear hout
      go_wp2
      go_ret2
      exact HR.out

set_option maxHeartbeats 4000000 in
theorem turned_dec (h : Sec w g g1 g2 ks) (hk : okKey ks.length) (nu : Nat) (hnu : nu ≤ 4611686018427387904) (m : Nat) (hn : n = 16 * m) (hm0 : 0 < m) (hm : m ≤ 256) (hc : n ≤ c) (hl : b.length = n) (hb : Bys w w.heap.size A b) :
    Calls Tryd.prog 17 #[.pointer (some ⟨g, 0, none⟩), .int .i64 (nu : Int), .slice A n c, .func (.func 19) #[] #[]] w (GivesX (outN (dec (rr (ka ks)) (kk (ka ks))) (twk ks nu 0) b m) 0 w) := by
  obtain ⟨bb, off, rfl, hbw, hbc⟩ := hb.2 (by omega)
  have C0 := Lib.hid (xtweak_ok h hk nu 0 hnu (by omega))
  have C1 := Lib.hid (fun w' => by have := isSector_any (some ⟨bb, off, none⟩) n c w'; rw [show isSec n = true by simp [isSec]; omega] at this; exact this)
  have MK := Lib.hid (fun W => run_mk n (by omega) W)
  have st0 := st_twk hk nu 0
  have HF : Step (dec (rr (ka ks)) (kk (ka ks))) := fun x hx => st_dec (kk_ok (len_ka hk)) hx
  have CE : Go.RowKit.Hid (∀ x, St x → ∀ w', Ciph w' g1 (rr (ka ks)) (kk (ka ks)) → Calls Tryd.prog 19 #[.pointer (some ⟨g1, 0, none⟩), .agg (na .u8 x)] w' (GivesA (dec (rr (ka ks)) (kk (ka ks)) x) w')) :=
    Lib.hid (fun x hx w' h' => decrypt_any g1 _ (rr_le (len_ka hk)).1 (rr_le (len_ka hk)).2 _ x (kk_ok (len_ka hk)) hx w' h')
  generalize dec (rr (ka ks)) (kk (ka ks)) = f at *
  generalize twk ks nu 0 = t at *
  have HSc := Lib.hid h
  have HST := Lib.hid st0
  have HFs := Lib.hid HF
  have HSP := Lib.hid (fun k (hk : k < m) => st_pc (hl.trans hn) hk hb.1)
  have HBC := Lib.hid hbc
  have HPG := Lib.hid (fun k i (hi : i < 16) => pc_get b k i hi)
  have HLT := Lib.hid (out_lt HF st0 (hl.trans hn) hb.1 m (Nat.le_refl _))
  have lt0 := st0.1
  have HL := Lib.hid hl
  have HN := Lib.hid hn
  have ON := Lib.hid (fun k => outP_next (f := f) (t := t) (b := b) (n := n) (k := k))
  have OA := Lib.hid (outP_all (f := f) (t := t) (b := b) hn)
  have OL := Lib.hid (fun k (hk : k ≤ m) => len_outP (f := f) (t := t) (b := b) (n := n) (k := k) (by omega))
  have OZ := Lib.hid (outP_zero f t b n)
  have hn0 : 0 < n := by omega
  have hn1 : n ≤ 4096 := by omega
  clear h hk hnu hb hbc hl hn st0 HF
  go_enter Tryd.func17, Tryd.ntmps17
  go_wp2_with fail
  refine C0.out.mono ?_
  rintro e w1 ⟨rfl, hb1⟩
  have B1 := Lib.hid (Holds.new w1 34 .u8 (zs 16))
  have P1 := Lib.hid (B1.out.put t (by rw [lt0, length_zs]))
  have B2 := Lib.hid (below_setCells (b := w1.heap.size) hb1.size (nv .u8 t) 0 _ (hb1.alloc hb1.size (.cells (na .u8 (zs 16)) 34)))
  have hge := Lib.hid hb1.size
  clear hb1 C0
  go_wp2_with (first | (with_reducible refine Arr.alloc (t := 34) _ z16 ?_) | (with_reducible refine Arr.store o16 w1.heap.size (zs 16) t (length_zs _) B1.out lt0 rfl rfl ?_) | fail)
  generalize (w1.alloc (.cells (na .u8 (zs 16)) 34)).setCells w1.heap.size 0 (nv .u8 t) = w2 at *
  clear B1
  have hlt2 := Lib.hid (P1.out.lt (by omega))
  refine (C1.out _).mono ?_
  rintro e w3 ⟨rfl, rfl⟩
  clear C1
  generalize w1.heap.size = gt at *
  have T0 : Go.RowKit.Hid (Tu w g g1 g2 gt w2.heap.size ks (dblN t 0) (outP f t b n 0) (w2.alloc (.cells (na .u8 (zs n)) 5))) := Lib.hid (by
    have hba := below_alloc w2 (.cells (na .u8 (zs n)) 5)
    have hs2 := B2.out.size
    have h1 := HSc.out.lt
    have h2 := HSc.out.c1.lt
    have h3 := HSc.out.c2.lt
    have h4 := hge.out
    have h5 := hlt2.out
    exact ⟨(HSc.out.below B2.out).below hba, P1.out.below hba h5, by rw [OZ.out]; exact Holds.new _ _ _ _, lt0, by rw [OZ.out, length_zs]; omega, B2.out.trans (hba.mono hs2), by omega, by omega⟩)
  clear B2 hge hlt2 P1 OZ
  have hmk := MK.out w2
  clear MK
  go_upto_region 7 with fail
  clear hmk
  generalize w2.alloc (.cells (na .u8 (zs n)) 5) = w4 at *
  generalize w2.heap.size = go at *
  go_wp2
  go_loopw [13] (fun i wr => ∃ k a : Nat, k ≤ m ∧ Go.RowKit.Hid (a = 16 * k) ∧ i = .int .i64 (a : Nat) ∧ Tu w g g1 g2 gt go ks (dblN t k) (outP f t b n k) wr) (fun i _ => n - (intOf i).toNat)
  case atStart => exact ⟨0, 0, by omega, Lib.hid rfl, rfl, T0.out⟩
  case round =>
    clear T0
    obtain ⟨k, a, hk, HA, rfl, hT⟩ := hrel
    have HT := Lib.hid hT
    clear hT
    by_cases hlt : k < m
    · have hna : a + 16 ≤ n := by have := HN.out; have := HA.out; omega
      have ta : decide ((a : Int) < (n : Int)) = true := by simp; omega
      have ta' : decide (a < n) = true := by simp; omega
      have hx := HSP.out k hlt
      have htk := st_dblN HST.out k
      have s1 := st_xor hx htk
      have s2 := HFs.out _ s1
      have s3 := st_xor s2 htk
      have HO := Lib.hid (ON.out k)
      rw [← HA.out] at HO
      have HD := Lib.hid (show dblN t (k + 1) = dbl (dblN t k) from rfl)
      have HB3 := Lib.hid (show bkt f (dblN t k) (pc b k) = xorL (f (xorL (pc b k) (dblN t k))) (dblN t k) from rfl)
      have CX1 := Lib.hid (fun w' => xtogether_any _ _ hx htk w')
      have CX2 := Lib.hid (fun w' => CE.out _ s1 w')
      have CX3 := Lib.hid (fun w' => xtogether_any _ _ s2 htk w')
      have CX4 : Go.RowKit.Hid (∀ w', Calls Tryd.prog 34 #[.agg (na .u8 (dblN t k))] w' (GivesA (dbl (dblN t k)) w')) := Lib.hid (fun w' => double_any _ htk.1 htk.2 w')
      have lx := hx.1
      have lt' := htk.1
      have ly := s3.1
      have lz := (st_dbl htk).1
      have HOL := Lib.hid (OL.out k hk)
      have HPK := Lib.hid (fun i (hi : i < 16) => by have := HPG.out k i hi; rw [← HA.out] at this; exact this)
      generalize dbl (dblN t k) = z at *
      rw [HB3.out] at HO
      clear HB3 hx htk s1 s2 s3
      generalize xorL (f (xorL (pc b k) (dblN t k))) (dblN t k) = y at *
      generalize f (xorL (pc b k) (dblN t k)) = x2 at *
      generalize xorL (pc b k) (dblN t k) = x1 at *
      generalize pc b k = x at *
      generalize dblN t k = tk at *
      generalize outP f t b n k = ol at *
      have gbn : Go.RowKit.Hid (∃ gb, gb = wr.heap.size ∧ gb ≠ go ∧ gb ≠ gt) := Lib.hid ⟨_, rfl, fun e => by have := HT.out.out.lt HT.out.lo; omega, fun e => by have := HT.out.twe.lt (by omega); omega⟩
      have K0 := Lib.hid (Holds.new wr 34 .u8 (zs 16))
      have BA := Lib.hid (below_alloc wr (.cells (na .u8 (zs 16)) 34))
      have F1 := Lib.hid (fun W => sliceAll o16 W wr.heap.size 0)
      have F2 := Lib.hid (fun W => run_from bb off n c a (by omega) (by omega) W)
      have F3 := Lib.hid (fun W => by have := run_from go 0 n n a (by omega) (by omega) W; rw [Nat.zero_add] at this; exact this)
      have wa : IntKind.i64.wrap ((a : Int) + 16) = (a : Int) + 16 := by rw [IntKind.wrap_i64]; omega
      have hWB := Lib.hid (fun W (hW : Below w.heap.size w W) i (hi : i < b.length) => (hW.cell (p := ⟨bb, off + i, none⟩) hbw).trans (HBC.out i hi))
      -- the block is copied out
      go_upto_region 11 with (first | (with_reducible refine Arr.alloc (t := 34) _ z16 ?_) | fail)
      generalize wr.alloc (.cells (na .u8 (zs 16)) 34) = wa0 at *
      have f1 := F1.out
      have f2 := F2.out
      refine region_tail 4 (by kernel_rfl) (by kernel_rfl) ?_
      intro wd hwd
      have K1 : Holds wd wr.heap.size .u8 (zs 16) := by rw [hwd]; exact K0.out.drew
      have BD : Below wr.heap.size wr wd := by rw [hwd]; exact below_drew BA.out
      clear hwd K0 BA
      have D1 := Lib.hid (show (Builtin.copy_ #[22, 22] 3 #[.slice (some ⟨wr.heap.size, 0, none⟩) 16 16, .slice (some ⟨bb, off + a, none⟩) (n - a) (c - a)]).run Tryd.prog wd = .ok (goInt 16) (wd.setCells wr.heap.size 0 (nv .u8 x)) from by
        have := run_copy_bytes (P := Tryd.prog) wd 22 22 3 5 Tryd.underlying22 size1_b wr.heap.size 0 16 16 bb (off + a) (n - a) (c - a) (zs 16) x (Holds.at0 K1) (by rw [lx]; show 16 = min (n - a) 16; omega) (by rw [lx, length_zs]; omega) (fun i hi => by
          rw [show off + a + i = off + (a + i) by omega, hWB.out wd (HT.out.bel.trans (BD.mono HT.out.bel.size)) (a + i) (by have := HL.out; omega), HPK.out i (by omega)])
        rwa [lx] at this)
      have K2 := Lib.hid (K1.put x (by rw [lx, length_zs]))
      have BE := Lib.hid (below_setCells (b := wr.heap.size) (Nat.le_refl _) (nv .u8 x) 0 wd BD)
      clear K1 BD hWB HPK
      simp only [List.take_succ_cons, List.take_zero, List.drop_succ_cons, List.drop_zero]
      repeat still_step
      refine wpStill_nil ?_
      clear f1 f2
      go_upto_region 12 with (first | (with_reducible refine Arr.list_copy (.slice (some ⟨wr.heap.size, 0, none⟩) 16 16) (.slice (some ⟨bb, off + a, none⟩) (n - a) (c - a)) _ (wd.setCells wr.heap.size 0 (nv .u8 x)) rfl rfl D1.out ?_) | fail)
      generalize wd.setCells wr.heap.size 0 (nv .u8 x) = we at *
      clear D1
      -- it is turned
      have KD := Lib.hid K2.out.drew
      have BDr := Lib.hid (below_drew BE.out)
      clear K2 BE
      refine wp_region_L [(11, (fun w' => Holds w' wr.heap.size .u8 x ∧ Below wr.heap.size wr w'))] 12 #[false, false, false, false, false, false, false, false, false, false, false, false] (by kernel_rfl) (by rfl) (by kernel_rfl) (by intro p hp; simp only [List.mem_cons, List.not_mem_nil, or_false] at hp; rcases hp with rfl; exact ⟨KD.out, BDr.out⟩) (fun hHeld => ?_)
      have HSo := Lib.hid (fun W (hW : Below wr.heap.size wr W) => (HT.out.next hW).sec.one)
      have HTw := Lib.hid (fun W (hW : Below wr.heap.size wr W) => (HT.out.next hW).twe.1)
      have HC1 := Lib.hid (fun W (hW : Below wr.heap.size wr W) => (HT.out.next hW).sec.c1)
      generalize we.drew = wq at *
      refine wpAnyL_take (i := 0) (v := ?_) rfl (by kernel_rfl) (by kernel_rfl) (by kernel_rfl) (by rfl) (fun _ _ _ h => h) (Or.inl ⟨by rfl, ?_⟩) hHeld (fun hHeld2 => ?_)
      rotate_left
      · (intro wz hSw; go_simp; try with_reducible rfl)
      clear hHeld; have hHeld := hHeld2; clear hHeld2
      try simp only [List.getElem_toArray, List.getElem_cons_zero, List.getElem_cons_succ, Act.put, List.setIfInBounds_toArray, List.set_cons_zero, List.set_cons_succ]
      refine wpAnyL_take (i := 1) (v := ?_) rfl (by kernel_rfl) (by kernel_rfl) (by kernel_rfl) (by rfl) (fun _ _ _ h => h) (Or.inl ⟨by rfl, ?_⟩) hHeld (fun hHeld2 => ?_)
      rotate_left
      · (intro wz hSw; go_simp; try with_reducible rfl)
      clear hHeld; have hHeld := hHeld2; clear hHeld2
      try simp only [List.getElem_toArray, List.getElem_cons_zero, List.getElem_cons_succ, Act.put, List.setIfInBounds_toArray, List.set_cons_zero, List.set_cons_succ]
      refine wpAnyL_take (i := 2) (v := ?_) rfl (by kernel_rfl) (by kernel_rfl) (by kernel_rfl) (by rfl) (fun _ _ _ h => h) (Or.inl ⟨by rfl, ?_⟩) hHeld (fun hHeld2 => ?_)
      rotate_left
      · (intro wz hSw; go_simp; try with_reducible rfl)
      clear hHeld; have hHeld := hHeld2; clear hHeld2
      try simp only [List.getElem_toArray, List.getElem_cons_zero, List.getElem_cons_succ, Act.put, List.setIfInBounds_toArray, List.set_cons_zero, List.set_cons_succ]
      refine wpAnyL_take (i := 3) (v := ?_) rfl (by kernel_rfl) (by kernel_rfl) (by kernel_rfl) (by rfl) (fun _ _ _ h => h) (Or.inl ⟨by rfl, ?_⟩) hHeld (fun hHeld2 => ?_)
      rotate_left
      · (intro wz hSw; go_simp; try with_reducible rfl)
      clear hHeld; have hHeld := hHeld2; clear hHeld2
      try simp only [List.getElem_toArray, List.getElem_cons_zero, List.getElem_cons_succ, Act.put, List.setIfInBounds_toArray, List.set_cons_zero, List.set_cons_succ]
      refine wpAnyL_take (i := 4) (v := ?_) rfl (by kernel_rfl) (by kernel_rfl) (by kernel_rfl) (by rfl) (fun _ _ _ h => h) (Or.inl ⟨by rfl, ?_⟩) hHeld (fun hHeld2 => ?_)
      rotate_left
      · (intro wz hSw; have hq := hSw.get _ (List.Mem.head _) 0 (by kernel_rfl); have hq1 := HSo.out wz hq.2; clear hq; go_simp; try with_reducible rfl)
      clear hHeld; have hHeld := hHeld2; clear hHeld2
      try simp only [List.getElem_toArray, List.getElem_cons_zero, List.getElem_cons_succ, Act.put, List.setIfInBounds_toArray, List.set_cons_zero, List.set_cons_succ]
      refine' wpAnyL_take (i := 5) (v := _) rfl (by kernel_rfl) (by kernel_rfl) (by kernel_rfl) (by rfl) (fun _ _ _ h => h) (yieldsIf_load_mid (by rfl) _ _ rfl _ _ rfl (nv .u8 x) _ (fun _ hs => (hs.get _ (List.Mem.head _) 0 (by kernel_rfl)).1.1) o16.hu rfl (by rw [length_nv, lx]; exact o16.hi)) hHeld (fun hHeld2 => ?_)
      clear hHeld; have hHeld := hHeld2; clear hHeld2
      try simp only [List.getElem_toArray, List.getElem_cons_zero, List.getElem_cons_succ, Act.put, List.setIfInBounds_toArray, List.set_cons_zero, List.set_cons_succ]
      refine' wpAnyL_take (i := 6) (v := _) rfl (by kernel_rfl) (by kernel_rfl) (by kernel_rfl) (by rfl) (fun _ _ _ h => h) (yieldsIf_load_mid (by rfl) _ _ rfl _ _ rfl (nv .u8 tk) _ (fun _ hs => HTw.out _ (hs.get _ (List.Mem.head _) 0 (by kernel_rfl)).2) o16.hu rfl (by rw [length_nv, lt']; exact o16.hi)) hHeld (fun hHeld2 => ?_)
      clear hHeld; have hHeld := hHeld2; clear hHeld2
      try simp only [List.getElem_toArray, List.getElem_cons_zero, List.getElem_cons_succ, Act.put, List.setIfInBounds_toArray, List.set_cons_zero, List.set_cons_succ]
      refine' wpAnyL_take (i := 9) (v := _) rfl (by kernel_rfl) (by kernel_rfl) (by kernel_rfl) (by rfl) (fun _ _ _ h => h) (yieldsIf_load_mid (by rfl) _ _ rfl _ _ rfl (nv .u8 tk) _ (fun _ hs => HTw.out _ (hs.get _ (List.Mem.head _) 0 (by kernel_rfl)).2) o16.hu rfl (by rw [length_nv, lt']; exact o16.hi)) hHeld (fun hHeld2 => ?_)
      clear hHeld; have hHeld := hHeld2; clear hHeld2
      try simp only [List.getElem_toArray, List.getElem_cons_zero, List.getElem_cons_succ, Act.put, List.setIfInBounds_toArray, List.set_cons_zero, List.set_cons_succ]
      have hKB := hHeld.2 _ (List.Mem.head _) (by kernel_rfl)
      refine wpAnyL_one (i := 7) (by kernel_rfl) rfl rfl hHeld (fun K hK => ?_)
      go_simp
      refine (CX1.out _).mono ?_
      rintro e w5 ⟨rfl, hb5⟩
      have hKB5 := And.intro (hKB.1.below hb5 (hKB.1.lt (by omega))) (hKB.2.trans (hb5.mono hKB.2.size))
      refine hK.out _ _ (by intro p hp hl; simp only [List.mem_cons, List.not_mem_nil, or_false] at hp; rcases hp with rfl; exact hKB5) (fun hHeld2 => ?_)
      clear hHeld hK K hKB hb5; have hHeld := hHeld2; clear hHeld2
      try simp only [List.getElem_toArray, List.getElem_cons_zero, List.getElem_cons_succ, Act.put, List.setIfInBounds_toArray, List.set_cons_zero, List.set_cons_succ]
      refine wpAnyL_one (i := 8) (by kernel_rfl) rfl rfl hHeld (fun K hK => ?_)
      go_simp
      refine (CX2.out _ (HC1.out _ hKB5.2)).mono ?_
      rintro e w6 ⟨rfl, hb6⟩
      have hKB6 := And.intro (hKB5.1.below hb6 (hKB5.1.lt (by omega))) (hKB5.2.trans (hb6.mono hKB5.2.size))
      refine hK.out _ _ (by intro p hp hl; simp only [List.mem_cons, List.not_mem_nil, or_false] at hp; rcases hp with rfl; exact hKB6) (fun hHeld2 => ?_)
      clear hHeld hK K hKB5 hb6; have hHeld := hHeld2; clear hHeld2
      try simp only [List.getElem_toArray, List.getElem_cons_zero, List.getElem_cons_succ, Act.put, List.setIfInBounds_toArray, List.set_cons_zero, List.set_cons_succ]
      refine wpAnyL_one (i := 10) (by kernel_rfl) rfl rfl hHeld (fun K hK => ?_)
      go_simp
      refine (CX3.out _).mono ?_
      rintro e w7 ⟨rfl, hb7⟩
      have hKB7 := And.intro (hKB6.1.below hb7 (hKB6.1.lt (by omega))) (hKB6.2.trans (hb7.mono hKB6.2.size))
      refine hK.out _ _ (by intro p hp hl; simp only [List.mem_cons, List.not_mem_nil, or_false] at hp; rcases hp with rfl; exact hKB7) (fun hHeld2 => ?_)
      clear hHeld hK K hKB6 hb7; have hHeld := hHeld2; clear hHeld2
      try simp only [List.getElem_toArray, List.getElem_cons_zero, List.getElem_cons_succ, Act.put, List.setIfInBounds_toArray, List.set_cons_zero, List.set_cons_succ]
      refine wpAnyL_one (i := 11) (by kernel_rfl) rfl rfl hHeld (fun K hK => ?_)
      refine op_store o16 wr.heap.size x y lx hKB7.1 ly (x := .tmp 14) (y := .tmp 51) rfl rfl rfl ?_
      have hK5 := hKB7.1.put y (by rw [ly, lx])
      have hB5 := below_setCells (b := wr.heap.size) (Nat.le_refl _) (nv .u8 y) 0 _ hKB7.2
      refine hK.out _ _ (by intro p hp hl; simp only [List.mem_cons, List.not_mem_nil, or_false] at hp; rcases hp with rfl <;> exact Bool.noConfusion (hl.symm.trans (show _ = true by kernel_rfl))) (fun hHeld2 => ?_)
      clear hHeld hK K hKB7 hHeld2
      try simp only [List.getElem_toArray, List.getElem_cons_zero, List.getElem_cons_succ, Act.put]
      refine wpAnyL_done (by kernel_rfl) ?_ _
      have K5 := Lib.hid hK5
      have B5 := Lib.hid hB5
      clear hK5 hB5
      go_upto_region 13 with fail
      -- it is copied back
      have f1 := F1.out
      have f3 := F3.out
      refine region_tail 4 (by kernel_rfl) (by kernel_rfl) ?_
      intro wd2 hwd
      have K6 : Holds wd2 wr.heap.size .u8 y := by rw [hwd]; exact K5.out.drew
      have B6 : Below wr.heap.size wr wd2 := by rw [hwd]; exact below_drew B5.out
      clear hwd K5 B5
      have T6 := HT.out.next B6
      have D2 := Lib.hid (show (Builtin.copy_ #[22, 22] 3 #[.slice (some ⟨go, a, none⟩) (n - a) (n - a), .slice (some ⟨wr.heap.size, 0, none⟩) 16 16]).run Tryd.prog wd2 = .ok (goInt 16) (wd2.setCells go a (nv .u8 y)) from by
        have h1 := HAt.part (Holds.at0 T6.out) a 16 (by rw [HOL.out]; exact hna)
        rw [Nat.zero_add] at h1
        have := run_copy_bytes (P := Tryd.prog) wd2 22 22 3 5 Tryd.underlying22 size1_b go a (n - a) (n - a) wr.heap.size 0 16 16 ((ol.drop a).take 16) y h1 (by rw [ly]; show 16 = min 16 (n - a); omega) (by rw [ly, List.length_take, List.length_drop, HOL.out]; omega) (fun i hi => by rw [Nat.zero_add]; exact K6.cell i hi)
        rw [ly] at this
        exact this)
      have T7 := T6.setOut a y (by rw [ly, HOL.out]; exact hna)
      rw [HO.out] at T7
      have T7 := Lib.hid T7
      clear K6 B6 T6 HT HO HOL
      simp only [List.take_succ_cons, List.take_zero, List.drop_succ_cons, List.drop_zero]
      repeat still_step
      refine wpStill_nil ?_
      clear f1 f3
      go_upto_region 14 with (first | (with_reducible refine Arr.list_copy (.slice (some ⟨go, a, none⟩) (n - a) (n - a)) (.slice (some ⟨wr.heap.size, 0, none⟩) 16 16) _ (wd2.setCells go a (nv .u8 y)) rfl rfl D2.out ?_) | fail)
      generalize wd2.setCells go a (nv .u8 y) = w7 at *
      clear D2 F1 F2 F3
      -- the tweak is doubled
      go_wp2_with (first | (with_reducible refine Arr.load o16 gt tk lt' T7.out.twe rfl ?_) | fail)
      refine (CX4.out w7).mono ?_
      rintro e w8 ⟨rfl, hb8⟩
      have T8 := Lib.hid (T7.out.next hb8)
      have T9 := Lib.hid (T8.out.setTw z lz)
      clear T7 hb8
      go_wp2_with (first | (with_reducible refine Arr.store o16 gt tk z lt' T8.out.twe lz rfl rfl ?_) | fail)
      go_roundw
      case rel => exact ⟨k + 1, a + 16, by omega, Lib.hid (by have := HA.out; omega), by go_num, by rw [HD.out]; exact T9.out⟩
      case measure => simp [intOf]; omega
    · obtain rfl : k = m := by omega
      have hna : a = n := by have := HN.out; have := HA.out; omega
      have ta : decide ((a : Int) < (n : Int)) = false := by simp; omega
      have ta' : decide (a < n) = false := by simp; omega
      have hout := HT.out.out
      rw [OA.out] at hout
      have HR := Lib.hid (show GivesX (outN f t b k) 0 w (.returned (.tuple #[.slice (some ⟨go, 0, none⟩) n n, .int .i64 0])) wr from by
        have hll := len_outN (f := f) t b k
        rw [← HN.out] at hll
        exact ⟨some ⟨go, 0, none⟩, n, by rw [hll]; rfl, by omega, (fun h => by cases h), bysOf hout HLT.out, HT.out.bel⟩)
      clear hout
      go_wp2
      go_ret2
      exact HR.out
end
end Go.Proofs.YtdjknmnmacppdaaDoor
