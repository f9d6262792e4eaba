/-
  The contract of sha.spread: a piece's words. Conditions: the piece's 64 bytes lie where the pointer leads, the table of widths in its variable.
-/
import Derived.Test.YtmookhbijmibiaaDoorShaFns
import Derived.Test.YtmookhbijmibiaaDoorQuietTail
import Derived.Test.YtmookhbijmibiaaDoorArrSlice
namespace Go.Proofs.YtmookhbijmibiaaDoor
open Go.RowKit Arr Sh

theorem add_u32 (a b : Nat) : IntKind.u32.wrap ((a : Int) + (b : Int)) = (((a + b) % 4294967296 : Nat) : Int) := by rw [IntKind.wrap_u32]; omega
/-- Numbers, and noughts up to n. -/
def full (l : List Nat) (n : Nat) : List Nat := l ++ zs (n - l.length)
theorem length_full (l : List Nat) (n : Nat) (h : l.length ≤ n) : (full l n).length = n := by simp [full, length_zs]; omega
theorem full_get (l : List Nat) (n i : Nat) (h : i < l.length) : (full l n).getD i 0 = l.getD i 0 := by simp [full, List.getElem?_append_left h]
theorem full_set (l : List Nat) (n v : Nat) (h : l.length < n) : (full l n).set l.length v = full (l ++ [v]) n := by
  obtain ⟨d, hd⟩ : ∃ d, n - l.length = d + 1 := ⟨n - l.length - 1, by omega⟩
  have e : n - (l ++ [v]).length = d := by simp; omega
  rw [full, full, hd, e, List.set_append_right _ _ (Nat.le_refl _), Nat.sub_self]
  simp [zs, List.replicate_succ]
theorem full_nil (n : Nat) : full [] n = zs n := by simp [full]
theorem full_all (l : List Nat) (n : Nat) (h : l.length = n) : full l n = l := by simp [full, h, zs]
theorem bys_of_hat {w : World} {g o B : Nat} {l : List Nat} (h : HAt w g o .u8 l) (hb : ∀ x, x ∈ l → x < 256) (hg : g < B) : Bys w B (some ⟨g, o, none⟩) l := ⟨hb, fun _ => ⟨g, o, rfl, hg, fun i hi => h.cell i hi⟩⟩

theorem o64 : Of Tryd.prog 65 38 64 .u32 := ⟨Tryd.underlying65, by kernel_rfl, Tryd.underlying38, by kernel_rfl⟩
theorem o64b : Of Tryd.prog 49 5 64 .u8 := ⟨Tryd.underlying49, by kernel_rfl, Tryd.underlying5, by kernel_rfl⟩
theorem z64 : (Tryd.prog.info? 65).bind (·.zero) = some (.agg (na .u32 (zs 64))) := by kernel_rfl
/-- What a call leaves that hands an array of words back. -/
def GivesW (m : List Nat) (w : World) (e : Ending) (w' : World) : Prop := e = .returned (.agg (na .u32 m)) ∧ Below w.heap.size w w'

set_option maxHeartbeats 4000000 in
set_option maxRecDepth 10000 in
theorem spread64 (p : List Nat) (hp : p.length = 64) (hb : ∀ x, x ∈ p → x < 256) (g o : Nat) (w : World) (hg : HAt w g o .u8 p) (ht : Tab w 1) :
    Calls Tryd.prog 33 #[.pointer (some ⟨g, o, none⟩)] w (GivesW (ws p) w) := by
  have s1 : (w.alloc (.cells (na .u32 (zs 64)) 65)).heap.size = w.heap.size + 1 := World.size_alloc ..
  have A1 := (Holds.new w 65 .u32 (zs 64)).alloc (.cells (na .u32 (zs 64)) 65)
  have A2 := Holds.new (w.alloc (.cells (na .u32 (zs 64)) 65)) 65 .u32 (zs 64)
  rw [s1] at A2
  have A3 := ((Below.refl w.heap.size w).alloc (Nat.le_refl _) (.cells (na .u32 (zs 64)) 65)).alloc (by rw [s1]; omega) (.cells (na .u32 (zs 64)) 65)
  have hgw : g < w.heap.size := hg.lt (by omega)
  have htw := ht.lt
  have HP := Lib.hid hp
  have HB := Lib.hid hb
  have HG := Lib.hid hg
  have HT := Lib.hid ht
  have B1 := Lib.hid A1
  have B2 := Lib.hid A2
  have B3 := Lib.hid A3
  clear s1 A1 A2 A3 hg ht hp hb
  go_enter Tryd.func33, Tryd.ntmps33
  go_wp2_with (first | (with_reducible refine Arr.alloc (t := 65) _ z64 ?_) | fail)
  generalize (w.alloc (.cells (na .u32 (zs 64)) 65)).alloc (.cells (na .u32 (zs 64)) 65) = w0 at *
  go_loopw [6] (fun i wr => ∃ t : Nat, t ≤ 16 ∧ i = .int .i64 (t : Nat) ∧ Holds wr w.heap.size .u32 (zs 64) ∧ Holds wr (w.heap.size + 1) .u32 (full (firsts p t) 64) ∧ Below w.heap.size w wr) (fun i _ => 16 - (intOf i).toNat)
  case atStart => exact ⟨0, by omega, rfl, B1.out, B2.out, B3.out⟩
  case round =>
    clear B1 B2 B3
    obtain ⟨t, ht, rfl, h1, h2, h3⟩ := hrel
    have H1 := Lib.hid h1
    have H2 := Lib.hid h2
    have H3 := Lib.hid h3
    clear h1 h2 h3
    by_cases hlt : t < 16
    · have tt : decide ((t : Int) < 16) = true := by simp; omega
      obtain ⟨q, hq⟩ : ∃ q, q = 4 * t := ⟨_, rfl⟩
      have eq : 4 * (t : Int) = (q : Int) := by omega
      have hsl : ∀ W : World, (Instr.sliceAt 49 (.pointer (some ⟨g, o, none⟩)) (some (.int .i64 (q : Int))) (some (.int .i64 ((q : Int) + 4))) none).run Tryd.prog W = .ok (.slice (some ⟨g, o + q, none⟩) 4 (64 - q)) W := fun W => by
        have := sliceLH o64b W g o .i64 .i64 (q : Int) ((q : Int) + 4) q (q + 4) rfl (by omega) (by omega) (by omega) (by omega)
        rwa [show q + 4 - q = 4 by omega] at this
      have HQ := (bys_of_hat HG.out HB.out hgw).below H3.out
      have HQ := HQ.part q 4 (by have := HP.out; omega)
      have C1 := get32_yes (some ⟨g, o + q, none⟩) (64 - q) ((p.drop q).take 4) (by have := HP.out; simp; omega) wr _ HQ (HT.out.below H3.out htw)
      have ew : num ((p.drop q).take 4) = w16 p t := by rw [hq]; rfl
      rw [ew] at C1
      have C1 := Lib.hid C1
      have lf := length_firsts p t
      have HS := full_set (firsts p t) 64 (w16 p t) (by omega)
      rw [lf, ← firsts_snoc] at HS
      have ll := length_full (firsts p t) 64 (by omega)
      clear lf ew HQ
      generalize full (firsts p t) 64 = u at *
      have cl := H2.out.cell t (by omega)
      have fr := H2.out.frozen t (by omega)
      have X1 := H1.out.beside ⟨w.heap.size + 1, t, none⟩ (.int .u32 ((w16 p t : Nat) : Int)) (show w.heap.size + 1 ≠ w.heap.size by omega)
      have X2 := H2.out.set t (w16 p t) (by omega)
      rw [HS] at X2
      have X3 := H3.out.setCell (p := ⟨w.heap.size + 1, t, none⟩) (show w.heap.size ≤ w.heap.size + 1 by omega) (.int .u32 ((w16 p t : Nat) : Int))
      have X1 := Lib.hid X1
      have X2 := Lib.hid X2
      have X3 := Lib.hid X3
      clear HS
      generalize w16 p t = v at *
      generalize u.getD t 0 = old at *
      clear hq
      go_wp2_with fail
      refine C1.out.mono ?_
      rintro e w1 ⟨rfl, rfl⟩
      go_wp2
      go_roundw
      case rel => exact ⟨t + 1, by omega, by go_num, X1.out, X2.out, X3.out⟩
      case measure => simp [intOf]; omega
    · have ei : (t : Int) = 16 := by omega
      rw [ei]
      obtain rfl : t = 16 := by omega
      clear ei
      have WF := Lib.hid (ws_firsts p HB.out 16)
      have LF := length_firsts p 16
      have HE := Lib.hid (show ext (64 - 16) (firsts p 16) = ws p from rfl)
      generalize firsts p 16 = u at *
      go_wp2_with fail
      go_loopw [5] (fun i wr => ∃ (t : Nat) (l : List Nat), 16 ≤ t ∧ t ≤ 64 ∧ i = .int .i64 (t : Nat) ∧ l.length = t ∧ Ws l ∧ ext (64 - t) l = ws p ∧ Holds wr w.heap.size .u32 (zs 64) ∧ Holds wr (w.heap.size + 1) .u32 (full l 64) ∧ Below w.heap.size w wr) (fun i _ => 64 - (intOf i).toNat)
      case atStart => exact ⟨16, u, by omega, by omega, rfl, LF, WF.out, HE.out, H1.out, H2.out, H3.out⟩
      case round =>
        clear H1 H2 H3 WF HE LF
        obtain ⟨t, l, ht1, ht2, rfl, hl, hw, hf, h1, h2, h3⟩ := hrel
        have H1 := Lib.hid h1
        have H2 := Lib.hid h2
        have H3 := Lib.hid h3
        have HL := Lib.hid hl
        have HW := Lib.hid hw
        clear h1 h2 h3 hw
        by_cases hlt : t < 64
        · have tt : decide ((t : Int) < 64) = true := by simp; omega
          have ti : (t : Int) < 64 := by omega
          have tw := wrap_nat t (by omega)
          rw [show 64 - t = (64 - (t + 1)) + 1 by omega] at hf
          have hf' : ext (64 - (t + 1)) (l ++ [nxt l]) = ws p := hf
          have HF := Lib.hid hf'
          clear hf hf'
          obtain ⟨m1, hm1⟩ : ∃ m, m = t - 16 := ⟨_, rfl⟩
          obtain ⟨m2, hm2⟩ : ∃ m, m = t - 15 := ⟨_, rfl⟩
          obtain ⟨m3, hm3⟩ : ∃ m, m = t - 7 := ⟨_, rfl⟩
          obtain ⟨m4, hm4⟩ : ∃ m, m = t - 2 := ⟨_, rfl⟩
          have e1 : (t : Int) - 16 = (m1 : Int) := by omega
          have e2 : (t : Int) - 15 = (m2 : Int) := by omega
          have e3 : (t : Int) - 7 = (m3 : Int) := by omega
          have e4 : (t : Int) - 2 = (m4 : Int) := by omega
          have b1 : (m1 : Int) < 64 := by omega
          have b2 : (m2 : Int) < 64 := by omega
          have b3 : (m3 : Int) < 64 := by omega
          have b4 : (m4 : Int) < 64 := by omega
          have w1 := wrap_nat m1 (by omega)
          have w2 := wrap_nat m2 (by omega)
          have w3 := wrap_nat m3 (by omega)
          have w4 := wrap_nat m4 (by omega)
          have hn : nxt l = (((l.getD m1 0 + duo (l.getD m2 0) 7 18 3) % 4294967296 + l.getD m3 0) % 4294967296 + duo (l.getD m4 0) 17 19 10) % 4294967296 := by
            rw [nxt, hl, ← hm1, ← hm2, ← hm3, ← hm4]
          have ll := length_full l 64 (by omega)
          have g1 := H2.out.cell m1 (by omega)
          have g2 := H2.out.cell m2 (by omega)
          have g3 := H2.out.cell m3 (by omega)
          have g4 := H2.out.cell m4 (by omega)
          rw [full_get l 64 _ (by omega)] at g1 g2 g3 g4
          have HS := full_set l 64 (nxt l) (by omega)
          rw [hl] at HS
          have HS := Lib.hid HS
          have k2 := HW.out m2
          have k4 := HW.out m4
          have C1 := Lib.hid (fun w' => (shifted_any (l.getD m2 0) 7 18 3 k2 (by omega) (by omega) (by omega) w' : Calls Tryd.prog 36 #[.int .u32 ((l.getD m2 0 : Nat) : Int), .int .i64 7, .int .i64 18, .int .i64 3] w' _))
          have C2 := Lib.hid (fun w' => (shifted_any (l.getD m4 0) 17 19 10 k4 (by omega) (by omega) (by omega) w' : Calls Tryd.prog 36 #[.int .u32 ((l.getD m4 0 : Nat) : Int), .int .i64 17, .int .i64 19, .int .i64 10] w' _))
          generalize duo (l.getD m2 0) 7 18 3 = d1 at *
          generalize duo (l.getD m4 0) 17 19 10 = d2 at *
          have y1 := add_u32 (l.getD m1 0) d1
          have y2 := add_u32 ((l.getD m1 0 + d1) % 4294967296) (l.getD m3 0)
          have y3 := add_u32 (((l.getD m1 0 + d1) % 4294967296 + l.getD m3 0) % 4294967296) d2
          rw [← hn] at y3
          generalize ((l.getD m1 0 + d1) % 4294967296 + l.getD m3 0) % 4294967296 = x2 at *
          generalize (l.getD m1 0 + d1) % 4294967296 = x1 at *
          have WN := Lib.hid (HW.out.snoc (nxt_lt l))
          have LN := Lib.hid (show (l ++ [nxt l]).length = t + 1 by simp [hl])
          clear hn hl HL k2 k4 hm1 hm2 hm3 hm4
          generalize nxt l = x3 at *
          generalize l.getD m1 0 = l1 at *
          generalize l.getD m2 0 = l2 at *
          generalize l.getD m3 0 = l3 at *
          generalize l.getD m4 0 = l4 at *
          go_wp2_with fail
          refine region_quiet_tail 22 (by kernel_rfl) (by kernel_rfl) ?_
          simp only [List.take_succ_cons, List.take_zero, List.drop_succ_cons, List.drop_zero]
          repeat (go_big_quiet_step (first | (go_at_call 36; first | (with_reducible exact Calls.quiet_of (C1.out _)) | (with_reducible exact Calls.quiet_of (C2.out _)))))
          refine wpQuiet_nil ?_
          intro wd hwd
          have G1 : Holds wd w.heap.size .u32 (zs 64) := by obtain ⟨n, rfl⟩ := hwd; exact H1.out
          have G2 : Holds wd (w.heap.size + 1) .u32 (full l 64) := by obtain ⟨n, rfl⟩ := hwd; exact H2.out
          have G3 : Below w.heap.size w wd := by obtain ⟨n, rfl⟩ := hwd; exact below_drewN H3.out n
          clear hwd H1 H2 H3 g1 g2 g3 g4 y1 y2 y3 C1 C2
          have cl := G2.cell t (by omega)
          have fr := G2.frozen t (by omega)
          have X1 := Lib.hid (G1.beside ⟨w.heap.size + 1, t, none⟩ (.int .u32 (x3 : Int)) (show w.heap.size + 1 ≠ w.heap.size by omega))
          have X2 := G2.set t x3 (by omega)
          rw [HS.out] at X2
          have X2 := Lib.hid X2
          have X3 := Lib.hid (G3.setCell (p := ⟨w.heap.size + 1, t, none⟩) (show w.heap.size ≤ w.heap.size + 1 by omega) (.int .u32 (x3 : Int)))
          clear G1 G2 G3 HS
          generalize (full l 64).getD t 0 = old at *
          go_wp2
          go_roundw
          case rel => exact ⟨t + 1, l ++ [x3], by omega, by omega, by go_num, LN.out, WN.out, HF.out, X1.out, X2.out, X3.out⟩
          case measure => simp [intOf]; omega
        · obtain rfl : t = 64 := by omega
          have hfin : l = ws p := by rw [show 64 - 64 = 0 by omega] at hf; exact hf
          have hfl := full_all l 64 hl
          rw [hfl, hfin] at H2
          have lw := length_ws p
          have F1 := Lib.hid (H1.out.put (ws p) (by rw [lw, length_zs]))
          have F2 := Lib.hid (below_setCells (b := w.heap.size) (Nat.le_refl _) (nv .u32 (ws p)) 0 _ H3.out)
          clear hf hfin hfl hl HL
          go_wp2_with (first | (with_reducible refine Arr.load o64 (w.heap.size + 1) (ws p) lw H2.out rfl ?_) | (with_reducible refine Arr.store o64 w.heap.size (zs 64) (ws p) (length_zs _) H1.out lw rfl rfl ?_) | fail)
          exact bodyPost_ret (v := .agg (na .u32 (ws p))) (results_arr o64 rfl _ _ w.heap.size (ws p) lw F1.out rfl) rfl ⟨rfl, F2.out⟩
end Go.Proofs.YtmookhbijmibiaaDoor
