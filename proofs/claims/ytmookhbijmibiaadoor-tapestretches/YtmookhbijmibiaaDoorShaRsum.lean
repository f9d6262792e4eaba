/-
  Contract of (*sha.running).sum: the eight numbers' bytes. Conditions: the numbers lie in the block that the pointer leads to, the table of widths in its variable. (Written by tools/gen_shasum.py.)
-/
import Derived.Test.YtmookhbijmibiaaDoorShaBehind
namespace Go.Proofs.YtmookhbijmibiaaDoor
open Go.RowKit Arr Sh

/-- The first words' bytes laid, the others noughts. -/
def lay (l : List Nat) : Nat → List Nat
  | 0 => zs 32
  | i + 1 => spl (lay l i) (4 * i) (bytesOf (l.getD i 0) 4)
theorem length_lay (l : List Nat) : ∀ i, i ≤ 8 → (lay l i).length = 32
  | 0, _ => by rw [lay, length_zs]
  | i + 1, h => by rw [lay, length_spl _ _ _ (by rw [length_bytesOf, length_lay l i (by omega)]; omega), length_lay l i (by omega)]
theorem spl_again (l : List Nat) (i : Nat) (m : List Nat) (h : i + m.length ≤ l.length) : spl (spl l i m) i m = spl l i m := by
  have h1 : (l.take i).length = i := by simp; omega
  have e1 : (spl l i m).take i = l.take i := by rw [spl, List.take_append_of_le_length (by omega), List.take_of_length_le (by omega)]
  have e2 : (spl l i m).drop (i + m.length) = l.drop (i + m.length) := by
    rw [spl, ← List.append_assoc, List.drop_append_of_le_length (by simp; omega), List.drop_of_length_le (by simp; omega), List.nil_append]
  rw [spl, e1, e2]; rfl
theorem lay_out (s : St) : lay s.l 8 = out s := rfl
/-- What holds while word i goes into the sum. -/
def SU (w : World) (h i : Nat) (l : List Nat) (w' : World) : Prop := (∃ L, (L = lay l i ∨ L = lay l (i + 1)) ∧ Holds w' h .u8 L) ∧ Holds w' w.heap.size .u8 (zs 32) ∧ Below w.heap.size w w'
theorem SU.after {w w' w'' : World} {h i : Nat} {l : List Nat} (s : SU w h i l w') (hi : i < 8) (hb : Below w'.heap.size w' w'') : SU w h i l w'' := by
  obtain ⟨⟨L, hl, hP⟩, hR, hB⟩ := s
  have : 0 < L.length := by
    rcases hl with rfl | rfl
    · rw [length_lay _ _ (by omega)]; omega
    · rw [length_lay _ _ (by omega)]; omega
  exact ⟨⟨L, hl, hP.below hb (hP.lt this)⟩, hR.below hb (hR.lt (by rw [length_zs]; omega)), hB.trans (hb.mono hB.size)⟩
theorem SU.put {w w' : World} {h i : Nat} {l : List Nat} (s : SU w h i l w') (hi : i < 8) (hh : w.heap.size < h) (x : Nat) (hx : x = l.getD i 0) (q : Nat) (hq : q = 4 * i) :
    Holds (w'.setCells h q (nv .u8 (bytesOf x 4))) h .u8 (lay l (i + 1)) ∧ Holds (w'.setCells h q (nv .u8 (bytesOf x 4))) w.heap.size .u8 (zs 32) ∧ Below w.heap.size w (w'.setCells h q (nv .u8 (bytesOf x 4))) := by
  subst hx hq
  obtain ⟨⟨L, hl, hP⟩, hR, hB⟩ := s
  refine ⟨?_, hR.apart _ _ _ (by omega), below_setCells (by omega) _ _ _ hB⟩
  have hll : L.length = 32 := by rcases hl with rfl | rfl
                                 · exact length_lay _ _ (by omega)
                                 · exact length_lay _ _ (by omega)
  have h1 := HAt.spliced (Holds.at0 hP) (4 * i) (bytesOf (l.getD i 0) 4) (by rw [length_bytesOf, hll]; omega)
  rw [Nat.zero_add] at h1
  rcases hl with rfl | rfl
  · exact h1
  · have e : spl (lay l (i + 1)) (4 * i) (bytesOf (l.getD i 0) 4) = lay l (i + 1) := spl_again _ _ _ (by rw [length_bytesOf, length_lay _ _ (by omega)]; omega)
    rw [e] at h1
    exact h1
theorem copy_word (w w' : World) (h i : Nat) (l : List Nat) (hi : i < 8) (x q : Nat) (hq : q = 4 * i) (ty : TypeId) (s : SU w h i l (w'.alloc (.cells (na .u8 (bytesOf x 4)) 5))) :
    (Builtin.copy_ #[22, 22] ty #[.slice (some ⟨h, q, none⟩) (32 - q) (32 - q), .slice (some ⟨w'.heap.size, 0, none⟩) 4 4]).run Tryd.prog (w'.alloc (.cells (na .u8 (bytesOf x 4)) 5)) = .ok (goInt 4) ((w'.alloc (.cells (na .u8 (bytesOf x 4)) 5)).setCells h q (nv .u8 (bytesOf x 4))) := by
  subst hq
  obtain ⟨⟨L, hl, hP⟩, hR, hB⟩ := s
  have hll : L.length = 32 := by rcases hl with rfl | rfl
                                 · exact length_lay _ _ (by omega)
                                 · exact length_lay _ _ (by omega)
  have h1 := HAt.part (Holds.at0 hP) (4 * i) 4 (by rw [hll]; omega)
  have h2 := Holds.new w' 5 .u8 (bytesOf x 4)
  have := run_copy_bytes (P := Tryd.prog) _ 22 22 ty 5 Tryd.underlying22 size_byte h (0 + 4 * i) (32 - 4 * i) (32 - 4 * i) w'.heap.size 0 4 4 _ (bytesOf x 4) h1 (by rw [length_bytesOf]; show 4 = min 4 (32 - 4 * i); omega) (by rw [length_bytesOf, List.length_take, List.length_drop, hll]; omega) (fun i hi => by rw [Nat.zero_add]; exact h2.cell i hi)
  rw [length_bytesOf, Nat.zero_add] at this
  exact this

theorem o32 : Of Tryd.prog 28 5 32 .u8 := ⟨Tryd.underlying28, by kernel_rfl, Tryd.underlying5, by kernel_rfl⟩
theorem z32 : (Tryd.prog.info? 28).bind (·.zero) = some (.agg (na .u8 (zs 32))) := by kernel_rfl
/-- What a call leaves that hands an array of bytes back. -/
def GivesB (m : List Nat) (w : World) (e : Ending) (w' : World) : Prop := e = .returned (.agg (na .u8 m)) ∧ Below w.heap.size w w'

set_option maxHeartbeats 2000000 in
set_option maxRecDepth 10000 in
theorem rsum_any (s : St) (hs : s.Ok) (g : Nat) (w : World) (hg : HAt w g 0 .u32 s.l) (ht : Tab w 1) :
    Calls Tryd.prog 21 #[.pointer (some ⟨g, 0, none⟩)] w (GivesB (out s) w) := by
  have s1 : (w.alloc (.cells (na .u8 (zs 32)) 28)).heap.size = w.heap.size + 1 := World.size_alloc ..
  have A1 := (Holds.new w 28 .u8 (zs 32)).alloc (.cells (na .u8 (zs 32)) 28)
  have A2 := Holds.new (w.alloc (.cells (na .u8 (zs 32)) 28)) 28 .u8 (zs 32)
  rw [s1] at A2
  have A3 := ((Below.refl w.heap.size w).alloc (Nat.le_refl _) (.cells (na .u8 (zs 32)) 28)).alloc (by rw [s1]; omega) (.cells (na .u8 (zs 32)) 28)
  have ls := length_l s
  have hgw : g < w.heap.size := hg.lt (by omega)
  have htw := ht.lt
  have HW := Lib.hid (ws_l hs)
  have HO := Lib.hid (lay_out s)
  have LO := length_out s
  have HG := Lib.hid (hg.below A3 hgw)
  have HT := Lib.hid ht
  have B1 := Lib.hid A1
  have B2 := Lib.hid A2
  have B3 := Lib.hid A3
  clear s1 A1 A2 A3 ht hs hg
  generalize out s = os at *
  generalize s.l = l at *
  go_enter Tryd.func21, Tryd.ntmps21
  go_upto_region 2 with (first | (with_reducible refine Arr.alloc (t := 28) _ z32 ?_) | fail)
  generalize (w.alloc (.cells (na .u8 (zs 32)) 28)).alloc (.cells (na .u8 (zs 32)) 28) = w0 at *
  go_wp2_with (first | (with_reducible refine Arr.loadAt o8 g 0 l ls HG.out rfl ?_) | fail)
  go_loopw [10] (fun i wr => ∃ t : Nat, t ≤ 8 ∧ i = .int .i64 (t : Nat) ∧ Holds wr (w.heap.size + 1) .u8 (lay l t) ∧ Holds wr w.heap.size .u8 (zs 32) ∧ Below w.heap.size w wr) (fun i _ => 8 - (intOf i).toNat)
  case atStart => exact ⟨0, by omega, rfl, B2.out, B1.out, B3.out⟩
  case round =>
    clear B1 B2 B3 HG
    obtain ⟨t, ht, rfl, h1, h2, h3⟩ := hrel
    have H1 := Lib.hid h1
    have H2 := Lib.hid h2
    have H3 := Lib.hid h3
    clear h1 h2 h3
    by_cases hlt : t < 8
    · have tt : decide ((t : Int) < 8) = true := by simp; omega
      have ti : (t : Int) < 8 := by omega
      have hix : ∀ W : World, (Instr.index 48 (.agg (na .u32 l)) (.int .i64 (t : Int))).run Tryd.prog W = .ok (.int .u32 ((l.getD t 0 : Nat) : Int)) W := fun W => Arr.index o8 W l ls .i64 t hlt
      have hx := HW.out t
      obtain ⟨q, hq⟩ : ∃ q, q = 4 * t := ⟨_, rfl⟩
      have eq : 4 * (t : Int) = (q : Int) := by omega
      have wq : IntKind.i64.wrap (q : Int) = (q : Int) := wrap_nat q (by omega)
      have hsl : ∀ W : World, (Instr.sliceAt 28 (.pointer (some ⟨w.heap.size + 1, 0, none⟩)) (some (.int .i64 (q : Int))) none none).run Tryd.prog W = .ok (.slice (some ⟨w.heap.size + 1, q, none⟩) (32 - q) (32 - q)) W := fun W => by have := sliceL o32 W (w.heap.size + 1) 0 .i64 _ q rfl (by omega); rwa [Nat.zero_add] at this
      have HQ := Lib.hid hq
      have EX : Go.RowKit.Hid (∃ x, x = l.getD t 0) := Lib.hid ⟨_, rfl⟩
      obtain ⟨x, ex⟩ := EX.out
      rw [← ex] at hix hx
      have EXH := Lib.hid ex
      clear hq ex EX
      go_wp2_with fail
      have ST : Go.RowKit.Hid (SU w (w.heap.size + 1) t l wr.drew) := Lib.hid ⟨⟨_, .inl rfl, H1.out.drew⟩, H2.out.drew, below_drew H3.out⟩
      clear H1 H2 H3
      refine wp_region_held_drew (S := SU w (w.heap.size + 1) t l) (by kernel_rfl) ST.out (fun hHeld => ?_)
      clear ST
      generalize wr.drew = wq at *
      refine wpAnyH_take (i := 0) (v := ?_) rfl (by kernel_rfl) (by kernel_rfl) (by kernel_rfl) (fun _ _ _ h => h) (Or.inl ⟨by rfl, ?_⟩) (by assumption) ?_
      rotate_left
      · (intro wz hSw; go_simp; try with_reducible rfl)
      try simp only [List.getElem_toArray, List.getElem_cons_zero, Act.put, List.setIfInBounds_toArray, List.set_cons_zero, List.set_cons_succ]
      refine wpAnyH_take (i := 1) (v := ?_) rfl (by kernel_rfl) (by kernel_rfl) (by kernel_rfl) (fun _ _ _ h => h) (Or.inl ⟨by rfl, ?_⟩) (by assumption) ?_
      rotate_left
      · (intro wz hSw; go_simp; try with_reducible rfl)
      try simp only [List.getElem_toArray, List.getElem_cons_zero, List.getElem_cons_succ, Act.put, List.setIfInBounds_toArray, List.set_cons_zero, List.set_cons_succ]
      refine wpAnyH_take (i := 2) (v := ?_) rfl (by kernel_rfl) (by kernel_rfl) (by kernel_rfl) (fun _ _ _ h => h) (Or.inl ⟨by rfl, ?_⟩) (by assumption) ?_
      rotate_left
      · (intro wz hSw; go_simp; try with_reducible rfl)
      try simp only [List.getElem_toArray, List.getElem_cons_zero, List.getElem_cons_succ, Act.put, List.setIfInBounds_toArray, List.set_cons_zero, List.set_cons_succ]
      refine wpAnyH_take (i := 3) (v := ?_) rfl (by kernel_rfl) (by kernel_rfl) (by kernel_rfl) (fun _ _ _ h => h) (Or.inl ⟨by rfl, ?_⟩) (by assumption) ?_
      rotate_left
      · (intro wz hSw; go_simp; try with_reducible rfl)
      try simp only [List.getElem_toArray, List.getElem_cons_zero, List.getElem_cons_succ, Act.put, List.setIfInBounds_toArray, List.set_cons_zero, List.set_cons_succ]
      refine wpAnyH_ready (rs := [4]) (by kernel_rfl) (by simp) (AllReadyH.cons rfl (fun K hK => ?_) AllReadyH.nil)
      go_simp
      refine (put32_any x hx _ (HT.out.below hHeld.2.2 htw)).mono ?_
      rintro e w5 ⟨arr, hla, rfl, rfl⟩
      rw [laid_cells hla] at *
      clear hla
      refine hK.out _ _ (hHeld.after hlt (below_alloc _ _)) (fun hHeld2 => ?_)
      clear hHeld hK K; have hHeld := hHeld2; clear hHeld2
      try simp only [List.getElem_toArray, List.getElem_cons_zero, List.getElem_cons_succ, Act.put, List.setIfInBounds_toArray, List.set_cons_zero, List.set_cons_succ]
      refine wpAnyH_ready (rs := [5]) (by kernel_rfl) (by simp) (AllReadyH.cons rfl (fun K hK => ?_) AllReadyH.nil)
      have CN := copy_word w wq (w.heap.size + 1) t l hlt x q HQ.out 3 hHeld
      have PT := hHeld.put hlt (by omega) x EXH.out q HQ.out
      refine Arr.step_copy rfl (.tmp 16) (.tmp 18) 22 22 rfl (.slice (some ⟨w.heap.size + 1, q, none⟩) (32 - q) (32 - q)) (.slice (some ⟨wq.heap.size, 0, none⟩) 4 4) rfl rfl CN ?_
      refine hK.out _ _ ⟨⟨_, .inr rfl, PT.1⟩, PT.2.1, PT.2.2⟩ (fun hHeld2 => ?_)
      clear hHeld hK K hHeld2 CN
      try simp only [List.getElem_toArray, List.getElem_cons_zero, List.getElem_cons_succ, Act.put, List.setIfInBounds_toArray, List.set_cons_zero, List.set_cons_succ]
      refine wpAnyH_done (by kernel_rfl) ?_ _
      have P1 := Lib.hid PT.1
      have P2 := Lib.hid PT.2.1
      have P3 := Lib.hid PT.2.2
      clear PT
      go_wp2
      go_roundw
      case rel => exact ⟨t + 1, by omega, by go_num, P1.out, P2.out, P3.out⟩
      case measure => simp [intOf]; omega
    · have et : (t : Int) = 8 := by omega
      obtain rfl : t = 8 := by omega
      clear et
      rw [HO.out] at H1
      have F1 := Lib.hid (H2.out.put os (by rw [LO, length_zs]))
      have F2 := Lib.hid (below_setCells (b := w.heap.size) (Nat.le_refl _) (nv .u8 os) 0 _ H3.out)
      go_wp2_with (first | (with_reducible refine Arr.load o32 (w.heap.size + 1) os LO H1.out rfl ?_) | (with_reducible refine Arr.store o32 w.heap.size (zs 32) os (length_zs _) H2.out LO rfl rfl ?_) | fail)
      exact bodyPost_ret (v := .agg (na .u8 os)) (results_arr o32 rfl _ _ w.heap.size os LO F1.out rfl) rfl ⟨rfl, F2.out⟩
end Go.Proofs.YtmookhbijmibiaaDoor
