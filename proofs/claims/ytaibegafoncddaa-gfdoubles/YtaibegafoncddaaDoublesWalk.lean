/-
  The walk of the law GfDoubles (written by tools/gen_doubles.py). No conditions.
-/
import Derived.Test.YtaibegafoncddaaRefDbl
import Derived.Deep.RegionHeld3
namespace Go.Proofs.Ytaibegafoncddaa
open Go.RowKit Gf
set_option linter.unusedSimpArgs false

/-- What the statements read: the block that came in, and one of the law's own. -/
@[reducible] def S1 (l : List Nat) (h : Nat) (w w' : World) : Prop := Blk w' h l ∧ Below h w w'
@[reducible] def S2 (l m : List Nat) (h g : Nat) (w w' : World) : Prop := Blk w' h l ∧ Blk w' g m ∧ Below h w w'
theorem S1.keep {l : List Nat} {h : Nat} {w w1 w2 : World} (s : S1 l h w w1) (hb : Below w1.heap.size w1 w2) : S1 l h w w2 :=
  ⟨s.1.below hb s.1.lt, s.2.trans (hb.mono (Nat.le_of_lt s.1.lt))⟩
theorem S2.keep {l m : List Nat} {h g : Nat} {w w1 w2 : World} (s : S2 l m h g w w1) (hb : Below w1.heap.size w1 w2) : S2 l m h g w w2 :=
  ⟨s.1.below hb s.1.lt, s.2.1.below hb s.2.1.lt, s.2.2.trans (hb.mono (Nat.le_of_lt s.1.lt))⟩
def YesB (w : World) (e : Ending) (w' : World) : Prop := e = .returned (.bool true) ∧ Below w.heap.size w w'

set_option maxHeartbeats 4000000 in
set_option maxRecDepth 20000 in
theorem doubles_skip (l : List Nat) (hl : l.length = 16) (hb : Bytes l) (n : Int) (h1 : 100 < n) (h2 : n ≤ 65536) (w : World) : Calls Try.prog 4 #[.agg (blk l), .int .i64 n] w (YesB w) := by
  have C0 := Lib.hid (awake_any (w.alloc (.cells (blk l) 29)))
  have ST := Lib.hid (show S1 l w.heap.size w (w.alloc (.cells (blk l) 29)).drew from ⟨(Blk.new w l hl).drew, ((Below.refl w.heap.size w).alloc (Nat.le_refl _) _).drew⟩)
  have K1 := fun wx => double_any l hl hb wx
  have K2 := fun wx => rdouble_any l hl hb wx
  have lm := length_dbl l hl
  have q1 := fun wx => eql_blk wx (dbl l) (dbl l) lm lm
  simp only [decide_true] at q1
  have D0 := Lib.hid (show ∀ k, dblN l (k + 1) = dbl (dblN l k) from fun _ => rfl)
  have D1 := Lib.hid (show dblN l 0 = l from rfl)
  generalize dbl l = m at *
  have K1 := Lib.hid K1
  have K2 := Lib.hid K2
  have hu := Try.underlying29
  have i1 := info_blk' l hl
  have t1 : decide (100 < n) = true := by simp; omega
  have t2 : decide (n ≤ 65536) = true := by simp; omega
  go_enter Try.func4, Try.ntmps4
  go_wp2_with fail
  refine C0.out.mono ?_
  rintro e w' ⟨rfl, rfl⟩
  go_wp2
  refine wp_region_held_drew (S := S1 l w.heap.size w) (by kernel_rfl) ST.out (fun hHeld => ?_)
  refine' wpAnyH_take (i := 0) (v := _) rfl (by kernel_rfl) (by kernel_rfl) (by kernel_rfl) (fun _ _ _ h => h) (yieldsIf_load_mid (by rfl) _ _ rfl _ _ rfl _ _ (fun _ hs => hs.1.2.1) hu rfl i1) (by assumption) ?_
  try simp only [List.getElem_toArray, List.getElem_cons_zero, List.getElem_cons_succ, Act.put, List.setIfInBounds_toArray, List.set_cons_zero, List.set_cons_succ]
  refine' wpAnyH_take (i := 2) (v := _) rfl (by kernel_rfl) (by kernel_rfl) (by kernel_rfl) (fun _ _ _ h => h) (yieldsIf_load_mid (by rfl) _ _ rfl _ _ rfl _ _ (fun _ hs => hs.1.2.1) hu rfl i1) (by assumption) ?_
  try simp only [List.getElem_toArray, List.getElem_cons_zero, List.getElem_cons_succ, Act.put, List.setIfInBounds_toArray, List.set_cons_zero, List.set_cons_succ]
  refine wpAnyH_ready (rs := [1]) (by kernel_rfl) (by simp) (AllReadyH.cons rfl (fun K hK => ?_) AllReadyH.nil)
  go_simp
  refine (K1.out _).mono ?_
  rintro e w5 ⟨rfl, hbel⟩
  refine hK.out _ _ (S1.keep hHeld hbel) (fun hHeld2 => ?_)
  clear hHeld hK K hbel; have hHeld := hHeld2; clear hHeld2
  try simp only [List.getElem_toArray, List.getElem_cons_zero, List.getElem_cons_succ, Act.put, List.setIfInBounds_toArray, List.set_cons_zero, List.set_cons_succ]
  refine wpAnyH_ready (rs := [3]) (by kernel_rfl) (by simp) (AllReadyH.cons rfl (fun K hK => ?_) AllReadyH.nil)
  go_simp
  refine (K2.out _).mono ?_
  rintro e w5 ⟨rfl, hbel⟩
  refine hK.out _ _ (S1.keep hHeld hbel) (fun hHeld2 => ?_)
  clear hHeld hK K hbel; have hHeld := hHeld2; clear hHeld2
  try simp only [List.getElem_toArray, List.getElem_cons_zero, List.getElem_cons_succ, Act.put, List.setIfInBounds_toArray, List.set_cons_zero, List.set_cons_succ]
  refine wpAnyH_take (i := 4) (v := ?_) rfl (by kernel_rfl) (by kernel_rfl) (by kernel_rfl) (fun _ _ _ h => h) (Or.inl ⟨by rfl, ?_⟩) (by assumption) ?_
  rotate_left
  · (intro wz hSw; go_simp; try with_reducible rfl)
  try simp only [List.getElem_toArray, List.getElem_cons_zero, List.getElem_cons_succ, Act.put, List.setIfInBounds_toArray, List.set_cons_zero, List.set_cons_succ]
  refine wpAnyH_done (by kernel_rfl) ?_ _
  go_wp2
  go_ret
  exact ⟨rfl, hHeld.2⟩

set_option maxHeartbeats 4000000 in
set_option maxRecDepth 20000 in
theorem doubles_low (l : List Nat) (hl : l.length = 16) (hb : Bytes l) (n : Int) (h1 : n ≤ 0) (w : World) : Calls Try.prog 4 #[.agg (blk l), .int .i64 n] w (YesB w) := by
  have C0 := Lib.hid (awake_any (w.alloc (.cells (blk l) 29)))
  have ST := Lib.hid (show S1 l w.heap.size w (w.alloc (.cells (blk l) 29)).drew from ⟨(Blk.new w l hl).drew, ((Below.refl w.heap.size w).alloc (Nat.le_refl _) _).drew⟩)
  have K1 := fun wx => double_any l hl hb wx
  have K2 := fun wx => rdouble_any l hl hb wx
  have lm := length_dbl l hl
  have q1 := fun wx => eql_blk wx (dbl l) (dbl l) lm lm
  simp only [decide_true] at q1
  have D0 := Lib.hid (show ∀ k, dblN l (k + 1) = dbl (dblN l k) from fun _ => rfl)
  have D1 := Lib.hid (show dblN l 0 = l from rfl)
  generalize dbl l = m at *
  have K1 := Lib.hid K1
  have K2 := Lib.hid K2
  have hu := Try.underlying29
  have i1 := info_blk' l hl
  have K3 := Lib.hid (fun wx => show Calls Try.prog 15 #[.agg (blk l), .int .i64 n] wx (Gives l wx) from by
    by_cases h0 : n = 0
    · subst h0; exact doubled_in l hl hb 0 (by omega) wx
    · exact doubled_out l hl n (by omega) wx)
  have q2 := fun wx => eql_blk wx l l hl hl
  simp only [decide_true] at q2
  have t1 : decide (100 < n) = false := by simp; omega
  have t2 : decide (0 < n) = false := by simp; omega
  go_enter Try.func4, Try.ntmps4
  go_wp2_with fail
  refine C0.out.mono ?_
  rintro e w' ⟨rfl, rfl⟩
  go_wp2
  refine wp_region_held_drew (S := S1 l w.heap.size w) (by kernel_rfl) ST.out (fun hHeld => ?_)
  refine' wpAnyH_take (i := 0) (v := _) rfl (by kernel_rfl) (by kernel_rfl) (by kernel_rfl) (fun _ _ _ h => h) (yieldsIf_load_mid (by rfl) _ _ rfl _ _ rfl _ _ (fun _ hs => hs.1.2.1) hu rfl i1) (by assumption) ?_
  try simp only [List.getElem_toArray, List.getElem_cons_zero, List.getElem_cons_succ, Act.put, List.setIfInBounds_toArray, List.set_cons_zero, List.set_cons_succ]
  refine' wpAnyH_take (i := 2) (v := _) rfl (by kernel_rfl) (by kernel_rfl) (by kernel_rfl) (fun _ _ _ h => h) (yieldsIf_load_mid (by rfl) _ _ rfl _ _ rfl _ _ (fun _ hs => hs.1.2.1) hu rfl i1) (by assumption) ?_
  try simp only [List.getElem_toArray, List.getElem_cons_zero, List.getElem_cons_succ, Act.put, List.setIfInBounds_toArray, List.set_cons_zero, List.set_cons_succ]
  refine wpAnyH_ready (rs := [1]) (by kernel_rfl) (by simp) (AllReadyH.cons rfl (fun K hK => ?_) AllReadyH.nil)
  go_simp
  refine (K1.out _).mono ?_
  rintro e w5 ⟨rfl, hbel⟩
  refine hK.out _ _ (S1.keep hHeld hbel) (fun hHeld2 => ?_)
  clear hHeld hK K hbel; have hHeld := hHeld2; clear hHeld2
  try simp only [List.getElem_toArray, List.getElem_cons_zero, List.getElem_cons_succ, Act.put, List.setIfInBounds_toArray, List.set_cons_zero, List.set_cons_succ]
  refine wpAnyH_ready (rs := [3]) (by kernel_rfl) (by simp) (AllReadyH.cons rfl (fun K hK => ?_) AllReadyH.nil)
  go_simp
  refine (K2.out _).mono ?_
  rintro e w5 ⟨rfl, hbel⟩
  refine hK.out _ _ (S1.keep hHeld hbel) (fun hHeld2 => ?_)
  clear hHeld hK K hbel; have hHeld := hHeld2; clear hHeld2
  try simp only [List.getElem_toArray, List.getElem_cons_zero, List.getElem_cons_succ, Act.put, List.setIfInBounds_toArray, List.set_cons_zero, List.set_cons_succ]
  refine wpAnyH_take (i := 4) (v := ?_) rfl (by kernel_rfl) (by kernel_rfl) (by kernel_rfl) (fun _ _ _ h => h) (Or.inl ⟨by rfl, ?_⟩) (by assumption) ?_
  rotate_left
  · (intro wz hSw; go_simp; try with_reducible rfl)
  try simp only [List.getElem_toArray, List.getElem_cons_zero, List.getElem_cons_succ, Act.put, List.setIfInBounds_toArray, List.set_cons_zero, List.set_cons_succ]
  refine wpAnyH_done (by kernel_rfl) ?_ _
  have HA0 := Lib.hid hHeld.1
  have HL0 := Lib.hid hHeld.2
  clear hHeld
  have z0 := Blk.new w5 zeros rfl
  rw [blk_zeros] at z0
  have Z0 := Lib.hid z0
  have HW := Lib.hid (z0.put l hl)
  have hlt := HA0.out.lt
  have HA := Lib.hid ((HA0.out.alloc (.cells #[.int .u8 0, .int .u8 0, .int .u8 0, .int .u8 0, .int .u8 0, .int .u8 0, .int .u8 0, .int .u8 0, .int .u8 0, .int .u8 0, .int .u8 0, .int .u8 0, .int .u8 0, .int .u8 0, .int .u8 0, .int .u8 0] 29)).apart w5.heap.size 0 (bv l) (by omega))
  have HL := Lib.hid (Below.setCells (show w.heap.size ≤ w5.heap.size by omega) (bv l) 0 _ (HL0.out.alloc (by omega) (.cells #[.int .u8 0, .int .u8 0, .int .u8 0, .int .u8 0, .int .u8 0, .int .u8 0, .int .u8 0, .int .u8 0, .int .u8 0, .int .u8 0, .int .u8 0, .int .u8 0, .int .u8 0, .int .u8 0, .int .u8 0, .int .u8 0] 29)))
  clear z0
  go_wp2_with (first | (with_reducible refine load_blk w.heap.size l HA0.out rfl ?_) | (with_reducible refine store_blk w5.heap.size zeros l Z0.out hl rfl rfl ?_))
  generalize (w5.alloc (.cells #[.int .u8 0, .int .u8 0, .int .u8 0, .int .u8 0, .int .u8 0, .int .u8 0, .int .u8 0, .int .u8 0, .int .u8 0, .int .u8 0, .int .u8 0, .int .u8 0, .int .u8 0, .int .u8 0, .int .u8 0, .int .u8 0] 29)).setCells w5.heap.size 0 (bv l) = w6 at *
  obtain ⟨gw, hgw⟩ : ∃ gw, gw = w5.heap.size := ⟨_, rfl⟩
  have HNE := Lib.hid (show w.heap.size ≠ gw by omega)
  have HGE := Lib.hid (show w.heap.size ≤ gw by omega)
  rw [← hgw] at HW ⊢
  clear hgw Z0 HA0 HL0 hlt
  have ST2 := Lib.hid (show S2 l l w.heap.size gw w w6.drew from ⟨HA.out.drew, HW.out.drew, HL.out.drew⟩)
  have i2 := info_blk' l hl
  refine wp_region_held_drew (S := S2 l l w.heap.size gw w) (by kernel_rfl) ST2.out (fun hHeld => ?_)
  refine' wpAnyH_take (i := 0) (v := _) rfl (by kernel_rfl) (by kernel_rfl) (by kernel_rfl) (fun _ _ _ h => h) (yieldsIf_load_mid (by rfl) _ _ rfl _ _ rfl _ _ (fun _ hs => hs.1.2.1) hu rfl i1) (by assumption) ?_
  try simp only [List.getElem_toArray, List.getElem_cons_zero, List.getElem_cons_succ, Act.put, List.setIfInBounds_toArray, List.set_cons_zero, List.set_cons_succ]
  refine wpAnyH_take (i := 1) (v := ?_) rfl (by kernel_rfl) (by kernel_rfl) (by kernel_rfl) (fun _ _ _ h => h) (Or.inl ⟨by rfl, ?_⟩) (by assumption) ?_
  rotate_left
  · (intro wz hSw; go_simp; try with_reducible rfl)
  try simp only [List.getElem_toArray, List.getElem_cons_zero, List.getElem_cons_succ, Act.put, List.setIfInBounds_toArray, List.set_cons_zero, List.set_cons_succ]
  refine' wpAnyH_take (i := 3) (v := _) rfl (by kernel_rfl) (by kernel_rfl) (by kernel_rfl) (fun _ _ _ h => h) (yieldsIf_load_mid (by rfl) _ _ rfl _ _ rfl _ _ (fun _ hs => hs.2.1.2.1) hu rfl i2) (by assumption) ?_
  try simp only [List.getElem_toArray, List.getElem_cons_zero, List.getElem_cons_succ, Act.put, List.setIfInBounds_toArray, List.set_cons_zero, List.set_cons_succ]
  refine wpAnyH_ready (rs := [2]) (by kernel_rfl) (by simp) (AllReadyH.cons rfl (fun K hK => ?_) AllReadyH.nil)
  go_simp
  refine (K3.out _).mono ?_
  rintro e w5 ⟨rfl, hbel⟩
  refine hK.out _ _ (S2.keep hHeld hbel) (fun hHeld2 => ?_)
  clear hHeld hK K hbel; have hHeld := hHeld2; clear hHeld2
  try simp only [List.getElem_toArray, List.getElem_cons_zero, List.getElem_cons_succ, Act.put, List.setIfInBounds_toArray, List.set_cons_zero, List.set_cons_succ]
  refine wpAnyH_take (i := 4) (v := ?_) rfl (by kernel_rfl) (by kernel_rfl) (by kernel_rfl) (fun _ _ _ h => h) (Or.inl ⟨by rfl, ?_⟩) (by assumption) ?_
  rotate_left
  · (intro wz hSw; go_simp; try with_reducible rfl)
  try simp only [List.getElem_toArray, List.getElem_cons_zero, List.getElem_cons_succ, Act.put, List.setIfInBounds_toArray, List.set_cons_zero, List.set_cons_succ]
  refine wpAnyH_take (i := 5) (v := ?_) rfl (by kernel_rfl) (by kernel_rfl) (by kernel_rfl) (fun _ _ _ h => h) (Or.inl ⟨by rfl, ?_⟩) (by assumption) ?_
  rotate_left
  · (intro wz hSw; go_simp; try with_reducible rfl)
  try simp only [List.getElem_toArray, List.getElem_cons_zero, List.getElem_cons_succ, Act.put, List.setIfInBounds_toArray, List.set_cons_zero, List.set_cons_succ]
  refine wpAnyH_done (by kernel_rfl) ?_ _
  go_wp2
  go_ret
  exact ⟨rfl, hHeld.2.2⟩

set_option maxHeartbeats 4000000 in
set_option maxRecDepth 20000 in
theorem doubles_high (l : List Nat) (hl : l.length = 16) (hb : Bytes l) (n : Int) (h1 : 65536 < n) (w : World) : Calls Try.prog 4 #[.agg (blk l), .int .i64 n] w (YesB w) := by
  have C0 := Lib.hid (awake_any (w.alloc (.cells (blk l) 29)))
  have ST := Lib.hid (show S1 l w.heap.size w (w.alloc (.cells (blk l) 29)).drew from ⟨(Blk.new w l hl).drew, ((Below.refl w.heap.size w).alloc (Nat.le_refl _) _).drew⟩)
  have K1 := fun wx => double_any l hl hb wx
  have K2 := fun wx => rdouble_any l hl hb wx
  have lm := length_dbl l hl
  have q1 := fun wx => eql_blk wx (dbl l) (dbl l) lm lm
  simp only [decide_true] at q1
  have D0 := Lib.hid (show ∀ k, dblN l (k + 1) = dbl (dblN l k) from fun _ => rfl)
  have D1 := Lib.hid (show dblN l 0 = l from rfl)
  generalize dbl l = m at *
  have K1 := Lib.hid K1
  have K2 := Lib.hid K2
  have hu := Try.underlying29
  have i1 := info_blk' l hl
  have K3 := Lib.hid (fun wx => doubled_out l hl n (by omega) wx)
  have q2 := fun wx => eql_blk wx l l hl hl
  simp only [decide_true] at q2
  have t1 : decide (100 < n) = true := by simp; omega
  have t2 : decide (n ≤ 65536) = false := by simp; omega
  have t3 : decide (0 < n) = true := by simp; omega
  have t4 : decide (n ≤ 100) = false := by simp; omega
  go_enter Try.func4, Try.ntmps4
  go_wp2_with fail
  refine C0.out.mono ?_
  rintro e w' ⟨rfl, rfl⟩
  go_wp2
  refine wp_region_held_drew (S := S1 l w.heap.size w) (by kernel_rfl) ST.out (fun hHeld => ?_)
  refine' wpAnyH_take (i := 0) (v := _) rfl (by kernel_rfl) (by kernel_rfl) (by kernel_rfl) (fun _ _ _ h => h) (yieldsIf_load_mid (by rfl) _ _ rfl _ _ rfl _ _ (fun _ hs => hs.1.2.1) hu rfl i1) (by assumption) ?_
  try simp only [List.getElem_toArray, List.getElem_cons_zero, List.getElem_cons_succ, Act.put, List.setIfInBounds_toArray, List.set_cons_zero, List.set_cons_succ]
  refine' wpAnyH_take (i := 2) (v := _) rfl (by kernel_rfl) (by kernel_rfl) (by kernel_rfl) (fun _ _ _ h => h) (yieldsIf_load_mid (by rfl) _ _ rfl _ _ rfl _ _ (fun _ hs => hs.1.2.1) hu rfl i1) (by assumption) ?_
  try simp only [List.getElem_toArray, List.getElem_cons_zero, List.getElem_cons_succ, Act.put, List.setIfInBounds_toArray, List.set_cons_zero, List.set_cons_succ]
  refine wpAnyH_ready (rs := [1]) (by kernel_rfl) (by simp) (AllReadyH.cons rfl (fun K hK => ?_) AllReadyH.nil)
  go_simp
  refine (K1.out _).mono ?_
  rintro e w5 ⟨rfl, hbel⟩
  refine hK.out _ _ (S1.keep hHeld hbel) (fun hHeld2 => ?_)
  clear hHeld hK K hbel; have hHeld := hHeld2; clear hHeld2
  try simp only [List.getElem_toArray, List.getElem_cons_zero, List.getElem_cons_succ, Act.put, List.setIfInBounds_toArray, List.set_cons_zero, List.set_cons_succ]
  refine wpAnyH_ready (rs := [3]) (by kernel_rfl) (by simp) (AllReadyH.cons rfl (fun K hK => ?_) AllReadyH.nil)
  go_simp
  refine (K2.out _).mono ?_
  rintro e w5 ⟨rfl, hbel⟩
  refine hK.out _ _ (S1.keep hHeld hbel) (fun hHeld2 => ?_)
  clear hHeld hK K hbel; have hHeld := hHeld2; clear hHeld2
  try simp only [List.getElem_toArray, List.getElem_cons_zero, List.getElem_cons_succ, Act.put, List.setIfInBounds_toArray, List.set_cons_zero, List.set_cons_succ]
  refine wpAnyH_take (i := 4) (v := ?_) rfl (by kernel_rfl) (by kernel_rfl) (by kernel_rfl) (fun _ _ _ h => h) (Or.inl ⟨by rfl, ?_⟩) (by assumption) ?_
  rotate_left
  · (intro wz hSw; go_simp; try with_reducible rfl)
  try simp only [List.getElem_toArray, List.getElem_cons_zero, List.getElem_cons_succ, Act.put, List.setIfInBounds_toArray, List.set_cons_zero, List.set_cons_succ]
  refine wpAnyH_done (by kernel_rfl) ?_ _
  have HA0 := Lib.hid hHeld.1
  have HL0 := Lib.hid hHeld.2
  clear hHeld
  have z0 := Blk.new w5 zeros rfl
  rw [blk_zeros] at z0
  have Z0 := Lib.hid z0
  have HW := Lib.hid (z0.put l hl)
  have hlt := HA0.out.lt
  have HA := Lib.hid ((HA0.out.alloc (.cells #[.int .u8 0, .int .u8 0, .int .u8 0, .int .u8 0, .int .u8 0, .int .u8 0, .int .u8 0, .int .u8 0, .int .u8 0, .int .u8 0, .int .u8 0, .int .u8 0, .int .u8 0, .int .u8 0, .int .u8 0, .int .u8 0] 29)).apart w5.heap.size 0 (bv l) (by omega))
  have HL := Lib.hid (Below.setCells (show w.heap.size ≤ w5.heap.size by omega) (bv l) 0 _ (HL0.out.alloc (by omega) (.cells #[.int .u8 0, .int .u8 0, .int .u8 0, .int .u8 0, .int .u8 0, .int .u8 0, .int .u8 0, .int .u8 0, .int .u8 0, .int .u8 0, .int .u8 0, .int .u8 0, .int .u8 0, .int .u8 0, .int .u8 0, .int .u8 0] 29)))
  clear z0
  go_wp2_with (first | (with_reducible refine load_blk w.heap.size l HA0.out rfl ?_) | (with_reducible refine store_blk w5.heap.size zeros l Z0.out hl rfl rfl ?_))
  generalize (w5.alloc (.cells #[.int .u8 0, .int .u8 0, .int .u8 0, .int .u8 0, .int .u8 0, .int .u8 0, .int .u8 0, .int .u8 0, .int .u8 0, .int .u8 0, .int .u8 0, .int .u8 0, .int .u8 0, .int .u8 0, .int .u8 0, .int .u8 0] 29)).setCells w5.heap.size 0 (bv l) = w6 at *
  obtain ⟨gw, hgw⟩ : ∃ gw, gw = w5.heap.size := ⟨_, rfl⟩
  have HNE := Lib.hid (show w.heap.size ≠ gw by omega)
  have HGE := Lib.hid (show w.heap.size ≤ gw by omega)
  rw [← hgw] at HW ⊢
  clear hgw Z0 HA0 HL0 hlt
  have ST2 := Lib.hid (show S2 l l w.heap.size gw w w6.drew from ⟨HA.out.drew, HW.out.drew, HL.out.drew⟩)
  have i2 := info_blk' l hl
  refine wp_region_held_drew (S := S2 l l w.heap.size gw w) (by kernel_rfl) ST2.out (fun hHeld => ?_)
  refine' wpAnyH_take (i := 0) (v := _) rfl (by kernel_rfl) (by kernel_rfl) (by kernel_rfl) (fun _ _ _ h => h) (yieldsIf_load_mid (by rfl) _ _ rfl _ _ rfl _ _ (fun _ hs => hs.1.2.1) hu rfl i1) (by assumption) ?_
  try simp only [List.getElem_toArray, List.getElem_cons_zero, List.getElem_cons_succ, Act.put, List.setIfInBounds_toArray, List.set_cons_zero, List.set_cons_succ]
  refine wpAnyH_take (i := 1) (v := ?_) rfl (by kernel_rfl) (by kernel_rfl) (by kernel_rfl) (fun _ _ _ h => h) (Or.inl ⟨by rfl, ?_⟩) (by assumption) ?_
  rotate_left
  · (intro wz hSw; go_simp; try with_reducible rfl)
  try simp only [List.getElem_toArray, List.getElem_cons_zero, List.getElem_cons_succ, Act.put, List.setIfInBounds_toArray, List.set_cons_zero, List.set_cons_succ]
  refine' wpAnyH_take (i := 3) (v := _) rfl (by kernel_rfl) (by kernel_rfl) (by kernel_rfl) (fun _ _ _ h => h) (yieldsIf_load_mid (by rfl) _ _ rfl _ _ rfl _ _ (fun _ hs => hs.2.1.2.1) hu rfl i2) (by assumption) ?_
  try simp only [List.getElem_toArray, List.getElem_cons_zero, List.getElem_cons_succ, Act.put, List.setIfInBounds_toArray, List.set_cons_zero, List.set_cons_succ]
  refine wpAnyH_ready (rs := [2]) (by kernel_rfl) (by simp) (AllReadyH.cons rfl (fun K hK => ?_) AllReadyH.nil)
  go_simp
  refine (K3.out _).mono ?_
  rintro e w5 ⟨rfl, hbel⟩
  refine hK.out _ _ (S2.keep hHeld hbel) (fun hHeld2 => ?_)
  clear hHeld hK K hbel; have hHeld := hHeld2; clear hHeld2
  try simp only [List.getElem_toArray, List.getElem_cons_zero, List.getElem_cons_succ, Act.put, List.setIfInBounds_toArray, List.set_cons_zero, List.set_cons_succ]
  refine wpAnyH_take (i := 4) (v := ?_) rfl (by kernel_rfl) (by kernel_rfl) (by kernel_rfl) (fun _ _ _ h => h) (Or.inl ⟨by rfl, ?_⟩) (by assumption) ?_
  rotate_left
  · (intro wz hSw; go_simp; try with_reducible rfl)
  try simp only [List.getElem_toArray, List.getElem_cons_zero, List.getElem_cons_succ, Act.put, List.setIfInBounds_toArray, List.set_cons_zero, List.set_cons_succ]
  refine wpAnyH_take (i := 5) (v := ?_) rfl (by kernel_rfl) (by kernel_rfl) (by kernel_rfl) (fun _ _ _ h => h) (Or.inl ⟨by rfl, ?_⟩) (by assumption) ?_
  rotate_left
  · (intro wz hSw; go_simp; try with_reducible rfl)
  try simp only [List.getElem_toArray, List.getElem_cons_zero, List.getElem_cons_succ, Act.put, List.setIfInBounds_toArray, List.set_cons_zero, List.set_cons_succ]
  refine wpAnyH_done (by kernel_rfl) ?_ _
  go_wp2
  go_ret
  exact ⟨rfl, hHeld.2.2⟩

set_option maxHeartbeats 4000000 in
set_option maxRecDepth 20000 in
theorem doubles_loop (l : List Nat) (hl : l.length = 16) (hb : Bytes l) (n : Int) (K : Nat) (hK : n = (K : Int)) (hK1 : 1 ≤ K) (hK2 : K ≤ 100) (w : World) : Calls Try.prog 4 #[.agg (blk l), .int .i64 n] w (YesB w) := by
  have C0 := Lib.hid (awake_any (w.alloc (.cells (blk l) 29)))
  have ST := Lib.hid (show S1 l w.heap.size w (w.alloc (.cells (blk l) 29)).drew from ⟨(Blk.new w l hl).drew, ((Below.refl w.heap.size w).alloc (Nat.le_refl _) _).drew⟩)
  have K1 := fun wx => double_any l hl hb wx
  have K2 := fun wx => rdouble_any l hl hb wx
  have lm := length_dbl l hl
  have q1 := fun wx => eql_blk wx (dbl l) (dbl l) lm lm
  simp only [decide_true] at q1
  have D0 := Lib.hid (show ∀ k, dblN l (k + 1) = dbl (dblN l k) from fun _ => rfl)
  have D1 := Lib.hid (show dblN l 0 = l from rfl)
  generalize dbl l = m at *
  have K1 := Lib.hid K1
  have K2 := Lib.hid K2
  have hu := Try.underlying29
  have i1 := info_blk' l hl
  subst hK
  have K3 := Lib.hid (fun wx => doubled_in l hl hb K (by omega) wx)
  have lK := dblN_ok l hl hb
  have q2 := fun wx => eql_blk wx (dblN l K) (dblN l K) (lK K).1 (lK K).1
  simp only [decide_true] at q2
  have t1 : decide (100 < (K : Int)) = false := by simp; omega
  have t2 : decide (0 < (K : Int)) = true := by simp; omega
  have t3 : decide ((K : Int) ≤ 100) = true := by simp; omega
  go_enter Try.func4, Try.ntmps4
  go_wp2_with fail
  refine C0.out.mono ?_
  rintro e w' ⟨rfl, rfl⟩
  go_wp2
  refine wp_region_held_drew (S := S1 l w.heap.size w) (by kernel_rfl) ST.out (fun hHeld => ?_)
  refine' wpAnyH_take (i := 0) (v := _) rfl (by kernel_rfl) (by kernel_rfl) (by kernel_rfl) (fun _ _ _ h => h) (yieldsIf_load_mid (by rfl) _ _ rfl _ _ rfl _ _ (fun _ hs => hs.1.2.1) hu rfl i1) (by assumption) ?_
  try simp only [List.getElem_toArray, List.getElem_cons_zero, List.getElem_cons_succ, Act.put, List.setIfInBounds_toArray, List.set_cons_zero, List.set_cons_succ]
  refine' wpAnyH_take (i := 2) (v := _) rfl (by kernel_rfl) (by kernel_rfl) (by kernel_rfl) (fun _ _ _ h => h) (yieldsIf_load_mid (by rfl) _ _ rfl _ _ rfl _ _ (fun _ hs => hs.1.2.1) hu rfl i1) (by assumption) ?_
  try simp only [List.getElem_toArray, List.getElem_cons_zero, List.getElem_cons_succ, Act.put, List.setIfInBounds_toArray, List.set_cons_zero, List.set_cons_succ]
  refine wpAnyH_ready (rs := [1]) (by kernel_rfl) (by simp) (AllReadyH.cons rfl (fun K hK => ?_) AllReadyH.nil)
  go_simp
  refine (K1.out _).mono ?_
  rintro e w5 ⟨rfl, hbel⟩
  refine hK.out _ _ (S1.keep hHeld hbel) (fun hHeld2 => ?_)
  clear hHeld hK K hbel; have hHeld := hHeld2; clear hHeld2
  try simp only [List.getElem_toArray, List.getElem_cons_zero, List.getElem_cons_succ, Act.put, List.setIfInBounds_toArray, List.set_cons_zero, List.set_cons_succ]
  refine wpAnyH_ready (rs := [3]) (by kernel_rfl) (by simp) (AllReadyH.cons rfl (fun K hK => ?_) AllReadyH.nil)
  go_simp
  refine (K2.out _).mono ?_
  rintro e w5 ⟨rfl, hbel⟩
  refine hK.out _ _ (S1.keep hHeld hbel) (fun hHeld2 => ?_)
  clear hHeld hK K hbel; have hHeld := hHeld2; clear hHeld2
  try simp only [List.getElem_toArray, List.getElem_cons_zero, List.getElem_cons_succ, Act.put, List.setIfInBounds_toArray, List.set_cons_zero, List.set_cons_succ]
  refine wpAnyH_take (i := 4) (v := ?_) rfl (by kernel_rfl) (by kernel_rfl) (by kernel_rfl) (fun _ _ _ h => h) (Or.inl ⟨by rfl, ?_⟩) (by assumption) ?_
  rotate_left
  · (intro wz hSw; go_simp; try with_reducible rfl)
  try simp only [List.getElem_toArray, List.getElem_cons_zero, List.getElem_cons_succ, Act.put, List.setIfInBounds_toArray, List.set_cons_zero, List.set_cons_succ]
  refine wpAnyH_done (by kernel_rfl) ?_ _
  have HA0 := Lib.hid hHeld.1
  have HL0 := Lib.hid hHeld.2
  clear hHeld
  have z0 := Blk.new w5 zeros rfl
  rw [blk_zeros] at z0
  have Z0 := Lib.hid z0
  have HW := Lib.hid (z0.put l hl)
  have hlt := HA0.out.lt
  have HA := Lib.hid ((HA0.out.alloc (.cells #[.int .u8 0, .int .u8 0, .int .u8 0, .int .u8 0, .int .u8 0, .int .u8 0, .int .u8 0, .int .u8 0, .int .u8 0, .int .u8 0, .int .u8 0, .int .u8 0, .int .u8 0, .int .u8 0, .int .u8 0, .int .u8 0] 29)).apart w5.heap.size 0 (bv l) (by omega))
  have HL := Lib.hid (Below.setCells (show w.heap.size ≤ w5.heap.size by omega) (bv l) 0 _ (HL0.out.alloc (by omega) (.cells #[.int .u8 0, .int .u8 0, .int .u8 0, .int .u8 0, .int .u8 0, .int .u8 0, .int .u8 0, .int .u8 0, .int .u8 0, .int .u8 0, .int .u8 0, .int .u8 0, .int .u8 0, .int .u8 0, .int .u8 0, .int .u8 0] 29)))
  clear z0
  go_wp2_with (first | (with_reducible refine load_blk w.heap.size l HA0.out rfl ?_) | (with_reducible refine store_blk w5.heap.size zeros l Z0.out hl rfl rfl ?_))
  generalize (w5.alloc (.cells #[.int .u8 0, .int .u8 0, .int .u8 0, .int .u8 0, .int .u8 0, .int .u8 0, .int .u8 0, .int .u8 0, .int .u8 0, .int .u8 0, .int .u8 0, .int .u8 0, .int .u8 0, .int .u8 0, .int .u8 0, .int .u8 0] 29)).setCells w5.heap.size 0 (bv l) = w6 at *
  obtain ⟨gw, hgw⟩ : ∃ gw, gw = w5.heap.size := ⟨_, rfl⟩
  have HNE := Lib.hid (show w.heap.size ≠ gw by omega)
  have HGE := Lib.hid (show w.heap.size ≤ gw by omega)
  rw [← hgw] at HW ⊢
  clear hgw Z0 HA0 HL0 hlt
  go_loopw [27] (fun i wr => ∃ k : Nat, k ≤ K ∧ i = .int .i64 (k : Nat) ∧ Blk wr w.heap.size l ∧ Blk wr gw (dblN l k) ∧ Below w.heap.size w wr) (fun i _ => K - (intOf i).toNat)
  case atStart => exact ⟨0, by omega, rfl, HA.out, HW.out, HL.out⟩
  case round =>
    clear HA HW HL
    obtain ⟨k, hk, rfl, hA, hW, hL⟩ := hrel
    have HA := Lib.hid hA
    have HW := Lib.hid hW
    have HL := Lib.hid hL
    clear hA hW hL
    by_cases hlt : k < K
    · have HC := rdouble_any (dblN l k) (lK k).1 (lK k).2 wr
      rw [← D0.out k] at HC
      have HC := Lib.hid HC
      have lm2 := (lK (k + 1)).1
      go_wp2_with (first | (with_reducible refine load_blk gw (dblN l k) HW.out rfl ?_) | fail)
      refine HC.out.mono ?_
      rintro e w7 ⟨rfl, hbel⟩
      have NA := Lib.hid (HA.out.below hbel HA.out.lt)
      have NW := Lib.hid (HW.out.below hbel HW.out.lt)
      have NL := Lib.hid (HL.out.trans (hbel.mono HL.out.size))
      have hne : w.heap.size ≠ gw := HNE.out
      clear hbel
      go_wp2_with (first | (with_reducible refine store_blk gw (dblN l k) (dblN l (k + 1)) NW.out lm2 rfl rfl ?_) | fail)
      go_roundw
      case rel => exact ⟨k + 1, by omega, by go_num, NA.out.apart gw _ _ hne, NW.out.put _ lm2, Below.setCells HGE.out _ _ _ NL.out⟩
      case measure => simp [intOf]; omega
    · obtain rfl : k = K := by omega
      obtain ⟨w6, rfl⟩ : ∃ w6 : World, w6 = wr := ⟨_, rfl⟩
      have lk := (lK k).1
      go_wp2
      have ST2 := Lib.hid (show S2 l (dblN l k) w.heap.size gw w w6.drew from ⟨HA.out.drew, HW.out.drew, HL.out.drew⟩)
      have i2 := info_blk' (dblN l k) lk
      refine wp_region_held_drew (S := S2 l (dblN l k) w.heap.size gw w) (by kernel_rfl) ST2.out (fun hHeld => ?_)
      refine' wpAnyH_take (i := 0) (v := _) rfl (by kernel_rfl) (by kernel_rfl) (by kernel_rfl) (fun _ _ _ h => h) (yieldsIf_load_mid (by rfl) _ _ rfl _ _ rfl _ _ (fun _ hs => hs.1.2.1) hu rfl i1) (by assumption) ?_
      try simp only [List.getElem_toArray, List.getElem_cons_zero, List.getElem_cons_succ, Act.put, List.setIfInBounds_toArray, List.set_cons_zero, List.set_cons_succ]
      refine wpAnyH_take (i := 1) (v := ?_) rfl (by kernel_rfl) (by kernel_rfl) (by kernel_rfl) (fun _ _ _ h => h) (Or.inl ⟨by rfl, ?_⟩) (by assumption) ?_
      rotate_left
      · (intro wz hSw; go_simp; try with_reducible rfl)
      try simp only [List.getElem_toArray, List.getElem_cons_zero, List.getElem_cons_succ, Act.put, List.setIfInBounds_toArray, List.set_cons_zero, List.set_cons_succ]
      refine' wpAnyH_take (i := 3) (v := _) rfl (by kernel_rfl) (by kernel_rfl) (by kernel_rfl) (fun _ _ _ h => h) (yieldsIf_load_mid (by rfl) _ _ rfl _ _ rfl _ _ (fun _ hs => hs.2.1.2.1) hu rfl i2) (by assumption) ?_
      try simp only [List.getElem_toArray, List.getElem_cons_zero, List.getElem_cons_succ, Act.put, List.setIfInBounds_toArray, List.set_cons_zero, List.set_cons_succ]
      refine wpAnyH_ready (rs := [2]) (by kernel_rfl) (by simp) (AllReadyH.cons rfl (fun K hK => ?_) AllReadyH.nil)
      go_simp
      refine (K3.out _).mono ?_
      rintro e w5 ⟨rfl, hbel⟩
      refine hK.out _ _ (S2.keep hHeld hbel) (fun hHeld2 => ?_)
      clear hHeld hK K hbel; have hHeld := hHeld2; clear hHeld2
      try simp only [List.getElem_toArray, List.getElem_cons_zero, List.getElem_cons_succ, Act.put, List.setIfInBounds_toArray, List.set_cons_zero, List.set_cons_succ]
      refine wpAnyH_take (i := 4) (v := ?_) rfl (by kernel_rfl) (by kernel_rfl) (by kernel_rfl) (fun _ _ _ h => h) (Or.inl ⟨by rfl, ?_⟩) (by assumption) ?_
      rotate_left
      · (intro wz hSw; go_simp; try with_reducible rfl)
      try simp only [List.getElem_toArray, List.getElem_cons_zero, List.getElem_cons_succ, Act.put, List.setIfInBounds_toArray, List.set_cons_zero, List.set_cons_succ]
      refine wpAnyH_take (i := 5) (v := ?_) rfl (by kernel_rfl) (by kernel_rfl) (by kernel_rfl) (fun _ _ _ h => h) (Or.inl ⟨by rfl, ?_⟩) (by assumption) ?_
      rotate_left
      · (intro wz hSw; go_simp; try with_reducible rfl)
      try simp only [List.getElem_toArray, List.getElem_cons_zero, List.getElem_cons_succ, Act.put, List.setIfInBounds_toArray, List.set_cons_zero, List.set_cons_succ]
      refine wpAnyH_done (by kernel_rfl) ?_ _
      go_wp2
      go_ret
      exact ⟨rfl, hHeld.2.2⟩

theorem doubles_walk (l : List Nat) (hl : l.length = 16) (hb : ∀ i, l.getD i 0 < 256) (n : Int) (_ : (Lit.int .i64 n).wf = true) (w : World) :
    Calls Try.prog 4 #[.agg (blk l), .int .i64 n] w fun e w' => e = .returned (.bool true) ∧ Below w.heap.size w w' := by
  by_cases h1 : n ≤ 0
  · exact doubles_low l hl hb n h1 w
  · by_cases h2 : 65536 < n
    · exact doubles_high l hl hb n h2 w
    · by_cases h3 : 100 < n
      · exact doubles_skip l hl hb n h3 (by omega) w
      · exact doubles_loop l hl hb n n.toNat (by omega) (by omega) (by omega) w
end Go.Proofs.Ytaibegafoncddaa
