/-
  The law HmacTags, walked: it answers true. Conditions: the tables stand in their variables. (Written by tools/gen_hmtags.py.)
-/
import Derived.Test.YtdfbhgajomdeeaaDoorHmAwake
import Derived.Test.YtdfbhgajomdeeaaDoorPartsFact
import Derived.Test.YtdfbhgajomdeeaaDoorHmRefs
import Derived.Test.YtdfbhgajomdeeaaDoorCutBys
import Derived.Test.YtdfbhgajomdeeaaDoorSame
namespace Go.Proofs.YtdfbhgajomdeeaaDoor
open Go.RowKit Arr Sh Hm

/-- What holds behind the making of pads and tag. -/
structure TS (w : World) (gx gy gt : Nat) (x y tg : List Nat) (w' : World) : Prop where
  bel : Below w.heap.size w w'
  bx : Holds w' gx .u8 x
  by_ : Holds w' gy .u8 y
  bt : Holds w' gt .u8 tg
  lx : gx < w'.heap.size
  ly : gy < w'.heap.size
  lt : gt < w'.heap.size
theorem TS.next {w w' w'' : World} {gx gy gt : Nat} {x y tg : List Nat} (h : TS w gx gy gt x y tg w') (hb : Below w'.heap.size w' w'') : TS w gx gy gt x y tg w'' :=
  ⟨h.bel.trans (hb.mono h.bel.size), h.bx.below hb h.lx, h.by_.below hb h.ly, h.bt.below hb h.lt, Nat.lt_of_lt_of_le h.lx hb.size, Nat.lt_of_lt_of_le h.ly hb.size, Nat.lt_of_lt_of_le h.lt hb.size⟩
theorem TS.drew {w w' : World} {gx gy gt : Nat} {x y tg : List Nat} (h : TS w gx gy gt x y tg w') : TS w gx gy gt x y tg w'.drew := ⟨below_drew h.bel, h.bx.drew, h.by_.drew, h.bt.drew, h.lx, h.ly, h.lt⟩
def tagsFacts (A0 : Option Addr) (n0 c0 : Nat) (A1 : Option Addr) (n1 c1 gx gy i : Nat) (bb tg x y : List Nat) : List Fact := [
  Fact.is (.slice A0 n0 c0),
  Fact.is (.slice A1 n1 c1),
  Fact.parts [⟨A1, c1, bb⟩] 1,
  Fact.is (.agg (na .u8 tg)),
  Fact.is (.agg (na .u8 tg)),
  Fact.is (.bool true),
  Fact.is (.bool true),
  Fact.is (.slice A0 n0 c0),
  Fact.is (.slice A1 n1 c1),
  Fact.is (.int .i64 (i : Int)),
  Fact.is (.slice (cutA A1 c1 0) i c1),
  Fact.is (.slice A1 n1 c1),
  Fact.is (.int .i64 (i : Int)),
  Fact.is (.slice (cutA A1 c1 i) (n1 - i) (c1 - i)),
  Fact.parts [⟨cutA A1 c1 0, c1, (bb.drop 0).take i⟩, ⟨cutA A1 c1 i, c1 - i, (bb.drop i).take (n1 - i)⟩] 2,
  Fact.is (.agg (na .u8 tg)),
  Fact.is (.agg (na .u8 tg)),
  Fact.is (.bool true),
  Fact.is (.bool true),
  Fact.is (.bool true),
  Fact.is (.slice (some ⟨gx, 0, none⟩) 64 64),
  Fact.is (.slice A0 n0 c0),
  Fact.bysN x 64,
  Fact.is (.bool true),
  Fact.is (.bool true),
  Fact.is (.bool true),
  Fact.is (.slice (some ⟨gy, 0, none⟩) 64 64),
  Fact.is (.slice A0 n0 c0),
  Fact.bysN y 64,
  Fact.is (.bool true),
  Fact.is (.bool true),
  Fact.is (.bool true)]

set_option maxHeartbeats 1000000 in
theorem tags_long (A0 : Option Addr) (n0 c0 : Nat) (A1 : Option Addr) (n1 c1 : Nat) (hl : 200 < n0 ∨ 300 < n1) (m : Nat) (w : World) (hv : VarsS w) :
    Calls Tryd.prog 3 #[.slice A0 n0 c0, .slice A1 n1 c1, .int .u16 (m : Int)] w (True' w) := by
  have C1 := Lib.hid (awake_any w hv)
  clear hv
  by_cases h0 : 200 < n0
  · have t1 : decide ((n0 : Int) > 200) = true := by simp; omega
    have t2 : decide (200 < (n0 : Int)) = true := by simp; omega
    clear hl
    go_enter Tryd.func3, Tryd.ntmps3
    go_wp2_with fail
    refine C1.out.mono ?_
    rintro e w2 ⟨rfl, hB2⟩
    have B2 := Lib.hid hB2
    clear hB2
    go_wp2
    go_ret
    exact ⟨rfl, B2.out⟩
  · have t1 : decide ((n0 : Int) > 200) = false := by simp; omega
    have t2 : decide (200 < (n0 : Int)) = false := by simp; omega
    have t3 : decide ((n1 : Int) > 300) = true := by simp; omega
    have t4 : decide (300 < (n1 : Int)) = true := by simp; omega
    clear hl
    go_enter Tryd.func3, Tryd.ntmps3
    go_wp2_with fail
    refine C1.out.mono ?_
    rintro e w2 ⟨rfl, hB2⟩
    have B2 := Lib.hid hB2
    clear hB2
    go_wp2
    go_ret
    exact ⟨rfl, B2.out⟩

set_option maxHeartbeats 4000000 in
set_option maxRecDepth 10000 in
theorem tags_main (kb : List Nat) (A0 : Option Addr) (n0 c0 : Nat) (h0 : kb.length = n0) (hc0 : n0 ≤ c0) (hA0 : A0 = none → c0 = 0) (hn0 : n0 ≤ 200) (bb : List Nat) (A1 : Option Addr) (n1 c1 : Nat) (h1 : bb.length = n1) (hc1 : n1 ≤ c1) (hA1 : A1 = none → c1 = 0) (hn1 : n1 ≤ 300) (m : Nat) (hm : m < 65536)
    (w : World) (hv : VarsS w) (hk : Bys w w.heap.size A0 kb) (hb : Bys w w.heap.size A1 bb) :
    Calls Tryd.prog 3 #[.slice A0 n0 c0, .slice A1 n1 c1, .int .u16 (m : Int)] w (True' w) := by
  have C1 := Lib.hid (awake_any w hv)
  have t1 : decide ((n0 : Int) > 200) = false := by simp; omega
  have t2 : decide (200 < (n0 : Int)) = false := by simp; omega
  have t3 : decide ((n1 : Int) > 300) = false := by simp; omega
  have t4 : decide (300 < (n1 : Int)) = false := by simp; omega
  obtain ⟨i, ei⟩ : ∃ i, i = m % (n1 + 1) := ⟨_, rfl⟩
  have hi : i ≤ n1 := by rw [ei]; have := Nat.mod_lt m (show 0 < n1 + 1 by omega); omega
  have fi : (m : Int) % ((n1 : Int) + 1) = (i : Int) := by rw [ei]; simp
  have fi2 : Int.tmod (m : Int) ((n1 : Int) + 1) = (i : Int) := by rw [Int.tmod_eq_emod_of_nonneg (by omega)]; exact fi
  have z1 : ((n1 : Int) + 1 == 0) = false := by simp; omega
  have z3 : ((n1 : Int) + 1 = 0) = False := by simp; omega
  have LI := length_inn kb
  have LO := length_outr kb
  have LT := length_tag kb bb
  have IB := Lib.hid (inn_lt hk.1)
  have OB := Lib.hid (outr_lt hk.1)
  have CP : Go.RowKit.Hid (∀ w', Below w.heap.size w w' → Calls Tryd.prog 7 #[.slice A0 n0 c0] w' (GivesP (inn kb) (outr kb) w')) := Lib.hid (fun w' h =>
    Pads_any kb A0 n0 c0 h0 hc0 (by omega) w' (hv.below h (Nat.le_refl _)) ((hk.below h).more h.size))
  have CR : Go.RowKit.Hid (∀ w', Below w.heap.size w w' → Calls Tryd.prog 8 #[.slice A0 n0 c0, .slice A1 n1 c1] w' (GivesB (tag kb bb) w')) := Lib.hid (fun w' h =>
    rtag_any kb A0 n0 c0 h0 hn0 hA0 bb A1 n1 c1 h1 (by omega) hA1 w' ((hk.below h).more h.size) ((hb.below h).more h.size))
  have CK : Go.RowKit.Hid (∀ gx gy gt w', TS w gx gy gt (inn kb) (outr kb) (tag kb bb) w' → ∀ (g : Nat) (ps : List Pt) (N : Nat), ps.length = N → N < 10 → textOf ps = bb → Parts w' w'.heap.size (some ⟨g, 0, none⟩) ps → Calls Tryd.prog 9 #[.slice A0 n0 c0, .slice (some ⟨g, 0, none⟩) N N] w' (GivesB (tag kb bb) w')) := Lib.hid (fun gx gy gt w' h g ps N hN hN2 hT hP => by
    have := Tag_any kb A0 n0 c0 h0 hc0 (by omega) ps (some ⟨g, 0, none⟩) N N hN (fun h => by cases h) (by omega) (by rw [hT, h1]; omega) w' ((hk.below h.bel).more h.bel.size) hP (hv.below h.bel (Nat.le_refl _))
    rwa [hT] at this)
  have KI : Go.RowKit.Hid (∀ gx gy gt w', TS w gx gy gt (inn kb) (outr kb) (tag kb bb) w' → Calls Tryd.prog 11 #[.slice A0 n0 c0, .int .u8 54] w' (OwnB (inn kb) w')) := Lib.hid (fun _ _ _ w' h => key_any kb A0 n0 c0 h0 hn0 hA0 54 (by omega) w' ((hk.below h.bel).more h.bel.size))
  have KO : Go.RowKit.Hid (∀ gx gy gt w', TS w gx gy gt (inn kb) (outr kb) (tag kb bb) w' → Calls Tryd.prog 11 #[.slice A0 n0 c0, .int .u8 92] w' (OwnB (outr kb) w')) := Lib.hid (fun _ _ _ w' h => key_any kb A0 n0 c0 h0 hn0 hA0 92 (by omega) w' ((hk.below h.bel).more h.bel.size))
  have HEQ : Go.RowKit.Hid (∀ W : World, (Op.equalIn 10000 28 (.agg (na .u8 (tag kb bb))) (.agg (na .u8 (tag kb bb)))).run Tryd.prog W = .ok true W) := Lib.hid (fun W => by
    have := eql o32 W (tag kb bb) (tag kb bb) LT LT
    simpa using this)
  have HBb := Lib.hid hb
  have H1 := Lib.hid h1
  clear ei hv hk hb h0 h1
  generalize tag kb bb = tg at *
  generalize inn kb = x at *
  generalize outr kb = y at *
  go_enter Tryd.func3, Tryd.ntmps3
  go_wp2_with fail
  refine C1.out.mono ?_
  rintro e w2 ⟨rfl, hB2⟩
  have B2 := Lib.hid hB2
  have C2 := Lib.hid (CP.out w2 hB2)
  clear hB2 C1 CP
  go_upto_region 6 with fail
  clear fi fi2 z1 z3
  go_wp2_with fail
  refine C2.out.mono ?_
  rintro e w3 ⟨rfl, hB3⟩
  have B3 : Below w.heap.size w w3 := B2.out.trans (hB3.mono B2.out.size)
  have PL := pads_laid B3 x y LI LO
  have X3 : (w3.alloc (.cells (na .u8 (zs 64)) 25)).heap.size = w3.heap.size + 1 := World.size_alloc ..
  have P1 := Lib.hid PL.2.1
  have P2 := Lib.hid (show Holds (((w3.alloc (.cells (na .u8 (zs 64)) 25)).alloc (.cells (na .u8 (zs 64)) 25)).setCells w3.heap.size 0 (nv .u8 x)) (w3.alloc (.cells (na .u8 (zs 64)) 25)).heap.size .u8 (zs 64) by rw [X3]; exact PL.2.2.1)
  have P3 := Lib.hid PL.2.2.2.1
  have P4 := Lib.hid PL.2.2.2.2
  clear PL hB3 B3 B2 C2
  go_upto_region 7 with (first | (with_reducible refine Arr.alloc (t := 25) _ z64b ?_) | (with_reducible refine Arr.store o64b w3.heap.size (zs 64) x (length_zs _) P1.out LI rfl rfl ?_) | (with_reducible refine Arr.store o64b (w3.alloc (.cells (na .u8 (zs 64)) 25)).heap.size (zs 64) y (length_zs _) P2.out LO rfl rfl ?_) | fail)
  rw [X3]
  generalize ((((w3.alloc (.cells (na .u8 (zs 64)) 25)).alloc (.cells (na .u8 (zs 64)) 25)).setCells w3.heap.size 0 (nv .u8 x)).setCells (w3.heap.size + 1) 0 (nv .u8 y)) = w4 at *
  have hy4 := P3.out.two.lt (by omega)
  have hx4 : w3.heap.size < w4.heap.size := by omega
  have Q1 := Lib.hid P3.out.one
  have Q2 := Lib.hid P3.out.two
  have C4 := Lib.hid (CR.out w4 P4.out)
  clear P1 P2 P3 X3 CR
  generalize w3.heap.size = gx at *
  obtain ⟨gy, egy⟩ : ∃ gy, gy = gx + 1 := ⟨_, rfl⟩
  rw [← egy] at hy4 Q2 ⊢
  clear egy
  go_wp2_with fail
  refine C4.out.mono ?_
  rintro e w5 ⟨rfl, hB5⟩
  have A1' := Holds.new w5 28 .u8 (zs 32)
  have A2 := A1'.put tg (by rw [LT, length_zs])
  have b5 := below_alloc w5 (.cells (na .u8 (zs 32)) 28)
  have hs5 := hB5.size
  have B6 : Below w5.heap.size w5 ((w5.alloc (.cells (na .u8 (zs 32)) 28)).setCells w5.heap.size 0 (nv .u8 tg)) := below_setCells (Nat.le_refl _) _ _ _ b5
  have s6 : w5.heap.size < ((w5.alloc (.cells (na .u8 (zs 32)) 28)).setCells w5.heap.size 0 (nv .u8 tg)).heap.size := by rw [size_setCells, World.size_alloc]; omega
  have TT : TS w gx gy w5.heap.size x y tg ((w5.alloc (.cells (na .u8 (zs 32)) 28)).setCells w5.heap.size 0 (nv .u8 tg)) :=
    ⟨P4.out.trans ((hB5.mono P4.out.size).trans (B6.mono (Nat.le_trans P4.out.size hs5))), (Q1.out.below hB5 hx4).below B6 (by omega), (Q2.out.below hB5 hy4).below B6 (by omega), A2, by omega, by omega, s6⟩
  have D1 := Lib.hid A1'
  have ST0 := Lib.hid TT
  clear A1' A2 b5 B6 s6 TT hB5 C4 Q1 Q2 P4
  go_upto_region 8 with (first | (with_reducible refine Arr.alloc (t := 28) _ z32 ?_) | (with_reducible refine Arr.store o32 w5.heap.size (zs 32) tg (length_zs _) D1.out LT rfl rfl ?_) | fail)
  generalize (w5.alloc (.cells (na .u8 (zs 32)) 28)).setCells w5.heap.size 0 (nv .u8 tg) = w6 at *
  clear D1 hs5 hx4 hy4
  generalize w5.heap.size = gt at *
  have ST : Go.RowKit.Hid (TS w gx gy gt x y tg w6.drew) := Lib.hid ST0.out.drew
  clear ST0
  have R1 := Lib.hid (run_cut_h A1 n1 c1 i (by omega))
  have R2 := Lib.hid (run_cut_l A1 n1 c1 i hi)
  have R3 := Lib.hid (fun W : World => sliceW o64b W gx 0)
  have R4 := Lib.hid (fun W : World => sliceW o64b W gy 0)
  have CK := Lib.hid (CK.out gx gy gt)
  have KI := Lib.hid (KI.out gx gy gt)
  have KO := Lib.hid (KO.out gx gy gt)
  have LI := Lib.hid LI
  have LO := Lib.hid LO
  have LT := Lib.hid LT
  have PA : Go.RowKit.Hid (∀ w', TS w gx gy gt x y tg w' → Parts (w'.alloc (.cells #[.slice A1 n1 c1] 22)) (w'.alloc (.cells #[.slice A1 n1 c1] 22)).heap.size (some ⟨w'.heap.size, 0, none⟩) [⟨A1, c1, bb⟩]) := Lib.hid (fun w' h =>
    Parts.one w' bb A1 n1 c1 H1.out hc1 ((HBb.out.below h.bel).more h.bel.size))
  have PC : Go.RowKit.Hid (∀ w', TS w gx gy gt x y tg w' → Parts (w'.alloc (.cells #[.slice (cutA A1 c1 0) i c1, .slice (cutA A1 c1 i) (n1 - i) (c1 - i)] 22)) (w'.alloc (.cells #[.slice (cutA A1 c1 0) i c1, .slice (cutA A1 c1 i) (n1 - i) (c1 - i)] 22)).heap.size (some ⟨w'.heap.size, 0, none⟩) [⟨cutA A1 c1 0, c1, (bb.drop 0).take i⟩, ⟨cutA A1 c1 i, c1 - i, (bb.drop i).take (n1 - i)⟩]) := Lib.hid (fun w' h => by
    have hbw := (HBb.out.below h.bel).more h.bel.size
    have e1 := bys_cut hbw c1 (by have := H1.out; omega) 0 i (by omega) (by have := H1.out; omega)
    have e2 := bys_cut hbw c1 (by have := H1.out; omega) i n1 hi (by have := H1.out; omega)
    rw [Nat.sub_zero] at e1
    exact Parts.two w' _ _ _ _ _ _ _ _ (by simp; have := H1.out; omega) (by omega) e1 (by simp; have := H1.out; omega) (by omega) e2)
  have T1 := Lib.hid (textOne bb A1 c1)
  have T2 : Go.RowKit.Hid (textOf [⟨cutA A1 c1 0, c1, (bb.drop 0).take i⟩, ⟨cutA A1 c1 i, c1 - i, (bb.drop i).take (n1 - i)⟩] = bb) := Lib.hid (by
    rw [textTwo]
    exact cut_all bb n1 i H1.out)
  clear H1 HBb t1 t2 t3 t4 hn0 hc0 hA0 hA1 hn1 hi hc1 hm
  refine wp_region_facts (by kernel_rfl) (by kernel_rfl) 66 32 rfl rfl (by kernel_rfl) (tagsFacts A0 n0 c0 A1 n1 c1 gx gy i bb tg x y) (TS w gx gy gt x y tg) ST.out ?steps ?fin
  case steps =>
    refine lt_step (lt_step (lt_step (lt_step (lt_step (lt_step (lt_step (lt_step (lt_step (lt_step (lt_step (lt_step (lt_step (lt_step (lt_step (lt_step (lt_step (lt_step (lt_step (lt_step (lt_step (lt_step (lt_step (lt_step (lt_step (lt_step (lt_step (lt_step (lt_step (lt_step (lt_step (lt_step (lt_zero) ?_) ?_) ?_) ?_) ?_) ?_) ?_) ?_) ?_) ?_) ?_) ?_) ?_) ?_) ?_) ?_) ?_) ?_) ?_) ?_) ?_) ?_) ?_) ?_) ?_) ?_) ?_) ?_) ?_) ?_) ?_) ?_
    · intro a w hk K hK
      have h1 : a.tmps[0]?.getD undef = .slice A0 n0 c0 := hk.slot 0 (by kernel_rfl)
      refine wpOp_go rfl rfl ?_
      have HK := Lib.hid hK
      have HS := Lib.hid hk.hS
      clear hK hk
      go_simp
      exact HK.out _ _ rfl HS.out (Below.refl _ _)
    · intro a w hk K hK
      have h1 : a.tmps[1]?.getD undef = .slice A1 n1 c1 := hk.slot 1 (by kernel_rfl)
      refine wpOp_go rfl rfl ?_
      have HK := Lib.hid hK
      have HS := Lib.hid hk.hS
      clear hK hk
      go_simp
      exact HK.out _ _ rfl HS.out (Below.refl _ _)
    · intro a w hk K hK
      have h1 : a.tmps[36]?.getD undef = .slice A1 n1 c1 := hk.fact 1 36 (by kernel_rfl) (by kernel_rfl)
      refine wpOp_go rfl rfl ?_
      have HK := Lib.hid hK
      have HS := Lib.hid hk.hS
      clear hK hk
      go_simp
      exact HK.out _ _ ⟨_, rfl, PA.out _ HS.out⟩ (HS.out.next (below_alloc _ _)) (below_alloc _ _)
    · intro a w hk K hK
      have h1 : a.tmps[35]?.getD undef = .slice A0 n0 c0 := hk.fact 0 35 (by kernel_rfl) (by kernel_rfl)
      obtain ⟨g2, h2, hP2⟩ := (hk.fact 2 37 (by kernel_rfl) (by kernel_rfl))
      refine wpOp_go rfl rfl ?_
      have HK := Lib.hid hK
      have HS := Lib.hid hk.hS
      clear hK hk
      go_simp
      refine (CK.out _ HS.out _ [⟨A1, c1, bb⟩] 1 rfl (by omega) T1.out hP2).mono ?_
      rintro e w' ⟨rfl, hB⟩
      exact HK.out _ _ rfl (HS.out.next hB) hB
    · intro a w hk K hK
      have h1 : a.tmps[10]?.getD undef = .pointer (some ⟨gt, 0, none⟩) := hk.slot 10 (by kernel_rfl)
      refine wpOp_go rfl rfl ?_
      have HK := Lib.hid hK
      have HS := Lib.hid hk.hS
      clear hK hk
      refine op_load o32 gt 0 tg LT.out HS.out.bt.1 (.tmp 10) rfl (by simpa [Act.eval] using h1) ?_
      exact HK.out _ _ rfl HS.out (Below.refl _ _)
    · intro a w hk K hK
      have h1 : a.tmps[38]?.getD undef = .agg (na .u8 tg) := hk.fact 3 38 (by kernel_rfl) (by kernel_rfl)
      have h2 : a.tmps[39]?.getD undef = .agg (na .u8 tg) := hk.fact 4 39 (by kernel_rfl) (by kernel_rfl)
      refine wpOp_go rfl rfl ?_
      have HK := Lib.hid hK
      have HS := Lib.hid hk.hS
      clear hK hk
      have heq := HEQ.out
      go_simp
      exact HK.out _ _ rfl HS.out (Below.refl _ _)
    · intro a w hk K hK
      have h1 : a.tmps[40]?.getD undef = .bool true := hk.fact 5 40 (by kernel_rfl) (by kernel_rfl)
      refine wpOp_go rfl rfl ?_
      have HK := Lib.hid hK
      have HS := Lib.hid hk.hS
      clear hK hk
      go_simp
      exact HK.out _ _ rfl HS.out (Below.refl _ _)
    · intro a w hk K hK
      have h1 : a.tmps[0]?.getD undef = .slice A0 n0 c0 := hk.slot 0 (by kernel_rfl)
      refine wpOp_if (d := 41) rfl rfl (by kernel_rfl) (hk.fact 6 41 (by kernel_rfl) (by kernel_rfl)) ?_
      have HK := Lib.hid hK
      have HS := Lib.hid hk.hS
      clear hK hk
      go_simp
      exact HK.out _ _ rfl HS.out (Below.refl _ _)
    · intro a w hk K hK
      have h1 : a.tmps[1]?.getD undef = .slice A1 n1 c1 := hk.slot 1 (by kernel_rfl)
      refine wpOp_if (d := 41) rfl rfl (by kernel_rfl) (hk.fact 6 41 (by kernel_rfl) (by kernel_rfl)) ?_
      have HK := Lib.hid hK
      have HS := Lib.hid hk.hS
      clear hK hk
      go_simp
      exact HK.out _ _ rfl HS.out (Below.refl _ _)
    · intro a w hk K hK
      have h1 : a.tmps[7]?.getD undef = .int .i64 (i : Int) := hk.slot 7 (by kernel_rfl)
      refine wpOp_if (d := 41) rfl rfl (by kernel_rfl) (hk.fact 6 41 (by kernel_rfl) (by kernel_rfl)) ?_
      have HK := Lib.hid hK
      have HS := Lib.hid hk.hS
      clear hK hk
      go_simp
      exact HK.out _ _ rfl HS.out (Below.refl _ _)
    · intro a w hk K hK
      have h1 : a.tmps[43]?.getD undef = .slice A1 n1 c1 := hk.fact 8 43 (by kernel_rfl) (by kernel_rfl)
      have h2 : a.tmps[44]?.getD undef = .int .i64 (i : Int) := hk.fact 9 44 (by kernel_rfl) (by kernel_rfl)
      refine wpOp_if (d := 41) rfl rfl (by kernel_rfl) (hk.fact 6 41 (by kernel_rfl) (by kernel_rfl)) ?_
      have HK := Lib.hid hK
      have HS := Lib.hid hk.hS
      clear hK hk
      have hr := R1.out
      go_simp
      exact HK.out _ _ rfl HS.out (Below.refl _ _)
    · intro a w hk K hK
      have h1 : a.tmps[1]?.getD undef = .slice A1 n1 c1 := hk.slot 1 (by kernel_rfl)
      refine wpOp_if (d := 41) rfl rfl (by kernel_rfl) (hk.fact 6 41 (by kernel_rfl) (by kernel_rfl)) ?_
      have HK := Lib.hid hK
      have HS := Lib.hid hk.hS
      clear hK hk
      go_simp
      exact HK.out _ _ rfl HS.out (Below.refl _ _)
    · intro a w hk K hK
      have h1 : a.tmps[7]?.getD undef = .int .i64 (i : Int) := hk.slot 7 (by kernel_rfl)
      refine wpOp_if (d := 41) rfl rfl (by kernel_rfl) (hk.fact 6 41 (by kernel_rfl) (by kernel_rfl)) ?_
      have HK := Lib.hid hK
      have HS := Lib.hid hk.hS
      clear hK hk
      go_simp
      exact HK.out _ _ rfl HS.out (Below.refl _ _)
    · intro a w hk K hK
      have h1 : a.tmps[46]?.getD undef = .slice A1 n1 c1 := hk.fact 11 46 (by kernel_rfl) (by kernel_rfl)
      have h2 : a.tmps[47]?.getD undef = .int .i64 (i : Int) := hk.fact 12 47 (by kernel_rfl) (by kernel_rfl)
      refine wpOp_if (d := 41) rfl rfl (by kernel_rfl) (hk.fact 6 41 (by kernel_rfl) (by kernel_rfl)) ?_
      have HK := Lib.hid hK
      have HS := Lib.hid hk.hS
      clear hK hk
      have hr := R2.out
      go_simp
      exact HK.out _ _ rfl HS.out (Below.refl _ _)
    · intro a w hk K hK
      have h1 : a.tmps[45]?.getD undef = .slice (cutA A1 c1 0) i c1 := hk.fact 10 45 (by kernel_rfl) (by kernel_rfl)
      have h2 : a.tmps[48]?.getD undef = .slice (cutA A1 c1 i) (n1 - i) (c1 - i) := hk.fact 13 48 (by kernel_rfl) (by kernel_rfl)
      refine wpOp_if (d := 41) rfl rfl (by kernel_rfl) (hk.fact 6 41 (by kernel_rfl) (by kernel_rfl)) ?_
      have HK := Lib.hid hK
      have HS := Lib.hid hk.hS
      clear hK hk
      go_simp
      exact HK.out _ _ ⟨_, rfl, PC.out _ HS.out⟩ (HS.out.next (below_alloc _ _)) (below_alloc _ _)
    · intro a w hk K hK
      have h1 : a.tmps[42]?.getD undef = .slice A0 n0 c0 := hk.fact 7 42 (by kernel_rfl) (by kernel_rfl)
      obtain ⟨g2, h2, hP2⟩ := (hk.fact 14 49 (by kernel_rfl) (by kernel_rfl))
      refine wpOp_if (d := 41) rfl rfl (by kernel_rfl) (hk.fact 6 41 (by kernel_rfl) (by kernel_rfl)) ?_
      have HK := Lib.hid hK
      have HS := Lib.hid hk.hS
      clear hK hk
      go_simp
      refine (CK.out _ HS.out _ [⟨cutA A1 c1 0, c1, (bb.drop 0).take i⟩, ⟨cutA A1 c1 i, c1 - i, (bb.drop i).take (n1 - i)⟩] 2 rfl (by omega) T2.out hP2).mono ?_
      rintro e w' ⟨rfl, hB⟩
      exact HK.out _ _ rfl (HS.out.next hB) hB
    · intro a w hk K hK
      have h1 : a.tmps[10]?.getD undef = .pointer (some ⟨gt, 0, none⟩) := hk.slot 10 (by kernel_rfl)
      refine wpOp_if (d := 41) rfl rfl (by kernel_rfl) (hk.fact 6 41 (by kernel_rfl) (by kernel_rfl)) ?_
      have HK := Lib.hid hK
      have HS := Lib.hid hk.hS
      clear hK hk
      refine op_load o32 gt 0 tg LT.out HS.out.bt.1 (.tmp 10) rfl (by simpa [Act.eval] using h1) ?_
      exact HK.out _ _ rfl HS.out (Below.refl _ _)
    · intro a w hk K hK
      have h1 : a.tmps[50]?.getD undef = .agg (na .u8 tg) := hk.fact 15 50 (by kernel_rfl) (by kernel_rfl)
      have h2 : a.tmps[51]?.getD undef = .agg (na .u8 tg) := hk.fact 16 51 (by kernel_rfl) (by kernel_rfl)
      refine wpOp_if (d := 41) rfl rfl (by kernel_rfl) (hk.fact 6 41 (by kernel_rfl) (by kernel_rfl)) ?_
      have HK := Lib.hid hK
      have HS := Lib.hid hk.hS
      clear hK hk
      have heq := HEQ.out
      go_simp
      exact HK.out _ _ rfl HS.out (Below.refl _ _)
    · intro a w hk K hK
      have h1 : a.tmps[41]?.getD undef = .bool true := hk.fact 6 41 (by kernel_rfl) (by kernel_rfl)
      have h2 : a.tmps[52]?.getD undef = .bool true := hk.fact 17 52 (by kernel_rfl) (by kernel_rfl)
      refine wpOp_go rfl rfl ?_
      have HK := Lib.hid hK
      have HS := Lib.hid hk.hS
      clear hK hk
      go_simp
      exact HK.out _ _ rfl HS.out (Below.refl _ _)
    · intro a w hk K hK
      have h1 : a.tmps[53]?.getD undef = .bool true := hk.fact 18 53 (by kernel_rfl) (by kernel_rfl)
      refine wpOp_go rfl rfl ?_
      have HK := Lib.hid hK
      have HS := Lib.hid hk.hS
      clear hK hk
      go_simp
      exact HK.out _ _ rfl HS.out (Below.refl _ _)
    · intro a w hk K hK
      have h1 : a.tmps[8]?.getD undef = .pointer (some ⟨gx, 0, none⟩) := hk.slot 8 (by kernel_rfl)
      refine wpOp_if (d := 54) rfl rfl (by kernel_rfl) (hk.fact 19 54 (by kernel_rfl) (by kernel_rfl)) ?_
      have HK := Lib.hid hK
      have HS := Lib.hid hk.hS
      clear hK hk
      have hr := R3.out
      go_simp
      exact HK.out _ _ rfl HS.out (Below.refl _ _)
    · intro a w hk K hK
      have h1 : a.tmps[0]?.getD undef = .slice A0 n0 c0 := hk.slot 0 (by kernel_rfl)
      refine wpOp_if (d := 54) rfl rfl (by kernel_rfl) (hk.fact 19 54 (by kernel_rfl) (by kernel_rfl)) ?_
      have HK := Lib.hid hK
      have HS := Lib.hid hk.hS
      clear hK hk
      go_simp
      exact HK.out _ _ rfl HS.out (Below.refl _ _)
    · intro a w hk K hK
      have h1 : a.tmps[56]?.getD undef = .slice A0 n0 c0 := hk.fact 21 56 (by kernel_rfl) (by kernel_rfl)
      refine wpOp_if (d := 54) rfl rfl (by kernel_rfl) (hk.fact 19 54 (by kernel_rfl) (by kernel_rfl)) ?_
      have HK := Lib.hid hK
      have HS := Lib.hid hk.hS
      clear hK hk
      go_simp
      refine (KI.out _ HS.out).mono ?_
      rintro e w' ⟨v, rfl, ho, hB⟩
      rw [LI.out] at ho
      obtain ⟨A, c, rfl, _, _, _, hy⟩ := own_slice ho (by omega) IB.out
      exact HK.out _ _ ⟨A, c, rfl, hy⟩ (HS.out.next hB) hB
    · intro a w hk K hK
      have h1 : a.tmps[55]?.getD undef = .slice (some ⟨gx, 0, none⟩) 64 64 := hk.fact 20 55 (by kernel_rfl) (by kernel_rfl)
      obtain ⟨A57, c57, h2, hY2⟩ := (hk.fact 22 57 (by kernel_rfl) (by kernel_rfl))
      refine wpOp_if (d := 54) rfl rfl (by kernel_rfl) (hk.fact 19 54 (by kernel_rfl) (by kernel_rfl)) ?_
      have HK := Lib.hid hK
      have HS := Lib.hid hk.hS
      clear hK hk
      go_simp
      have C3 := same_any (some ⟨gx, 0, none⟩) A57 x x 64 64 64 c57 w LI.out LI.out (by omega) _ _ (bys_of_holds HS.out.bx IB.out) hY2
      rw [decide_eq_true (rfl : x = x)] at C3
      refine C3.mono ?_
      rintro e w' ⟨nn, rfl, rfl⟩
      exact HK.out _ _ rfl (HS.out.next (below_drewN_self _ _)) (below_drewN_self _ _)
    · intro a w hk K hK
      have h1 : a.tmps[54]?.getD undef = .bool true := hk.fact 19 54 (by kernel_rfl) (by kernel_rfl)
      have h2 : a.tmps[58]?.getD undef = .bool true := hk.fact 23 58 (by kernel_rfl) (by kernel_rfl)
      refine wpOp_go rfl rfl ?_
      have HK := Lib.hid hK
      have HS := Lib.hid hk.hS
      clear hK hk
      go_simp
      exact HK.out _ _ rfl HS.out (Below.refl _ _)
    · intro a w hk K hK
      have h1 : a.tmps[59]?.getD undef = .bool true := hk.fact 24 59 (by kernel_rfl) (by kernel_rfl)
      refine wpOp_go rfl rfl ?_
      have HK := Lib.hid hK
      have HS := Lib.hid hk.hS
      clear hK hk
      go_simp
      exact HK.out _ _ rfl HS.out (Below.refl _ _)
    · intro a w hk K hK
      have h1 : a.tmps[9]?.getD undef = .pointer (some ⟨gy, 0, none⟩) := hk.slot 9 (by kernel_rfl)
      refine wpOp_if (d := 60) rfl rfl (by kernel_rfl) (hk.fact 25 60 (by kernel_rfl) (by kernel_rfl)) ?_
      have HK := Lib.hid hK
      have HS := Lib.hid hk.hS
      clear hK hk
      have hr := R4.out
      go_simp
      exact HK.out _ _ rfl HS.out (Below.refl _ _)
    · intro a w hk K hK
      have h1 : a.tmps[0]?.getD undef = .slice A0 n0 c0 := hk.slot 0 (by kernel_rfl)
      refine wpOp_if (d := 60) rfl rfl (by kernel_rfl) (hk.fact 25 60 (by kernel_rfl) (by kernel_rfl)) ?_
      have HK := Lib.hid hK
      have HS := Lib.hid hk.hS
      clear hK hk
      go_simp
      exact HK.out _ _ rfl HS.out (Below.refl _ _)
    · intro a w hk K hK
      have h1 : a.tmps[62]?.getD undef = .slice A0 n0 c0 := hk.fact 27 62 (by kernel_rfl) (by kernel_rfl)
      refine wpOp_if (d := 60) rfl rfl (by kernel_rfl) (hk.fact 25 60 (by kernel_rfl) (by kernel_rfl)) ?_
      have HK := Lib.hid hK
      have HS := Lib.hid hk.hS
      clear hK hk
      go_simp
      refine (KO.out _ HS.out).mono ?_
      rintro e w' ⟨v, rfl, ho, hB⟩
      rw [LO.out] at ho
      obtain ⟨A, c, rfl, _, _, _, hy⟩ := own_slice ho (by omega) OB.out
      exact HK.out _ _ ⟨A, c, rfl, hy⟩ (HS.out.next hB) hB
    · intro a w hk K hK
      have h1 : a.tmps[61]?.getD undef = .slice (some ⟨gy, 0, none⟩) 64 64 := hk.fact 26 61 (by kernel_rfl) (by kernel_rfl)
      obtain ⟨A63, c63, h2, hY2⟩ := (hk.fact 28 63 (by kernel_rfl) (by kernel_rfl))
      refine wpOp_if (d := 60) rfl rfl (by kernel_rfl) (hk.fact 25 60 (by kernel_rfl) (by kernel_rfl)) ?_
      have HK := Lib.hid hK
      have HS := Lib.hid hk.hS
      clear hK hk
      go_simp
      have C3 := same_any (some ⟨gy, 0, none⟩) A63 y y 64 64 64 c63 w LO.out LO.out (by omega) _ _ (bys_of_holds HS.out.by_ OB.out) hY2
      rw [decide_eq_true (rfl : y = y)] at C3
      refine C3.mono ?_
      rintro e w' ⟨nn, rfl, rfl⟩
      exact HK.out _ _ rfl (HS.out.next (below_drewN_self _ _)) (below_drewN_self _ _)
    · intro a w hk K hK
      have h1 : a.tmps[60]?.getD undef = .bool true := hk.fact 25 60 (by kernel_rfl) (by kernel_rfl)
      have h2 : a.tmps[64]?.getD undef = .bool true := hk.fact 29 64 (by kernel_rfl) (by kernel_rfl)
      refine wpOp_go rfl rfl ?_
      have HK := Lib.hid hK
      have HS := Lib.hid hk.hS
      clear hK hk
      go_simp
      exact HK.out _ _ rfl HS.out (Below.refl _ _)
    · intro a w hk K hK
      have h1 : a.tmps[65]?.getD undef = .bool true := hk.fact 30 65 (by kernel_rfl) (by kernel_rfl)
      refine wpOp_go rfl rfl ?_
      have HK := Lib.hid hK
      have HS := Lib.hid hk.hS
      clear hK hk
      go_simp
      exact HK.out _ _ rfl HS.out (Below.refl _ _)
  case fin =>
    intro a w' hS hsz hdf _ hf
    have h6 : a.tmps[6]?.getD undef = .bool true := hf 31 6 (by omega) (by kernel_rfl)
    have HS := Lib.hid hS
    clear hf hS
    go_wp2
    exact bodyPost_ret (v := .bool true) (results_slot rfl _ _ _ h6) hdf ⟨rfl, HS.out.bel⟩
/-- HMACTAGS: it answers true. -/
theorem tags_walk (kb : List Nat) (A0 : Option Addr) (c0 : Nat) (bb : List Nat) (A1 : Option Addr) (c1 : Nat) (n : Int) (w : World) (hv : VarsS w) (hk : Bys w w.heap.size A0 kb) (hc0 : kb.length ≤ c0) (hA0 : A0 = none → c0 = 0) (hb : Bys w w.heap.size A1 bb) (hc1 : bb.length ≤ c1) (hA1 : A1 = none → c1 = 0) (hn : (Lit.int .u16 n).wf = true) :
    Calls Tryd.prog 3 #[.slice A0 kb.length c0, .slice A1 bb.length c1, .int .u16 n] w fun e w' => e = .returned (.bool true) ∧ Below w.heap.size w w' := by
  have hr := bounds_u16 hn
  obtain ⟨m, rfl⟩ : ∃ m : Nat, n = (m : Int) := ⟨n.toNat, by omega⟩
  by_cases hlong : 200 < kb.length ∨ 300 < bb.length
  · exact tags_long A0 kb.length c0 A1 bb.length c1 hlong m w hv
  · exact tags_main kb A0 kb.length c0 rfl hc0 hA0 (by omega) bb A1 bb.length c1 rfl hc1 hA1 (by omega) m (by omega) w hv hk hb
end Go.Proofs.YtdfbhgajomdeeaaDoor
