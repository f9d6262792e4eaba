/-
  The walk of the law XtsTweaks: for every key, number and block it answers true. Condition: the table of widths stands in its variable. (Written by tools/gen_xtweaks.py.)
-/
import Derived.Test.YtdjknmnmacppdaaDoorXtAwake
import Derived.Test.YtdjknmnmacppdaaDoorXtRefTweak
import Derived.Test.YtdjknmnmacppdaaDoorFactAll
namespace Go.Proofs.YtdjknmnmacppdaaDoor
open Go.RowKit Arr Gf Sb Ae Xt

/-- What stands while the law compares. -/
structure TkS (w : World) (gt : Nat) (tk : List Nat) (w' : World) : Prop where
  twe : Holds w' gt .u8 tk
  bel : Below w.heap.size w w'
theorem TkS.next {w w' w'' : World} {gt : Nat} {tk : List Nat} (h : TkS w gt tk w') (hl : tk.length = 16) (hb : Below w'.heap.size w' w'') : TkS w gt tk w'' :=
  ⟨h.twe.below hb (h.twe.lt (by omega)), h.bel.trans (hb.mono h.bel.size)⟩
def tweaksFacts (A : Option Addr) (n c nu bl : Nat) (tk : List Nat) : List Fact := [
  Fact.is (.int .i64 0),
  Fact.is (.bool true),
  Fact.is (.bool true),
  Fact.is (.agg (na .u8 tk)),
  Fact.is (.slice A n c),
  Fact.is (.int .i64 (nu : Int)),
  Fact.is (.int .i64 (bl : Int)),
  Fact.is (.agg (na .u8 tk)),
  Fact.is (.bool true),
  Fact.is (.bool true),
  Fact.is (.bool true)]

section
variable {ks : List Nat} {A : Option Addr} {n c : Nat} {w : World}
theorem tweaks_not (nu bl : Int) (hk : ¬ okKey n) (ht : Tab w 0) :
    Calls Tryd.prog 4 #[.slice A n c, .int .i64 nu, .int .i64 bl] w (Ret true w) := by
  have HA := Lib.hid (awake_any w ht)
  have CR := Lib.hid (fun w' => right_no A n c hk w')
  clear ht hk
  go_enter Tryd.func4, Tryd.ntmps4
  go_wp2_with fail
  refine HA.out.mono ?_
  rintro e w1 ⟨rfl, hb⟩
  have HB := Lib.hid hb; clear hb
  go_wp2_with fail
  refine (CR.out _).mono ?_
  rintro e w2 ⟨rfl, rfl⟩
  go_wp2
  go_ret
  exact ⟨rfl, HB.out⟩

set_option maxHeartbeats 2000000 in
theorem tweaks_bad (hl : ks.length = n) (hc : n ≤ c) (nu bl : Int) (hk : okKey n) (hnb : okTw nu bl = false) (hb : Bys w w.heap.size A ks) (ht : Tab w 0) :
    Calls Tryd.prog 4 #[.slice A n c, .int .i64 nu, .int .i64 bl] w (Ret true w) := by
  have HA := Lib.hid (awake_any w ht)
  have htw := ht.lt
  have CR := Lib.hid (fun w' => right_yes A n c hk w')
  have CN := Lib.hid (fun w' (hw : Below w.heap.size w w') => xnew_ok hl hk hc ((hb.below hw).more hw.size) (ht.below hw htw))
  have CT := Lib.hid (fun g g1 g2 w' (h : Sec w' g g1 g2 ks) => xtweak_bad h nu bl hnb)
  have HEQ : Go.RowKit.Hid (∀ W : World, (Op.equalIn 10000 34 (.agg (na .u8 (zs 16))) (.agg (na .u8 (zs 16)))).run Tryd.prog W = .ok true W) := Lib.hid (fun W => by
    have := eql o16 W (zs 16) (zs 16) (length_zs _) (length_zs _)
    simpa using this)
  obtain ⟨q, hq⟩ : ∃ q : Prop, q = (nu < 0 ∨ (0 ≤ nu ∧ 4611686018427387904 < nu) ∨ (0 ≤ nu ∧ nu ≤ 4611686018427387904 ∧ bl < 0) ∨ (0 ≤ nu ∧ nu ≤ 4611686018427387904 ∧ 0 ≤ bl ∧ 255 < bl)) := ⟨_, rfl⟩
  have hp : q := by
    rw [hq]
    by_cases q1 : nu < 0
    · exact .inl q1
    · by_cases q2 : 4611686018427387904 < nu
      · exact .inr (.inl ⟨by omega, q2⟩)
      · by_cases q3 : bl < 0
        · exact .inr (.inr (.inl ⟨by omega, by omega, q3⟩))
        · refine .inr (.inr (.inr ⟨by omega, by omega, by omega, ?_⟩))
          by_cases q4 : bl < 256
          · have : okTw nu bl = true := by simp only [okTw, Bool.and_eq_true, decide_eq_true_eq]; omega
            rw [hnb] at this; cases this
          · omega
  have HQ := Lib.hid hq
  have HP := Lib.hid hp
  clear ht hk hl hb hnb hq hp
  go_enter Tryd.func4, Tryd.ntmps4
  go_wp2_with fail
  refine HA.out.mono ?_
  rintro e w1 ⟨rfl, hb⟩
  have HB := Lib.hid hb
  have C1 := Lib.hid (CN.out w1 hb)
  clear hb HA CN
  go_wp2_with fail
  refine (CR.out _).mono ?_
  rintro e w2 ⟨rfl, rfl⟩
  go_wp2_with fail
  refine C1.out.mono ?_
  rintro e w2 ⟨g, g1, g2, rfl, hS, hb2⟩
  have B2 := Lib.hid (HB.out.trans (hb2.mono HB.out.size))
  have C2 := Lib.hid (CT.out g g1 g2 w2 hS)
  clear C1 CT hS hb2 HB CR
  go_wp2_with fail
  refine C2.out.mono ?_
  rintro e w3 ⟨rfl, hb3⟩
  have B3 := Lib.hid (B2.out.trans (hb3.mono B2.out.size))
  have D1 := Lib.hid (Holds.new w3 34 .u8 (zs 16))
  have D2 := Lib.hid (D1.out.put (zs 16) rfl)
  have B4 := Lib.hid (below_setCells (b := w3.heap.size) B3.out.size (nv .u8 (zs 16)) 0 _ (B3.out.alloc B3.out.size (.cells (na .u8 (zs 16)) 34)))
  clear hb3 C2 B2 B3
  go_upto_region 9 with (first | (with_reducible refine Arr.alloc (t := 34) _ z16 ?_) | (with_reducible refine Arr.store o16 w3.heap.size (zs 16) (zs 16) (length_zs _) D1.out (length_zs _) rfl rfl ?_) | fail)
  generalize (w3.alloc (.cells (na .u8 (zs 16)) 34)).setCells w3.heap.size 0 (nv .u8 (zs 16)) = w4 at *
  clear D1
  have hp := HP.out
  rw [HQ.out] at hp
  have heq := HEQ.out
  clear HP HQ
  rcases hp with q1 | ⟨q1, q2⟩ | ⟨q1, q2, q3⟩ | ⟨q1, q2, q3, q4⟩
  · have t1 : decide (nu < 0) = true := by simp; omega
    go_wp2_with (first | (with_reducible refine buildG (t := 34) _ b16 rfl ?_) | (with_reducible refine Arr.loadG o16 w3.heap.size (zs 16) (length_zs _) D2.out rfl rfl ?_) | fail)
    go_ret
    exact ⟨rfl, B4.out⟩
  · have t1 : decide (nu < 0) = false := by simp; omega
    have t2 : decide (nu > 4611686018427387904) = true := by simp; omega
    have t3 : decide (4611686018427387904 < nu) = true := by simp; omega
    go_wp2_with (first | (with_reducible refine buildG (t := 34) _ b16 rfl ?_) | (with_reducible refine Arr.loadG o16 w3.heap.size (zs 16) (length_zs _) D2.out rfl rfl ?_) | fail)
    go_ret
    exact ⟨rfl, B4.out⟩
  · have t1 : decide (nu < 0) = false := by simp; omega
    have t2 : decide (nu > 4611686018427387904) = false := by simp; omega
    have t3 : decide (4611686018427387904 < nu) = false := by simp; omega
    have t4 : decide (bl < 0) = true := by simp; omega
    go_wp2_with (first | (with_reducible refine buildG (t := 34) _ b16 rfl ?_) | (with_reducible refine Arr.loadG o16 w3.heap.size (zs 16) (length_zs _) D2.out rfl rfl ?_) | fail)
    go_ret
    exact ⟨rfl, B4.out⟩
  · have t1 : decide (nu < 0) = false := by simp; omega
    have t2 : decide (nu > 4611686018427387904) = false := by simp; omega
    have t3 : decide (4611686018427387904 < nu) = false := by simp; omega
    have t4 : decide (bl < 0) = false := by simp; omega
    have t5 : decide (bl > 255) = true := by simp; omega
    have t6 : decide (255 < bl) = true := by simp; omega
    go_wp2_with (first | (with_reducible refine buildG (t := 34) _ b16 rfl ?_) | (with_reducible refine Arr.loadG o16 w3.heap.size (zs 16) (length_zs _) D2.out rfl rfl ?_) | fail)
    go_ret
    exact ⟨rfl, B4.out⟩
end

set_option maxHeartbeats 4000000 in
theorem tweaks_ok {ks : List Nat} {A : Option Addr} {n c : Nat} {w : World} (hl : ks.length = n) (hc : n ≤ c) (nu bl : Nat) (hk : okKey n) (hnu : nu ≤ 4611686018427387904) (hbl : bl < 256) (hb : Bys w w.heap.size A ks) (ht : Tab w 0) :
    Calls Tryd.prog 4 #[.slice A n c, .int .i64 (nu : Int), .int .i64 (bl : Int)] w (Ret true w) := by
  have HA := Lib.hid (awake_any w ht)
  have htw := ht.lt
  have hk0 : okKey ks.length := by rw [hl]; exact hk
  have CRi := Lib.hid (fun w' => right_yes A n c hk w')
  have CN := Lib.hid (fun w' (hw : Below w.heap.size w w') => xnew_ok hl hk hc ((hb.below hw).more hw.size) (ht.below hw htw))
  have CT := Lib.hid (fun g g1 g2 w' (h : Sec w' g g1 g2 ks) => xtweak_ok h hk0 nu bl hnu hbl)
  have CR := Lib.hid (fun w' (hw : Below w.heap.size w w') => rtweak_any ks A n c hl hk nu bl hnu hc (by omega) w' ((hb.below hw).more hw.size))
  have LT := (st_twk hk0 nu bl).1
  generalize twk ks nu bl = tk at *
  have HEQ : Go.RowKit.Hid (∀ W : World, (Op.equalIn 10000 34 (.agg (na .u8 tk)) (.agg (na .u8 tk))).run Tryd.prog W = .ok true W) := Lib.hid (fun W => by
    have := eql o16 W tk tk LT LT
    simpa using this)
  have LT := Lib.hid LT
  have t1 : decide ((nu : Int) < 0) = false := by simp
  have t2 : decide ((nu : Int) > 4611686018427387904) = false := by simp; omega
  have t2' : decide (4611686018427387904 < (nu : Int)) = false := by simp; omega
  have t3 : decide ((bl : Int) < 0) = false := by simp
  have t4 : decide ((bl : Int) > 255) = false := by simp; omega
  have t4' : decide (255 < (bl : Int)) = false := by simp; omega
  clear ht hk hk0 hl hb hnu hbl
  go_enter Tryd.func4, Tryd.ntmps4
  go_wp2_with fail
  refine HA.out.mono ?_
  rintro e w1 ⟨rfl, hb⟩
  have HB := Lib.hid hb
  have C1 := Lib.hid (CN.out w1 hb)
  clear hb HA CN
  go_wp2_with fail
  refine (CRi.out _).mono ?_
  rintro e w2 ⟨rfl, rfl⟩
  go_wp2_with fail
  refine C1.out.mono ?_
  rintro e w2 ⟨g, g1, g2, rfl, hS, hb2⟩
  have B2 := Lib.hid (HB.out.trans (hb2.mono HB.out.size))
  have C2 := Lib.hid (CT.out g g1 g2 w2 hS)
  clear C1 CT hS hb2 HB CRi
  go_wp2_with fail
  refine C2.out.mono ?_
  rintro e w3 ⟨rfl, hb3⟩
  have B3 := Lib.hid (B2.out.trans (hb3.mono B2.out.size))
  have D1 := Lib.hid (Holds.new w3 34 .u8 (zs 16))
  have D2 := D1.out.put tk (by rw [LT.out, length_zs])
  have B4 := below_setCells (b := w3.heap.size) B3.out.size (nv .u8 tk) 0 _ (B3.out.alloc B3.out.size (.cells (na .u8 (zs 16)) 34))
  have ST0 := Lib.hid (TkS.mk D2 B4)
  clear hb3 C2 B2 B3 D2 B4
  go_upto_region 11 with (first | (with_reducible refine Arr.alloc (t := 34) _ z16 ?_) | (with_reducible refine Arr.store o16 w3.heap.size (zs 16) tk (length_zs _) D1.out LT.out rfl rfl ?_) | fail)
  generalize (w3.alloc (.cells (na .u8 (zs 16)) 34)).setCells w3.heap.size 0 (nv .u8 tk) = w4 at *
  clear D1 t1 t2 t2' t3 t4 t4'
  generalize w3.heap.size = gt at *
  have ST : Go.RowKit.Hid (TkS w gt tk w4.drew) := Lib.hid ⟨ST0.out.twe.drew, below_drew ST0.out.bel⟩
  clear ST0
  refine wp_region_facts (by kernel_rfl) (by kernel_rfl) 61 11 rfl rfl (by kernel_rfl) (tweaksFacts A n c nu bl tk) (TkS w gt tk) ST.out ?steps ?fin
  case steps =>
    refine lt_step (lt_step (lt_step (lt_step (lt_step (lt_step (lt_step (lt_step (lt_step (lt_step (lt_step (lt_zero) ?_) ?_) ?_) ?_) ?_) ?_) ?_) ?_) ?_) ?_) ?_
    · intro a w hk K hK
      have h1 : a.tmps[10]?.getD undef = .int .i64 0 := hk.slot 10 (by kernel_rfl)
      refine wpOp_go rfl rfl ?_
      have HK := Lib.hid hK
      have HS := Lib.hid hk.hS
      clear hK hk
      go_simp
      exact HK.out _ _ rfl HS.out (Below.refl _ _)
    · intro a w hk K hK
      have h1 : a.tmps[51]?.getD undef = .int .i64 0 := hk.fact 0 51 (by kernel_rfl) (by kernel_rfl)
      refine wpOp_go rfl rfl ?_
      have HK := Lib.hid hK
      have HS := Lib.hid hk.hS
      clear hK hk
      go_simp
      exact HK.out _ _ rfl HS.out (Below.refl _ _)
    · intro a w hk K hK
      have h1 : a.tmps[52]?.getD undef = .bool true := hk.fact 1 52 (by kernel_rfl) (by kernel_rfl)
      refine wpOp_go rfl rfl ?_
      have HK := Lib.hid hK
      have HS := Lib.hid hk.hS
      clear hK hk
      go_simp
      exact HK.out _ _ rfl HS.out (Below.refl _ _)
    · intro a w hk K hK
      have h1 : a.tmps[9]?.getD undef = .pointer (some ⟨gt, 0, none⟩) := hk.slot 9 (by kernel_rfl)
      refine wpOp_if (d := 53) rfl rfl (by kernel_rfl) (hk.fact 2 53 (by kernel_rfl) (by kernel_rfl)) ?_
      have HK := Lib.hid hK
      have HS := Lib.hid hk.hS
      clear hK hk
      refine op_load o16 gt 0 tk LT.out HS.out.twe.1 (.tmp 9) rfl (by simpa [Act.eval] using h1) ?_
      exact HK.out _ _ rfl HS.out (Below.refl _ _)
    · intro a w hk K hK
      have h1 : a.tmps[0]?.getD undef = .slice A n c := hk.slot 0 (by kernel_rfl)
      refine wpOp_if (d := 53) rfl rfl (by kernel_rfl) (hk.fact 2 53 (by kernel_rfl) (by kernel_rfl)) ?_
      have HK := Lib.hid hK
      have HS := Lib.hid hk.hS
      clear hK hk
      go_simp
      exact HK.out _ _ rfl HS.out (Below.refl _ _)
    · intro a w hk K hK
      have h1 : a.tmps[1]?.getD undef = .int .i64 (nu : Int) := hk.slot 1 (by kernel_rfl)
      refine wpOp_if (d := 53) rfl rfl (by kernel_rfl) (hk.fact 2 53 (by kernel_rfl) (by kernel_rfl)) ?_
      have HK := Lib.hid hK
      have HS := Lib.hid hk.hS
      clear hK hk
      go_simp
      exact HK.out _ _ rfl HS.out (Below.refl _ _)
    · intro a w hk K hK
      have h1 : a.tmps[2]?.getD undef = .int .i64 (bl : Int) := hk.slot 2 (by kernel_rfl)
      refine wpOp_if (d := 53) rfl rfl (by kernel_rfl) (hk.fact 2 53 (by kernel_rfl) (by kernel_rfl)) ?_
      have HK := Lib.hid hK
      have HS := Lib.hid hk.hS
      clear hK hk
      go_simp
      exact HK.out _ _ rfl HS.out (Below.refl _ _)
    · intro a w hk K hK
      have h1 : a.tmps[55]?.getD undef = .slice A n c := hk.fact 4 55 (by kernel_rfl) (by kernel_rfl)
      have h2 : a.tmps[56]?.getD undef = .int .i64 (nu : Int) := hk.fact 5 56 (by kernel_rfl) (by kernel_rfl)
      have h3 : a.tmps[57]?.getD undef = .int .i64 (bl : Int) := hk.fact 6 57 (by kernel_rfl) (by kernel_rfl)
      refine wpOp_if (d := 53) rfl rfl (by kernel_rfl) (hk.fact 2 53 (by kernel_rfl) (by kernel_rfl)) ?_
      have HK := Lib.hid hK
      have HS := Lib.hid hk.hS
      clear hK hk
      go_simp
      refine (CR.out _ HS.out.bel).mono ?_
      rintro e w' ⟨rfl, hB⟩
      exact HK.out _ _ rfl (HS.out.next LT.out hB) hB
    · intro a w hk K hK
      have h1 : a.tmps[54]?.getD undef = .agg (na .u8 tk) := hk.fact 3 54 (by kernel_rfl) (by kernel_rfl)
      have h2 : a.tmps[58]?.getD undef = .agg (na .u8 tk) := hk.fact 7 58 (by kernel_rfl) (by kernel_rfl)
      refine wpOp_if (d := 53) rfl rfl (by kernel_rfl) (hk.fact 2 53 (by kernel_rfl) (by kernel_rfl)) ?_
      have HK := Lib.hid hK
      have HS := Lib.hid hk.hS
      clear hK hk
      have heq := HEQ.out
      go_simp
      exact HK.out _ _ rfl HS.out (Below.refl _ _)
    · intro a w hk K hK
      have h1 : a.tmps[53]?.getD undef = .bool true := hk.fact 2 53 (by kernel_rfl) (by kernel_rfl)
      have h2 : a.tmps[59]?.getD undef = .bool true := hk.fact 8 59 (by kernel_rfl) (by kernel_rfl)
      refine wpOp_go rfl rfl ?_
      have HK := Lib.hid hK
      have HS := Lib.hid hk.hS
      clear hK hk
      go_simp
      exact HK.out _ _ rfl HS.out (Below.refl _ _)
    · intro a w hk K hK
      have h1 : a.tmps[60]?.getD undef = .bool true := hk.fact 9 60 (by kernel_rfl) (by kernel_rfl)
      refine wpOp_go rfl rfl ?_
      have HK := Lib.hid hK
      have HS := Lib.hid hk.hS
      clear hK hk
      go_simp
      exact HK.out _ _ rfl HS.out (Below.refl _ _)
  case fin =>
    intro a w' hS hsz hdf _ hf
    have h6 : a.tmps[6]?.getD undef = .bool true := hf 10 6 (by omega) (by kernel_rfl)
    have HS := Lib.hid hS
    clear hf hS
    go_wp2
    exact bodyPost_ret (v := .bool true) (results_slot rfl _ _ _ h6) hdf ⟨rfl, HS.out.bel⟩

/-- XTSTWEAKS: it answers true. -/
theorem tweaks_walk (ks : List Nat) (A : Option Addr) (c : Nat) (nu bl : Int) (w : World) (ht : Tab w 0) (hb : Bys w w.heap.size A ks) (hc : ks.length ≤ c) (_ : A = none → c = 0) :
    Calls Tryd.prog 4 #[.slice A ks.length c, .int .i64 nu, .int .i64 bl] w (Ret true w) := by
  by_cases hk : okKey ks.length
  · cases ho : okTw nu bl with
    | false => exact tweaks_bad rfl hc nu bl hk ho hb ht
    | true =>
      simp only [okTw, Bool.and_eq_true, decide_eq_true_eq] at ho
      obtain ⟨a, rfl⟩ : ∃ a : Nat, nu = (a : Int) := ⟨nu.toNat, by omega⟩
      obtain ⟨d, rfl⟩ : ∃ d : Nat, bl = (d : Int) := ⟨bl.toNat, by omega⟩
      exact tweaks_ok rfl hc a d hk (by omega) (by omega) hb ht
  · exact tweaks_not nu bl hk ht
end Go.Proofs.YtdjknmnmacppdaaDoor
