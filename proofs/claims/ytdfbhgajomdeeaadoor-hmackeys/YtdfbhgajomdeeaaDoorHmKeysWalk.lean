/-
  The law HmacKeys, walked: it answers true. Conditions: the tables stand in their variables. (Written by tools/gen_hmkeys.py.)
-/
import Derived.Test.YtdfbhgajomdeeaaDoorHmAwake
import Derived.Test.YtdfbhgajomdeeaaDoorPartsFact
import Derived.Test.YtdfbhgajomdeeaaDoorOwnRun
import Derived.Test.YtdfbhgajomdeeaaDoorCutBys
namespace Go.Proofs.YtdfbhgajomdeeaaDoor
open Go.RowKit Arr Sh Hm

/-- What holds behind the long key's making. -/
structure KS (w : World) (LA : Option Addr) (l : List Nat) (w' : World) : Prop where
  bel : Below w.heap.size w w'
  key : Bys w' w'.heap.size LA l
theorem KS.next {w w' w'' : World} {LA : Option Addr} {l : List Nat} (h : KS w LA l w') (hb : Below w'.heap.size w' w'') : KS w LA l w'' := ⟨h.bel.trans (hb.mono h.bel.size), (h.key.below hb).more hb.size⟩
theorem KS.drew {w w' : World} {LA : Option Addr} {l : List Nat} (h : KS w LA l w') : KS w LA l w'.drew := ⟨below_drew h.bel, h.key⟩
/-- A new row without elements. -/
theorem owns_none (w : World) : (w.alloc (.cells #[] 5)).ownsRow w.heap.size 5 1 (.slice (some ⟨w.heap.size, 0, none⟩) 0 0) 0 (vals .u8 []) :=
  ⟨rfl, .inr ⟨w.heap.size, 0, #[], rfl, Nat.le_refl _, heap_alloc_last w _, Nat.le_refl _, by unfold maxLen; omega, rfl, rfl⟩⟩
def keysFacts (A0 : Option Addr) (n0 c0 : Nat) (A1 : Option Addr) (n1 c1 : Nat) (LA : Option Addr) (nl Lc i : Nat) (bb tg : List Nat) : List Fact := [
  Fact.is (.slice LA nl Lc),
  Fact.is (.slice A1 n1 c1),
  Fact.parts [⟨A1, c1, bb⟩] 1,
  Fact.is (.agg (na .u8 tg)),
  Fact.is (.slice A0 n0 c0),
  Fact.is (.slice A1 n1 c1),
  Fact.parts [⟨A1, c1, bb⟩] 1,
  Fact.is (.agg (na .u8 tg)),
  Fact.is (.bool true),
  Fact.is (.bool true),
  Fact.is (.slice A0 n0 c0),
  Fact.is (.slice A1 n1 c1),
  Fact.is (.int .i64 (i : Int)),
  Fact.is (.slice (cutA A1 c1 0) i c1),
  Fact.is (.slice A1 n1 c1),
  Fact.is (.int .i64 (i : Int)),
  Fact.is (.slice (cutA A1 c1 i) (n1 - i) (c1 - i)),
  Fact.parts [⟨cutA A1 c1 0, c1, (bb.drop 0).take i⟩, ⟨none, 0, []⟩, ⟨cutA A1 c1 i, c1 - i, (bb.drop i).take (n1 - i)⟩] 3,
  Fact.is (.agg (na .u8 tg)),
  Fact.is (.slice A0 n0 c0),
  Fact.is (.slice A1 n1 c1),
  Fact.parts [⟨A1, c1, bb⟩] 1,
  Fact.is (.agg (na .u8 tg)),
  Fact.is (.bool true),
  Fact.is (.bool true),
  Fact.is (.bool true)]

set_option maxHeartbeats 1000000 in
theorem keys_long (A0 : Option Addr) (n0 c0 : Nat) (A1 : Option Addr) (n1 c1 : Nat) (hl : 64 < n0 ∨ 300 < n1) (m : Nat) (w : World) (hv : VarsS w) :
    Calls Tryd.prog 5 #[.slice A0 n0 c0, .slice A1 n1 c1, .int .u8 (m : Int)] w (True' w) := by
  have C1 := Lib.hid (awake_any w hv)
  clear hv
  by_cases h0 : 64 < n0
  · have t1 : decide ((n0 : Int) > 64) = true := by simp; omega
    have t2 : decide (64 < (n0 : Int)) = true := by simp; omega
    clear hl
    go_enter Tryd.func5, Tryd.ntmps5
    go_wp2_with fail
    refine C1.out.mono ?_
    rintro e w2 ⟨rfl, hB2⟩
    have B2 := Lib.hid hB2
    clear hB2
    go_wp2
    go_ret
    exact ⟨rfl, B2.out⟩
  · have t1 : decide ((n0 : Int) > 64) = false := by simp; omega
    have t2 : decide (64 < (n0 : Int)) = false := by simp; omega
    have t3 : decide ((n1 : Int) > 300) = true := by simp; omega
    have t4 : decide (300 < (n1 : Int)) = true := by simp; omega
    clear hl
    go_enter Tryd.func5, Tryd.ntmps5
    go_wp2_with fail
    refine C1.out.mono ?_
    rintro e w2 ⟨rfl, hB2⟩
    have B2 := Lib.hid hB2
    clear hB2
    go_wp2
    go_ret
    exact ⟨rfl, B2.out⟩

set_option maxHeartbeats 4000000 in
set_option maxRecDepth 10000 in
theorem keys_main (kb : List Nat) (A0 : Option Addr) (n0 c0 : Nat) (h0 : kb.length = n0) (hc0 : n0 ≤ c0) (hA0 : A0 = none → c0 = 0) (hn0 : n0 ≤ 64) (bb : List Nat) (A1 : Option Addr) (n1 c1 : Nat) (h1 : bb.length = n1) (hc1 : n1 ≤ c1) (hn1 : n1 ≤ 300) (m : Nat) (hm : m < 256)
    (w : World) (hv : VarsS w) (hk : Bys w w.heap.size A0 kb) (hb : Bys w w.heap.size A1 bb) :
    Calls Tryd.prog 5 #[.slice A0 n0 c0, .slice A1 n1 c1, .int .u8 (m : Int)] w (True' w) := by
  have C1 := Lib.hid (awake_any w hv)
  have HV := Lib.hid hv
  have HKb := Lib.hid hk
  have HBb := Lib.hid hb
  have t1 : decide ((n0 : Int) > 64) = false := by simp; omega
  have t2 : decide (64 < (n0 : Int)) = false := by simp; omega
  have t3 : decide ((n1 : Int) > 300) = false := by simp; omega
  have t4 : decide (300 < (n1 : Int)) = false := by simp; omega
  obtain ⟨k, ek⟩ : ∃ k, k = m % (65 - n0) := ⟨_, rfl⟩
  have hkl : n0 + k ≤ 64 := by rw [ek]; have := Nat.mod_lt m (show 0 < 65 - n0 by omega); omega
  have fk : (m : Int) % (65 - (n0 : Int)) = (k : Int) := by
    have e : (65 - (n0 : Int)) = ((65 - n0 : Nat) : Int) := by omega
    rw [ek, e]; simp
  have fk2 : Int.tmod (m : Int) (65 - (n0 : Int)) = (k : Int) := by rw [Int.tmod_eq_emod_of_nonneg (by omega)]; exact fk
  have wm : IntKind.i64.wrap (m : Int) = (m : Int) := by rw [IntKind.wrap_i64]; omega
  have ws : IntKind.i64.wrap (65 - (n0 : Int)) = 65 - (n0 : Int) := by rw [IntKind.wrap_i64]; omega
  have z1 : (65 - (n0 : Int) == 0) = false := by simp; omega
  have z3 : (65 - (n0 : Int) = 0) = False := by simp; omega
  obtain ⟨i, ei⟩ : ∃ i, i = n1 / 3 := ⟨_, rfl⟩
  have hi : i ≤ n1 := by omega
  have fi : (n1 : Int) / 3 = (i : Int) := by rw [ei]; simp
  have fi2 : Int.tdiv (n1 : Int) 3 = (i : Int) := by rw [Int.tdiv_eq_ediv_of_nonneg (by omega)]; exact fi
  have H0 := Lib.hid h0
  have H1 := Lib.hid h1
  have LT := length_tag kb bb
  have TZ := Lib.hid (tag_zs kb bb k (by omega))
  clear ek ei hv hk hb h0 h1
  go_enter Tryd.func5, Tryd.ntmps5
  go_wp2_with fail
  refine C1.out.mono ?_
  rintro e w2 ⟨rfl, hB2⟩
  have B2 := Lib.hid hB2
  clear hB2 C1
  go_upto_region 5 with fail
  have ST : Go.RowKit.Hid (Below w.heap.size w w2.drew) := Lib.hid (below_drew B2.out)
  clear B2
  go_cut [7] from 19 (fun v wx => ∃ LA Lc, v = .slice LA (n0 + k) Lc ∧ KS w LA (kb ++ zs k) wx ∧ n0 + k ≤ Lc)
  case first =>
    refine wp_region_held_drew (S := Below w.heap.size w) (by kernel_rfl) ST.out (fun hHeld => ?_)
    clear ST
    generalize w2.drew = wq at *
    refine wpAnyH_take (i := 1) (v := ?_) rfl (by kernel_rfl) (by kernel_rfl) (by kernel_rfl) (fun _ _ _ h => h) (Or.inl ⟨by rfl, ?_⟩) (by assumption) ?_
    rotate_left
    · (intro wz hSw; go_simp; try with_reducible rfl)
    try simp only [List.getElem_toArray, List.getElem_cons_zero, List.getElem_cons_succ, Act.put, List.setIfInBounds_toArray, List.set_cons_zero, List.set_cons_succ]
    refine wpAnyH_take (i := 3) (v := ?_) rfl (by kernel_rfl) (by kernel_rfl) (by kernel_rfl) (fun _ _ _ h => h) (Or.inl ⟨by rfl, ?_⟩) (by assumption) ?_
    rotate_left
    · (intro wz hSw; go_simp; try with_reducible rfl)
    try simp only [List.getElem_toArray, List.getElem_cons_zero, List.getElem_cons_succ, Act.put, List.setIfInBounds_toArray, List.set_cons_zero, List.set_cons_succ]
    refine wpAnyH_take (i := 4) (v := ?_) rfl (by kernel_rfl) (by kernel_rfl) (by kernel_rfl) (fun _ _ _ h => h) (Or.inl ⟨by rfl, ?_⟩) (by assumption) ?_
    rotate_left
    · (intro wz hSw; go_simp; try with_reducible rfl)
    try simp only [List.getElem_toArray, List.getElem_cons_zero, List.getElem_cons_succ, Act.put, List.setIfInBounds_toArray, List.set_cons_zero, List.set_cons_succ]
    refine wpAnyH_take (i := 5) (v := ?_) rfl (by kernel_rfl) (by kernel_rfl) (by kernel_rfl) (fun _ _ _ h => h) (Or.inl ⟨by rfl, ?_⟩) (by assumption) ?_
    rotate_left
    · (intro wz hSw; go_simp; try with_reducible rfl)
    try simp only [List.getElem_toArray, List.getElem_cons_zero, List.getElem_cons_succ, Act.put, List.setIfInBounds_toArray, List.set_cons_zero, List.set_cons_succ]
    refine wpAnyH_take (i := 6) (v := ?_) rfl (by kernel_rfl) (by kernel_rfl) (by kernel_rfl) (fun _ _ _ h => h) (Or.inl ⟨by rfl, ?_⟩) (by assumption) ?_
    rotate_left
    · (intro wz hSw; go_simp; try with_reducible rfl)
    try simp only [List.getElem_toArray, List.getElem_cons_zero, List.getElem_cons_succ, Act.put, List.setIfInBounds_toArray, List.set_cons_zero, List.set_cons_succ]
    refine wpAnyH_take (i := 7) (v := ?_) rfl (by kernel_rfl) (by kernel_rfl) (by kernel_rfl) (fun _ _ _ h => h) (Or.inl ⟨by rfl, ?_⟩) (by assumption) ?_
    rotate_left
    · (intro wz hSw; go_simp; try with_reducible rfl)
    try simp only [List.getElem_toArray, List.getElem_cons_zero, List.getElem_cons_succ, Act.put, List.setIfInBounds_toArray, List.set_cons_zero, List.set_cons_succ]
    refine wpAnyH_take (i := 8) (v := ?_) rfl (by kernel_rfl) (by kernel_rfl) (by kernel_rfl) (fun _ _ _ h => h) (Or.inl ⟨by rfl, ?_⟩) (by assumption) ?_
    rotate_left
    · (intro wz hSw; go_simp; try with_reducible rfl)
    try simp only [List.getElem_toArray, List.getElem_cons_zero, List.getElem_cons_succ, Act.put, List.setIfInBounds_toArray, List.set_cons_zero, List.set_cons_succ]
    refine wpAnyH_ready (rs := [0]) (by kernel_rfl) (by simp) (AllReadyH.cons rfl (fun K hK => ?_) AllReadyH.nil)
    go_simp
    have O1 := owns_none wq
    have hsz := below_alloc wq (.cells #[] 5)
    refine hK.out _ _ (hHeld.alloc hHeld.size _) (fun hHeld2 => ?_)
    clear hK K
    have hB1 : Below w.heap.size w wq := hHeld
    clear hHeld; have hHeld := hHeld2; clear hHeld2
    try simp only [List.getElem_toArray, List.getElem_cons_zero, List.getElem_cons_succ, Act.put, List.setIfInBounds_toArray, List.set_cons_zero, List.set_cons_succ]
    have hs1 := hsz.size
    clear hsz
    generalize wq.alloc (.cells #[] 5) = w3 at *
    refine wpAnyH_ready (rs := [2]) (by kernel_rfl) (by simp) (AllReadyH.cons rfl (fun K hK => ?_) AllReadyH.nil)
    obtain ⟨v4, w4, hr4, ho4, hv4, hb4⟩ := run_append_bytes (P := Tryd.prog) wq.heap.size 22 22 5 Tryd.underlying22 info_u8 _ 0 [] O1 (by simp) A0 n0 c0 kb hA0 H0.out w.heap.size (HKb.out.below hHeld) (by omega) hs1
    refine step_append rfl (.tmp 19) (.tmp 20) 22 22 rfl _ _ rfl rfl hr4 ?_
    refine hK.out _ _ (hHeld.trans (hb4.mono hB1.size)) (fun hHeld2 => ?_)
    clear hHeld hK K hr4 O1; have hHeld := hHeld2; clear hHeld2
    try simp only [List.getElem_toArray, List.getElem_cons_zero, List.getElem_cons_succ, Act.put, List.setIfInBounds_toArray, List.set_cons_zero, List.set_cons_succ]
    rw [Nat.zero_add, List.nil_append] at ho4
    refine wpAnyH_ready (rs := [9]) (by kernel_rfl) (by simp) (AllReadyH.cons rfl (fun K hK => ?_) AllReadyH.nil)
    obtain ⟨v5, w5, hr5, ho5, hb5⟩ := run_append_noughts (P := Tryd.prog) wq.heap.size 22 3 22 5 .i64 .i64 Tryd.underlying22 Tryd.underlying3 info_u8 _ n0 kb ho4 hv4 k (by omega) (Nat.le_trans hs1 hb4.size)
    refine step_append rfl (.tmp 21) (.tmp 27) 22 3 rfl _ _ rfl rfl hr5 ?_
    have hB5 : Below w.heap.size w w5 := hHeld.trans (hb5.mono hB1.size)
    refine hK.out _ _ hB5 (fun hHeld2 => ?_)
    clear hHeld hK K hr5 ho4 hv4 hb4 hb5; have hHeld := hHeld2; clear hHeld2
    try simp only [List.getElem_toArray, List.getElem_cons_zero, List.getElem_cons_succ, Act.put, List.setIfInBounds_toArray, List.set_cons_zero, List.set_cons_succ]
    have kz : ∀ x, x ∈ kb ++ zs k → x < 256 := fun x hx => by
      rcases List.mem_append.1 hx with h | h
      · exact HKb.out.1 x h
      · exact zs_lt _ x h
    obtain ⟨LA, Lc, rfl, hl5, hy5⟩ := bys_of_owns ho5 kz
    have hcap : n0 + k ≤ Lc := by
      rcases ho5.2 with ⟨he, h0⟩ | ⟨g, cap, cur, he, _, _, h1, _⟩
      · omega
      · injection he with _ _ e3; omega
    clear ho5
    refine wpAnyH_ready (rs := [10]) (by kernel_rfl) (by simp) (AllReadyH.cons rfl (fun K hK => ?_) AllReadyH.nil)
    go_simp
    refine hK.out _ _ hB5 (fun _ => ?_)
    clear hK K hHeld
    try simp only [List.getElem_toArray, List.getElem_cons_zero, List.getElem_cons_succ, Act.put, List.setIfInBounds_toArray, List.set_cons_zero, List.set_cons_succ]
    refine wpAnyH_done (by kernel_rfl) ?_ _
    have HB5 := Lib.hid hB5
    have HY5 := Lib.hid hy5
    clear hB5 hy5
    go_wp2
    go_meet
    exact ⟨LA, Lc, rfl, ⟨HB5.out, HY5.out⟩, hcap⟩
  case rest =>
    clear ST fk fk2 wm ws z1 z3
    obtain ⟨LA, Lc, rfl, hS, hcap⟩ := hcut
    obtain ⟨nl, enl⟩ : ∃ nl, nl = n0 + k := ⟨_, rfl⟩
    obtain ⟨lb, elb⟩ : ∃ lb, lb = kb ++ zs k := ⟨_, rfl⟩
    have hll : lb.length = nl := by rw [elb, enl, List.length_append, length_zs, H0.out]
    rw [← elb] at hS TZ
    rw [← enl] at hcap ⊢
    have hnl : nl ≤ 64 := by omega
    have HS0 := Lib.hid hS
    clear hS elb enl hkl
    go_wp2_with fail
    have ST : Go.RowKit.Hid (KS w LA lb wc.drew) := Lib.hid HS0.out.drew
    clear HS0 fi fi2
    have R1 := Lib.hid (run_cut_h A1 n1 c1 i (by omega))
    have R2 := Lib.hid (run_cut_l A1 n1 c1 i hi)
    have PA : Go.RowKit.Hid (∀ w', KS w LA lb w' → Parts (w'.alloc (.cells #[.slice A1 n1 c1] 22)) (w'.alloc (.cells #[.slice A1 n1 c1] 22)).heap.size (some ⟨w'.heap.size, 0, none⟩) [⟨A1, c1, bb⟩]) := Lib.hid (fun w' h =>
      Parts.one w' bb A1 n1 c1 H1.out hc1 ((HBb.out.below h.bel).more h.bel.size))
    have PC : Go.RowKit.Hid (∀ w', KS w LA lb w' → Parts (w'.alloc (.cells #[.slice (cutA A1 c1 0) i c1, .slice none 0 0, .slice (cutA A1 c1 i) (n1 - i) (c1 - i)] 22)) (w'.alloc (.cells #[.slice (cutA A1 c1 0) i c1, .slice none 0 0, .slice (cutA A1 c1 i) (n1 - i) (c1 - i)] 22)).heap.size (some ⟨w'.heap.size, 0, none⟩) [⟨cutA A1 c1 0, c1, (bb.drop 0).take i⟩, ⟨none, 0, []⟩, ⟨cutA A1 c1 i, c1 - i, (bb.drop i).take (n1 - i)⟩]) := Lib.hid (fun w' h => by
      have hbw := (HBb.out.below h.bel).more h.bel.size
      have e1 := bys_cut hbw c1 (by have := H1.out; omega) 0 i (by omega) (by have := H1.out; omega)
      have e2 := bys_cut hbw c1 (by have := H1.out; omega) i n1 hi (by have := H1.out; omega)
      rw [Nat.sub_zero] at e1
      exact Parts.three w' _ _ _ _ _ _ _ _ _ _ _ _ (by simp; have := H1.out; omega) (by omega) e1 rfl (Nat.le_refl _) (Bys.nil _ _ _) (by simp; have := H1.out; omega) (by omega) e2)
    have T1 := Lib.hid (textOne bb A1 c1)
    have T3 : Go.RowKit.Hid (textOf [⟨cutA A1 c1 0, c1, (bb.drop 0).take i⟩, ⟨none, 0, []⟩, ⟨cutA A1 c1 i, c1 - i, (bb.drop i).take (n1 - i)⟩] = bb) := Lib.hid (by
      rw [textThree, List.nil_append]
      exact cut_all bb n1 i H1.out)
    have CK : Go.RowKit.Hid (∀ w', KS w LA lb w' → ∀ (g : Nat) (ps : List Pt) (N : Nat), ps.length = N → N < 10 → textOf ps = bb → Parts w' w'.heap.size (some ⟨g, 0, none⟩) ps → Calls Tryd.prog 9 #[.slice A0 n0 c0, .slice (some ⟨g, 0, none⟩) N N] w' (GivesB (tag kb bb) w')) := Lib.hid (fun w' h g ps N hN hN2 hT hP => by
      have := Tag_any kb A0 n0 c0 H0.out hc0 (by omega) ps (some ⟨g, 0, none⟩) N N hN (fun h => by cases h) (by omega) (by rw [hT, H1.out]; omega) w' ((HKb.out.below h.bel).more h.bel.size) hP (HV.out.below h.bel (Nat.le_refl _))
      rwa [hT] at this)
    have CL : Go.RowKit.Hid (∀ w', KS w LA lb w' → ∀ (g : Nat) (ps : List Pt) (N : Nat), ps.length = N → N < 10 → textOf ps = bb → Parts w' w'.heap.size (some ⟨g, 0, none⟩) ps → Calls Tryd.prog 9 #[.slice LA nl Lc, .slice (some ⟨g, 0, none⟩) N N] w' (GivesB (tag kb bb) w')) := Lib.hid (fun w' h g ps N hN hN2 hT hP => by
      have := Tag_any lb LA nl Lc hll hcap (by omega) ps (some ⟨g, 0, none⟩) N N hN (fun h => by cases h) (by omega) (by rw [hT, H1.out]; omega) w' h.key hP (HV.out.below h.bel (Nat.le_refl _))
      rwa [hT, TZ.out] at this)
    have HEQ : Go.RowKit.Hid (∀ W : World, (Op.equalIn 10000 28 (.agg (na .u8 (tag kb bb))) (.agg (na .u8 (tag kb bb)))).run Tryd.prog W = .ok true W) := Lib.hid (fun W => by
      have := eql o32 W (tag kb bb) (tag kb bb) LT LT
      simpa using this)
    clear TZ H0 H1 HKb HBb HV hll
    generalize tag kb bb = tg at *
    have hc1' := Lib.hid hc1
    clear t1 t2 t3 t4 hn0 hnl hc0 hA0 hn1 hi hcap hc1 hm
    refine wp_region_facts (by kernel_rfl) (by kernel_rfl) 57 26 rfl rfl (by kernel_rfl) (keysFacts A0 n0 c0 A1 n1 c1 LA nl Lc i bb tg) (KS w LA lb) ST.out ?steps ?fin
    case steps =>
      refine lt_step (lt_step (lt_step (lt_step (lt_step (lt_step (lt_step (lt_step (lt_step (lt_step (lt_step (lt_step (lt_step (lt_step (lt_step (lt_step (lt_step (lt_step (lt_step (lt_step (lt_step (lt_step (lt_step (lt_step (lt_step (lt_step (lt_zero) ?_) ?_) ?_) ?_) ?_) ?_) ?_) ?_) ?_) ?_) ?_) ?_) ?_) ?_) ?_) ?_) ?_) ?_) ?_) ?_) ?_) ?_) ?_) ?_) ?_) ?_
      · intro a w hk K hK
        have h1 : a.tmps[7]?.getD undef = .slice LA nl Lc := hk.slot 7 (by kernel_rfl)
        refine wpOp_go rfl rfl ?_
        have HK := Lib.hid hK
        have HS := Lib.hid hk.hS
        clear hK hk
        go_simp
        exact HK.out _ _ rfl HS.out (Below.refl _ _)
      · intro a w hk K hK
        have h1 : a.tmps[1]?.getD undef = .slice A1 n1 c1 := hk.slot 1 (by kernel_rfl)
        refine wpOp_go rfl rfl ?_
        have HK := Lib.hid hK
        have HS := Lib.hid hk.hS
        clear hK hk
        go_simp
        exact HK.out _ _ rfl HS.out (Below.refl _ _)
      · intro a w hk K hK
        have h1 : a.tmps[33]?.getD undef = .slice A1 n1 c1 := hk.fact 1 33 (by kernel_rfl) (by kernel_rfl)
        refine wpOp_go rfl rfl ?_
        have HK := Lib.hid hK
        have HS := Lib.hid hk.hS
        clear hK hk
        go_simp
        exact HK.out _ _ ⟨_, rfl, PA.out _ HS.out⟩ (HS.out.next (below_alloc _ _)) (below_alloc _ _)
      · intro a w hk K hK
        have h1 : a.tmps[32]?.getD undef = .slice LA nl Lc := hk.fact 0 32 (by kernel_rfl) (by kernel_rfl)
        obtain ⟨g2, h2, hP2⟩ := (hk.fact 2 34 (by kernel_rfl) (by kernel_rfl))
        refine wpOp_go rfl rfl ?_
        have HK := Lib.hid hK
        have HS := Lib.hid hk.hS
        clear hK hk
        go_simp
        refine (CL.out _ HS.out _ [⟨A1, c1, bb⟩] 1 rfl (by omega) T1.out hP2).mono ?_
        rintro e w' ⟨rfl, hB⟩
        exact HK.out _ _ rfl (HS.out.next hB) hB
      · intro a w hk K hK
        have h1 : a.tmps[0]?.getD undef = .slice A0 n0 c0 := hk.slot 0 (by kernel_rfl)
        refine wpOp_go rfl rfl ?_
        have HK := Lib.hid hK
        have HS := Lib.hid hk.hS
        clear hK hk
        go_simp
        exact HK.out _ _ rfl HS.out (Below.refl _ _)
      · intro a w hk K hK
        have h1 : a.tmps[1]?.getD undef = .slice A1 n1 c1 := hk.slot 1 (by kernel_rfl)
        refine wpOp_go rfl rfl ?_
        have HK := Lib.hid hK
        have HS := Lib.hid hk.hS
        clear hK hk
        go_simp
        exact HK.out _ _ rfl HS.out (Below.refl _ _)
      · intro a w hk K hK
        have h1 : a.tmps[37]?.getD undef = .slice A1 n1 c1 := hk.fact 5 37 (by kernel_rfl) (by kernel_rfl)
        refine wpOp_go rfl rfl ?_
        have HK := Lib.hid hK
        have HS := Lib.hid hk.hS
        clear hK hk
        go_simp
        exact HK.out _ _ ⟨_, rfl, PA.out _ HS.out⟩ (HS.out.next (below_alloc _ _)) (below_alloc _ _)
      · intro a w hk K hK
        have h1 : a.tmps[36]?.getD undef = .slice A0 n0 c0 := hk.fact 4 36 (by kernel_rfl) (by kernel_rfl)
        obtain ⟨g2, h2, hP2⟩ := (hk.fact 6 38 (by kernel_rfl) (by kernel_rfl))
        refine wpOp_go rfl rfl ?_
        have HK := Lib.hid hK
        have HS := Lib.hid hk.hS
        clear hK hk
        go_simp
        refine (CK.out _ HS.out _ [⟨A1, c1, bb⟩] 1 rfl (by omega) T1.out hP2).mono ?_
        rintro e w' ⟨rfl, hB⟩
        exact HK.out _ _ rfl (HS.out.next hB) hB
      · intro a w hk K hK
        have h1 : a.tmps[35]?.getD undef = .agg (na .u8 tg) := hk.fact 3 35 (by kernel_rfl) (by kernel_rfl)
        have h2 : a.tmps[39]?.getD undef = .agg (na .u8 tg) := hk.fact 7 39 (by kernel_rfl) (by kernel_rfl)
        refine wpOp_go rfl rfl ?_
        have HK := Lib.hid hK
        have HS := Lib.hid hk.hS
        clear hK hk
        have heq := HEQ.out
        go_simp
        exact HK.out _ _ rfl HS.out (Below.refl _ _)
      · intro a w hk K hK
        have h1 : a.tmps[40]?.getD undef = .bool true := hk.fact 8 40 (by kernel_rfl) (by kernel_rfl)
        refine wpOp_go rfl rfl ?_
        have HK := Lib.hid hK
        have HS := Lib.hid hk.hS
        clear hK hk
        go_simp
        exact HK.out _ _ rfl HS.out (Below.refl _ _)
      · intro a w hk K hK
        have h1 : a.tmps[0]?.getD undef = .slice A0 n0 c0 := hk.slot 0 (by kernel_rfl)
        refine wpOp_if (d := 41) rfl rfl (by kernel_rfl) (hk.fact 9 41 (by kernel_rfl) (by kernel_rfl)) ?_
        have HK := Lib.hid hK
        have HS := Lib.hid hk.hS
        clear hK hk
        go_simp
        exact HK.out _ _ rfl HS.out (Below.refl _ _)
      · intro a w hk K hK
        have h1 : a.tmps[1]?.getD undef = .slice A1 n1 c1 := hk.slot 1 (by kernel_rfl)
        refine wpOp_if (d := 41) rfl rfl (by kernel_rfl) (hk.fact 9 41 (by kernel_rfl) (by kernel_rfl)) ?_
        have HK := Lib.hid hK
        have HS := Lib.hid hk.hS
        clear hK hk
        go_simp
        exact HK.out _ _ rfl HS.out (Below.refl _ _)
      · intro a w hk K hK
        have h1 : a.tmps[8]?.getD undef = .int .i64 (i : Int) := hk.slot 8 (by kernel_rfl)
        refine wpOp_if (d := 41) rfl rfl (by kernel_rfl) (hk.fact 9 41 (by kernel_rfl) (by kernel_rfl)) ?_
        have HK := Lib.hid hK
        have HS := Lib.hid hk.hS
        clear hK hk
        go_simp
        exact HK.out _ _ rfl HS.out (Below.refl _ _)
      · intro a w hk K hK
        have h1 : a.tmps[43]?.getD undef = .slice A1 n1 c1 := hk.fact 11 43 (by kernel_rfl) (by kernel_rfl)
        have h2 : a.tmps[44]?.getD undef = .int .i64 (i : Int) := hk.fact 12 44 (by kernel_rfl) (by kernel_rfl)
        refine wpOp_if (d := 41) rfl rfl (by kernel_rfl) (hk.fact 9 41 (by kernel_rfl) (by kernel_rfl)) ?_
        have HK := Lib.hid hK
        have HS := Lib.hid hk.hS
        clear hK hk
        have hr := R1.out
        go_simp
        exact HK.out _ _ rfl HS.out (Below.refl _ _)
      · intro a w hk K hK
        have h1 : a.tmps[1]?.getD undef = .slice A1 n1 c1 := hk.slot 1 (by kernel_rfl)
        refine wpOp_if (d := 41) rfl rfl (by kernel_rfl) (hk.fact 9 41 (by kernel_rfl) (by kernel_rfl)) ?_
        have HK := Lib.hid hK
        have HS := Lib.hid hk.hS
        clear hK hk
        go_simp
        exact HK.out _ _ rfl HS.out (Below.refl _ _)
      · intro a w hk K hK
        have h1 : a.tmps[8]?.getD undef = .int .i64 (i : Int) := hk.slot 8 (by kernel_rfl)
        refine wpOp_if (d := 41) rfl rfl (by kernel_rfl) (hk.fact 9 41 (by kernel_rfl) (by kernel_rfl)) ?_
        have HK := Lib.hid hK
        have HS := Lib.hid hk.hS
        clear hK hk
        go_simp
        exact HK.out _ _ rfl HS.out (Below.refl _ _)
      · intro a w hk K hK
        have h1 : a.tmps[46]?.getD undef = .slice A1 n1 c1 := hk.fact 14 46 (by kernel_rfl) (by kernel_rfl)
        have h2 : a.tmps[47]?.getD undef = .int .i64 (i : Int) := hk.fact 15 47 (by kernel_rfl) (by kernel_rfl)
        refine wpOp_if (d := 41) rfl rfl (by kernel_rfl) (hk.fact 9 41 (by kernel_rfl) (by kernel_rfl)) ?_
        have HK := Lib.hid hK
        have HS := Lib.hid hk.hS
        clear hK hk
        have hr := R2.out
        go_simp
        exact HK.out _ _ rfl HS.out (Below.refl _ _)
      · intro a w hk K hK
        have h1 : a.tmps[45]?.getD undef = .slice (cutA A1 c1 0) i c1 := hk.fact 13 45 (by kernel_rfl) (by kernel_rfl)
        have h2 : a.tmps[48]?.getD undef = .slice (cutA A1 c1 i) (n1 - i) (c1 - i) := hk.fact 16 48 (by kernel_rfl) (by kernel_rfl)
        refine wpOp_if (d := 41) rfl rfl (by kernel_rfl) (hk.fact 9 41 (by kernel_rfl) (by kernel_rfl)) ?_
        have HK := Lib.hid hK
        have HS := Lib.hid hk.hS
        clear hK hk
        go_simp
        exact HK.out _ _ ⟨_, rfl, PC.out _ HS.out⟩ (HS.out.next (below_alloc _ _)) (below_alloc _ _)
      · intro a w hk K hK
        have h1 : a.tmps[42]?.getD undef = .slice A0 n0 c0 := hk.fact 10 42 (by kernel_rfl) (by kernel_rfl)
        obtain ⟨g2, h2, hP2⟩ := (hk.fact 17 49 (by kernel_rfl) (by kernel_rfl))
        refine wpOp_if (d := 41) rfl rfl (by kernel_rfl) (hk.fact 9 41 (by kernel_rfl) (by kernel_rfl)) ?_
        have HK := Lib.hid hK
        have HS := Lib.hid hk.hS
        clear hK hk
        go_simp
        refine (CK.out _ HS.out _ [⟨cutA A1 c1 0, c1, (bb.drop 0).take i⟩, ⟨none, 0, []⟩, ⟨cutA A1 c1 i, c1 - i, (bb.drop i).take (n1 - i)⟩] 3 rfl (by omega) T3.out hP2).mono ?_
        rintro e w' ⟨rfl, hB⟩
        exact HK.out _ _ rfl (HS.out.next hB) hB
      · intro a w hk K hK
        have h1 : a.tmps[0]?.getD undef = .slice A0 n0 c0 := hk.slot 0 (by kernel_rfl)
        refine wpOp_if (d := 41) rfl rfl (by kernel_rfl) (hk.fact 9 41 (by kernel_rfl) (by kernel_rfl)) ?_
        have HK := Lib.hid hK
        have HS := Lib.hid hk.hS
        clear hK hk
        go_simp
        exact HK.out _ _ rfl HS.out (Below.refl _ _)
      · intro a w hk K hK
        have h1 : a.tmps[1]?.getD undef = .slice A1 n1 c1 := hk.slot 1 (by kernel_rfl)
        refine wpOp_if (d := 41) rfl rfl (by kernel_rfl) (hk.fact 9 41 (by kernel_rfl) (by kernel_rfl)) ?_
        have HK := Lib.hid hK
        have HS := Lib.hid hk.hS
        clear hK hk
        go_simp
        exact HK.out _ _ rfl HS.out (Below.refl _ _)
      · intro a w hk K hK
        have h1 : a.tmps[52]?.getD undef = .slice A1 n1 c1 := hk.fact 20 52 (by kernel_rfl) (by kernel_rfl)
        refine wpOp_if (d := 41) rfl rfl (by kernel_rfl) (hk.fact 9 41 (by kernel_rfl) (by kernel_rfl)) ?_
        have HK := Lib.hid hK
        have HS := Lib.hid hk.hS
        clear hK hk
        go_simp
        exact HK.out _ _ ⟨_, rfl, PA.out _ HS.out⟩ (HS.out.next (below_alloc _ _)) (below_alloc _ _)
      · intro a w hk K hK
        have h1 : a.tmps[51]?.getD undef = .slice A0 n0 c0 := hk.fact 19 51 (by kernel_rfl) (by kernel_rfl)
        obtain ⟨g2, h2, hP2⟩ := (hk.fact 21 53 (by kernel_rfl) (by kernel_rfl))
        refine wpOp_if (d := 41) rfl rfl (by kernel_rfl) (hk.fact 9 41 (by kernel_rfl) (by kernel_rfl)) ?_
        have HK := Lib.hid hK
        have HS := Lib.hid hk.hS
        clear hK hk
        go_simp
        refine (CK.out _ HS.out _ [⟨A1, c1, bb⟩] 1 rfl (by omega) T1.out hP2).mono ?_
        rintro e w' ⟨rfl, hB⟩
        exact HK.out _ _ rfl (HS.out.next hB) hB
      · intro a w hk K hK
        have h1 : a.tmps[50]?.getD undef = .agg (na .u8 tg) := hk.fact 18 50 (by kernel_rfl) (by kernel_rfl)
        have h2 : a.tmps[54]?.getD undef = .agg (na .u8 tg) := hk.fact 22 54 (by kernel_rfl) (by kernel_rfl)
        refine wpOp_if (d := 41) rfl rfl (by kernel_rfl) (hk.fact 9 41 (by kernel_rfl) (by kernel_rfl)) ?_
        have HK := Lib.hid hK
        have HS := Lib.hid hk.hS
        clear hK hk
        have heq := HEQ.out
        go_simp
        exact HK.out _ _ rfl HS.out (Below.refl _ _)
      · intro a w hk K hK
        have h1 : a.tmps[41]?.getD undef = .bool true := hk.fact 9 41 (by kernel_rfl) (by kernel_rfl)
        have h2 : a.tmps[55]?.getD undef = .bool true := hk.fact 23 55 (by kernel_rfl) (by kernel_rfl)
        refine wpOp_go rfl rfl ?_
        have HK := Lib.hid hK
        have HS := Lib.hid hk.hS
        clear hK hk
        go_simp
        exact HK.out _ _ rfl HS.out (Below.refl _ _)
      · intro a w hk K hK
        have h1 : a.tmps[56]?.getD undef = .bool true := hk.fact 24 56 (by kernel_rfl) (by kernel_rfl)
        refine wpOp_go rfl rfl ?_
        have HK := Lib.hid hK
        have HS := Lib.hid hk.hS
        clear hK hk
        go_simp
        exact HK.out _ _ rfl HS.out (Below.refl _ _)
    case fin =>
      intro a w' hS hsz hdf _ hf
      have h6 : a.tmps[6]?.getD undef = .bool true := hf 25 6 (by omega) (by kernel_rfl)
      have HS := Lib.hid hS
      clear hf hS
      go_wp2
      exact bodyPost_ret (v := .bool true) (results_slot rfl _ _ _ h6) hdf ⟨rfl, HS.out.bel⟩
/-- HMACKEYS: it answers true. -/
theorem keys_walk (kb : List Nat) (A0 : Option Addr) (c0 : Nat) (bb : List Nat) (A1 : Option Addr) (c1 : Nat) (n : Int) (w : World) (hv : VarsS w) (hk : Bys w w.heap.size A0 kb) (hc0 : kb.length ≤ c0) (hA0 : A0 = none → c0 = 0) (hb : Bys w w.heap.size A1 bb) (hc1 : bb.length ≤ c1) (_ : A1 = none → c1 = 0) (hn : (Lit.int .u8 n).wf = true) :
    Calls Tryd.prog 5 #[.slice A0 kb.length c0, .slice A1 bb.length c1, .int .u8 n] w fun e w' => e = .returned (.bool true) ∧ Below w.heap.size w w' := by
  have hr := bounds_u8 hn
  obtain ⟨m, rfl⟩ : ∃ m : Nat, n = (m : Int) := ⟨n.toNat, by omega⟩
  by_cases hlong : 64 < kb.length ∨ 300 < bb.length
  · exact keys_long A0 kb.length c0 A1 bb.length c1 hlong m w hv
  · exact keys_main kb A0 kb.length c0 rfl hc0 hA0 (by omega) bb A1 bb.length c1 rfl hc1 (by omega) m (by omega) w hv hk hb
end Go.Proofs.YtdfbhgajomdeeaaDoor
