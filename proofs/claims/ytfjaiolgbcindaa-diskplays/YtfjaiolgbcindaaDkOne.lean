/-
  Contract of the law's one: what is done, to a disk and to the document's; both say the same. Conditions: both lie in memory; at most 60 things have been done. (Written by tools/gen_dkone.py.)
-/
import Derived.Test.YtfjaiolgbcindaaDkTwin
import Derived.Test.YtfjaiolgbcindaaDkKeepAid
import Derived.Test.YtfjaiolgbcindaaHeldList
namespace Go.Proofs.Ytfjaiolgbcindaa
open Go.RowKit Arr Dsk
set_option linter.unusedSimpArgs false

structure ItIn (w : World) (B : Nat) (x : It) : Prop where
  len : x.bs.length ≤ x.c
  nil : x.A = none → x.c = 0
  bys : Bys w B x.A x.bs
  kbl : Bls w (fun b => b < B) x.KA x.kl
  kn : x.kl.length ≤ 60
  bn : x.bs.length ≤ 300
  s0 : -9223372036854775808 ≤ x.sec
  s1 : x.sec ≤ 9223372036854775807
/-- What one leaves. -/
def OneP (g h B m : Nat) (w : World) (en : Ending) (w' : World) : Prop := en = .returned (.bool true) ∧ ∃ κ ρ s r, Duo w' g h B κ ρ s r ∧ Tw (m + 1) s r ∧ Below B w w'
section
variable {w : World} {g h B m : Nat} {κ ρ : Nat → Nat} {s r : St}
/-- What is done, boxed. -/
structure Boxed (w : World) (X B : Nat) (κ ρ : Nat → Nat) (x0 x1 x2 x3 : Value) : Prop where
  q0 : w.cell? ⟨X, 0, none⟩ = some x0
  q1 : w.cell? ⟨X, 1, none⟩ = some x1
  q2 : w.cell? ⟨X, 2, none⟩ = some x2
  q3 : w.cell? ⟨X, 3, none⟩ = some x3
  xl : X < w.heap.size
  k0 : κ X = 0
  r0 : ρ X = 0
theorem Duo.boxed (D : Duo w g h B κ ρ s r) (x0 x1 x2 x3 : Value) : Boxed (w.alloc (.cells #[x0, x1, x2, x3] 35)) w.heap.size B κ ρ x0 x1 x2 x3 ∧ Duo (w.alloc (.cells #[x0, x1, x2, x3] 35)) g h B κ ρ s r ∧ Below B w (w.alloc (.cells #[x0, x1, x2, x3] 35)) := by
  obtain ⟨q0, q1, q2, q3⟩ := four_cells w x0 x1 x2 x3
  have hb := below_alloc w (.cells #[x0, x1, x2, x3] 35)
  have l1 := D.d.lt w.heap.size
  have l2 := D.e.lt w.heap.size
  exact ⟨⟨q0, q1, q2, q3, by simp, by omega, by omega⟩, D.below hb, hb.mono D.bel⟩
theorem Duo.draw (D : Duo w g h B κ ρ s r) (n : Nat) : Duo (w.drewN n) g h B κ ρ s r := D.below (below_drewN_self w n)
theorem Duo.byl (D : Duo w g h B κ ρ s r) {A : Option Addr} {bs : List Nat} (hb : Bys w B A bs) : ByL w (fun k => κ k = 0) A bs ∧ ByL w (fun k => k < B) A bs :=
  ⟨ByL.of hb (fun b hb' => by
    by_cases e : κ b = 0
    · exact e
    · have := (D.ap b e).2; omega) D.bel, ByL.of hb (fun _ e => e) D.bel⟩
theorem Duo.bls (D : Duo w g h B κ ρ s r) {A : Option Addr} {l : List Bool} (hb : Bls w (fun b => b < B) A l) : Bls w (fun k => κ k ≠ 1 ∧ κ k ≠ 2) A l ∧ Bls w (fun k => ¬ wr4 ρ k) A l := by
  refine ⟨hb.touch (F := fun _ => False) (Touch.refl _ w) (fun _ _ e => e) (fun k _ e => ?_), hb.touch (F := fun _ => False) (Touch.refl _ w) (fun _ _ e => e) (fun k _ e e' => ?_)⟩
  · have : κ k = 0 := by
      by_cases e' : κ k = 0
      · exact e'
      · have := (D.ap k e').2; omega
    omega
  · have := D.e.lo k (wr4_ne e'); omega
set_option maxRecDepth 10000 in
set_option maxHeartbeats 2000000 in
theorem one1 (D : Duo w g h B κ ρ s r) (T : Tw m s r) (hm : m ≤ 60) (x : It) (hx : ItIn w B x) (hk : x.kind = 1) :
    Calls Try.prog 11 #[.pointer (some ⟨g, 0, none⟩), .pointer (some ⟨h, 0, none⟩), .agg #[.int .i64 x.kind, .int .i64 x.sec, .slice x.A x.bs.length x.c, .slice x.KA x.kl.length x.kc]] w (OneP g h B m w) := by
  obtain ⟨e1, e2, e3, e4, e5, e6, e7, e8⟩ := hx
  rw [hk]
  obtain ⟨kind, sec, A, c, bs, KA, kc, kl⟩ := x
  simp only at hk e1 e2 e3 e4 e5 e6 e7 e8 ⊢
  obtain ⟨L, hL⟩ : ∃ L, bs.length = L := ⟨_, rfl⟩
  obtain ⟨M, hM⟩ : ∃ M, kl.length = M := ⟨_, rfl⟩
  have HL := Lib.hid hL
  have HM := Lib.hid hM
  rw [hL] at e1 e6 ⊢
  rw [hM] at e5 ⊢
  clear hL hM hk
  obtain ⟨bx, D1, b1⟩ := D.boxed (.int .i64 1) (.int .i64 sec) (.slice A L c) (.slice KA M kc)
  have HS := Lib.hid (And.intro e1 (And.intro e2 (And.intro e5 (And.intro e6 (And.intro e7 e8)))))
  have HY := Lib.hid (e3.below b1)
  have HZ := Lib.hid (e4.below b1)
  have HT := Lib.hid T
  have HMM := Lib.hid hm
  have HB1 := Lib.hid b1
  have HD := Lib.hid D1
  have HX := Lib.hid bx
  have q0 := bx.q0
  have q1 := bx.q1
  have q2 := bx.q2
  have q3 := bx.q3
  clear e1 e2 e3 e4 e5 e6 e7 e8 D T hm b1 D1 bx
  go_enter Try.func11, Try.ntmps11
  go_wp2
  generalize w.alloc (.cells #[.int .i64 1, .int .i64 sec, .slice A L c, .slice KA M kc] 35) = w1 at *
  generalize w.heap.size = X at *
  have DD := Lib.hid (HD.out.draw 1)
  have steps := HT.out.few
  have H60 := HMM.out
  have BY := HD.out.byl HY.out
  have CL := Lib.hid (write_any DD.out.d (by omega) sec A L c bs HL.out (BY.1.touch (touch_none (fun _ => False) w1 1) (fun _ _ e => e) (fun _ _ e => e)))
  have TT := HT.out.write HMM.out sec bs
  clear steps H60
  refine wp_region_L [(11, (fun w' => w'.cell? ⟨X, 1, none⟩ = some (.int .i64 sec))), (11, (fun w' => w'.cell? ⟨X, 2, none⟩ = some (.slice A L c)))] 14 #[false, false, false, false, false, false, false, false, false, false, false, false, false, false] (by kernel_rfl) (by rfl) (by kernel_rfl) (by intro p hp; simp only [List.mem_cons, List.not_mem_nil, or_false] at hp; rcases hp with rfl | rfl; exact q1; exact q2) (fun hHeld => ?_)
  refine wpAnyL_take (i := 0) (v := ?_) rfl (by kernel_rfl) (by kernel_rfl) (by kernel_rfl) (by rfl) (fun _ _ _ h => h) (Or.inl ⟨by rfl, ?_⟩) hHeld (fun hHeld2 => ?_)
  rotate_left
  · (intro wz hSw; go_simp; try with_reducible rfl)
  clear hHeld; have hHeld := hHeld2; clear hHeld2
  try simp only [List.getElem_toArray, List.getElem_cons_zero, List.getElem_cons_succ, Act.put, List.setIfInBounds_toArray, List.set_cons_zero, List.set_cons_succ]
  refine wpAnyL_take (i := 1) (v := ?_) rfl (by kernel_rfl) (by kernel_rfl) (by kernel_rfl) (by rfl) (fun _ _ _ h => h) (Or.inl ⟨by rfl, ?_⟩) hHeld (fun hHeld2 => ?_)
  rotate_left
  · (intro wz hSw; go_simp; try with_reducible rfl)
  clear hHeld; have hHeld := hHeld2; clear hHeld2
  try simp only [List.getElem_toArray, List.getElem_cons_zero, List.getElem_cons_succ, Act.put, List.setIfInBounds_toArray, List.set_cons_zero, List.set_cons_succ]
  refine wpAnyL_take (i := 2) (v := ?_) rfl (by kernel_rfl) (by kernel_rfl) (by kernel_rfl) (by rfl) (fun _ _ _ h => h) (Or.inl ⟨by rfl, ?_⟩) hHeld (fun hHeld2 => ?_)
  rotate_left
  · (intro wz hSw; have hq : wz.cell? ⟨X, 1, none⟩ = some (.int .i64 sec) := hSw.get _ (List.Mem.head _) 3 (by kernel_rfl); go_simp; try with_reducible rfl)
  clear hHeld; have hHeld := hHeld2; clear hHeld2
  try simp only [List.getElem_toArray, List.getElem_cons_zero, List.getElem_cons_succ, Act.put, List.setIfInBounds_toArray, List.set_cons_zero, List.set_cons_succ]
  refine wpAnyL_take (i := 3) (v := ?_) rfl (by kernel_rfl) (by kernel_rfl) (by kernel_rfl) (by rfl) (fun _ _ _ h => h) (Or.inl ⟨by rfl, ?_⟩) hHeld (fun hHeld2 => ?_)
  rotate_left
  · (intro wz hSw; go_simp; try with_reducible rfl)
  clear hHeld; have hHeld := hHeld2; clear hHeld2
  try simp only [List.getElem_toArray, List.getElem_cons_zero, List.getElem_cons_succ, Act.put, List.setIfInBounds_toArray, List.set_cons_zero, List.set_cons_succ]
  refine wpAnyL_take (i := 4) (v := ?_) rfl (by kernel_rfl) (by kernel_rfl) (by kernel_rfl) (by rfl) (fun _ _ _ h => h) (Or.inl ⟨by rfl, ?_⟩) hHeld (fun hHeld2 => ?_)
  rotate_left
  · (intro wz hSw; have hq : wz.cell? ⟨X, 2, none⟩ = some (.slice A L c) := hSw.get _ (List.Mem.tail _ (List.Mem.head _)) 3 (by kernel_rfl); go_simp; try with_reducible rfl)
  clear hHeld; have hHeld := hHeld2; clear hHeld2
  try simp only [List.getElem_toArray, List.getElem_cons_zero, List.getElem_cons_succ, Act.put, List.setIfInBounds_toArray, List.set_cons_zero, List.set_cons_succ]
  refine wpAnyL_take (i := 6) (v := ?_) rfl (by kernel_rfl) (by kernel_rfl) (by kernel_rfl) (by rfl) (fun _ _ _ h => h) (Or.inl ⟨by rfl, ?_⟩) hHeld (fun hHeld2 => ?_)
  rotate_left
  · (intro wz hSw; go_simp; try with_reducible rfl)
  clear hHeld; have hHeld := hHeld2; clear hHeld2
  try simp only [List.getElem_toArray, List.getElem_cons_zero, List.getElem_cons_succ, Act.put, List.setIfInBounds_toArray, List.set_cons_zero, List.set_cons_succ]
  refine wpAnyL_take (i := 7) (v := ?_) rfl (by kernel_rfl) (by kernel_rfl) (by kernel_rfl) (by rfl) (fun _ _ _ h => h) (Or.inl ⟨by rfl, ?_⟩) hHeld (fun hHeld2 => ?_)
  rotate_left
  · (intro wz hSw; go_simp; try with_reducible rfl)
  clear hHeld; have hHeld := hHeld2; clear hHeld2
  try simp only [List.getElem_toArray, List.getElem_cons_zero, List.getElem_cons_succ, Act.put, List.setIfInBounds_toArray, List.set_cons_zero, List.set_cons_succ]
  refine wpAnyL_take (i := 8) (v := ?_) rfl (by kernel_rfl) (by kernel_rfl) (by kernel_rfl) (by rfl) (fun _ _ _ h => h) (Or.inl ⟨by rfl, ?_⟩) hHeld (fun hHeld2 => ?_)
  rotate_left
  · (intro wz hSw; have hq : wz.cell? ⟨X, 1, none⟩ = some (.int .i64 sec) := hSw.get _ (List.Mem.head _) 3 (by kernel_rfl); go_simp; try with_reducible rfl)
  clear hHeld; have hHeld := hHeld2; clear hHeld2
  try simp only [List.getElem_toArray, List.getElem_cons_zero, List.getElem_cons_succ, Act.put, List.setIfInBounds_toArray, List.set_cons_zero, List.set_cons_succ]
  refine wpAnyL_take (i := 9) (v := ?_) rfl (by kernel_rfl) (by kernel_rfl) (by kernel_rfl) (by rfl) (fun _ _ _ h => h) (Or.inl ⟨by rfl, ?_⟩) hHeld (fun hHeld2 => ?_)
  rotate_left
  · (intro wz hSw; go_simp; try with_reducible rfl)
  clear hHeld; have hHeld := hHeld2; clear hHeld2
  try simp only [List.getElem_toArray, List.getElem_cons_zero, List.getElem_cons_succ, Act.put, List.setIfInBounds_toArray, List.set_cons_zero, List.set_cons_succ]
  refine wpAnyL_take (i := 10) (v := ?_) rfl (by kernel_rfl) (by kernel_rfl) (by kernel_rfl) (by rfl) (fun _ _ _ h => h) (Or.inl ⟨by rfl, ?_⟩) hHeld (fun hHeld2 => ?_)
  rotate_left
  · (intro wz hSw; have hq : wz.cell? ⟨X, 2, none⟩ = some (.slice A L c) := hSw.get _ (List.Mem.tail _ (List.Mem.head _)) 3 (by kernel_rfl); go_simp; try with_reducible rfl)
  clear hHeld; have hHeld := hHeld2; clear hHeld2
  try simp only [List.getElem_toArray, List.getElem_cons_zero, List.getElem_cons_succ, Act.put, List.setIfInBounds_toArray, List.set_cons_zero, List.set_cons_succ]
  refine wpAnyL_one (i := 5) (by kernel_rfl) rfl rfl hHeld (fun K hK => ?_)
  go_simp
  refine CL.out.mono ?_
  rintro en w2 hp
  obtain ⟨rfl, κ2, hD2, hT2, hB2⟩ := DD.out.left hp
  have nx : ¬ κ X ≠ 0 := fun e => e HX.out.k0
  have p1 := (hT2.cell (p := ⟨X, 1, none⟩) HX.out.xl nx).trans q1
  have p2 := (hT2.cell (p := ⟨X, 2, none⟩) HX.out.xl nx).trans q2
  have HD2 := Lib.hid hD2
  have HB2 := Lib.hid (HB1.out.trans (show Below B w1 w2 from (below_draw (Below.refl B w1) 1).trans hB2))
  have BY2 := hD2.byl ((HY.out.below (below_draw (Below.refl B w1) 1)).below hB2)
  clear hp hD2 hT2 hB2 nx
  refine hK.out _ _ (by intro p hp hl; simp only [List.mem_cons, List.not_mem_nil, or_false] at hp; rcases hp with rfl | rfl; exact p1; exact p2) (fun hHeld2 => ?_)
  clear hHeld hK K ; have hHeld := hHeld2; clear hHeld2
  try simp only [List.getElem_toArray, List.getElem_cons_zero, List.getElem_cons_succ, Act.put, List.setIfInBounds_toArray, List.set_cons_zero, List.set_cons_succ]
  have steps := HT.out.few
  have H60 := HMM.out
  have hst := HT.out.steps
  have hws := HD2.out.e.wf.ws
  have CR := rwrite_any HD2.out.e HD2.out.bel (by omega) sec A L c bs HL.out HS.out.1 HS.out.2.1 BY2.2
  rw [TT.2] at CR
  have HCR := Lib.hid CR
  have HTW := Lib.hid TT.1
  clear CR TT steps H60 hst hws
  refine wpAnyL_one (i := 11) (by kernel_rfl) rfl rfl hHeld (fun K hK => ?_)
  go_simp
  refine HCR.out.mono ?_
  rintro en w3 hp
  obtain ⟨rfl, ρ3, hD3, hT3, hB3⟩ := HD2.out.right hp
  have HR2 := Lib.hid hD3
  have HB3 := Lib.hid (HB2.out.trans hB3)
  clear hp hD3 hT3 hB3 p1 p2 q0 q1 q2 q3
  refine hK.out _ _ (by intro p hp hl; simp only [List.mem_cons, List.not_mem_nil, or_false] at hp; rcases hp with rfl | rfl; exact Bool.noConfusion (hl.symm.trans (show _ = true by kernel_rfl)); exact Bool.noConfusion (hl.symm.trans (show _ = true by kernel_rfl))) (fun hHeld2 => ?_)
  clear hHeld hK K ; have hHeld := hHeld2; clear hHeld2
  try simp only [List.getElem_toArray, List.getElem_cons_zero, List.getElem_cons_succ, Act.put, List.setIfInBounds_toArray, List.set_cons_zero, List.set_cons_succ]
  have tq : ((((s.write sec bs).2 : Nat) : Int) == (((s.write sec bs).2 : Nat) : Int)) = true := by simp
  generalize (s.write sec bs).2 = cc at *
  refine wpAnyL_one (i := 12) (by kernel_rfl) rfl rfl hHeld (fun K hK => ?_)
  go_simp
  refine hK.out _ _ (by intro p hp hl; simp only [List.mem_cons, List.not_mem_nil, or_false] at hp; rcases hp with rfl | rfl; exact Bool.noConfusion (hl.symm.trans (show _ = true by kernel_rfl)); exact Bool.noConfusion (hl.symm.trans (show _ = true by kernel_rfl))) (fun hHeld2 => ?_)
  clear hHeld hK K ; have hHeld := hHeld2; clear hHeld2
  try simp only [List.getElem_toArray, List.getElem_cons_zero, List.getElem_cons_succ, Act.put, List.setIfInBounds_toArray, List.set_cons_zero, List.set_cons_succ]
  refine wpAnyL_one (i := 13) (by kernel_rfl) rfl rfl hHeld (fun K hK => ?_)
  go_simp
  refine hK.out _ _ (by intro p hp hl; simp only [List.mem_cons, List.not_mem_nil, or_false] at hp; rcases hp with rfl | rfl; exact Bool.noConfusion (hl.symm.trans (show _ = true by kernel_rfl)); exact Bool.noConfusion (hl.symm.trans (show _ = true by kernel_rfl))) (fun hHeld2 => ?_)
  clear hHeld hK K hHeld2
  try simp only [List.getElem_toArray, List.getElem_cons_zero, List.getElem_cons_succ, Act.put]
  refine wpAnyL_done (by kernel_rfl) ?_ _
  go_wp2
  go_ret
  exact ⟨rfl, _, _, _, _, HR2.out, HTW.out, HB3.out⟩
set_option maxRecDepth 10000 in
set_option maxHeartbeats 2000000 in
theorem one7 (D : Duo w g h B κ ρ s r) (T : Tw m s r) (hm : m ≤ 60) (x : It) (hx : ItIn w B x) (hk : x.kind = 7) :
    Calls Try.prog 11 #[.pointer (some ⟨g, 0, none⟩), .pointer (some ⟨h, 0, none⟩), .agg #[.int .i64 x.kind, .int .i64 x.sec, .slice x.A x.bs.length x.c, .slice x.KA x.kl.length x.kc]] w (OneP g h B m w) := by
  obtain ⟨e1, e2, e3, e4, e5, e6, e7, e8⟩ := hx
  rw [hk]
  obtain ⟨kind, sec, A, c, bs, KA, kc, kl⟩ := x
  simp only at hk e1 e2 e3 e4 e5 e6 e7 e8 ⊢
  obtain ⟨L, hL⟩ : ∃ L, bs.length = L := ⟨_, rfl⟩
  obtain ⟨M, hM⟩ : ∃ M, kl.length = M := ⟨_, rfl⟩
  have HL := Lib.hid hL
  have HM := Lib.hid hM
  rw [hL] at e1 e6 ⊢
  rw [hM] at e5 ⊢
  clear hL hM hk
  obtain ⟨bx, D1, b1⟩ := D.boxed (.int .i64 7) (.int .i64 sec) (.slice A L c) (.slice KA M kc)
  have HS := Lib.hid (And.intro e1 (And.intro e2 (And.intro e5 (And.intro e6 (And.intro e7 e8)))))
  have HY := Lib.hid (e3.below b1)
  have HZ := Lib.hid (e4.below b1)
  have HT := Lib.hid T
  have HMM := Lib.hid hm
  have HB1 := Lib.hid b1
  have HD := Lib.hid D1
  have HX := Lib.hid bx
  have q0 := bx.q0
  have q1 := bx.q1
  have q2 := bx.q2
  have q3 := bx.q3
  clear e1 e2 e3 e4 e5 e6 e7 e8 D T hm b1 D1 bx
  go_enter Try.func11, Try.ntmps11
  go_wp2
  generalize w.alloc (.cells #[.int .i64 7, .int .i64 sec, .slice A L c, .slice KA M kc] 35) = w1 at *
  generalize w.heap.size = X at *
  have DD := Lib.hid (HD.out.draw 1)
  have steps := HT.out.few
  have H60 := HMM.out
  have BY := HD.out.byl HY.out
  have CL := Lib.hid (over_any DD.out.d (by omega) sec A L c bs HL.out (BY.1.touch (touch_none (fun _ => False) w1 1) (fun _ _ e => e) (fun _ _ e => e)))
  have TT := HT.out.over sec bs
  clear steps H60
  refine wp_region_L [(11, (fun w' => w'.cell? ⟨X, 1, none⟩ = some (.int .i64 sec))), (11, (fun w' => w'.cell? ⟨X, 2, none⟩ = some (.slice A L c)))] 14 #[false, false, false, false, false, false, false, false, false, false, false, false, false, false] (by kernel_rfl) (by rfl) (by kernel_rfl) (by intro p hp; simp only [List.mem_cons, List.not_mem_nil, or_false] at hp; rcases hp with rfl | rfl; exact q1; exact q2) (fun hHeld => ?_)
  refine wpAnyL_take (i := 0) (v := ?_) rfl (by kernel_rfl) (by kernel_rfl) (by kernel_rfl) (by rfl) (fun _ _ _ h => h) (Or.inl ⟨by rfl, ?_⟩) hHeld (fun hHeld2 => ?_)
  rotate_left
  · (intro wz hSw; go_simp; try with_reducible rfl)
  clear hHeld; have hHeld := hHeld2; clear hHeld2
  try simp only [List.getElem_toArray, List.getElem_cons_zero, List.getElem_cons_succ, Act.put, List.setIfInBounds_toArray, List.set_cons_zero, List.set_cons_succ]
  refine wpAnyL_take (i := 1) (v := ?_) rfl (by kernel_rfl) (by kernel_rfl) (by kernel_rfl) (by rfl) (fun _ _ _ h => h) (Or.inl ⟨by rfl, ?_⟩) hHeld (fun hHeld2 => ?_)
  rotate_left
  · (intro wz hSw; go_simp; try with_reducible rfl)
  clear hHeld; have hHeld := hHeld2; clear hHeld2
  try simp only [List.getElem_toArray, List.getElem_cons_zero, List.getElem_cons_succ, Act.put, List.setIfInBounds_toArray, List.set_cons_zero, List.set_cons_succ]
  refine wpAnyL_take (i := 2) (v := ?_) rfl (by kernel_rfl) (by kernel_rfl) (by kernel_rfl) (by rfl) (fun _ _ _ h => h) (Or.inl ⟨by rfl, ?_⟩) hHeld (fun hHeld2 => ?_)
  rotate_left
  · (intro wz hSw; have hq : wz.cell? ⟨X, 1, none⟩ = some (.int .i64 sec) := hSw.get _ (List.Mem.head _) 3 (by kernel_rfl); go_simp; try with_reducible rfl)
  clear hHeld; have hHeld := hHeld2; clear hHeld2
  try simp only [List.getElem_toArray, List.getElem_cons_zero, List.getElem_cons_succ, Act.put, List.setIfInBounds_toArray, List.set_cons_zero, List.set_cons_succ]
  refine wpAnyL_take (i := 3) (v := ?_) rfl (by kernel_rfl) (by kernel_rfl) (by kernel_rfl) (by rfl) (fun _ _ _ h => h) (Or.inl ⟨by rfl, ?_⟩) hHeld (fun hHeld2 => ?_)
  rotate_left
  · (intro wz hSw; go_simp; try with_reducible rfl)
  clear hHeld; have hHeld := hHeld2; clear hHeld2
  try simp only [List.getElem_toArray, List.getElem_cons_zero, List.getElem_cons_succ, Act.put, List.setIfInBounds_toArray, List.set_cons_zero, List.set_cons_succ]
  refine wpAnyL_take (i := 4) (v := ?_) rfl (by kernel_rfl) (by kernel_rfl) (by kernel_rfl) (by rfl) (fun _ _ _ h => h) (Or.inl ⟨by rfl, ?_⟩) hHeld (fun hHeld2 => ?_)
  rotate_left
  · (intro wz hSw; have hq : wz.cell? ⟨X, 2, none⟩ = some (.slice A L c) := hSw.get _ (List.Mem.tail _ (List.Mem.head _)) 3 (by kernel_rfl); go_simp; try with_reducible rfl)
  clear hHeld; have hHeld := hHeld2; clear hHeld2
  try simp only [List.getElem_toArray, List.getElem_cons_zero, List.getElem_cons_succ, Act.put, List.setIfInBounds_toArray, List.set_cons_zero, List.set_cons_succ]
  refine wpAnyL_take (i := 6) (v := ?_) rfl (by kernel_rfl) (by kernel_rfl) (by kernel_rfl) (by rfl) (fun _ _ _ h => h) (Or.inl ⟨by rfl, ?_⟩) hHeld (fun hHeld2 => ?_)
  rotate_left
  · (intro wz hSw; go_simp; try with_reducible rfl)
  clear hHeld; have hHeld := hHeld2; clear hHeld2
  try simp only [List.getElem_toArray, List.getElem_cons_zero, List.getElem_cons_succ, Act.put, List.setIfInBounds_toArray, List.set_cons_zero, List.set_cons_succ]
  refine wpAnyL_take (i := 7) (v := ?_) rfl (by kernel_rfl) (by kernel_rfl) (by kernel_rfl) (by rfl) (fun _ _ _ h => h) (Or.inl ⟨by rfl, ?_⟩) hHeld (fun hHeld2 => ?_)
  rotate_left
  · (intro wz hSw; go_simp; try with_reducible rfl)
  clear hHeld; have hHeld := hHeld2; clear hHeld2
  try simp only [List.getElem_toArray, List.getElem_cons_zero, List.getElem_cons_succ, Act.put, List.setIfInBounds_toArray, List.set_cons_zero, List.set_cons_succ]
  refine wpAnyL_take (i := 8) (v := ?_) rfl (by kernel_rfl) (by kernel_rfl) (by kernel_rfl) (by rfl) (fun _ _ _ h => h) (Or.inl ⟨by rfl, ?_⟩) hHeld (fun hHeld2 => ?_)
  rotate_left
  · (intro wz hSw; have hq : wz.cell? ⟨X, 1, none⟩ = some (.int .i64 sec) := hSw.get _ (List.Mem.head _) 3 (by kernel_rfl); go_simp; try with_reducible rfl)
  clear hHeld; have hHeld := hHeld2; clear hHeld2
  try simp only [List.getElem_toArray, List.getElem_cons_zero, List.getElem_cons_succ, Act.put, List.setIfInBounds_toArray, List.set_cons_zero, List.set_cons_succ]
  refine wpAnyL_take (i := 9) (v := ?_) rfl (by kernel_rfl) (by kernel_rfl) (by kernel_rfl) (by rfl) (fun _ _ _ h => h) (Or.inl ⟨by rfl, ?_⟩) hHeld (fun hHeld2 => ?_)
  rotate_left
  · (intro wz hSw; go_simp; try with_reducible rfl)
  clear hHeld; have hHeld := hHeld2; clear hHeld2
  try simp only [List.getElem_toArray, List.getElem_cons_zero, List.getElem_cons_succ, Act.put, List.setIfInBounds_toArray, List.set_cons_zero, List.set_cons_succ]
  refine wpAnyL_take (i := 10) (v := ?_) rfl (by kernel_rfl) (by kernel_rfl) (by kernel_rfl) (by rfl) (fun _ _ _ h => h) (Or.inl ⟨by rfl, ?_⟩) hHeld (fun hHeld2 => ?_)
  rotate_left
  · (intro wz hSw; have hq : wz.cell? ⟨X, 2, none⟩ = some (.slice A L c) := hSw.get _ (List.Mem.tail _ (List.Mem.head _)) 3 (by kernel_rfl); go_simp; try with_reducible rfl)
  clear hHeld; have hHeld := hHeld2; clear hHeld2
  try simp only [List.getElem_toArray, List.getElem_cons_zero, List.getElem_cons_succ, Act.put, List.setIfInBounds_toArray, List.set_cons_zero, List.set_cons_succ]
  refine wpAnyL_one (i := 5) (by kernel_rfl) rfl rfl hHeld (fun K hK => ?_)
  go_simp
  refine CL.out.mono ?_
  rintro en w2 hp
  obtain ⟨rfl, κ2, hD2, hT2, hB2⟩ := DD.out.left hp
  have nx : ¬ κ X ≠ 0 := fun e => e HX.out.k0
  have p1 := (hT2.cell (p := ⟨X, 1, none⟩) HX.out.xl nx).trans q1
  have p2 := (hT2.cell (p := ⟨X, 2, none⟩) HX.out.xl nx).trans q2
  have HD2 := Lib.hid hD2
  have HB2 := Lib.hid (HB1.out.trans (show Below B w1 w2 from (below_draw (Below.refl B w1) 1).trans hB2))
  have BY2 := hD2.byl ((HY.out.below (below_draw (Below.refl B w1) 1)).below hB2)
  clear hp hD2 hT2 hB2 nx
  refine hK.out _ _ (by intro p hp hl; simp only [List.mem_cons, List.not_mem_nil, or_false] at hp; rcases hp with rfl | rfl; exact p1; exact p2) (fun hHeld2 => ?_)
  clear hHeld hK K ; have hHeld := hHeld2; clear hHeld2
  try simp only [List.getElem_toArray, List.getElem_cons_zero, List.getElem_cons_succ, Act.put, List.setIfInBounds_toArray, List.set_cons_zero, List.set_cons_succ]
  have steps := HT.out.few
  have H60 := HMM.out
  have hst := HT.out.steps
  have hws := HD2.out.e.wf.ws
  have CR := rover_any HD2.out.e HD2.out.bel (by omega) sec A L c bs HL.out HS.out.1 HS.out.2.1 BY2.2
  rw [TT.2] at CR
  have HCR := Lib.hid CR
  have HTW := Lib.hid TT.1
  clear CR TT steps H60 hst hws
  refine wpAnyL_one (i := 11) (by kernel_rfl) rfl rfl hHeld (fun K hK => ?_)
  go_simp
  refine HCR.out.mono ?_
  rintro en w3 hp
  obtain ⟨rfl, ρ3, hD3, hT3, hB3⟩ := HD2.out.right hp
  have HR2 := Lib.hid hD3
  have HB3 := Lib.hid (HB2.out.trans hB3)
  clear hp hD3 hT3 hB3 p1 p2 q0 q1 q2 q3
  refine hK.out _ _ (by intro p hp hl; simp only [List.mem_cons, List.not_mem_nil, or_false] at hp; rcases hp with rfl | rfl; exact Bool.noConfusion (hl.symm.trans (show _ = true by kernel_rfl)); exact Bool.noConfusion (hl.symm.trans (show _ = true by kernel_rfl))) (fun hHeld2 => ?_)
  clear hHeld hK K ; have hHeld := hHeld2; clear hHeld2
  try simp only [List.getElem_toArray, List.getElem_cons_zero, List.getElem_cons_succ, Act.put, List.setIfInBounds_toArray, List.set_cons_zero, List.set_cons_succ]
  have tq : ((((s.overwrite sec bs).2 : Nat) : Int) == (((s.overwrite sec bs).2 : Nat) : Int)) = true := by simp
  generalize (s.overwrite sec bs).2 = cc at *
  refine wpAnyL_one (i := 12) (by kernel_rfl) rfl rfl hHeld (fun K hK => ?_)
  go_simp
  refine hK.out _ _ (by intro p hp hl; simp only [List.mem_cons, List.not_mem_nil, or_false] at hp; rcases hp with rfl | rfl; exact Bool.noConfusion (hl.symm.trans (show _ = true by kernel_rfl)); exact Bool.noConfusion (hl.symm.trans (show _ = true by kernel_rfl))) (fun hHeld2 => ?_)
  clear hHeld hK K ; have hHeld := hHeld2; clear hHeld2
  try simp only [List.getElem_toArray, List.getElem_cons_zero, List.getElem_cons_succ, Act.put, List.setIfInBounds_toArray, List.set_cons_zero, List.set_cons_succ]
  refine wpAnyL_one (i := 13) (by kernel_rfl) rfl rfl hHeld (fun K hK => ?_)
  go_simp
  refine hK.out _ _ (by intro p hp hl; simp only [List.mem_cons, List.not_mem_nil, or_false] at hp; rcases hp with rfl | rfl; exact Bool.noConfusion (hl.symm.trans (show _ = true by kernel_rfl)); exact Bool.noConfusion (hl.symm.trans (show _ = true by kernel_rfl))) (fun hHeld2 => ?_)
  clear hHeld hK K hHeld2
  try simp only [List.getElem_toArray, List.getElem_cons_zero, List.getElem_cons_succ, Act.put]
  refine wpAnyL_done (by kernel_rfl) ?_ _
  go_wp2
  go_ret
  exact ⟨rfl, _, _, _, _, HR2.out, HTW.out, HB3.out⟩
end
end Go.Proofs.Ytfjaiolgbcindaa
