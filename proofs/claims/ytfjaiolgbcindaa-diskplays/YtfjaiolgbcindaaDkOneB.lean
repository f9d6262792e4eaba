/-
  Contract of the law's one: the other kinds, and all. Conditions: both disks lie in memory; at most 60 things have been done. (Written by tools/gen_dkoneb.py.)
-/
import Derived.Test.YtfjaiolgbcindaaDkOne
import Derived.Test.YtfjaiolgbcindaaSame2
namespace Go.Proofs.Ytfjaiolgbcindaa
open Go.RowKit Arr Dsk
set_option linter.unusedSimpArgs false

theorem lastOf_len {z : Nat} (i : Nat) : ∀ (ws : List (Nat × List Nat)) (b : List Nat), (∀ p, p ∈ ws → p.2.length ≤ z) → b.length ≤ z → (lastOf ws i b).length ≤ z
  | [], b, _, hb => hb
  | p :: ws, b, h, hb => by
    show (lastOf ws i (if p.1 = i then p.2 else b)).length ≤ z
    refine lastOf_len i ws _ (fun q hq => h q (List.mem_cons_of_mem _ hq)) ?_
    split
    · exact h p List.mem_cons_self
    · exact hb
theorem read_len {s : St} (h : Wf s) (i : Int) : (s.read i).1.length ≤ 256 := by
  have z1 := h.z1
  unfold St.read
  split
  · exact Nat.zero_le _
  · split
    · refine lastOf_len i.toNat s.waits _ (fun p hp => by rw [(h.wb p hp).2.1]; exact z1) ?_
      rw [List.getD_eq_getElem?_getD]
      by_cases hk : i.toNat < s.kept.length
      · rw [List.getElem?_eq_getElem hk, Option.getD_some, (h.kb _ (List.getElem_mem hk)).1]; exact z1
      · rw [List.getElem?_eq_none (by omega)]; exact Nat.zero_le _
    · exact Nat.zero_le _
theorem RReadP.len {q : List Nat × Nat} {w w' : World} {en : Ending} {n : Nat} (h : RReadP q w en w') (hn : q.1.length = n) : ∃ A c, en = .returned (.tuple #[.slice A n c, .int .i64 (q.2 : Int)]) ∧ Bys w w.heap.size A q.1 ∧ w' = w := by subst hn; exact h
section
variable {w : World} {g h B m : Nat} {κ ρ : Nat → Nat} {s r : St}
set_option maxRecDepth 10000 in
set_option maxHeartbeats 2000000 in
theorem one2 (D : Duo w g h B κ ρ s r) (T : Tw m s r) (hm : m ≤ 60) (x : It) (hx : ItIn w B x) (hk : x.kind = 2) :
    Calls Try.prog 11 #[.pointer (some ⟨g, 0, none⟩), .pointer (some ⟨h, 0, none⟩), .agg #[.int .i64 x.kind, .int .i64 x.sec, .slice x.A x.bs.length x.c, .slice x.KA x.kl.length x.kc]] w (OneP g h B m w) := by
  obtain ⟨e1, e2, e3, e4, e5, e6, e7, e8⟩ := hx
  rw [hk]
  obtain ⟨kind, sec, A, c, bs, KA, kc, kl⟩ := x
  simp only at hk e1 e2 e3 e4 e5 e6 e7 e8 ⊢
  obtain ⟨L, hL⟩ : ∃ L, bs.length = L := ⟨_, rfl⟩
  obtain ⟨M, hM⟩ : ∃ M, kl.length = M := ⟨_, rfl⟩
  have HL := Lib.hid hL
  have HM := Lib.hid hM
  rw [hL] at e1 e6 ⊢
  rw [hM] at e5 ⊢
  clear hL hM hk
  obtain ⟨bx, D1, b1⟩ := D.boxed (.int .i64 2) (.int .i64 sec) (.slice A L c) (.slice KA M kc)
  have HS := Lib.hid (And.intro e1 (And.intro e2 (And.intro e5 (And.intro e6 (And.intro e7 e8)))))
  have HY := Lib.hid (e3.below b1)
  have HZ := Lib.hid (e4.below b1)
  have HT := Lib.hid T
  have HMM := Lib.hid hm
  have HB1 := Lib.hid b1
  have HD := Lib.hid D1
  have HX := Lib.hid bx
  have q0 := bx.q0
  have q1 := bx.q1
  have q2 := bx.q2
  have q3 := bx.q3
  clear e1 e2 e3 e4 e5 e6 e7 e8 D T hm b1 D1 bx
  go_enter Try.func11, Try.ntmps11
  go_wp2_with fail
  generalize w.alloc (.cells #[.int .i64 2, .int .i64 sec, .slice A L c, .slice KA M kc] 35) = w1 at *
  generalize w.heap.size = X at *
  have steps := HT.out.few
  have H60 := HMM.out
  have hws := HD.out.d.wf.ws
  have hws2 := HD.out.e.wf.ws
  have hst := HT.out.steps
  obtain ⟨ln, hln⟩ : ∃ ln, (s.read sec).1.length = ln := ⟨_, rfl⟩
  have HLN := Lib.hid hln
  have hl4 : ln ≤ 1000000 := by have := read_len HD.out.d.wf sec; omega
  have HL4 := Lib.hid hl4
  refine (read_any HD.out.d sec (by omega)).mono ?_
  rintro en w2 hr
  obtain ⟨A7, c7, rfl, _, _, hb7, _, hB7⟩ := hr.len hln
  have HD2 := Lib.hid (HD.out.below hB7)
  have HB2 := Lib.hid (HB1.out.trans (hB7.mono HD.out.bel))
  have p1 := (hB7.cell (p := ⟨X, 1, none⟩) HX.out.xl).trans q1
  have CR := rread_any HD2.out.e sec (by omega)
  rw [HT.out.read] at CR
  have HCR := Lib.hid CR
  have Y7 := Lib.hid hb7
  clear hr hb7 hB7 CR q0 q1 q2 q3 steps H60 hws hws2 hst hl4 hln
  go_wp2_with fail
  refine HCR.out.mono ?_
  rintro en w3 hr
  obtain ⟨A8, c8, rfl, hb8, rfl⟩ := hr.len HLN.out
  have CS := Lib.hid (same_any2 A7 A8 (s.read sec).1 (s.read sec).1 ln ln c7 c8 w3 HLN.out HLN.out HL4.out _ _ Y7.out hb8)
  rw [show decide ((s.read sec).1 = (s.read sec).1) = true from by simp] at CS
  have tq : (((s.read sec).2 : Int) == ((s.read sec).2 : Int)) = true := by simp
  clear hr hb8 HCR p1
  generalize (s.read sec).2 = cc at *
  go_wp2_with fail
  refine CS.out.mono ?_
  rintro en w4 ⟨n, rfl, rfl⟩
  have HD3 := Lib.hid (HD2.out.draw n)
  have HB3 := Lib.hid (below_draw HB2.out n)
  go_wp2
  go_ret
  exact ⟨rfl, _, _, _, _, HD3.out, HT.out.later, HB3.out⟩
set_option maxRecDepth 10000 in
set_option maxHeartbeats 2000000 in
theorem one3 (D : Duo w g h B κ ρ s r) (T : Tw m s r) (hm : m ≤ 60) (x : It) (hx : ItIn w B x) (hk : x.kind = 3) :
    Calls Try.prog 11 #[.pointer (some ⟨g, 0, none⟩), .pointer (some ⟨h, 0, none⟩), .agg #[.int .i64 x.kind, .int .i64 x.sec, .slice x.A x.bs.length x.c, .slice x.KA x.kl.length x.kc]] w (OneP g h B m w) := by
  obtain ⟨e1, e2, e3, e4, e5, e6, e7, e8⟩ := hx
  rw [hk]
  obtain ⟨kind, sec, A, c, bs, KA, kc, kl⟩ := x
  simp only at hk e1 e2 e3 e4 e5 e6 e7 e8 ⊢
  obtain ⟨L, hL⟩ : ∃ L, bs.length = L := ⟨_, rfl⟩
  obtain ⟨M, hM⟩ : ∃ M, kl.length = M := ⟨_, rfl⟩
  have HL := Lib.hid hL
  have HM := Lib.hid hM
  rw [hL] at e1 e6 ⊢
  rw [hM] at e5 ⊢
  clear hL hM hk
  obtain ⟨bx, D1, b1⟩ := D.boxed (.int .i64 3) (.int .i64 sec) (.slice A L c) (.slice KA M kc)
  have HS := Lib.hid (And.intro e1 (And.intro e2 (And.intro e5 (And.intro e6 (And.intro e7 e8)))))
  have HY := Lib.hid (e3.below b1)
  have HZ := Lib.hid (e4.below b1)
  have HT := Lib.hid T
  have HMM := Lib.hid hm
  have HB1 := Lib.hid b1
  have HD := Lib.hid D1
  have HX := Lib.hid bx
  have q0 := bx.q0
  have q1 := bx.q1
  have q2 := bx.q2
  have q3 := bx.q3
  clear e1 e2 e3 e4 e5 e6 e7 e8 D T hm b1 D1 bx
  go_enter Try.func11, Try.ntmps11
  go_wp2_with fail
  generalize w.alloc (.cells #[.int .i64 3, .int .i64 sec, .slice A L c, .slice KA M kc] 35) = w1 at *
  generalize w.heap.size = X at *
  have steps := HT.out.few
  have H60 := HMM.out
  have hst := HT.out.steps
  have TT := HT.out.flush H60
  refine (flush_any HD.out.d (by omega)).mono ?_
  rintro en w2 hp
  obtain ⟨rfl, κ2, hD2, hT2, hB2⟩ := HD.out.left hp.p
  have HD2 := Lib.hid hD2
  have HB2 := Lib.hid (HB1.out.trans hB2)
  have CR := rflush_any HD2.out.e (by omega)
  rw [TT.2] at CR
  have HCR := Lib.hid CR
  have HTW := Lib.hid TT.1
  have tq : ((s.flush.2 : Int) == (s.flush.2 : Int)) = true := by simp
  clear hp hD2 hT2 hB2 CR TT q0 q1 q2 q3 steps H60 hst
  generalize s.flush.2 = cc at *
  go_wp2_with fail
  refine HCR.out.mono ?_
  rintro en w3 hp
  obtain ⟨rfl, ρ3, hD3, hT3, hB3⟩ := HD2.out.right hp
  have HR2 := Lib.hid hD3
  have HB3 := Lib.hid (HB2.out.trans hB3)
  clear hp hD3 hT3 hB3 HCR
  go_wp2
  go_ret
  exact ⟨rfl, _, _, _, _, HR2.out, HTW.out, HB3.out⟩
set_option maxRecDepth 10000 in
set_option maxHeartbeats 2000000 in
theorem one4 (D : Duo w g h B κ ρ s r) (T : Tw m s r) (hm : m ≤ 60) (x : It) (hx : ItIn w B x) (hk : x.kind = 4) :
    Calls Try.prog 11 #[.pointer (some ⟨g, 0, none⟩), .pointer (some ⟨h, 0, none⟩), .agg #[.int .i64 x.kind, .int .i64 x.sec, .slice x.A x.bs.length x.c, .slice x.KA x.kl.length x.kc]] w (OneP g h B m w) := by
  obtain ⟨e1, e2, e3, e4, e5, e6, e7, e8⟩ := hx
  rw [hk]
  obtain ⟨kind, sec, A, c, bs, KA, kc, kl⟩ := x
  simp only at hk e1 e2 e3 e4 e5 e6 e7 e8 ⊢
  obtain ⟨L, hL⟩ : ∃ L, bs.length = L := ⟨_, rfl⟩
  obtain ⟨M, hM⟩ : ∃ M, kl.length = M := ⟨_, rfl⟩
  have HL := Lib.hid hL
  have HM := Lib.hid hM
  rw [hL] at e1 e6 ⊢
  rw [hM] at e5 ⊢
  clear hL hM hk
  obtain ⟨bx, D1, b1⟩ := D.boxed (.int .i64 4) (.int .i64 sec) (.slice A L c) (.slice KA M kc)
  have HS := Lib.hid (And.intro e1 (And.intro e2 (And.intro e5 (And.intro e6 (And.intro e7 e8)))))
  have HY := Lib.hid (e3.below b1)
  have HZ := Lib.hid (e4.below b1)
  have HT := Lib.hid T
  have HMM := Lib.hid hm
  have HB1 := Lib.hid b1
  have HD := Lib.hid D1
  have HX := Lib.hid bx
  have q0 := bx.q0
  have q1 := bx.q1
  have q2 := bx.q2
  have q3 := bx.q3
  clear e1 e2 e3 e4 e5 e6 e7 e8 D T hm b1 D1 bx
  go_enter Try.func11, Try.ntmps11
  go_wp2_with fail
  generalize w.alloc (.cells #[.int .i64 4, .int .i64 sec, .slice A L c, .slice KA M kc] 35) = w1 at *
  generalize w.heap.size = X at *
  have steps := HT.out.few
  have H60 := HMM.out
  have hst := HT.out.steps
  have hws := HD.out.d.wf.ws
  have hws2 := HD.out.e.wf.ws
  have HTW := Lib.hid (HT.out.crash HD.out.d.wf kl)
  refine (crash_any HD.out.d KA M kc kl HM.out (HD.out.bls HZ.out).1 (by omega)).mono ?_
  rintro en w2 hp
  obtain ⟨rfl, κ2, hD2, hT2, hB2⟩ := HD.out.left hp.p
  have nx : ¬ κ X ≠ 0 := fun e => e HX.out.k0
  have p3 := (hT2.cell (p := ⟨X, 3, none⟩) HX.out.xl nx).trans q3
  have HD2 := Lib.hid hD2
  have HB2 := Lib.hid (HB1.out.trans hB2)
  have HCR := Lib.hid (rcrash_any HD2.out.e KA M kc kl HM.out (HD2.out.bls (HZ.out.below hB2)).2 (by omega))
  clear hp hD2 hT2 hB2 q0 q1 q2 q3 steps H60 hst hws hws2 nx
  go_wp2_with fail
  refine HCR.out.mono ?_
  rintro en w3 hp
  obtain ⟨rfl, ρ3, hD3, hT3, hB3⟩ := HD2.out.right hp
  have HR2 := Lib.hid hD3
  have HB3 := Lib.hid (HB2.out.trans hB3)
  clear hp hD3 hT3 hB3 HCR p3
  go_wp2
  go_ret
  exact ⟨rfl, _, _, _, _, HR2.out, HTW.out, HB3.out⟩
set_option maxRecDepth 10000 in
set_option maxHeartbeats 2000000 in
theorem one5 (D : Duo w g h B κ ρ s r) (T : Tw m s r) (hm : m ≤ 60) (x : It) (hx : ItIn w B x) (hk : x.kind = 5) :
    Calls Try.prog 11 #[.pointer (some ⟨g, 0, none⟩), .pointer (some ⟨h, 0, none⟩), .agg #[.int .i64 x.kind, .int .i64 x.sec, .slice x.A x.bs.length x.c, .slice x.KA x.kl.length x.kc]] w (OneP g h B m w) := by
  obtain ⟨e1, e2, e3, e4, e5, e6, e7, e8⟩ := hx
  rw [hk]
  obtain ⟨kind, sec, A, c, bs, KA, kc, kl⟩ := x
  simp only at hk e1 e2 e3 e4 e5 e6 e7 e8 ⊢
  obtain ⟨L, hL⟩ : ∃ L, bs.length = L := ⟨_, rfl⟩
  obtain ⟨M, hM⟩ : ∃ M, kl.length = M := ⟨_, rfl⟩
  have HL := Lib.hid hL
  have HM := Lib.hid hM
  rw [hL] at e1 e6 ⊢
  rw [hM] at e5 ⊢
  clear hL hM hk
  obtain ⟨bx, D1, b1⟩ := D.boxed (.int .i64 5) (.int .i64 sec) (.slice A L c) (.slice KA M kc)
  have HS := Lib.hid (And.intro e1 (And.intro e2 (And.intro e5 (And.intro e6 (And.intro e7 e8)))))
  have HY := Lib.hid (e3.below b1)
  have HZ := Lib.hid (e4.below b1)
  have HT := Lib.hid T
  have HMM := Lib.hid hm
  have HB1 := Lib.hid b1
  have HD := Lib.hid D1
  have HX := Lib.hid bx
  have q0 := bx.q0
  have q1 := bx.q1
  have q2 := bx.q2
  have q3 := bx.q3
  clear e1 e2 e3 e4 e5 e6 e7 e8 D T hm b1 D1 bx
  go_enter Try.func11, Try.ntmps11
  go_wp2_with fail
  generalize w.alloc (.cells #[.int .i64 5, .int .i64 sec, .slice A L c, .slice KA M kc] 35) = w1 at *
  generalize w.heap.size = X at *
  have HTW := Lib.hid (HT.out.setFuse sec kl)
  refine (fuse_any HD.out.d sec HS.out.2.2.2.2.1 HS.out.2.2.2.2.2 KA M kc kl HM.out (by have := HS.out.2.2.1; omega) (fun b => b < B) HZ.out).mono ?_
  rintro en w2 hp
  obtain ⟨rfl, κ2, hD2, hT2, hB2⟩ := HD.out.left hp
  have nx : ¬ κ X ≠ 0 := fun e => e HX.out.k0
  have p1 := (hT2.cell (p := ⟨X, 1, none⟩) HX.out.xl nx).trans q1
  have p3 := (hT2.cell (p := ⟨X, 3, none⟩) HX.out.xl nx).trans q3
  have hX2 := Lib.hid (show X < w2.heap.size from Nat.lt_of_lt_of_le HX.out.xl hT2.size)
  have HD2 := Lib.hid hD2
  have HB2 := Lib.hid (HB1.out.trans hB2)
  have Z2 := HZ.out.below hB2
  obtain ⟨vk, va, vb, ps, qs, KA0, kc0, V⟩ := hD2.e
  have HV := Lib.hid V
  have HZ2 := Lib.hid Z2
  have c4 := V.c4
  clear hp hD2 hT2 hB2 q0 q1 q2 q3 nx Z2 V
  by_cases hon : r.on = true
  · have e0 : r.rfuse sec kl = { { r with left := min (max sec (-1)) 1099511627776 } with keep := kl } := by unfold St.rfuse; rw [if_pos hon]
    rw [hon] at c4
    have c4' : w2.cell? ⟨h, 4, none⟩ = some (.bool false) := c4
    have wf := HV.out.wf
    have V1 := HV.out.setLeft (min (max sec (-1)) 1099511627776) ⟨wf.n0, wf.n1, wf.z0, wf.z1, wf.kl, wf.kb, wf.wb, wf.ws, by show -9223372036854775808 ≤ min (max sec (-1)) 1099511627776; omega, by show min (max sec (-1)) 1099511627776 ≤ 9223372036854775807; omega, wf.off⟩
    have wf1 := V1.wf
    have t1 : Touch (wr4 ρ) w2 (w2.setCell ⟨h, 5, none⟩ (.int .i64 (min (max sec (-1)) 1099511627776))) := (Touch.refl (wr4 ρ) w2).setCell (b := h) (.inl (.inl HV.out.own)) 5 _
    have V2 := V1.setKeep KA kl kc (HZ2.out.touch (ok' := fun k => k < B) t1 (fun k e e' => by have := HV.out.lo k (wr4_ne e'); omega) (fun _ _ e => e)) ⟨wf1.n0, wf1.n1, wf1.z0, wf1.z1, wf1.kl, wf1.kb, wf1.wb, wf1.ws, wf1.ll, wf1.lh, wf1.off⟩
    have t2 : Touch (wr4 ρ) w2 ((w2.setCell ⟨h, 5, none⟩ (.int .i64 (min (max sec (-1)) 1099511627776))).setCell ⟨h, 6, none⟩ (.slice KA M kc)) := t1.setCell (b := h) (.inl (.inl HV.out.own)) 6 _
    rw [HM.out] at V2
    have RP := Lib.hid (show RdkP h B ρ (r.rfuse sec kl) (.bool true) w2 (.returned (.bool true)) ((w2.setCell ⟨h, 5, none⟩ (.int .i64 (min (max sec (-1)) 1099511627776))).setCell ⟨h, 6, none⟩ (.slice KA M kc)) from ⟨rfl, ρ, ⟨_, _, _, _, _, _, _, by rw [e0]; exact V2⟩, t2, fun _ _ => rfl⟩)
    have hXh : X ≠ h := fun e => by have := HX.out.r0; rw [e, HV.out.own] at this; omega
    have p1' : (w2.setCell ⟨h, 5, none⟩ (.int .i64 (min (max sec (-1)) 1099511627776))).cell? ⟨X, 1, none⟩ = some (.int .i64 sec) := (World.cell?_setCell_other _ _ _ _ (fun e => hXh (Addr.mk.inj e).1.symm)).trans p1
    have p3' : (w2.setCell ⟨h, 5, none⟩ (.int .i64 (min (max sec (-1)) 1099511627776))).cell? ⟨X, 3, none⟩ = some (.slice KA M kc) := (World.cell?_setCell_other _ _ _ _ (fun e => hXh (Addr.mk.inj e).1.symm)).trans p3
    have c5 := HV.out.c5
    have c6 := HV.out.c6
    have f5 := HV.out.free 5
    have f6 := HV.out.free 6
    have emm : (if 1099511627776 < (if sec < -1 then (-1 : Int) else sec) then (1099511627776 : Int) else if sec < -1 then -1 else sec) = min (max sec (-1)) 1099511627776 := by
      by_cases a : sec < -1
      · rw [if_pos a, if_neg (by omega)]; omega
      · rw [if_neg a]
        by_cases b : 1099511627776 < sec
        · rw [if_pos b]; omega
        · rw [if_neg b]; omega
    clear V1 V2 t1 t2 wf wf1 e0 c4 hon
    generalize hmm : min (max sec (-1)) 1099511627776 = mm at *
    go_wp2
    refine wp_region_L [(13, (fun w' => w'.cell? ⟨X, 1, none⟩ = some (.int .i64 sec))), (13, (fun w' => w'.cell? ⟨X, 3, none⟩ = some (.slice KA M kc)))] 14 #[false, false, false, false, false, false, false, false, false, false, false, false, false, false] (by kernel_rfl) (by rfl) (by kernel_rfl) (by intro p hp; simp only [List.mem_cons, List.not_mem_nil, or_false] at hp; rcases hp with rfl | rfl; exact p1; exact p3) (fun hHeld => ?_)
    refine wpAnyL_take (i := 0) (v := ?_) rfl (by kernel_rfl) (by kernel_rfl) (by kernel_rfl) (by rfl) (fun _ _ _ h => h) (Or.inl ⟨by rfl, ?_⟩) hHeld (fun hHeld2 => ?_)
    rotate_left
    · (intro wz hSw; go_simp; try with_reducible rfl)
    clear hHeld; have hHeld := hHeld2; clear hHeld2
    try simp only [List.getElem_toArray, List.getElem_cons_zero, List.getElem_cons_succ, Act.put, List.setIfInBounds_toArray, List.set_cons_zero, List.set_cons_succ]
    refine wpAnyL_take (i := 1) (v := ?_) rfl (by kernel_rfl) (by kernel_rfl) (by kernel_rfl) (by rfl) (fun _ _ _ h => h) (Or.inl ⟨by rfl, ?_⟩) hHeld (fun hHeld2 => ?_)
    rotate_left
    · (intro wz hSw; go_simp; try with_reducible rfl)
    clear hHeld; have hHeld := hHeld2; clear hHeld2
    try simp only [List.getElem_toArray, List.getElem_cons_zero, List.getElem_cons_succ, Act.put, List.setIfInBounds_toArray, List.set_cons_zero, List.set_cons_succ]
    refine wpAnyL_take (i := 2) (v := ?_) rfl (by kernel_rfl) (by kernel_rfl) (by kernel_rfl) (by rfl) (fun _ _ _ h => h) (Or.inl ⟨by rfl, ?_⟩) hHeld (fun hHeld2 => ?_)
    rotate_left
    · (intro wz hSw; go_simp; try with_reducible rfl)
    clear hHeld; have hHeld := hHeld2; clear hHeld2
    try simp only [List.getElem_toArray, List.getElem_cons_zero, List.getElem_cons_succ, Act.put, List.setIfInBounds_toArray, List.set_cons_zero, List.set_cons_succ]
    refine wpAnyL_take (i := 3) (v := ?_) rfl (by kernel_rfl) (by kernel_rfl) (by kernel_rfl) (by rfl) (fun _ _ _ h => h) (Or.inl ⟨by rfl, ?_⟩) hHeld (fun hHeld2 => ?_)
    rotate_left
    · (intro wz hSw; have hq : wz.cell? ⟨X, 1, none⟩ = some (.int .i64 sec) := hSw.get _ (List.Mem.head _) 3 (by kernel_rfl); go_simp; try with_reducible rfl)
    clear hHeld; have hHeld := hHeld2; clear hHeld2
    try simp only [List.getElem_toArray, List.getElem_cons_zero, List.getElem_cons_succ, Act.put, List.setIfInBounds_toArray, List.set_cons_zero, List.set_cons_succ]
    refine wpAnyL_take (i := 6) (v := ?_) rfl (by kernel_rfl) (by kernel_rfl) (by kernel_rfl) (by rfl) (fun _ _ _ h => h) (Or.inl ⟨by rfl, ?_⟩) hHeld (fun hHeld2 => ?_)
    rotate_left
    · (intro wz hSw; go_simp; try with_reducible rfl)
    clear hHeld; have hHeld := hHeld2; clear hHeld2
    try simp only [List.getElem_toArray, List.getElem_cons_zero, List.getElem_cons_succ, Act.put, List.setIfInBounds_toArray, List.set_cons_zero, List.set_cons_succ]
    refine wpAnyL_take (i := 7) (v := ?_) rfl (by kernel_rfl) (by kernel_rfl) (by kernel_rfl) (by rfl) (fun _ _ _ h => h) (Or.inl ⟨by rfl, ?_⟩) hHeld (fun hHeld2 => ?_)
    rotate_left
    · (intro wz hSw; have hq : wz.cell? ⟨X, 3, none⟩ = some (.slice KA M kc) := hSw.get _ (List.Mem.tail _ (List.Mem.head _)) 3 (by kernel_rfl); go_simp; try with_reducible rfl)
    clear hHeld; have hHeld := hHeld2; clear hHeld2
    try simp only [List.getElem_toArray, List.getElem_cons_zero, List.getElem_cons_succ, Act.put, List.setIfInBounds_toArray, List.set_cons_zero, List.set_cons_succ]
    refine wpAnyL_one (i := 4) (by kernel_rfl) rfl rfl hHeld (fun K hK => ?_)
    go_simp
    refine hK.out _ _ (by intro p hp hl; simp only [List.mem_cons, List.not_mem_nil, or_false] at hp; rcases hp with rfl | rfl; exact p1; exact p3) (fun hHeld2 => ?_)
    clear hHeld hK K ; have hHeld := hHeld2; clear hHeld2
    try simp only [List.getElem_toArray, List.getElem_cons_zero, List.getElem_cons_succ, Act.put, List.setIfInBounds_toArray, List.set_cons_zero, List.set_cons_succ]
    refine wpAnyL_one (i := 5) (by kernel_rfl) rfl rfl hHeld (fun K hK => ?_)
    go_simp
    refine hK.out _ _ (by intro p hp hl; simp only [List.mem_cons, List.not_mem_nil, or_false] at hp; rcases hp with rfl | rfl; exact p1; exact p3) (fun hHeld2 => ?_)
    clear hHeld hK K ; have hHeld := hHeld2; clear hHeld2
    try simp only [List.getElem_toArray, List.getElem_cons_zero, List.getElem_cons_succ, Act.put, List.setIfInBounds_toArray, List.set_cons_zero, List.set_cons_succ]
    refine wpAnyL_one (i := 8) (by kernel_rfl) rfl rfl hHeld (fun K hK => ?_)
    go_simp
    refine hK.out _ _ (by intro p hp hl; simp only [List.mem_cons, List.not_mem_nil, or_false] at hp; rcases hp with rfl | rfl; exact p1; exact p3) (fun hHeld2 => ?_)
    clear hHeld hK K ; have hHeld := hHeld2; clear hHeld2
    try simp only [List.getElem_toArray, List.getElem_cons_zero, List.getElem_cons_succ, Act.put, List.setIfInBounds_toArray, List.set_cons_zero, List.set_cons_succ]
    refine wpAnyL_one (i := 9) (by kernel_rfl) rfl rfl hHeld (fun K hK => ?_)
    go_simp
    refine hK.out _ _ (by intro p hp hl; simp only [List.mem_cons, List.not_mem_nil, or_false] at hp; rcases hp with rfl | rfl; exact p1; exact p3) (fun hHeld2 => ?_)
    clear hHeld hK K ; have hHeld := hHeld2; clear hHeld2
    try simp only [List.getElem_toArray, List.getElem_cons_zero, List.getElem_cons_succ, Act.put, List.setIfInBounds_toArray, List.set_cons_zero, List.set_cons_succ]
    refine wpAnyL_one (i := 10) (by kernel_rfl) rfl rfl hHeld (fun K hK => ?_)
    go_simp
    refine hK.out _ _ (by intro p hp hl; simp only [List.mem_cons, List.not_mem_nil, or_false] at hp; rcases hp with rfl | rfl; exact p1'; exact p3') (fun hHeld2 => ?_)
    clear hHeld hK K ; have hHeld := hHeld2; clear hHeld2
    try simp only [List.getElem_toArray, List.getElem_cons_zero, List.getElem_cons_succ, Act.put, List.setIfInBounds_toArray, List.set_cons_zero, List.set_cons_succ]
    refine wpAnyL_one (i := 11) (by kernel_rfl) rfl rfl hHeld (fun K hK => ?_)
    go_simp
    refine hK.out _ _ (by intro p hp hl; simp only [List.mem_cons, List.not_mem_nil, or_false] at hp; rcases hp with rfl | rfl; exact p1'; exact p3') (fun hHeld2 => ?_)
    clear hHeld hK K ; have hHeld := hHeld2; clear hHeld2
    try simp only [List.getElem_toArray, List.getElem_cons_zero, List.getElem_cons_succ, Act.put, List.setIfInBounds_toArray, List.set_cons_zero, List.set_cons_succ]
    refine wpAnyL_one (i := 12) (by kernel_rfl) rfl rfl hHeld (fun K hK => ?_)
    go_simp
    refine hK.out _ _ (by intro p hp hl; simp only [List.mem_cons, List.not_mem_nil, or_false] at hp; rcases hp with rfl | rfl; exact p1'; exact p3') (fun hHeld2 => ?_)
    clear hHeld hK K ; have hHeld := hHeld2; clear hHeld2
    try simp only [List.getElem_toArray, List.getElem_cons_zero, List.getElem_cons_succ, Act.put, List.setIfInBounds_toArray, List.set_cons_zero, List.set_cons_succ]
    refine wpAnyL_one (i := 13) (by kernel_rfl) rfl rfl hHeld (fun K hK => ?_)
    go_simp
    refine hK.out _ _ (by intro p hp hl; simp only [List.mem_cons, List.not_mem_nil, or_false] at hp; rcases hp with rfl | rfl; exact Bool.noConfusion (hl.symm.trans (show _ = true by kernel_rfl)); exact Bool.noConfusion (hl.symm.trans (show _ = true by kernel_rfl))) (fun hHeld2 => ?_)
    clear hHeld hK K hHeld2
    try simp only [List.getElem_toArray, List.getElem_cons_zero, List.getElem_cons_succ, Act.put]
    refine wpAnyL_done (by kernel_rfl) ?_ _
    clear p1 p3 p1' p3' c5 c6 f5 f6 c4' emm
    go_wp2
    all_goals
      go_ret
      obtain ⟨_, ρ3, hD3, hT3, hB3⟩ := HD2.out.right RP.out
      exact ⟨rfl, _, _, _, _, hD3.draw 1, HTW.out, below_draw (HB2.out.trans hB3) 1⟩
  · rw [show r.on = false from by simpa using hon] at c4
    have c4' : w2.cell? ⟨h, 4, none⟩ = some (.bool true) := c4
    have e0 : r.rfuse sec kl = r := by unfold St.rfuse; rw [if_neg hon]
    rw [e0] at HTW
    clear e0 c4 hon p1 p3
    go_wp2
    go_ret
    exact ⟨rfl, _, _, _, _, HD2.out, HTW.out, HB2.out⟩
set_option maxRecDepth 10000 in
set_option maxHeartbeats 2000000 in
theorem one6 (D : Duo w g h B κ ρ s r) (T : Tw m s r) (hm : m ≤ 60) (x : It) (hx : ItIn w B x) (hk : x.kind = 6) :
    Calls Try.prog 11 #[.pointer (some ⟨g, 0, none⟩), .pointer (some ⟨h, 0, none⟩), .agg #[.int .i64 x.kind, .int .i64 x.sec, .slice x.A x.bs.length x.c, .slice x.KA x.kl.length x.kc]] w (OneP g h B m w) := by
  obtain ⟨e1, e2, e3, e4, e5, e6, e7, e8⟩ := hx
  rw [hk]
  obtain ⟨kind, sec, A, c, bs, KA, kc, kl⟩ := x
  simp only at hk e1 e2 e3 e4 e5 e6 e7 e8 ⊢
  obtain ⟨L, hL⟩ : ∃ L, bs.length = L := ⟨_, rfl⟩
  obtain ⟨M, hM⟩ : ∃ M, kl.length = M := ⟨_, rfl⟩
  have HL := Lib.hid hL
  have HM := Lib.hid hM
  rw [hL] at e1 e6 ⊢
  rw [hM] at e5 ⊢
  clear hL hM hk
  obtain ⟨bx, D1, b1⟩ := D.boxed (.int .i64 6) (.int .i64 sec) (.slice A L c) (.slice KA M kc)
  have HS := Lib.hid (And.intro e1 (And.intro e2 (And.intro e5 (And.intro e6 (And.intro e7 e8)))))
  have HY := Lib.hid (e3.below b1)
  have HZ := Lib.hid (e4.below b1)
  have HT := Lib.hid T
  have HMM := Lib.hid hm
  have HB1 := Lib.hid b1
  have HD := Lib.hid D1
  have HX := Lib.hid bx
  have q0 := bx.q0
  have q1 := bx.q1
  have q2 := bx.q2
  have q3 := bx.q3
  clear e1 e2 e3 e4 e5 e6 e7 e8 D T hm b1 D1 bx
  go_enter Try.func11, Try.ntmps11
  go_wp2_with fail
  generalize w.alloc (.cells #[.int .i64 6, .int .i64 sec, .slice A L c, .slice KA M kc] 35) = w1 at *
  generalize w.heap.size = X at *
  have HTW := Lib.hid HT.out.power
  refine (power_any HD.out.d).mono ?_
  rintro en w2 hp
  obtain ⟨rfl, κ2, hD2, hT2, hB2⟩ := HD.out.left hp.p
  have HD2 := Lib.hid hD2
  have HB2 := Lib.hid (HB1.out.trans hB2)
  obtain ⟨vk, va, vb, ps, qs, KA0, kc0, V⟩ := hD2.e
  have wf := V.wf
  have V1 := V.setOn false ⟨wf.n0, wf.n1, wf.z0, wf.z1, wf.kl, wf.kb, wf.wb, wf.ws, wf.ll, wf.lh, fun e => by cases e⟩
  have wf1 := V1.wf
  have V2 := V1.setLeft (-1) ⟨wf1.n0, wf1.n1, wf1.z0, wf1.z1, wf1.kl, wf1.kb, wf1.wb, wf1.ws, by show (-9223372036854775808 : Int) ≤ -1; omega, by show (-1 : Int) ≤ 9223372036854775807; omega, wf1.off⟩
  have t2 : Touch (wr4 ρ) w2 ((w2.setCell ⟨h, 4, none⟩ (.bool false)).setCell ⟨h, 5, none⟩ (.int .i64 (-1))) := ((Touch.refl (wr4 ρ) w2).setCell (b := h) (.inl (.inl V.own)) 4 _).setCell (b := h) (.inl (.inl V.own)) 5 _
  have RP := Lib.hid (show RdkP h B ρ r.rpower (.bool true) w2 (.returned (.bool true)) ((w2.setCell ⟨h, 4, none⟩ (.bool false)).setCell ⟨h, 5, none⟩ (.int .i64 (-1))) from ⟨rfl, ρ, ⟨_, _, _, _, _, _, _, V2⟩, t2, fun _ _ => rfl⟩)
  have c4 := V.c4
  have c5 := V.c5
  have f4 := V.free 4
  have f5 := V.free 5
  clear hp hD2 hT2 hB2 q0 q1 q2 q3 V V1 V2 wf wf1 t2
  go_wp2
  go_ret
  obtain ⟨_, ρ3, hD3, hT3, hB3⟩ := HD2.out.right RP.out
  exact ⟨rfl, _, _, _, _, hD3, HTW.out, HB2.out.trans hB3⟩
set_option maxRecDepth 10000 in
set_option maxHeartbeats 2000000 in
theorem one_other (D : Duo w g h B κ ρ s r) (T : Tw m s r) (x : It) (hk : ¬ (x.kind = 1 ∨ x.kind = 2 ∨ x.kind = 3 ∨ x.kind = 4 ∨ x.kind = 5 ∨ x.kind = 6 ∨ x.kind = 7)) :
    Calls Try.prog 11 #[.pointer (some ⟨g, 0, none⟩), .pointer (some ⟨h, 0, none⟩), .agg #[.int .i64 x.kind, .int .i64 x.sec, .slice x.A x.bs.length x.c, .slice x.KA x.kl.length x.kc]] w (OneP g h B m w) := by
  generalize x.kind = k at *
  have k1 : (k == 1) = false := by simp; omega
  have k2 : (k == 2) = false := by simp; omega
  have k3 : (k == 3) = false := by simp; omega
  have k4 : (k == 4) = false := by simp; omega
  have k5 : (k == 5) = false := by simp; omega
  have k6 : (k == 6) = false := by simp; omega
  have k7 : (k == 7) = false := by simp; omega
  obtain ⟨bx, D1, b1⟩ := D.boxed (.int .i64 k) (.int .i64 x.sec) (.slice x.A x.bs.length x.c) (.slice x.KA x.kl.length x.kc)
  have FX := Lib.hid (And.intro D1 (And.intro T.later b1))
  have q0 := bx.q0
  clear D T hk bx D1 b1
  generalize x.bs.length = L at *
  generalize x.kl.length = M at *
  go_enter Try.func11, Try.ntmps11
  go_wp2
  go_ret
  exact ⟨rfl, _, _, _, _, FX.out.1, FX.out.2.1, FX.out.2.2⟩
theorem one_any (D : Duo w g h B κ ρ s r) (T : Tw m s r) (hm : m ≤ 60) (x : It) (hx : ItIn w B x) :
    Calls Try.prog 11 #[.pointer (some ⟨g, 0, none⟩), .pointer (some ⟨h, 0, none⟩), .agg #[.int .i64 x.kind, .int .i64 x.sec, .slice x.A x.bs.length x.c, .slice x.KA x.kl.length x.kc]] w (OneP g h B m w) := by
  by_cases hk : x.kind = 1 ∨ x.kind = 2 ∨ x.kind = 3 ∨ x.kind = 4 ∨ x.kind = 5 ∨ x.kind = 6 ∨ x.kind = 7
  · rcases hk with e | e | e | e | e | e | e
    · exact one1 D T hm x hx e
    · exact one2 D T hm x hx e
    · exact one3 D T hm x hx e
    · exact one4 D T hm x hx e
    · exact one5 D T hm x hx e
    · exact one6 D T hm x hx e
    · exact one7 D T hm x hx e
  · exact one_other D T x hk
end
end Go.Proofs.Ytfjaiolgbcindaa
