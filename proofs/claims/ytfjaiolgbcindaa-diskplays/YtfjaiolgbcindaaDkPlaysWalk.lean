/-
  The walk of the law that a disk tells what the document says. Conditions: the slice holds what is done. (Written by tools/gen_dkplays.py.)
-/
import Derived.Test.YtfjaiolgbcindaaDkOneB
import Derived.Test.YtfjaiolgbcindaaRowDo
namespace Go.Proofs.Ytfjaiolgbcindaa
open Go.RowKit Arr Dsk
set_option linter.unusedSimpArgs false

/-- What is asked may grow on the way. -/
theorem wpAnyL_more {P : Program} {ops : Array Oper} {Q : Exit → Act → World → Prop} {ps ps' : List (Nat × (World → Prop))} (hs : ∀ L w, Asked ps' L w → Asked ps L w) :
    ∀ (n : Nat) (listed : Array Bool) (a : Act) (w : World), wpAnyL P ops Q ps' n listed a w → wpAnyL P ops Q ps n listed a w
  | 0, _, _, _, h => h
  | n + 1, _, _, _, h => ⟨h.1, fun i hi => wpOp_mono (fun a' w' h' => ⟨hs _ _ h'.1, wpAnyL_more hs n _ a' w' h'.2⟩) (h.2 i hi)⟩
theorem asked_now {ops : Array Oper} {ps : List (Nat × (World → Prop))} {L : Array Bool} {w : World} (h : Whole ops L ∧ Asked ps L w) (ps' : List (Nat × (World → Prop))) (w' : World) (h' : ∀ p ∈ ps', p.2 w') : Whole ops L ∧ Asked ps' L w' := ⟨h.1, fun p hp _ => h' p hp⟩
/-- One alone may come up, and is wanted. -/
theorem wpAnyL_oneW {P : Program} {ops : Array Oper} {Q : Exit → Act → World → Prop} {ps : List (Nat × (World → Prop))} {i : Nat} {o : Oper} {n : Nat} {listed : Array Bool} {a : Act} {w : World} (hr : Region.ready .any ops listed = [i]) (ho : ops[i]? = some o) (hg : Region.wanted o (yielded ops a.tmps) = true) (hS : Whole ops listed ∧ Asked ps listed w)
    (h : ∀ K : Act → World → Prop, Shut (∀ a w, Asked ps (listed.setIfInBounds i true) w → (Whole ops (listed.setIfInBounds i true) ∧ Asked ps (listed.setIfInBounds i true) w → wpAnyL P ops Q ps n (listed.setIfInBounds i true) a w) → K a w) → o.wp P a w K Q) : wpAnyL P ops Q ps (n + 1) listed a w := by
  refine ⟨fun h0 => absurd (hr.symm.trans h0) (by simp), fun j hj => ?_⟩
  have hj' := hj
  rw [hr] at hj
  obtain rfl : j = i := by simpa using hj
  unfold wpOp
  simp only [ho, hg, if_true]
  exact .inl (h _ fun a' w' h1 h2 => ⟨h1, h2 ⟨hS.1.next hj', h1⟩⟩)
/-- A row of bytes of the call's own, as a slice. -/
theorem owns_any {w : World} {base e n : Nat} {v : Value} {bs : List Nat} (h : w.ownsRow base e 1 v n (vals .u8 bs)) (hb : ∀ x, x ∈ bs → x < 256) :
    ∃ A c, v = .slice A n c ∧ n ≤ c ∧ (A = none → c = 0) ∧ bs.length = n ∧ Bys w w.heap.size A bs := by
  obtain ⟨A, c, rfl, hl, hb'⟩ := bys_of_owns h hb
  refine ⟨A, c, rfl, ?_, fun hA => ?_, hl, hb'⟩
  · rcases h.2 with ⟨h1, h0⟩ | ⟨g, cap, cur, h1, h2, h3, h4, _⟩
    · simp only [Value.slice.injEq] at h1; omega
    · simp only [Value.slice.injEq] at h1; omega
  · subst hA
    rcases h.2 with ⟨h1, _⟩ | ⟨g, cap, cur, h1, _⟩
    · simp only [Value.slice.injEq] at h1; exact h1.2.2
    · cases h1
theorem Items.there {w w' : World} {B : Nat} {A : Option Addr} {its : List It} (h : Items w B A its) (hb : Below B w w') (hs : B ≤ w'.heap.size) : Items w' w'.heap.size A its := by
  have h' := h.below hb
  exact ⟨fun hp => by obtain ⟨b, off, e, hb, hc⟩ := h'.cells hp; exact ⟨b, off, e, Nat.lt_of_lt_of_le hb hs, hc⟩, fun i hi => by obtain ⟨a1, a2, a3, a4, a5, a6, a7⟩ := h'.each i hi; exact ⟨a1, a2, a3.more hs, a4, a5, a6.touch (F := fun _ => False) (Touch.refl _ _) (fun _ _ h => h) (fun _ _ e => Nat.lt_of_lt_of_le e hs), a7⟩⟩
set_option maxRecDepth 20000 in
set_option maxHeartbeats 8000000 in
theorem plays_walk (w : World) (a0 : Int) (w0 : (Lit.int .i64 a0).wf = true) (a1 : Int) (w1 : (Lit.int .i64 a1).wf = true) (A : Option Addr) (c N : Nat) (its : List It) (hN : its.length = N) (hI : Items w w.heap.size A its) (hs : N ≤ 9223372036854775807) :
    Calls Try.prog 3 #[.int .i64 a0, .int .i64 a1, .slice A N c] w fun e w' => e = .returned (.bool true) ∧ Below w.heap.size w w' := by
  have CAW := Lib.hid (awake_any w)
  have HI := Lib.hid hI
  have HN := Lib.hid hN
  have HS := Lib.hid hs
  have HW0 := Lib.hid (wf64 w0)
  have HW1 := Lib.hid (wf64 w1)
  obtain ⟨B, hB⟩ : ∃ B, B = w.heap.size := ⟨_, rfl⟩
  have HBB := Lib.hid hB
  rw [← hB] at HI CAW ⊢
  clear hI hN hs w0 w1 hB
  by_cases hE : 40 < a0 ∧ a0 ≤ 1048576
  · have t1 : decide (a0 > 40) = true := by simp; omega
    have t2 : decide (a0 ≤ 1048576) = true := by simp; omega
    clear hE
    go_enter Try.func3, Try.ntmps3
    go_wp2_with fail
    refine CAW.out.mono ?_
    rintro en w1 ⟨rfl, hB⟩
    have HB1 := Lib.hid hB
    clear hB CAW
    go_wp2
    go_ret
    exact ⟨rfl, HB1.out⟩
  · by_cases hok : okNew a0 a1
    · obtain ⟨n, rfl⟩ : ∃ n : Nat, a0 = (n : Int) := ⟨a0.toNat, by have := hok.1; omega⟩
      obtain ⟨z, rfl⟩ : ∃ z : Nat, a1 = (z : Int) := ⟨a1.toNat, by have := hok.2.2.1; omega⟩
      obtain ⟨o1, o2, o3, o4, o5⟩ := hok
      have t1 : decide ((n : Int) > 40) = false := by simp; omega
      have t3 : decide ((n : Int) < 1) = false := by simp; omega
      have t4 : decide ((n : Int) > 1048576) = false := by simp; omega
      have t5 : decide ((z : Int) < 32) = false := by simp; omega
      have t6 : decide ((z : Int) > 256) = false := by simp; omega
      have er : Int.tmod (z : Int) 16 = 0 := by rw [Int.tmod_eq_emod_of_nonneg (by omega)]; omega
      have er2 : IntKind.i64.wrap 0 = 0 := by decide
      have t7 : ((n : Int) == (n : Int)) = true := by simp
      have t8 : ((n : Int) != (n : Int)) = false := by simp
      have t9 : ((z : Int) == (z : Int)) = true := by simp
      have t10 : ((z : Int) != (z : Int)) = false := by simp
      have HO := Lib.hid (show 0 < n ∧ n ≤ 40 ∧ 32 ≤ z ∧ z ≤ 256 ∧ z % 16 = 0 from by omega)
      clear hE o1 o2 o3 o4 o5 HW0 HW1
      go_enter Try.func3, Try.ntmps3
      go_wp2_with fail
      refine CAW.out.mono ?_
      rintro en w1 ⟨rfl, hB⟩
      have HB1 := Lib.hid hB
      clear hB CAW
      go_wp2_with fail
      refine (new_ok w1 n z HO.out.1 (by have := HO.out.2.1; omega) HO.out.2.2.1 HO.out.2.2.2.1 HO.out.2.2.2.2).mono ?_
      rintro en w2 ⟨g, κ, rfl, hd, hlo, hB⟩
      have hs1 := HB1.out.size
      rw [← HBB.out] at hs1
      have HB2 := Lib.hid (HB1.out.trans (hB.mono hs1))
      have HD := Lib.hid hd
      have HLO := Lib.hid (show ∀ k, κ k ≠ 0 → B ≤ k from fun k e => Nat.le_trans hs1 (hlo k e))
      have hs2 : B ≤ w2.heap.size := Nat.le_trans hs1 hB.size
      have CF := Lib.hid (few_any w2 A c N its HN.out (HI.out.there HB2.out hs2) HS.out)
      clear hd hlo hB HB1 hs1
      go_wp2_with fail
      refine CF.out.mono ?_
      rintro en w3 ⟨fb, rfl, hfb, hB⟩
      have HB3 := Lib.hid (HB2.out.trans (hB.mono hs2))
      have HF := Lib.hid hfb
      have HD3 := Lib.hid (HD.out.below hB)
      have hs3 : B ≤ w3.heap.size := Nat.le_trans hs2 hB.size
      clear hB HB2 CF hfb hs2 HD
      cases fb with
      | false =>
        clear HO
        go_wp2
        go_ret
        exact ⟨rfl, HB3.out⟩
      | true =>
        have HFW := Lib.hid (HF.out.1 rfl)
        clear HF
        have CN := Lib.hid (rnew_any w3 n z B hs3 HO.out.1 (by have := HO.out.2.1; omega) HO.out.2.2.1 HO.out.2.2.2.1)
        go_wp2_with fail
        refine CN.out.mono ?_
        rintro en w4 ⟨h, ρ, rfl, hd, hlo, hB⟩
        have HB4 := Lib.hid (HB3.out.trans (hB.mono hs3))
        have D0 := Lib.hid (show Duo w4 g h B κ ρ (St.new n z) (St.new n z) from ⟨HD3.out.below hB, hd, fun k e => ⟨by
          by_cases e' : ρ k = 0
          · exact e'
          · have := hlo k e'; have := HD3.out.lt k e; omega, HLO.out k e⟩, Nat.le_trans hs3 hB.size⟩)
        have T0 := Lib.hid (Tw.new n z HO.out.2.1)
        clear hd hlo hB HB3 CN hs3 HD3 HLO HO
        go_wp2_with fail
        refine (sectors_any D0.out.d).mono ?_
        rintro en w5 ⟨rfl, mm, rfl⟩
        have D1 := Lib.hid (D0.out.draw mm)
        have HB5 := Lib.hid (below_draw HB4.out mm)
        have en : (St.new n z).n = n := rfl
        have ez : (St.new n z).sz = z := rfl
        rw [en]
        generalize w4.drewN mm = w5 at *
        clear D0 HB4
        go_wp2_with fail
        refine (size_any D1.out.d).mono ?_
        rintro en w6 ⟨rfl, rfl⟩
        rw [ez]
        clear en ez t1 t3 t4 t5 t6 er er2
        go_wp2
        clear t7 t8 t9 t10
        go_loopw [76] (fun i wr => ∃ (k : Nat) (s r : St) (κ ρ : Nat → Nat), k ≤ N ∧ i = .int .i64 k ∧ Duo wr g h B κ ρ s r ∧ Tw k s r ∧ Below B w wr) (fun i _ => N - (intOf i).toNat)
        case atStart => exact ⟨0, _, _, _, _, Nat.zero_le _, rfl, D1.out, T0.out, HB5.out⟩
        case round =>
          clear D1 T0 HB5
          obtain ⟨k, s, r, κ, ρ, hk, rfl, hD, hT, hB⟩ := hrel
          have HD := Lib.hid hD
          have HT := Lib.hid hT
          have HB := Lib.hid hB
          by_cases hlt : k < N
          · have hki : k < its.length := by rw [HN.out]; exact hlt
            obtain ⟨b, off, rfl, hb, hc⟩ := (HI.out.below hB).cells (by omega)
            obtain ⟨q0, q1, q2, q3⟩ := hc k hki
            obtain ⟨e1, e2, e3, e4, e5, e6, e7⟩ := HI.out.each k hki
            have t2 : decide ((k : Int) < (N : Int)) = true := by simp; omega
            have wk : IntKind.i64.wrap ((k : Int) + 1) = (k : Int) + 1 := by have := HS.out; rw [IntKind.wrap_i64]; omega
            have hk60 : k ≤ 60 := by
              have h60 := HFW.out.1
              rw [HN.out] at h60; omega
            have hL300 : its[k].bs.length ≤ 300 ∧ its[k].kl.length ≤ 60 := HFW.out.2 k hki
            have HIX := Lib.hid (show ItIn w B its[k] from ⟨e1, e2, e3, e6, hL300.2, hL300.1, e7.1, e7.2⟩)
            have H60 := Lib.hid hk60
            clear hc hD hT hB e1 e2 e3 e4 e5 e6 e7 hL300 hk60
            generalize its[k] = x at *
            obtain ⟨bx, D1, b1⟩ := HD.out.boxed (.int .i64 x.kind) (.int .i64 x.sec) (.slice x.A x.bs.length x.c) (.slice x.KA x.kl.length x.kc)
            have HD1 := Lib.hid (D1.draw 1)
            have HB1 := Lib.hid (below_draw (HB.out.trans b1) 1)
            have p0 := bx.q0
            have p1 := bx.q1
            have p2 := bx.q2
            have p3 := bx.q3
            have HIX1 := Lib.hid (show ItIn ((wr.alloc (.cells #[.int .i64 x.kind, .int .i64 x.sec, .slice x.A x.bs.length x.c, .slice x.KA x.kl.length x.kc] 35)).drewN 1) B x from ⟨HIX.out.len, HIX.out.nil, HIX.out.bys.below HB1.out, HIX.out.kbl.below HB1.out, HIX.out.kn, HIX.out.bn, HIX.out.s0, HIX.out.s1⟩)
            have HONE := Lib.hid (one_any HD1.out HT.out H60.out x HIX1.out)
            clear bx D1 b1 HIX HIX1
            generalize x.bs.length = L at *
            generalize x.kl.length = M at *
            generalize x.kind = x0 at *
            generalize x.sec = x1 at *
            generalize x.A = x3 at *
            generalize x.c = x4 at *
            generalize x.KA = x5 at *
            generalize x.kc = x6 at *
            clear x
            go_wp2
            refine wp_region_L [] 23 #[false, false, false, false, false, false, false, false, false, false, false, false, false, false, false, false, false, false, false, false, false, false, false] (by kernel_rfl) (by rfl) (by kernel_rfl) (by intro p hp; cases hp) (fun hHeld => ?_)
            refine wpAnyL_take (i := 0) (v := ?_) rfl (by kernel_rfl) (by kernel_rfl) (by kernel_rfl) (by rfl) (fun _ _ _ h => h) (Or.inl ⟨by rfl, ?_⟩) hHeld (fun hHeld2 => ?_)
            rotate_left
            · (intro wz hSw; go_simp; try with_reducible rfl)
            clear hHeld; have hHeld := hHeld2; clear hHeld2
            try simp only [List.getElem_toArray, List.getElem_cons_zero, List.getElem_cons_succ, Act.put, List.setIfInBounds_toArray, List.set_cons_zero, List.set_cons_succ]
            refine wpAnyL_take (i := 1) (v := ?_) rfl (by kernel_rfl) (by kernel_rfl) (by kernel_rfl) (by rfl) (fun _ _ _ h => h) (Or.inl ⟨by rfl, ?_⟩) hHeld (fun hHeld2 => ?_)
            rotate_left
            · (intro wz hSw; go_simp; try with_reducible rfl)
            clear hHeld; have hHeld := hHeld2; clear hHeld2
            try simp only [List.getElem_toArray, List.getElem_cons_zero, List.getElem_cons_succ, Act.put, List.setIfInBounds_toArray, List.set_cons_zero, List.set_cons_succ]
            have r0 : ((wr.alloc (.cells #[.int .i64 x0, .int .i64 x1, .slice x3 L x4, .slice x5 M x6] 35)).drewN 1).cell? ⟨wr.heap.size, 0, none⟩ = some (.int .i64 x0) := p0
            have r1 : ((wr.alloc (.cells #[.int .i64 x0, .int .i64 x1, .slice x3 L x4, .slice x5 M x6] 35)).drewN 1).cell? ⟨wr.heap.size, 1, none⟩ = some (.int .i64 x1) := p1
            have r2 : ((wr.alloc (.cells #[.int .i64 x0, .int .i64 x1, .slice x3 L x4, .slice x5 M x6] 35)).drewN 1).cell? ⟨wr.heap.size, 2, none⟩ = some (.slice x3 L x4) := p2
            have r3 : ((wr.alloc (.cells #[.int .i64 x0, .int .i64 x1, .slice x3 L x4, .slice x5 M x6] 35)).drewN 1).cell? ⟨wr.heap.size, 3, none⟩ = some (.slice x5 M x6) := p3
            clear p0 p1 p2 p3
            generalize hwd : (wr.alloc (.cells #[.int .i64 x0, .int .i64 x1, .slice x3 L x4, .slice x5 M x6] 35)).drewN 1 = wd at *
            try rw [show (wr.alloc (.cells #[.int .i64 x0, .int .i64 x1, .slice x3 L x4, .slice x5 M x6] 35)).drew = wd from hwd]
            clear hwd
            have hHeld2 := asked_now hHeld [] wd (fun p hp => by cases hp)
            clear hHeld; have hHeld := hHeld2; clear hHeld2
            refine wpAnyL_one (i := 2) (by kernel_rfl) rfl rfl hHeld (fun K hK => ?_)
            go_simp
            refine hK.out _ _ (by intro p hp; cases hp) (fun hHeld2 => ?_)
            clear hHeld hK K ; have hHeld := hHeld2; clear hHeld2
            try simp only [List.getElem_toArray, List.getElem_cons_zero, List.getElem_cons_succ, Act.put, List.setIfInBounds_toArray, List.set_cons_zero, List.set_cons_succ]
            refine wpAnyL_one (i := 3) (by kernel_rfl) rfl rfl hHeld (fun K hK => ?_)
            go_simp
            refine HONE.out.mono ?_
            rintro en w7 ⟨rfl, κ7, ρ7, s7, r7, hD7, hT7, hB7⟩
            have HD7 := Lib.hid hD7
            have HT7 := Lib.hid hT7
            have HB7 := Lib.hid (HB1.out.trans hB7)
            obtain ⟨vk, va, vb, pz, qz, KA0, kc0, V⟩ := hD7.e
            have c4 := V.c4
            have c7 := V.c7
            rw [hT7.on] at c4
            rw [hT7.steps] at c7
            have CON := Lib.hid (on_any hD7.d)
            have CST := Lib.hid (steps_any hD7.d)
            clear hD7 hT7 hB7 V r0 r1 r2 r3 q0 q1 q2 q3 HONE HD1 HB1
            refine hK.out _ _ (by intro p hp; cases hp) (fun hHeld2 => ?_)
            clear hHeld hK K ; have hHeld := hHeld2; clear hHeld2
            try simp only [List.getElem_toArray, List.getElem_cons_zero, List.getElem_cons_succ, Act.put, List.setIfInBounds_toArray, List.set_cons_zero, List.set_cons_succ]
            refine wpAnyL_one (i := 4) (by kernel_rfl) rfl rfl hHeld (fun K hK => ?_)
            go_simp
            refine hK.out _ _ (by intro p hp; cases hp) (fun hHeld2 => ?_)
            clear hHeld hK K ; have hHeld := hHeld2; clear hHeld2
            try simp only [List.getElem_toArray, List.getElem_cons_zero, List.getElem_cons_succ, Act.put, List.setIfInBounds_toArray, List.set_cons_zero, List.set_cons_succ]
            refine wpAnyL_one (i := 5) (by kernel_rfl) rfl rfl hHeld (fun K hK => ?_)
            go_simp
            refine hK.out _ _ (by intro p hp; cases hp) (fun hHeld2 => ?_)
            clear hHeld hK K ; have hHeld := hHeld2; clear hHeld2
            try simp only [List.getElem_toArray, List.getElem_cons_zero, List.getElem_cons_succ, Act.put, List.setIfInBounds_toArray, List.set_cons_zero, List.set_cons_succ]
            refine wpAnyL_more (ps' := [(22, (fun w' => w' = w7))]) (fun L W _ p hp => by cases hp) _ _ _ _ ?_
            have hHeld2 := asked_now hHeld [(22, (fun w' => w' = w7))] w7 (by intro p hp; simp only [List.mem_cons, List.not_mem_nil, or_false] at hp; rcases hp with rfl; exact rfl)
            clear hHeld; have hHeld := hHeld2; clear hHeld2
            have tb : (s7.on == !s7.on) = false := by cases s7.on <;> rfl
            have tb2 : (s7.on != !s7.on) = true := by cases s7.on <;> rfl
            have ts : ((s7.steps : Int) != (s7.steps : Int)) = false := by simp
            have ts2 : ((s7.steps : Int) == (s7.steps : Int)) = true := by simp
            generalize hon7 : s7.on = on7 at *
            generalize hst7 : s7.steps = st7 at *
            clear hon7 hst7
            refine wpAnyL_take (i := 6) (v := ?_) rfl (by kernel_rfl) (by kernel_rfl) (by kernel_rfl) (by rfl) (fun _ _ _ h => h) (Or.inl ⟨by rfl, ?_⟩) hHeld (fun hHeld2 => ?_)
            rotate_left
            · (intro wz hSw; go_simp; try with_reducible rfl)
            clear hHeld; have hHeld := hHeld2; clear hHeld2
            try simp only [List.getElem_toArray, List.getElem_cons_zero, List.getElem_cons_succ, Act.put, List.setIfInBounds_toArray, List.set_cons_zero, List.set_cons_succ]
            refine wpAnyL_take (i := 8) (v := ?_) rfl (by kernel_rfl) (by kernel_rfl) (by kernel_rfl) (by rfl) (fun _ _ _ h => h) (Or.inl ⟨by rfl, ?_⟩) hHeld (fun hHeld2 => ?_)
            rotate_left
            · (intro wz hSw; go_simp; try with_reducible rfl)
            clear hHeld; have hHeld := hHeld2; clear hHeld2
            try simp only [List.getElem_toArray, List.getElem_cons_zero, List.getElem_cons_succ, Act.put, List.setIfInBounds_toArray, List.set_cons_zero, List.set_cons_succ]
            refine wpAnyL_take (i := 9) (v := ?_) rfl (by kernel_rfl) (by kernel_rfl) (by kernel_rfl) (by rfl) (fun _ _ _ h => h) (Or.inl ⟨by rfl, ?_⟩) hHeld (fun hHeld2 => ?_)
            rotate_left
            · (intro wz hSw; go_simp; try with_reducible rfl)
            clear hHeld; have hHeld := hHeld2; clear hHeld2
            try simp only [List.getElem_toArray, List.getElem_cons_zero, List.getElem_cons_succ, Act.put, List.setIfInBounds_toArray, List.set_cons_zero, List.set_cons_succ]
            refine wpAnyL_take (i := 10) (v := ?_) rfl (by kernel_rfl) (by kernel_rfl) (by kernel_rfl) (by rfl) (fun _ _ _ h => h) (Or.inl ⟨by rfl, ?_⟩) hHeld (fun hHeld2 => ?_)
            rotate_left
            · (intro wz hSw; go_simp; try with_reducible rfl)
            clear hHeld; have hHeld := hHeld2; clear hHeld2
            try simp only [List.getElem_toArray, List.getElem_cons_zero, List.getElem_cons_succ, Act.put, List.setIfInBounds_toArray, List.set_cons_zero, List.set_cons_succ]
            refine wpAnyL_take (i := 11) (v := ?_) rfl (by kernel_rfl) (by kernel_rfl) (by kernel_rfl) (by rfl) (fun _ _ _ h => h) (Or.inl ⟨by rfl, ?_⟩) hHeld (fun hHeld2 => ?_)
            rotate_left
            · (intro wz hSw; have hq : wz = w7 := hSw.get _ (List.Mem.head _) 12 (by kernel_rfl); subst hq; go_simp; try with_reducible rfl)
            clear hHeld; have hHeld := hHeld2; clear hHeld2
            try simp only [List.getElem_toArray, List.getElem_cons_zero, List.getElem_cons_succ, Act.put, List.setIfInBounds_toArray, List.set_cons_zero, List.set_cons_succ]
            refine wpAnyL_oneW (i := 7) (by kernel_rfl) rfl (by rfl) hHeld (fun K hK => ?_)
            go_simp
            refine CON.out.mono ?_
            rintro en w8 ⟨rfl, rfl⟩
            refine hK.out _ _ (by intro p hp hl; simp only [List.mem_cons, List.not_mem_nil, or_false] at hp; rcases hp with rfl; exact rfl) (fun hHeld2 => ?_)
            clear hHeld hK K ; have hHeld := hHeld2; clear hHeld2
            try simp only [List.getElem_toArray, List.getElem_cons_zero, List.getElem_cons_succ, Act.put, List.setIfInBounds_toArray, List.set_cons_zero, List.set_cons_succ]
            refine wpAnyL_take (i := 12) (v := ?_) rfl (by kernel_rfl) (by kernel_rfl) (by kernel_rfl) (by rfl) (fun _ _ _ h => h) (Or.inl ⟨by rfl, ?_⟩) hHeld (fun hHeld2 => ?_)
            rotate_left
            · (intro wz hSw; go_simp; try with_reducible rfl)
            clear hHeld; have hHeld := hHeld2; clear hHeld2
            try simp only [List.getElem_toArray, List.getElem_cons_zero, List.getElem_cons_succ, Act.put, List.setIfInBounds_toArray, List.set_cons_zero, List.set_cons_succ]
            refine wpAnyL_take (i := 13) (v := ?_) rfl (by kernel_rfl) (by kernel_rfl) (by kernel_rfl) (by rfl) (fun _ _ _ h => h) (Or.inl ⟨by rfl, ?_⟩) hHeld (fun hHeld2 => ?_)
            rotate_left
            · (intro wz hSw; go_simp; try with_reducible rfl)
            clear hHeld; have hHeld := hHeld2; clear hHeld2
            try simp only [List.getElem_toArray, List.getElem_cons_zero, List.getElem_cons_succ, Act.put, List.setIfInBounds_toArray, List.set_cons_zero, List.set_cons_succ]
            refine wpAnyL_take (i := 14) (v := ?_) rfl (by kernel_rfl) (by kernel_rfl) (by kernel_rfl) (by rfl) (fun _ _ _ h => h) (Or.inl ⟨by rfl, ?_⟩) hHeld (fun hHeld2 => ?_)
            rotate_left
            · (intro wz hSw; go_simp; try with_reducible rfl)
            clear hHeld; have hHeld := hHeld2; clear hHeld2
            try simp only [List.getElem_toArray, List.getElem_cons_zero, List.getElem_cons_succ, Act.put, List.setIfInBounds_toArray, List.set_cons_zero, List.set_cons_succ]
            refine wpAnyL_take (i := 15) (v := ?_) rfl (by kernel_rfl) (by kernel_rfl) (by kernel_rfl) (by rfl) (fun _ _ _ h => h) (Or.inl ⟨by rfl, ?_⟩) hHeld (fun hHeld2 => ?_)
            rotate_left
            · (intro wz hSw; go_simp; try with_reducible rfl)
            clear hHeld; have hHeld := hHeld2; clear hHeld2
            try simp only [List.getElem_toArray, List.getElem_cons_zero, List.getElem_cons_succ, Act.put, List.setIfInBounds_toArray, List.set_cons_zero, List.set_cons_succ]
            refine wpAnyL_take (i := 17) (v := ?_) rfl (by kernel_rfl) (by kernel_rfl) (by kernel_rfl) (by rfl) (fun _ _ _ h => h) (Or.inl ⟨by rfl, ?_⟩) hHeld (fun hHeld2 => ?_)
            rotate_left
            · (intro wz hSw; go_simp; try with_reducible rfl)
            clear hHeld; have hHeld := hHeld2; clear hHeld2
            try simp only [List.getElem_toArray, List.getElem_cons_zero, List.getElem_cons_succ, Act.put, List.setIfInBounds_toArray, List.set_cons_zero, List.set_cons_succ]
            refine wpAnyL_take (i := 18) (v := ?_) rfl (by kernel_rfl) (by kernel_rfl) (by kernel_rfl) (by rfl) (fun _ _ _ h => h) (Or.inl ⟨by rfl, ?_⟩) hHeld (fun hHeld2 => ?_)
            rotate_left
            · (intro wz hSw; go_simp; try with_reducible rfl)
            clear hHeld; have hHeld := hHeld2; clear hHeld2
            try simp only [List.getElem_toArray, List.getElem_cons_zero, List.getElem_cons_succ, Act.put, List.setIfInBounds_toArray, List.set_cons_zero, List.set_cons_succ]
            refine wpAnyL_take (i := 19) (v := ?_) rfl (by kernel_rfl) (by kernel_rfl) (by kernel_rfl) (by rfl) (fun _ _ _ h => h) (Or.inl ⟨by rfl, ?_⟩) hHeld (fun hHeld2 => ?_)
            rotate_left
            · (intro wz hSw; go_simp; try with_reducible rfl)
            clear hHeld; have hHeld := hHeld2; clear hHeld2
            try simp only [List.getElem_toArray, List.getElem_cons_zero, List.getElem_cons_succ, Act.put, List.setIfInBounds_toArray, List.set_cons_zero, List.set_cons_succ]
            refine wpAnyL_take (i := 20) (v := ?_) rfl (by kernel_rfl) (by kernel_rfl) (by kernel_rfl) (by rfl) (fun _ _ _ h => h) (Or.inl ⟨by rfl, ?_⟩) hHeld (fun hHeld2 => ?_)
            rotate_left
            · (intro wz hSw; have hq : wz = w7 := hSw.get _ (List.Mem.head _) 12 (by kernel_rfl); subst hq; go_simp; try with_reducible rfl)
            clear hHeld; have hHeld := hHeld2; clear hHeld2
            try simp only [List.getElem_toArray, List.getElem_cons_zero, List.getElem_cons_succ, Act.put, List.setIfInBounds_toArray, List.set_cons_zero, List.set_cons_succ]
            refine wpAnyL_oneW (i := 16) (by kernel_rfl) rfl (by rfl) hHeld (fun K hK => ?_)
            go_simp
            refine CST.out.mono ?_
            rintro en w8 ⟨rfl, rfl⟩
            refine hK.out _ _ (by intro p hp hl; simp only [List.mem_cons, List.not_mem_nil, or_false] at hp; rcases hp with rfl; exact rfl) (fun hHeld2 => ?_)
            clear hHeld hK K ; have hHeld := hHeld2; clear hHeld2
            try simp only [List.getElem_toArray, List.getElem_cons_zero, List.getElem_cons_succ, Act.put, List.setIfInBounds_toArray, List.set_cons_zero, List.set_cons_succ]
            refine wpAnyL_take (i := 21) (v := ?_) rfl (by kernel_rfl) (by kernel_rfl) (by kernel_rfl) (by rfl) (fun _ _ _ h => h) (Or.inl ⟨by rfl, ?_⟩) hHeld (fun hHeld2 => ?_)
            rotate_left
            · (intro wz hSw; go_simp; try with_reducible rfl)
            clear hHeld; have hHeld := hHeld2; clear hHeld2
            try simp only [List.getElem_toArray, List.getElem_cons_zero, List.getElem_cons_succ, Act.put, List.setIfInBounds_toArray, List.set_cons_zero, List.set_cons_succ]
            refine wpAnyL_one (i := 22) (by kernel_rfl) rfl rfl hHeld (fun K hK => ?_)
            go_simp
            refine hK.out _ _ (by intro p hp hl; simp only [List.mem_cons, List.not_mem_nil, or_false] at hp; rcases hp with rfl; exact Bool.noConfusion (hl.symm.trans (show _ = true by kernel_rfl))) (fun hHeld2 => ?_)
            clear hHeld hK K hHeld2
            try simp only [List.getElem_toArray, List.getElem_cons_zero, List.getElem_cons_succ, Act.put]
            refine wpAnyL_done (by kernel_rfl) ?_ _
            clear c4 c7 CON CST tb tb2 ts ts2
            go_wp2
            go_roundw
            case rel => exact ⟨k + 1, _, _, _, _, by omega, by go_num, HD7.out, HT7.out, HB7.out⟩
            case measure => simp [intOf]; omega
          · obtain rfl : k = N := by omega
            have t2 : decide ((k : Int) < (k : Int)) = false := by simp
            obtain ⟨vk, va, vb, ps, qs, KA0, kc0, V⟩ := hD.e
            obtain ⟨kb, ck, AA, ca, AB, cb, rfl, rfl, rfl, hp1, hq1⟩ := V.form
            have c0 := V.c0
            have wfr := V.wf
            have HPZ := Lib.hid (show ∀ x, x ∈ ps → (x.A = none → x.c = 0) ∧ x.bs.length = r.sz ∧ Bys wr wr.heap.size x.A x.bs from fun x hx => ⟨(V.bK x hx).2.1, (wfr.kb x.bs (by rw [← V.eK]; exact List.mem_map_of_mem hx)).1, (V.bK x hx).2.2.bys⟩)
            have HROW := Lib.hid V.rowK
            have HEK := Lib.hid (show ps.map Sl.bs = s.kept from V.eK.trans hT.kept)
            have wfs := hD.d.wf
            have HFL := Lib.hid (show s.kept.flatten.length = s.n * s.sz by rw [flat_len s.kept (fun b hb => (wfs.kb b hb).1), wfs.kl])
            have HBY := Lib.hid (show ∀ x, x ∈ s.kept.flatten → x < 256 from fun x hx => by obtain ⟨b, hb, hx⟩ := List.mem_flatten.1 hx; exact (wfs.kb b hb).2 x hx)
            obtain ⟨P, hP⟩ : ∃ P, P = ps.length := ⟨_, rfl⟩
            have hP40 : P ≤ 40 := by have := hT.le; have := hT.n; omega
            have hPn : P = s.n := by have := hT.n; omega
            obtain ⟨zz, hzz⟩ : ∃ zz, zz = r.sz := ⟨_, rfl⟩
            have hz256 : zz ≤ 256 := by have := wfr.z1; omega
            have hzs : zz = s.sz := by rw [hzz, hT.sz]
            have HPL := Lib.hid hP
            rw [← hP] at c0
            rw [← hzz] at HPZ
            rw [← hPn, ← hzs] at HFL
            have HIM := Lib.hid (fun W (hb : Below wr.heap.size wr W) => image_any (hD.below hb).d)
            rw [← hPn, ← hzs] at HIM
            have H10 := Lib.hid (show P * zz ≤ 40 * 256 from Nat.mul_le_mul hP40 hz256)
            clear hD hT V wfr wfs hzz hzs hPn hp1 hq1 HD HT
            have hp9 : ps.length = P := hP.symm
            rw [hp9] at HROW
            clear hP hp9 hB
            obtain ⟨wp, rfl⟩ : ∃ x, x = wr := ⟨_, rfl⟩
            have hBp : B ≤ wp.heap.size := by rw [HBB.out]; exact HB.out.size
            go_wp2
            go_loopw [12, 109] (fun av0 iv w2 => ∃ (j : Nat) (av : Value), av = av0 ∧ j ≤ P ∧ iv = .int .i64 j ∧ w2.ownsRow wp.heap.size 5 1 av (j * zz) (vals .u8 ((ps.map Sl.bs).take j).flatten) ∧ Below wp.heap.size wp w2) (fun _ iv _ => P - (intOf iv).toNat)
            case atStart => exact ⟨0, _, rfl, Nat.zero_le _, rfl, by rw [Nat.zero_mul]; exact World.ownsRow_nil _ _ _ _, Below.refl _ _⟩
            case round =>
              obtain ⟨j, av, rfl, hj, rfl, hrow, hbel⟩ := hrel
              have HBEL := Lib.hid hbel
              have wj : IntKind.i64.wrap ((j : Int) + 1) = (j : Int) + 1 := by rw [IntKind.wrap_i64]; omega
              by_cases hjl : j < P
              · have t5 : decide ((j : Int) < (P : Int)) = true := by simp; omega
                have hjp : j < ps.length := by rw [← HPL.out]; exact hjl
                obtain ⟨kb2, ekb, qk, fk⟩ := sl_at HROW.out HPL.out.symm j hjp
                simp only [Option.some.injEq, Addr.mk.injEq, and_true] at ekb
                subst ekb
                obtain ⟨x2, x3, x4⟩ := HPZ.out ps[j] (List.getElem_mem hjp)
                have qk2 := (hbel.cell (p := ⟨kb, j, none⟩) (lt_of_cell qk)).trans qk
                have ev : ps[j].v = .slice ps[j].A zz ps[j].c := by show Value.slice _ ps[j].bs.length _ = _; rw [x3]
                rw [ev] at qk2
                have NX := Lib.hid (show ((ps.map Sl.bs).take (j + 1)).flatten = ((ps.map Sl.bs).take j).flatten ++ ps[j].bs from by
                  rw [List.take_succ_eq_append_getElem (by rw [List.length_map]; exact hjp), List.flatten_append, List.getElem_map]
                  simp)
                have X4 := Lib.hid ((x4.below hbel).more hbel.size)
                have hjz : j * zz + zz = (j + 1) * zz := by rw [Nat.succ_mul]
                have hle : (j + 1) * zz ≤ 40 * 256 := Nat.mul_le_mul (by omega) hz256
                obtain ⟨v7, w7, hr, hown, hgr, hat⟩ := run_foot (P := Try.prog) (w := wr) wp.heap.size 32 32 5 Try.underlying32 info_byte av (j * zz) _ hrow ps[j].A zz ps[j].c ps[j].bs x2 x3 X4.out (by omega) hbel.size
                rw [← NX.out, hjz] at hown
                have HO7 := Lib.hid hown
                have HB7 := Lib.hid (hbel.grown hgr hbel.size (fun k hk => (hrow.lt k hk).1))
                have HR := Lib.hid hr
                clear hr hown hgr hat hjz hle X4 NX x2 x3 x4 ev qk fk hrow hbel
                generalize ps[j].A = y3 at *
                generalize ps[j].c = y4 at *
                go_wp2_with (first | (at_builtin; refine list_app rfl (.tmp 113) (.tmp 114) 32 rfl av (.slice y3 zz y4) rfl rfl HR.out ?_) | fail)
                go_roundw
                case rel => exact ⟨j + 1, _, rfl, by omega, by go_num, HO7.out, HB7.out⟩
                case measure => simp [intOf]; omega
              · obtain rfl : j = P := by omega
                have t5 : decide ((j : Int) < (j : Int)) = false := by simp
                have etk : ((ps.map Sl.bs).take j).flatten = s.kept.flatten := by rw [List.take_of_length_le (by rw [List.length_map, ← HPL.out]; omega), HEK.out]
                rw [etk] at hrow
                obtain ⟨A9, c9, rfl, hc9, hA9, hl9, hb9⟩ := owns_any hrow HBY.out
                have HB9 := Lib.hid hb9
                clear hrow hbel etk hc9 hA9 hl9 hb9 c0
                have hm : j * zz ≤ 1000000 := by have := H10.out; omega
                have HMM := Lib.hid hm
                generalize j * zz = fl at *
                go_wp2_with fail
                refine (HIM.out _ HBEL.out).mono ?_
                rintro en w8 ⟨A8, c8, rfl, hb8, hB8⟩
                have HF8 := Lib.hid (HB.out.trans ((HBEL.out.mono hBp).trans (hB8.mono (Nat.le_trans hBp HBEL.out.size))))
                have CS := Lib.hid (same_any2 A8 A9 s.kept.flatten s.kept.flatten fl fl c8 c9 w8 HFL.out HFL.out HMM.out _ _ hb8 (HB9.out.below' hB8))
                rw [show decide (s.kept.flatten = s.kept.flatten) = true from by simp] at CS
                clear hb8 hB8 hm
                go_wp2_with fail
                refine CS.out.mono ?_
                rintro en w9 ⟨mq, rfl, rfl⟩
                go_wp2
                go_ret
                exact ⟨rfl, below_draw HF8.out mq⟩
    · have HOK := Lib.hid hok
      unfold okNew at hok
      by_cases hk : a0 < 1
      · have t1 : decide (a0 > 40) = false := by simp; omega
        have t2 : decide (a0 < 1) = true := by simp; omega
        clear hE hk
        go_enter Try.func3, Try.ntmps3
        go_wp2_with fail
        refine CAW.out.mono ?_
        rintro en w1 ⟨rfl, hB⟩
        have HB1 := Lib.hid hB
        clear hB CAW
        go_wp2_with fail
        refine (new_bad w1 a0 a1 HW1.out HOK.out).mono ?_
        rintro en w2 ⟨rfl, rfl⟩
        go_wp2
        go_ret
        exact ⟨rfl, HB1.out⟩
      · by_cases hk2 : a0 > 1048576
        · have t1 : decide (a0 > 40) = true := by simp; omega
          have t2 : decide (a0 ≤ 1048576) = false := by simp; omega
          have t3 : decide (a0 < 1) = false := by simp; omega
          have t4 : decide (a0 > 1048576) = true := by simp; omega
          clear hE hk hk2 hok
          go_enter Try.func3, Try.ntmps3
          go_wp2_with fail
          refine CAW.out.mono ?_
          rintro en w1 ⟨rfl, hB⟩
          have HB1 := Lib.hid hB
          clear hB CAW
          go_wp2_with fail
          refine (new_bad w1 a0 a1 HW1.out HOK.out).mono ?_
          rintro en w2 ⟨rfl, rfl⟩
          go_wp2
          go_ret
          exact ⟨rfl, HB1.out⟩
        · have t1 : decide (a0 > 40) = false := by simp; omega
          have t3 : decide (a0 < 1) = false := by simp; omega
          have t4 : decide (a0 > 1048576) = false := by simp; omega
          by_cases hk3 : a1 < 32
          · have t5 : decide (a1 < 32) = true := by simp; omega
            clear hE hk hk2 hok hk3
            go_enter Try.func3, Try.ntmps3
            go_wp2_with fail
            refine CAW.out.mono ?_
            rintro en w1 ⟨rfl, hB⟩
            have HB1 := Lib.hid hB
            clear hB CAW
            go_wp2_with fail
            refine (new_bad w1 a0 a1 HW1.out HOK.out).mono ?_
            rintro en w2 ⟨rfl, rfl⟩
            go_wp2
            go_ret
            exact ⟨rfl, HB1.out⟩
          · have t5 : decide (a1 < 32) = false := by simp; omega
            by_cases hk4 : a1 > 256
            · have t6 : decide (a1 > 256) = true := by simp; omega
              clear hE hk hk2 hok hk3 hk4
              go_enter Try.func3, Try.ntmps3
              go_wp2_with fail
              refine CAW.out.mono ?_
              rintro en w1 ⟨rfl, hB⟩
              have HB1 := Lib.hid hB
              clear hB CAW
              go_wp2_with fail
              refine (new_bad w1 a0 a1 HW1.out HOK.out).mono ?_
              rintro en w2 ⟨rfl, rfl⟩
              go_wp2
              go_ret
              exact ⟨rfl, HB1.out⟩
            · have t6 : decide (a1 > 256) = false := by simp; omega
              obtain ⟨rr, hr⟩ : ∃ rr, rr = Int.tmod a1 16 := ⟨_, rfl⟩
              have hr2 : rr ≠ 0 := by rw [hr, Int.tmod_eq_emod_of_nonneg (by omega)]; omega
              have hr3 : 0 ≤ rr ∧ rr < 16 := by rw [hr, Int.tmod_eq_emod_of_nonneg (by omega)]; omega
              have er : Int.tmod a1 16 = rr := hr.symm
              have er2 : IntKind.i64.wrap rr = rr := by rw [IntKind.wrap_i64]; omega
              have t7 : (rr == 0) = false := by simp; omega
              have t8 : (rr != 0) = true := by simp; omega
              clear hr
              clear hE hk hk2 hok hk3 hk4 hr3
              go_enter Try.func3, Try.ntmps3
              go_wp2_with fail
              refine CAW.out.mono ?_
              rintro en w1 ⟨rfl, hB⟩
              have HB1 := Lib.hid hB
              clear hB CAW
              go_wp2_with fail
              refine (new_bad w1 a0 a1 HW1.out HOK.out).mono ?_
              rintro en w2 ⟨rfl, rfl⟩
              go_wp2
              go_ret
              exact ⟨rfl, HB1.out⟩
end Go.Proofs.Ytfjaiolgbcindaa
