/-
  Contracts of anchor's none, Get, Limit and Can. Conditions: the slot lies in memory as a call made it (or is none).
-/
import Derived.Test.YtoeboblkboillaaAnMem
import Derived.Test.YtoeboblkboillaaAesStill
import Derived.Test.YtoeboblkboillaaOnly
import Derived.BigQuiet
namespace Go.Proofs.Ytoeboblkboillaa
open Go.RowKit Arr Go.Sort

set_option maxRecDepth 100000 in
theorem annone_nil (w : World) : Calls Try.prog 11 #[.pointer none] w fun en w' => en = .returned (.bool true) ∧ w = w' := by
  go_enter Try.func11, Try.ntmps11
  go_wp2
  go_ret
  exact ⟨rfl, rfl⟩
set_option maxRecDepth 100000 in
theorem annone_made {w : World} {g n m : Nat} {k s : List Nat} (h : Slt w g n k s m) : Calls Try.prog 11 #[.pointer (some ⟨g, 0, none⟩)] w fun en w' => en = .returned (.bool false) ∧ w = w' := by
  have h2 := h.two
  have HR := Lib.hid h.root
  have RE := run_eq_root w ((n : Int) + 1) 0 k s (zs 32) (zs 32) h.two two_zs
  rw [show decide (((n : Int) + 1) = 0 ∧ k = zs 32 ∧ s = zs 32) = false from decide_eq_false (by omega)] at RE
  clear h
  go_enter Try.func11, Try.ntmps11
  go_wp2_with (first | (with_reducible refine loadRoot g _ k s h2 HR.out rfl rfl ?_) | (with_reducible refine buildR0 rfl ?_) | (with_reducible refine eqlR _ RE rfl rfl rfl ?_) | fail)
  go_ret
  exact ⟨rfl, rfl⟩

/-- What a call answers that lays new blocks at most. -/
def GrP (v : Value) (w : World) (en : Ending) (w' : World) : Prop := en = .returned v ∧ Gr w w'
set_option maxRecDepth 100000 in
theorem anget_nil (w : World) : Calls Try.prog 6 #[.pointer none] w (GrP (.agg (ra 0 (zs 32) (zs 32))) w) := by
  obtain ⟨w1, hw1⟩ : ∃ w1, w1 = w.alloc (.cells (ra 0 (zs 32) (zs 32)) 30) := ⟨_, rfl⟩
  have G1 := Lib.hid (hw1 ▸ (Gr.refl w).alloc (.cells (ra 0 (zs 32) (zs 32)) 30) : Gr w w1)
  have N1 := Lib.hid (hw1 ▸ HV.new w 30 (rc 0 (zs 32) (zs 32)) : HV w1 w.heap.size (rc 0 (zs 32) (zs 32)))
  have N2 := Lib.hid (HV.putV N1.out rfl)
  have T1 := Lib.hid (HV.there65 N1.out two_zs)
  have G2 := Lib.hid (Gr.setCells (Nat.le_refl w.heap.size) (rc 0 (zs 32) (zs 32)) 0 w1 G1.out)
  have HW1 := Lib.hid hw1.symm
  have CN := Lib.hid (annone_nil w1)
  clear hw1
  go_enter Try.func6, Try.ntmps6
  go_wp2_with (first | (with_reducible refine Arr.alloc (t := 30) _ zRoot ?_) | fail)
  rw [HW1.out]
  refine CN.out.mono ?_
  rintro en w' ⟨rfl, rfl⟩
  generalize w.heap.size = N at *
  go_wp2_with (first | (with_reducible refine buildR0 rfl ?_) | (with_reducible refine storeR N _ _ _ two_zs T1.out rfl rfl ?_) | fail)
  (try simp only [Exit.inBlock, Exit.then])
  refine bodyPost_ret (results_root rfl _ _ N _ _ _ two_zs N2.out.1 rfl) rfl ?_
  exact ⟨rfl, G2.out⟩
set_option maxRecDepth 100000 in
theorem anget_any {w : World} {g n m : Nat} {k s : List Nat} (h : Slt w g n k s m) (hn : n ≤ 1099511627776) : Calls Try.prog 6 #[.pointer (some ⟨g, 0, none⟩)] w (GrP (.agg (ra (n : Int) k s)) w) := by
  have hlt := h.lt
  have h2 := h.two
  obtain ⟨N, hN⟩ : ∃ N, N = w.heap.size := ⟨_, rfl⟩
  obtain ⟨w1, hw1⟩ : ∃ w1, w1 = w.alloc (.cells (ra 0 (zs 32) (zs 32)) 30) := ⟨_, rfl⟩
  have g1 : Gr w w1 := hw1 ▸ (Gr.refl w).alloc (.cells (ra 0 (zs 32) (zs 32)) 30)
  have n1 : HV w1 N (rc 0 (zs 32) (zs 32)) := by rw [hw1, hN]; exact HV.new w 30 (rc 0 (zs 32) (zs 32))
  have s1 : w1.heap.size = N + 1 := by rw [hw1, hN]; simp
  have q1 := h.below g1.below
  obtain ⟨w2, hw2⟩ : ∃ w2, w2 = w1.alloc (.cells (ra 0 (zs 32) (zs 32)) 30) := ⟨_, rfl⟩
  have g2 : Gr w w2 := hw2 ▸ g1.alloc (.cells (ra 0 (zs 32) (zs 32)) 30)
  have n2 : HV w2 N (rc 0 (zs 32) (zs 32)) := by rw [hw2]; exact n1.alloc _
  have m2 : HV w2 (N + 1) (rc 0 (zs 32) (zs 32)) := by rw [hw2, ← s1]; exact HV.new w1 30 (rc 0 (zs 32) (zs 32))
  obtain ⟨w3, hw3⟩ : ∃ w3, w3 = w2.setCells (N + 1) 0 (rc ((n : Int) + 1) k s) := ⟨_, rfl⟩
  have g3 : Gr w w3 := hw3 ▸ Gr.setCells (by omega) _ _ _ g2
  have n3 : HV w3 N (rc 0 (zs 32) (zs 32)) := by rw [hw3]; exact n2.apart _ _ _ (by omega)
  have m3 : HV w3 (N + 1) (rc ((n : Int) + 1) k s) := by rw [hw3]; exact HV.putV m2 (by rw [length_rc h2, length_rc two_zs])
  obtain ⟨w4, hw4⟩ : ∃ w4, w4 = w3.setCell ⟨N + 1, 0, none⟩ (.int .i64 (n : Int)) := ⟨_, rfl⟩
  have g4 : Gr w w4 := hw4 ▸ g3.setCell (by omega) 0 _
  have n4 : HV w4 N (rc 0 (zs 32) (zs 32)) := by rw [hw4]; exact n3.beside _ _ (by show N + 1 ≠ N; omega)
  have m4 : HV w4 (N + 1) (rc (n : Int) k s) := by rw [hw4]; exact m3.set 0 _ (by rw [length_rc h2]; omega)
  obtain ⟨w5, hw5⟩ : ∃ w5, w5 = w4.setCells N 0 (rc (n : Int) k s) := ⟨_, rfl⟩
  have g5 : Gr w w5 := hw5 ▸ Gr.setCells (by omega) _ _ _ g4
  have n5 : HV w5 N (rc (n : Int) k s) := by rw [hw5]; exact HV.putV n4 (by rw [length_rc h2, length_rc two_zs])
  have HW1 := Lib.hid hw1.symm
  have HW2 := Lib.hid hw2.symm
  have HW3 := Lib.hid hw3.symm
  have HW5 := Lib.hid hw5.symm
  subst hw4
  have CN := Lib.hid (annone_made q1)
  have L1 := Lib.hid q1.root
  have T2 := Lib.hid (HV.there65 m2 two_zs)
  have T4 := Lib.hid (HV.there65 n4 two_zs)
  have L4 := Lib.hid m4.1
  have L5 := Lib.hid n5.1
  have G5 := Lib.hid g5
  have c3 : w3.cell? ⟨N + 1, 0, none⟩ = some (.int .i64 ((n : Int) + 1)) := m3.cell 0 _ rfl
  have f3 : w3.frozen? ⟨N + 1, 0, none⟩ = false := m3.frozen 0 (by rw [length_rc h2]; omega)
  have wk : IntKind.i64.wrap ((n : Int) + 1 - 1) = (n : Int) := by rw [IntKind.wrap_i64]; omega
  have HS1 := Lib.hid s1
  have HN := Lib.hid hN.symm
  clear h g1 n1 q1 g2 n2 m2 g3 n3 m3 g4 n4 m4 g5 n5 hw1 hw2 hw3 hw5 s1 hlt hN
  go_enter Try.func6, Try.ntmps6
  go_wp2_with (first | (with_reducible refine Arr.alloc (t := 30) _ zRoot ?_) | fail)
  rw [HW1.out, HN.out]
  refine CN.out.mono ?_
  rintro en w' ⟨rfl, rfl⟩
  go_wp2_with (first | (with_reducible refine loadRoot g _ k s h2 L1.out rfl rfl ?_) | (with_reducible refine Arr.alloc (t := 30) _ zRoot ?_; rw [HW2.out, HS1.out]) | (with_reducible refine storeR (N + 1) _ _ _ h2 T2.out rfl rfl ?_; rw [HW3.out]) | (with_reducible refine loadRoot (N + 1) _ k s h2 L4.out rfl rfl ?_) | (with_reducible refine storeR N _ _ _ h2 T4.out rfl rfl ?_; rw [HW5.out]) | fail)
  (try simp only [Exit.inBlock, Exit.then])
  refine bodyPost_ret (results_root rfl _ _ N _ _ _ h2 L5.out rfl) rfl ?_
  exact ⟨rfl, G5.out⟩

set_option maxRecDepth 100000 in
theorem anlimit_nil (w : World) : Calls Try.prog 7 #[.pointer none] w fun en w' => en = .returned (.int .i64 0) ∧ w = w' := by
  go_enter Try.func7, Try.ntmps7
  go_wp2_with fail
  refine (annone_nil w).mono ?_
  rintro en w' ⟨rfl, rfl⟩
  go_wp2
  go_ret
  exact ⟨rfl, rfl⟩
set_option maxRecDepth 100000 in
theorem anlimit_any {w : World} {g n m : Nat} {k s : List Nat} (h : Slt w g n k s m) : Calls Try.prog 7 #[.pointer (some ⟨g, 0, none⟩)] w fun en w' => en = .returned (.int .i64 (m : Int)) ∧ w = w' := by
  have CN := Lib.hid (annone_made h)
  have hl := h.limit
  clear h
  go_enter Try.func7, Try.ntmps7
  go_wp2_with fail
  refine CN.out.mono ?_
  rintro en w' ⟨rfl, rfl⟩
  go_wp2
  go_ret
  exact ⟨rfl, rfl⟩

/-- What a call answers that draws and lays new blocks at most. -/
def DrP (v : Value) (w : World) (en : Ending) (w' : World) : Prop := en = .returned v ∧ ∃ q os, w' = grow (w.drewN q) os
theorem DrP.of {v : Value} {w : World} {en : Ending} {w' : World} (h : en = .returned v ∧ w = w') : DrP v w en w' := ⟨h.1, 0, #[], by rw [grow_empty]; exact h.2.symm⟩
theorem DrP.ofGr {v : Value} {w : World} {en : Ending} {w' : World} (h : GrP v w en w') : DrP v w en w' := by
  obtain ⟨h1, os, h2⟩ := h
  exact ⟨h1, 0, os, h2⟩
theorem below_grow (w : World) (q : Nat) (os : Array Obj) : Below w.heap.size w (grow (w.drewN q) os) := by
  have h : Gr (w.drewN q) (grow (w.drewN q) os) := ⟨os, rfl⟩
  have := h.below
  exact ⟨this.os, this.tape, this.output, this.size, this.block⟩
theorem Slt.grow {w : World} {g n m : Nat} {k s : List Nat} (h : Slt w g n k s m) (q : Nat) (os : Array Obj) : Slt (grow (w.drewN q) os) g n k s m := h.below (below_grow w q os)
set_option maxRecDepth 100000 in
theorem ancan_nil (w : World) : Calls Try.prog 9 #[.pointer none] w (DrP (.bool false) w) := by
  have mixed : Try.prog.follows .mixedOrders = true := by kernel_rfl
  have CN := Lib.hid (fun n os => (annone_nil (grow (w.drewN n) os)).mono fun e w' h => DrP.of h)
  go_enter Try.func9, Try.ntmps9
  go_wp2_with fail
  go_quiet_grown (first | (go_at_call 11; refine Calls.grown_of (CN.out _ _)))
  go_wp2
  go_ret
  exact ⟨rfl, _, _, rfl⟩
set_option maxRecDepth 100000 in
theorem ancan_any {w : World} {g n m : Nat} {k s : List Nat} (h : Slt w g n k s m) (hn : n ≤ 1099511627776) : Calls Try.prog 9 #[.pointer (some ⟨g, 0, none⟩)] w (DrP (.bool (decide (n < m))) w) := by
  have mixed : Try.prog.follows .mixedOrders = true := by kernel_rfl
  have CN := Lib.hid (fun q os => (annone_made (h.grow q os)).mono fun e w' h => DrP.of h)
  have CG := Lib.hid (fun q os => (anget_any (h.grow q os) hn).mono fun e w' h => DrP.ofGr h)
  have hl := fun q os => (h.grow q os).limit
  have RF := fun W => run_field_count W (n : Int) k s
  have HP := Lib.hid (show decide ((n : Int) < (m : Int)) = decide (n < m) by rw [decide_eq_decide]; omega)
  clear h
  generalize ra (n : Int) k s = R at *
  go_enter Try.func9, Try.ntmps9
  go_wp2_with fail
  go_quiet_grown (first | (go_at_call 11; refine Calls.grown_of (CN.out _ _)) | (go_at_call 6; refine Calls.grown_of (CG.out _ _)))
  go_wp2
  go_ret
  exact ⟨rfl, _, _, rfl⟩

/-- A root of three parts, in a head that only reads. -/
theorem stillR3 {ops : Array Oper} {rest : List Oper} {dst : Option Tmp} {ty : TypeId} {pos : String} {after : Array Edge} {a : Act} {w : World} {Q : Act → Prop} {x y z : Operand} (n : Int) (k s : List Nat) (h2 : Two32 k s)
    (hx : a.eval x = .int .i64 n) (hy : a.eval y = .agg (na .u8 k)) (hz : a.eval z = .agg (na .u8 s)) (h : wpStill Try.prog ops w Q rest (a.put dst (.agg (ra n k s)))) :
    wpStill Try.prog ops w Q ({ dst := dst, op := .build 30 #[(0, x), (1, y), (2, z)], type := ty, pos := pos, after := after, guard := none } :: rest) a := by
  refine wpStill_step fun K hK => ?_
  have hw : Region.wanted { dst := dst, op := .build 30 #[(0, x), (1, y), (2, z)], type := ty, pos := pos, after := after, guard := none } (yielded ops a.tmps) = true := rfl
  rw [if_pos hw]
  unfold Oper.still execOp
  have hb : Try.prog.built 30 ((#[(0, x), (1, y), (2, z)] : Array (Nat × Operand)).map fun (i, x) => (i, a.eval x)).toList = some (ra n k s) := by simpa [hx, hy, hz] using built_root n k s h2
  simp only [Sem.run_bind, run_build (P := Try.prog) w 30 _ _ hb, Result.andThen_ok, Sem.run_pure]
  rw [Oper.stillUpon_value]
  exact hK _ h
/-- What Set leaves where it may. -/
def SetP (g n : Nat) (k s : List Nat) (m : Nat) (w : World) (en : Ending) (w' : World) : Prop := en = .returned (.int .i64 0) ∧ Slt w' g n k s m ∧ Only g w w'
set_option maxRecDepth 100000 in
theorem anset_nil (w : World) (x y : List Nat) : Calls Try.prog 8 #[.pointer none, .agg (na .u8 x), .agg (na .u8 y)] w (GrP (.int .i64 1) w) := by
  have G := Lib.hid (((Gr.refl w).alloc (.cells (na .u8 x) 22)).alloc (.cells (na .u8 y) 22))
  generalize na .u8 x = X at *
  generalize na .u8 y = Y at *
  go_enter Try.func8, Try.ntmps8
  go_wp2_with fail
  refine (annone_nil _).mono ?_
  rintro en w' ⟨rfl, rfl⟩
  go_wp2
  go_ret
  exact ⟨rfl, G.out⟩
set_option maxRecDepth 100000 in
theorem anset_full {w : World} {g n m : Nat} {k s : List Nat} (h : Slt w g n k s m) (hn : n ≤ 1099511627776) (hm : ¬ n < m) (x y : List Nat) : Calls Try.prog 8 #[.pointer (some ⟨g, 0, none⟩), .agg (na .u8 x), .agg (na .u8 y)] w (DrP (.int .i64 35) w) := by
  have g0 := ((Gr.refl w).alloc (.cells (na .u8 x) 22)).alloc (.cells (na .u8 y) 22)
  have h1 := h.below g0.below
  have CN := Lib.hid (annone_made h1)
  have CC := Lib.hid (ancan_any h1 hn)
  have G := Lib.hid g0
  rw [show decide (n < m) = false from decide_eq_false hm] at CC
  clear h1 g0 h hm
  generalize na .u8 x = X at *
  generalize na .u8 y = Y at *
  go_enter Try.func8, Try.ntmps8
  go_wp2_with fail
  refine CN.out.mono ?_
  rintro en w' ⟨rfl, rfl⟩
  go_wp2_with fail
  refine CC.out.mono ?_
  rintro en w' ⟨rfl, q, os, hw⟩
  have HE := Lib.hid (show ∃ q os, w' = Go.Sort.grow (w.drewN q) os by
    obtain ⟨os1, h1⟩ := G.out
    rw [h1] at hw
    exact ⟨q, os1 ++ os, by rw [hw, ← grow_grow]; rfl⟩)
  clear hw CC CN G
  go_wp2
  go_ret
  exact ⟨rfl, HE.out⟩
set_option maxRecDepth 100000 in
theorem anset_ok {w : World} {g n m : Nat} {k s : List Nat} (h : Slt w g n k s m) (hn : n ≤ 1099511627776) (hm : n < m) (x y : List Nat) (h2 : Two32 x y) : Calls Try.prog 8 #[.pointer (some ⟨g, 0, none⟩), .agg (na .u8 x), .agg (na .u8 y)] w (SetP g (n + 1) x y m w) := by
  have mixed : Try.prog.follows .mixedOrders = true := by kernel_rfl
  obtain ⟨N, hN⟩ : ∃ N, N = w.heap.size := ⟨_, rfl⟩
  obtain ⟨w2, hw2⟩ : ∃ w2, w2 = (w.alloc (.cells (na .u8 x) 22)).alloc (.cells (na .u8 y) 22) := ⟨_, rfl⟩
  have g0 : Gr w w2 := hw2 ▸ ((Gr.refl w).alloc (.cells (na .u8 x) 22)).alloc (.cells (na .u8 y) 22)
  have kx : HV w2 N (nv .u8 x) := by rw [hw2, hN]; exact (HV.new w 22 (nv .u8 x)).alloc _
  have ky : HV w2 (N + 1) (nv .u8 y) := by
    have := HV.new (w.alloc (.cells (na .u8 x) 22)) 22 (nv .u8 y)
    rw [hw2, show N + 1 = (w.alloc (.cells (na .u8 x) 22)).heap.size by rw [hN]; simp]; exact this
  have hs2 : w2.heap.size = N + 2 := by rw [hw2, hN]; simp
  have h1 := h.below g0.below
  have CN := Lib.hid (annone_made h1)
  have CC := Lib.hid (ancan_any h1 hn)
  have G := Lib.hid g0
  have HX := Lib.hid (show ∀ W, Below w2.heap.size w2 W → HAt W N 0 .u8 x ∧ HAt W (N + 1) 0 .u8 y ∧ Slt W g n k s m from fun W hW => by
    have e1 := (kx.below hW (by omega))
    have e2 := (ky.below hW (by omega))
    exact ⟨⟨e1.1, by have := e1.2; rwa [length_nv] at this⟩, ⟨e2.1, by have := e2.2; rwa [length_nv] at this⟩, h1.below hW⟩)
  have HW2 := Lib.hid hw2.symm
  have HN := Lib.hid hN.symm
  rw [show decide (n < m) = true from decide_eq_true hm] at CC
  have wk : IntKind.i64.wrap ((n : Int) + 1 + 1) = (n : Int) + 1 + 1 := by rw [IntKind.wrap_i64]; omega
  have lx := h2.k
  have ly := h2.s
  clear h1 g0 h hm kx ky hs2 hw2 hN
  go_enter Try.func8, Try.ntmps8
  go_wp2_with fail
  rw [HW2.out]
  refine CN.out.mono ?_
  rintro en w' ⟨rfl, rfl⟩
  go_wp2_with fail
  refine CC.out.mono ?_
  rintro en w3 ⟨rfl, q, os, hw⟩
  have HB := Lib.hid (show Below w2.heap.size w2 w3 by rw [hw]; exact below_grow w2 q os)
  clear hw CC CN
  go_wp2_with fail
  rw [HN.out]
  refine region_tail 12 (by kernel_rfl) (by kernel_rfl) ?_
  intro wd hwd
  have hbd : Below w2.heap.size w2 wd := by rw [hwd]; exact below_drew HB.out
  obtain ⟨a1, a2, a3⟩ := HX.out wd hbd
  have c0 := a3.count
  have L1 := Lib.hid a1
  have L2 := Lib.hid a2
  have T := Lib.hid a3.there
  have HE := Lib.hid (show SetP g (n + 1) x y m w (.returned (.int .i64 0)) (wd.setCells g 0 (rc ((n : Int) + 1 + 1) x y)) from
    ⟨rfl, by have := a3.set h2 (n + 1); rwa [show ((n + 1 : Nat) : Int) + 1 = (n : Int) + 1 + 1 by omega] at this, (Only.of (G.out.below.trans (hbd.mono G.out.size))).setCells _ _⟩)
  clear a1 a2 a3 hbd hwd
  simp only [List.take_succ_cons, List.take_zero, List.drop_succ_cons, List.drop_zero]
  repeat (first | (with_reducible refine stillLoad key32 N 0 x lx L1.out rfl ?_) | (with_reducible refine stillLoad key32 (N + 1) 0 y ly L2.out rfl ?_) | (with_reducible refine stillR3 _ x y h2 rfl rfl rfl ?_) | still_step)
  refine wpStill_nil ?_
  go_wp2_with (first | (with_reducible refine storeR g _ _ _ h2 T.out rfl rfl ?_) | fail)
  go_ret
  exact HE.out
/-- What New and slot leave: a new slot. -/
def MadeP (n : Nat) (k s : List Nat) (m : Nat) (w : World) (v : Value) (w' : World) : Prop := ∃ g, v = .pointer (some ⟨g, 0, none⟩) ∧ w.heap.size ≤ g ∧ Slt w' g n k s m ∧ Below w.heap.size w w'
def SlotP (n : Nat) (k s : List Nat) (m : Nat) (w : World) (en : Ending) (w' : World) : Prop := ∃ v, en = .returned v ∧ MadeP n k s m w v w'
set_option maxRecDepth 100000 in
theorem anslot_any (w : World) (n m : Nat) (hn : n ≤ 1099511627776) (k s : List Nat) (h2 : Two32 k s) : Calls Try.prog 10 #[.agg (ra (n : Int) k s), .int .i64 (m : Int)] w (SlotP n k s m w) := by
  have e : (ra (n : Int) k s).setIfInBounds 0 (.int .i64 ((n : Int) + 1)) = ra ((n : Int) + 1) k s := by simp [ra, rc]
  have n1 : HV (w.alloc (.cells (ra (n : Int) k s) 30)) w.heap.size (rc (n : Int) k s) := HV.new w 30 (rc (n : Int) k s)
  obtain ⟨w2, hw2⟩ : ∃ w2, w2 = w.alloc (.cells ((ra (n : Int) k s).setIfInBounds 0 (.int .i64 ((n : Int) + 1))) 30) := ⟨_, rfl⟩
  have g2 : Gr w w2 := hw2 ▸ (Gr.refl w).alloc _
  have n2 : HV w2 w.heap.size (rc ((n : Int) + 1) k s) := by rw [hw2, e]; exact HV.new w 30 (rc ((n : Int) + 1) k s)
  have s2 : w2.heap.size = w.heap.size + 1 := by rw [hw2]; simp
  have c1 : (w.alloc (.cells (ra (n : Int) k s) 30)).cell? ⟨w.heap.size, 0, none⟩ = some (.int .i64 (n : Int)) := n1.cell 0 _ rfl
  have HE := Lib.hid (show SlotP n k s m w (.returned (.pointer (some ⟨w.heap.size + 1, 0, none⟩))) (w2.alloc (.cells (sa ((n : Int) + 1) k s (m : Int)) 38)) from
    ⟨_, rfl, w.heap.size + 1, rfl, by omega, by have := Slt.new w2 h2 n m; rwa [s2] at this, (g2.alloc _).below⟩)
  have L2 := Lib.hid n2.1
  have wk : IntKind.i64.wrap ((n : Int) + 1) = (n : Int) + 1 := by rw [IntKind.wrap_i64]; omega
  clear g2 n2 e n1 s2
  subst hw2
  go_enter Try.func10, Try.ntmps10
  go_wp2_with (first | (with_reducible refine loadRoot w.heap.size _ k s h2 L2.out rfl rfl ?_) | (with_reducible refine buildS _ _ k s h2 rfl rfl rfl ?_) | fail)
  go_ret
  exact HE.out
set_option maxRecDepth 100000 in
theorem annew_low (w : World) (k : List Nat) (z : Int) (hz : z < 0) : Calls Try.prog 5 #[.agg (na .u8 k), .int .i64 z] w (GrP (.tuple #[.pointer none, .int .i64 2]) w) := by
  have G := Lib.hid ((Gr.refl w).alloc (.cells (na .u8 k) 22))
  have t1 : decide (z < 0) = true := decide_eq_true hz
  generalize na .u8 k = X at *
  go_enter Try.func5, Try.ntmps5
  go_wp2
  go_ret2
  exact ⟨rfl, G.out⟩
set_option maxRecDepth 100000 in
theorem annew_high (w : World) (k : List Nat) (z : Int) (hz : 1099511627776 < z) : Calls Try.prog 5 #[.agg (na .u8 k), .int .i64 z] w (GrP (.tuple #[.pointer none, .int .i64 2]) w) := by
  have G := Lib.hid ((Gr.refl w).alloc (.cells (na .u8 k) 22))
  have t1 : decide (z < 0) = false := decide_eq_false (by omega)
  have t2 : decide (z > 1099511627776) = true := decide_eq_true (by omega)
  generalize na .u8 k = X at *
  go_enter Try.func5, Try.ntmps5
  go_wp2
  go_ret2
  exact ⟨rfl, G.out⟩
/-- What New leaves. -/
def NewsP (k : List Nat) (m : Nat) (w : World) (en : Ending) (w' : World) : Prop := ∃ v, en = .returned (.tuple #[v, .int .i64 0]) ∧ MadeP 0 k (zs 32) m w v w'
set_option maxRecDepth 100000 in
theorem annew_ok (w : World) (k : List Nat) (hk : k.length = 32) (m : Nat) (hm : m ≤ 1099511627776) : Calls Try.prog 5 #[.agg (na .u8 k), .int .i64 (m : Int)] w (NewsP k m w) := by
  obtain ⟨w1, hw1⟩ : ∃ w1, w1 = w.alloc (.cells (na .u8 k) 22) := ⟨_, rfl⟩
  have g1 : Gr w w1 := hw1 ▸ (Gr.refl w).alloc (.cells (na .u8 k) 22)
  have L1 := Lib.hid (show HAt w1 w.heap.size 0 .u8 k by rw [hw1]; exact (Holds.new w _ .u8 k).at0)
  have G1 := Lib.hid g1
  have C := Lib.hid (anslot_any w1 0 m (by omega) k (zs 32) ⟨hk, rfl⟩)
  have HW1 := Lib.hid hw1.symm
  have t1 : decide ((m : Int) < 0) = false := decide_eq_false (by omega)
  have t2 : decide ((m : Int) > 1099511627776) = false := decide_eq_false (by omega)
  clear g1 hw1
  go_enter Try.func5, Try.ntmps5
  go_wp2_with (first | (with_reducible refine Arr.loadAt key32 w.heap.size 0 k hk (HW1.out ▸ L1.out) rfl ?_) | (with_reducible refine buildR1 k hk rfl rfl ?_) | fail)
  rw [HW1.out]
  refine C.out.mono ?_
  rintro en w2 ⟨v, rfl, g, rfl, hg, hs, hb⟩
  have HE := Lib.hid (show NewsP k m w (.returned (.tuple #[.pointer (some ⟨g, 0, none⟩), .int .i64 0])) w2 from
    ⟨_, rfl, g, rfl, Nat.le_trans G1.out.size hg, hs, G1.out.below.trans (hb.mono G1.out.size)⟩)
  clear hg hs hb C G1 L1
  go_wp2
  go_ret2
  exact HE.out
end Go.Proofs.Ytoeboblkboillaa
