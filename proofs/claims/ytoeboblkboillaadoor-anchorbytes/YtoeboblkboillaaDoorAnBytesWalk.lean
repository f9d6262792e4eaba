/-
  The walk of the law AnchorBytes. Conditions: the slice holds the bytes; the table of widths stands in its variable. (Written by tools/gen_anbytes.py.)
-/
import Derived.Test.YtoeboblkboillaaDoorAnBytes
import Derived.Test.YtoeboblkboillaaDoorAnOf
import Derived.Test.YtoeboblkboillaaDoorWRefGet
import Derived.Test.YtoeboblkboillaaDoorSame2
import Derived.Test.YtoeboblkboillaaDoorHeldOne
namespace Go.Proofs.YtoeboblkboillaaDoor
open Go.RowKit Arr Go.Sort Fld
set_option linter.unusedSimpArgs false

/-- An array of noughts is made. -/
theorem built_zs : Tryd.prog.built 25 [] = some (na .u8 (zs 32)) := by kernel_rfl
theorem buildZ {ops : Array Oper} {rest : List Oper} {dst : Option Tmp} {ty : TypeId} {pos : String} {after : Array Edge} {gd : Option (Nat × Bool)} {a : Act} {w : World} {Q : Exit → Act → World → Prop}
    (hw : Region.wanted { dst := dst, op := .build 25 #[], type := ty, pos := pos, after := after, guard := gd } (yielded ops a.tmps) = true)
    (h : wpList Tryd.prog ops Q rest (a.put dst (.agg (na .u8 (zs 32)))) w) : wpList Tryd.prog ops Q ({ dst := dst, op := .build 25 #[], type := ty, pos := pos, after := after, guard := gd } :: rest) a w :=
  wpList_step fun _ hK => by
    rw [if_pos hw]
    have hz : Tryd.prog.built 25 ((#[] : Array (Nat × Operand)).map fun (i, x) => (i, a.eval x)).toList = some (na .u8 (zs 32)) := by
      simpa using built_zs
    exact wp_build 25 #[] rfl (by rw [hz]; rfl) (by rw [hz]; exact hK _ _ h)
/-- The law answers true, and what was there is as it was. -/
def TrueB (w : World) (e : Ending) (w' : World) : Prop := e = .returned (.bool true) ∧ Below w.heap.size w w'

/-- What the reference's Get says of a slot's bytes. -/
theorem bsget_ok {bs : List Nat} (hl : bs.length = 80) (h : okB bs) : (getN (bs.take 8) = cntN bs ∧ getE (bs.take 8) = 0) ∧ getN ((bs.drop 8).take 8) = limN bs ∧ getE ((bs.drop 8).take 8) = 0 := by
  obtain ⟨h1, h2⟩ := h
  have l1 : (bs.take 8).length = 8 := by rw [List.length_take]; omega
  have l2 : ((bs.drop 8).take 8).length = 8 := by rw [List.length_take, List.length_drop]; omega
  have e1 : getE (bs.take 8) = 0 := by
    have : num (bs.take 8) ≤ 1099511627776 := Nat.le_trans h1 h2
    unfold getE; rw [l1, if_neg (by omega), if_neg (by omega), if_neg (by omega)]
  have e2 : getE ((bs.drop 8).take 8) = 0 := by
    have : num ((bs.drop 8).take 8) ≤ 1099511627776 := h2
    unfold getE; rw [l2, if_neg (by omega), if_neg (by omega), if_neg (by omega)]
  exact ⟨⟨by unfold getN; rw [if_pos e1]; rfl, e1⟩, by unfold getN; rw [if_pos e2]; rfl, e2⟩
theorem bsget_bad {bs : List Nat} (h : ¬ okB bs) : getE (bs.take 8) ≠ 0 ∨ getE ((bs.drop 8).take 8) ≠ 0 ∨ 1099511627776 < getN ((bs.drop 8).take 8) ∨ getN ((bs.drop 8).take 8) < getN (bs.take 8) := by
  by_cases e1 : getE (bs.take 8) = 0
  · by_cases e2 : getE ((bs.drop 8).take 8) = 0
    · have f1 : getN (bs.take 8) = cntN bs := by unfold getN; rw [if_pos e1]; rfl
      have f2 : getN ((bs.drop 8).take 8) = limN bs := by unfold getN; rw [if_pos e2]; rfl
      rw [f1, f2]
      unfold okB at h
      omega
    · exact .inr (.inl e2)
  · exact .inl e1

/-- What stays where the last statement begins. -/
structure EndB (w0 : World) (g N n m : Nat) (k s bs : List Nat) (A A3 A4 : Option Addr) (w : World) : Prop where
  bel : Below w0.heap.size w0 w
  tab : Tab w 0
  slt : Slt w g n k s m
  root : HV w N (rc (n : Int) k s)
  b0 : Bys w w.heap.size A bs
  b3 : Bys w w.heap.size A3 k
  b4 : Bys w w.heap.size A4 s
theorem EndB.later {w0 w w' : World} {g N n m : Nat} {k s bs : List Nat} {A A3 A4 : Option Addr} (h : EndB w0 g N n m k s bs A A3 A4 w) (hb : Below w.heap.size w w') : EndB w0 g N n m k s bs A A3 A4 w' :=
  ⟨h.bel.trans (hb.mono h.bel.size), h.tab.below hb h.tab.lt, h.slt.below hb, h.root.below hb (block_lt_of_cell (h.root.cell 0 _ rfl)), (h.b0.below hb).more hb.size, (h.b3.below hb).more hb.size, (h.b4.below hb).more hb.size⟩

set_option maxRecDepth 100000 in
set_option maxHeartbeats 8000000 in
theorem bytes_walk (bs : List Nat) (A : Option Addr) (c : Nat) (w : World) (ht : Tab w 0) (hb : Bys w w.heap.size A bs) (hc : bs.length ≤ c) (_hA : A = none → c = 0) :
    Calls Tryd.prog 3 #[.slice A bs.length c] w (TrueB w) := by
  have mixed : Tryd.prog.follows .mixedOrders = true := by kernel_rfl
  obtain ⟨L, hL⟩ : ∃ L, L = bs.length := ⟨_, rfl⟩
  have HL := Lib.hid hL.symm
  have HT := Lib.hid ht
  have HB := Lib.hid hb
  rw [← hL] at hc ⊢
  have HC := Lib.hid hc
  have HX := Lib.hid (show ∀ W, Below w.heap.size w W → Tab W 0 ∧ Bys W W.heap.size A bs from fun W hW => ⟨HT.out.below hW HT.out.lt, (HB.out.below hW).more hW.size⟩)
  have RE := fun W => run_eq_root W 0 0 (zs 32) (zs 32) (zs 32) (zs 32) two_zs two_zs
  rw [show decide ((0 : Int) = 0 ∧ zs 32 = zs 32 ∧ zs 32 = zs 32) = true from decide_eq_true ⟨rfl, rfl, rfl⟩] at RE
  have CA := Lib.hid (awake_any w)
  clear ht hb hc hL HT HB
  go_enter Tryd.func3, Tryd.ntmps3
  go_wp2_with fail
  refine CA.out.mono ?_
  rintro en w1 ⟨rfl, b1⟩
  have B1 := Lib.hid b1
  clear b1 CA
  go_wp2_with fail
  refine (anget_nil w1).mono ?_
  rintro en w2 ⟨rfl, g2⟩
  have B2 := Lib.hid (B1.out.trans (g2.below.mono B1.out.size))
  clear g2 B1
  go_wp2_with (first | (with_reducible refine buildR0 rfl ?_) | (with_reducible refine neqR true (RE _) rfl rfl rfl ?_) | fail)
  refine (ancan_nil w2).mono ?_
  rintro en w3 ⟨rfl, q, os, hw⟩
  have B3 := Lib.hid (show Below w.heap.size w w3 from B2.out.trans ((show Below w2.heap.size w2 w3 by rw [hw]; exact below_grow w2 q os).mono B2.out.size))
  clear hw B2
  go_wp2_with fail
  refine (anlimit_nil w3).mono ?_
  rintro en w' ⟨rfl, rfl⟩
  go_wp2_with fail
  refine (anbytes_nil w3).mono ?_
  rintro en w' ⟨rfl, rfl⟩
  go_wp2_with (first | (with_reducible refine buildZ rfl ?_) | fail)
  refine (anset_nil w3 (zs 32) (zs 32)).mono ?_
  rintro en w4 ⟨rfl, g4⟩
  have B4 := Lib.hid (B3.out.trans (g4.below.mono B3.out.size))
  clear g4 B3
  by_cases h300 : 300 < L
  · have t1 : decide ((L : Int) > 300) = true := decide_eq_true (by omega)
    go_wp2
    go_ret
    exact ⟨rfl, B4.out⟩
  have t0 : decide ((L : Int) > 300) = false := decide_eq_false (by omega)
  by_cases h80 : L < 80
  · have t1 : decide ((L : Int) < 80) = true := decide_eq_true (by omega)
    go_wp2_with fail
    refine (anof_end w4 A L c h80).mono ?_
    rintro en w' ⟨rfl, rfl⟩
    go_wp2
    go_ret
    exact ⟨rfl, B4.out⟩
  have t1 : decide ((L : Int) < 80) = false := decide_eq_false (by omega)
  by_cases h81 : 80 < L
  · have t2 : decide ((L : Int) > 80) = true := decide_eq_true (by omega)
    go_wp2_with fail
    refine (anof_extra w4 A L c h81).mono ?_
    rintro en w' ⟨rfl, rfl⟩
    go_wp2
    go_ret
    exact ⟨rfl, B4.out⟩
  obtain rfl : L = 80 := by omega
  clear h80 h81 h300 t0 t1
  obtain ⟨T4, Y4⟩ := HX.out w4 B4.out
  have C5 := Lib.hid (anof_any w4 A c bs HL.out Y4 T4)
  clear T4 Y4
  obtain ⟨A1, hA1⟩ : ∃ A1, A1 = cutA A c 0 := ⟨_, rfl⟩
  obtain ⟨A2, hA2⟩ : ∃ A2, A2 = cutA A c 8 := ⟨_, rfl⟩
  obtain ⟨A3, hA3⟩ : ∃ A3, A3 = cutA A c 16 := ⟨_, rfl⟩
  obtain ⟨A4, hA4⟩ : ∃ A4, A4 = cutA A c 48 := ⟨_, rfl⟩
  obtain ⟨c2, hc2⟩ : ∃ c2, c2 = c - 8 := ⟨_, rfl⟩
  obtain ⟨c3, hc3⟩ : ∃ c3, c3 = c - 16 := ⟨_, rfl⟩
  obtain ⟨c4, hc4⟩ : ∃ c4, c4 = c - 48 := ⟨_, rfl⟩
  have S1 : ∀ W : World, (Instr.slice 22 (.slice A 80 c) none (some (.int .i64 8)) none).run Tryd.prog W = .ok (.slice A1 8 c) W := fun W => by rw [hA1]; exact run_cut_h A 80 c 8 (by have := HC.out; omega) W
  have S2 : ∀ W : World, (Instr.slice 22 (.slice A 80 c) (some (.int .i64 8)) (some (.int .i64 16)) none).run Tryd.prog W = .ok (.slice A2 8 c2) W := fun W => by rw [hA2, hc2]; exact run_cut_lh A 80 c 8 16 (by omega) (by have := HC.out; omega) W
  have S3 : ∀ W : World, (Instr.slice 22 (.slice A 80 c) (some (.int .i64 16)) (some (.int .i64 48)) none).run Tryd.prog W = .ok (.slice A3 32 c3) W := fun W => by rw [hA3, hc3]; exact run_cut_lh A 80 c 16 48 (by omega) (by have := HC.out; omega) W
  have S4 : ∀ W : World, (Instr.slice 22 (.slice A 80 c) (some (.int .i64 48)) none none).run Tryd.prog W = .ok (.slice A4 32 c4) W := fun W => by rw [hA4, hc4]; exact run_cut_l A 80 c 48 (by omega) W
  have YC := Lib.hid (show ∀ W, Below w.heap.size w W → Tab W 0 ∧ Bys W W.heap.size A bs ∧ Bys W W.heap.size A1 (bs.take 8) ∧ Bys W W.heap.size A2 ((bs.drop 8).take 8) ∧ Bys W W.heap.size A3 (keyB bs) ∧ Bys W W.heap.size A4 (sumB bs) from fun W hW => by
    obtain ⟨tt, yy⟩ := HX.out W hW
    have hc := HC.out
    have hl := HL.out
    refine ⟨tt, yy, ?_, ?_, ?_, ?_⟩
    · rw [hA1]; exact bys_cut yy c (by omega) 0 8 (by omega) (by omega)
    · rw [hA2]; exact bys_cut yy c (by omega) 8 16 (by omega) (by omega)
    · rw [hA3]; exact bys_cut yy c (by omega) 16 48 (by omega) (by omega)
    · rw [hA4]; exact bys_cut yy c (by omega) 48 80 (by omega) (by omega))
  clear HX hA1 hA2 hA3 hA4 hc2 hc3 hc4
  by_cases hok : okB bs
  · obtain ⟨⟨n1, e1⟩, n2, e2⟩ := bsget_ok HL.out hok
    have OK := Lib.hid hok
    have T2 := Lib.hid (two_bs HL.out)
    have KB0 : ∀ x, x ∈ keyB bs → x < 256 := fun x hx => (YC.out w4 B4.out).2.1.1 x (List.mem_of_mem_drop (List.mem_of_mem_take hx))
    have SB0 : ∀ x, x ∈ sumB bs → x < 256 := fun x hx => (YC.out w4 B4.out).2.1.1 x (List.mem_of_mem_drop (List.mem_of_mem_take hx))
    have HKB := Lib.hid KB0
    have HSB := Lib.hid SB0
    have HEB := Lib.hid (enc_back HL.out (YC.out w4 B4.out).2.1.1)
    have HM40 := Lib.hid hok.2
    have HN40 := Lib.hid (Nat.le_trans hok.1 hok.2)
    have t5 : decide ((1099511627776 : Int) < ((limN bs : Nat) : Int)) = false := decide_eq_false (by have := hok.2; omega)
    have t6 : decide (limN bs < cntN bs) = false := decide_eq_false (by have := hok.1; omega)
    have L1 : (bs.take 8).length = 8 := by rw [List.length_take]; have := HL.out; omega
    have L2 : ((bs.drop 8).take 8).length = 8 := by rw [List.length_take, List.length_drop]; have := HL.out; omega
    have HL1 := Lib.hid L1
    have HL2 := Lib.hid L2
    go_wp2_with fail
    refine C5.out.mono ?_
    rintro en w5 (⟨_, v, rfl, g, rfl, hg, hs, hb5⟩ | ⟨hno, _⟩)
    rotate_left
    · exact absurd OK.out hno
    have B5 := Lib.hid (B4.out.trans (hb5.mono B4.out.size))
    have HS5 := Lib.hid hs
    have C6 := Lib.hid (rget_any A1 8 c (bs.take 8) L1 w5 w5.heap.size (YC.out w5 B5.out).2.2.1)
    have C7 := Lib.hid (rget_any A2 8 c2 ((bs.drop 8).take 8) L2 w5 w5.heap.size (YC.out w5 B5.out).2.2.2.1)
    rw [n1, e1] at C6
    rw [n2, e2] at C7
    have C8 := Lib.hid (anget_any hs HN40.out)
    clear hs hg hb5 hok KB0 SB0 L1 L2 C5 n1 e1 n2 e2
    have YK := Lib.hid (show ∀ W, Below w.heap.size w W → Bys W W.heap.size A3 (keyB bs) ∧ Bys W W.heap.size A4 (sumB bs) ∧ Bys W W.heap.size A bs ∧ Tab W 0 from fun W hW => ⟨(YC.out W hW).2.2.2.2.1, (YC.out W hW).2.2.2.2.2, (YC.out W hW).2.1, (YC.out W hW).1⟩)
    clear YC OK
    generalize cntN bs = n at *
    generalize limN bs = m at *
    generalize keyB bs = k at *
    generalize sumB bs = s at *
    go_wp2_with fail
    refine C6.out.mono ?_
    rintro en w' ⟨rfl, rfl⟩
    go_wp2_with fail
    refine C7.out.mono ?_
    rintro en w' ⟨rfl, rfl⟩
    go_wp2_with fail
    refine C8.out.mono ?_
    rintro en w6 ⟨rfl, hg6⟩
    obtain ⟨N, hN⟩ : ∃ N, N = w6.heap.size := ⟨_, rfl⟩
    obtain ⟨w7, hw7⟩ : ∃ w7, w7 = w6.alloc (.cells (ra 0 (zs 32) (zs 32)) 27) := ⟨_, rfl⟩
    have n7 : HV w7 N (rc 0 (zs 32) (zs 32)) := by rw [hw7, hN]; exact HV.new w6 27 (rc 0 (zs 32) (zs 32))
    have g7 : Gr w5 w7 := hw7 ▸ hg6.alloc _
    obtain ⟨wr, hwr⟩ : ∃ wr, wr = w7.setCells N 0 (rc (n : Int) k s) := ⟨_, rfl⟩
    have nr : HV wr N (rc (n : Int) k s) := by rw [hwr]; exact HV.putV n7 (by rw [length_rc T2.out, length_rc two_zs])
    have gr : Gr w5 wr := hwr ▸ Gr.setCells (by rw [hN]; exact hg6.size) _ _ _ g7
    have T7 := Lib.hid (HV.there65 n7 two_zs)
    have br := B5.out.trans (gr.below.mono B5.out.size)
    obtain ⟨y3, y4, y0, yt⟩ := YK.out wr br
    have E := Lib.hid (show EndB w g N n m k s bs A A3 A4 wr from ⟨br, yt, HS5.out.below gr.below, nr, y0, y3, y4⟩)
    have HW7 := Lib.hid hw7.symm
    have HWR := Lib.hid hwr.symm
    have HN := Lib.hid hN.symm
    have h2 := T2.out
    have sl := fun W : World => sliceAll key32 W N 1
    have sm := fun W : World => sliceAll key32 W N 33
    clear hw7 n7 g7 hwr nr gr br y3 y4 y0 yt hN hg6 YK HS5 B5 C6 C7 C8
    go_wp2_with (first | (with_reducible refine Arr.alloc (t := 27) _ zRoot ?_; rw [HW7.out, HN.out]) | (with_reducible refine storeR N _ _ _ h2 T7.out rfl rfl ?_; rw [HWR.out]) | fail)
    clear T7 HW7 HWR HN
    refine wp_region_L [] 35 #[false, false, false, false, false, false, false, false, false, false, false, false, false, false, false, false, false, false, false, false, false, false, false, false, false, false, false, false, false, false, false, false, false, false, false] (by kernel_rfl) (by rfl) (by kernel_rfl) (by intro p hp; cases hp) (fun hHeld => ?_)
    have E0 := Lib.hid (E.out.later (below_drew (Below.refl wr.heap.size wr)))
    clear E
    generalize wr.drew = wd at *
    have hHeld2 := asked_none (w' := wd) hHeld
    clear hHeld; have hHeld := hHeld2; clear hHeld2
    refine wpAnyL_take (i := 0) (v := ?_) rfl (by kernel_rfl) (by kernel_rfl) (by kernel_rfl) (by rfl) (fun _ _ _ h => h) (Or.inl ⟨by rfl, ?_⟩) hHeld (fun hHeld2 => ?_)
    rotate_left
    · (intro wz hSw; go_simp; try with_reducible rfl)
    clear hHeld; have hHeld := hHeld2; clear hHeld2
    try simp only [List.getElem_toArray, List.getElem_cons_zero, List.getElem_cons_succ, Act.put, List.setIfInBounds_toArray, List.set_cons_zero, List.set_cons_succ]
    refine wpAnyL_take (i := 1) (v := ?_) rfl (by kernel_rfl) (by kernel_rfl) (by kernel_rfl) (by rfl) (fun _ _ _ h => h) (Or.inl ⟨by rfl, ?_⟩) hHeld (fun hHeld2 => ?_)
    rotate_left
    · (intro wz hSw; go_simp; try with_reducible rfl)
    clear hHeld; have hHeld := hHeld2; clear hHeld2
    try simp only [List.getElem_toArray, List.getElem_cons_zero, List.getElem_cons_succ, Act.put, List.setIfInBounds_toArray, List.set_cons_zero, List.set_cons_succ]
    refine wpAnyL_take (i := 2) (v := ?_) rfl (by kernel_rfl) (by kernel_rfl) (by kernel_rfl) (by rfl) (fun _ _ _ h => h) (Or.inl ⟨by rfl, ?_⟩) hHeld (fun hHeld2 => ?_)
    rotate_left
    · (intro wz hSw; go_simp; try with_reducible rfl)
    clear hHeld; have hHeld := hHeld2; clear hHeld2
    try simp only [List.getElem_toArray, List.getElem_cons_zero, List.getElem_cons_succ, Act.put, List.setIfInBounds_toArray, List.set_cons_zero, List.set_cons_succ]
    refine wpAnyL_take (i := 3) (v := ?_) rfl (by kernel_rfl) (by kernel_rfl) (by kernel_rfl) (by rfl) (fun _ _ _ h => h) (Or.inl ⟨by rfl, ?_⟩) hHeld (fun hHeld2 => ?_)
    rotate_left
    · (intro wz hSw; go_simp; try with_reducible rfl)
    clear hHeld; have hHeld := hHeld2; clear hHeld2
    try simp only [List.getElem_toArray, List.getElem_cons_zero, List.getElem_cons_succ, Act.put, List.setIfInBounds_toArray, List.set_cons_zero, List.set_cons_succ]
    refine wpAnyL_take (i := 5) (v := ?_) rfl (by kernel_rfl) (by kernel_rfl) (by kernel_rfl) (by rfl) (fun _ _ _ h => h) (Or.inl ⟨by rfl, ?_⟩) hHeld (fun hHeld2 => ?_)
    rotate_left
    · (intro wz hSw; go_simp; try with_reducible rfl)
    clear hHeld; have hHeld := hHeld2; clear hHeld2
    try simp only [List.getElem_toArray, List.getElem_cons_zero, List.getElem_cons_succ, Act.put, List.setIfInBounds_toArray, List.set_cons_zero, List.set_cons_succ]
    have C1 := Lib.hid (anlimit_any E0.out.slt)
    refine wpAnyL_oneW (i := 4) (by kernel_rfl) rfl (by rfl) hHeld (fun K hK => ?_)
    go_simp
    refine C1.out.mono ?_
    rintro en w' ⟨rfl, rfl⟩
    refine hK.out _ _ (by intro p hp; cases hp) (fun hHeld2 => ?_)
    clear hHeld hK K ; have hHeld := hHeld2; clear hHeld2
    try simp only [List.getElem_toArray, List.getElem_cons_zero, List.getElem_cons_succ, Act.put, List.setIfInBounds_toArray, List.set_cons_zero, List.set_cons_succ]
    refine wpAnyL_take (i := 6) (v := ?_) rfl (by kernel_rfl) (by kernel_rfl) (by kernel_rfl) (by rfl) (fun _ _ _ h => h) (Or.inl ⟨by rfl, ?_⟩) hHeld (fun hHeld2 => ?_)
    rotate_left
    · (intro wz hSw; go_simp; try with_reducible rfl)
    clear hHeld; have hHeld := hHeld2; clear hHeld2
    try simp only [List.getElem_toArray, List.getElem_cons_zero, List.getElem_cons_succ, Act.put, List.setIfInBounds_toArray, List.set_cons_zero, List.set_cons_succ]
    refine wpAnyL_take (i := 7) (v := ?_) rfl (by kernel_rfl) (by kernel_rfl) (by kernel_rfl) (by rfl) (fun _ _ _ h => h) (Or.inl ⟨by rfl, ?_⟩) hHeld (fun hHeld2 => ?_)
    rotate_left
    · (intro wz hSw; go_simp; try with_reducible rfl)
    clear hHeld; have hHeld := hHeld2; clear hHeld2
    try simp only [List.getElem_toArray, List.getElem_cons_zero, List.getElem_cons_succ, Act.put, List.setIfInBounds_toArray, List.set_cons_zero, List.set_cons_succ]
    refine wpAnyL_take (i := 8) (v := ?_) rfl (by kernel_rfl) (by kernel_rfl) (by kernel_rfl) (by rfl) (fun _ _ _ h => h) (Or.inl ⟨by rfl, ?_⟩) hHeld (fun hHeld2 => ?_)
    rotate_left
    · (intro wz hSw; go_simp; try with_reducible rfl)
    clear hHeld; have hHeld := hHeld2; clear hHeld2
    try simp only [List.getElem_toArray, List.getElem_cons_zero, List.getElem_cons_succ, Act.put, List.setIfInBounds_toArray, List.set_cons_zero, List.set_cons_succ]
    refine wpAnyL_take (i := 9) (v := ?_) rfl (by kernel_rfl) (by kernel_rfl) (by kernel_rfl) (by rfl) (fun _ _ _ h => h) (Or.inl ⟨by rfl, ?_⟩) hHeld (fun hHeld2 => ?_)
    rotate_left
    · (intro wz hSw; go_simp; try with_reducible rfl)
    clear hHeld; have hHeld := hHeld2; clear hHeld2
    try simp only [List.getElem_toArray, List.getElem_cons_zero, List.getElem_cons_succ, Act.put, List.setIfInBounds_toArray, List.set_cons_zero, List.set_cons_succ]
    refine wpAnyL_take (i := 11) (v := ?_) rfl (by kernel_rfl) (by kernel_rfl) (by kernel_rfl) (by rfl) (fun _ _ _ h => h) (Or.inl ⟨by rfl, ?_⟩) hHeld (fun hHeld2 => ?_)
    rotate_left
    · (intro wz hSw; go_simp; try with_reducible rfl)
    clear hHeld; have hHeld := hHeld2; clear hHeld2
    try simp only [List.getElem_toArray, List.getElem_cons_zero, List.getElem_cons_succ, Act.put, List.setIfInBounds_toArray, List.set_cons_zero, List.set_cons_succ]
    have c0 := E0.out.root.cell 0 _ rfl
    refine wpAnyL_oneW (i := 10) (by kernel_rfl) rfl (by rfl) hHeld (fun K hK => ?_)
    go_simp
    refine hK.out _ _ (by intro p hp; cases hp) (fun hHeld2 => ?_)
    clear hHeld hK K ; have hHeld := hHeld2; clear hHeld2
    try simp only [List.getElem_toArray, List.getElem_cons_zero, List.getElem_cons_succ, Act.put, List.setIfInBounds_toArray, List.set_cons_zero, List.set_cons_succ]
    clear c0 C1
    refine wpAnyL_take (i := 12) (v := ?_) rfl (by kernel_rfl) (by kernel_rfl) (by kernel_rfl) (by rfl) (fun _ _ _ h => h) (Or.inl ⟨by rfl, ?_⟩) hHeld (fun hHeld2 => ?_)
    rotate_left
    · (intro wz hSw; go_simp; try with_reducible rfl)
    clear hHeld; have hHeld := hHeld2; clear hHeld2
    try simp only [List.getElem_toArray, List.getElem_cons_zero, List.getElem_cons_succ, Act.put, List.setIfInBounds_toArray, List.set_cons_zero, List.set_cons_succ]
    refine wpAnyL_take (i := 13) (v := ?_) rfl (by kernel_rfl) (by kernel_rfl) (by kernel_rfl) (by rfl) (fun _ _ _ h => h) (Or.inl ⟨by rfl, ?_⟩) hHeld (fun hHeld2 => ?_)
    rotate_left
    · (intro wz hSw; go_simp; try with_reducible rfl)
    clear hHeld; have hHeld := hHeld2; clear hHeld2
    try simp only [List.getElem_toArray, List.getElem_cons_zero, List.getElem_cons_succ, Act.put, List.setIfInBounds_toArray, List.set_cons_zero, List.set_cons_succ]
    refine wpAnyL_take (i := 14) (v := ?_) rfl (by kernel_rfl) (by kernel_rfl) (by kernel_rfl) (by rfl) (fun _ _ _ h => h) (Or.inl ⟨by rfl, ?_⟩) hHeld (fun hHeld2 => ?_)
    rotate_left
    · (intro wz hSw; go_simp; try with_reducible rfl)
    clear hHeld; have hHeld := hHeld2; clear hHeld2
    try simp only [List.getElem_toArray, List.getElem_cons_zero, List.getElem_cons_succ, Act.put, List.setIfInBounds_toArray, List.set_cons_zero, List.set_cons_succ]
    refine wpAnyL_take (i := 15) (v := ?_) rfl (by kernel_rfl) (by kernel_rfl) (by kernel_rfl) (by rfl) (fun _ _ _ h => h) (Or.inl ⟨by rfl, ?_⟩) hHeld (fun hHeld2 => ?_)
    rotate_left
    · (intro wz hSw; go_simp; try with_reducible rfl)
    clear hHeld; have hHeld := hHeld2; clear hHeld2
    try simp only [List.getElem_toArray, List.getElem_cons_zero, List.getElem_cons_succ, Act.put, List.setIfInBounds_toArray, List.set_cons_zero, List.set_cons_succ]
    refine wpAnyL_take (i := 16) (v := ?_) rfl (by kernel_rfl) (by kernel_rfl) (by kernel_rfl) (by rfl) (fun _ _ _ h => h) (Or.inl ⟨by rfl, ?_⟩) hHeld (fun hHeld2 => ?_)
    rotate_left
    · (intro wz hSw; go_simp; try with_reducible rfl)
    clear hHeld; have hHeld := hHeld2; clear hHeld2
    try simp only [List.getElem_toArray, List.getElem_cons_zero, List.getElem_cons_succ, Act.put, List.setIfInBounds_toArray, List.set_cons_zero, List.set_cons_succ]
    refine wpAnyL_take (i := 17) (v := ?_) rfl (by kernel_rfl) (by kernel_rfl) (by kernel_rfl) (by rfl) (fun _ _ _ h => h) (Or.inl ⟨by rfl, ?_⟩) hHeld (fun hHeld2 => ?_)
    rotate_left
    · (intro wz hSw; go_simp; try with_reducible rfl)
    clear hHeld; have hHeld := hHeld2; clear hHeld2
    try simp only [List.getElem_toArray, List.getElem_cons_zero, List.getElem_cons_succ, Act.put, List.setIfInBounds_toArray, List.set_cons_zero, List.set_cons_succ]
    refine wpAnyL_take (i := 18) (v := ?_) rfl (by kernel_rfl) (by kernel_rfl) (by kernel_rfl) (by rfl) (fun _ _ _ h => h) (Or.inl ⟨by rfl, ?_⟩) hHeld (fun hHeld2 => ?_)
    rotate_left
    · (intro wz hSw; go_simp; try with_reducible rfl)
    clear hHeld; have hHeld := hHeld2; clear hHeld2
    try simp only [List.getElem_toArray, List.getElem_cons_zero, List.getElem_cons_succ, Act.put, List.setIfInBounds_toArray, List.set_cons_zero, List.set_cons_succ]
    have C2 := Lib.hid (same_any2 (some ⟨N, 1, none⟩) A3 k k 32 32 32 c3 wd T2.out.k T2.out.k (by omega) (N + 1) wd.heap.size (HV.keyB E0.out.root HKB.out) (E0.out.b3))
    rw [show decide (k = k) = true from decide_eq_true rfl] at C2
    refine wpAnyL_oneW (i := 19) (by kernel_rfl) rfl (by rfl) hHeld (fun K hK => ?_)
    go_simp
    refine C2.out.mono ?_
    rintro en w1 ⟨q1, rfl, rfl⟩
    have E1 := Lib.hid (E0.out.later (below_drewN_self wd q1))
    clear C2 E0
    refine hK.out _ _ (by intro p hp; cases hp) (fun hHeld2 => ?_)
    clear hHeld hK K ; have hHeld := hHeld2; clear hHeld2
    try simp only [List.getElem_toArray, List.getElem_cons_zero, List.getElem_cons_succ, Act.put, List.setIfInBounds_toArray, List.set_cons_zero, List.set_cons_succ]
    generalize wd.drewN q1 = w1 at *
    have hHeld2 := asked_none (w' := w1) hHeld
    clear hHeld; have hHeld := hHeld2; clear hHeld2
    refine wpAnyL_take (i := 20) (v := ?_) rfl (by kernel_rfl) (by kernel_rfl) (by kernel_rfl) (by rfl) (fun _ _ _ h => h) (Or.inl ⟨by rfl, ?_⟩) hHeld (fun hHeld2 => ?_)
    rotate_left
    · (intro wz hSw; go_simp; try with_reducible rfl)
    clear hHeld; have hHeld := hHeld2; clear hHeld2
    try simp only [List.getElem_toArray, List.getElem_cons_zero, List.getElem_cons_succ, Act.put, List.setIfInBounds_toArray, List.set_cons_zero, List.set_cons_succ]
    refine wpAnyL_take (i := 21) (v := ?_) rfl (by kernel_rfl) (by kernel_rfl) (by kernel_rfl) (by rfl) (fun _ _ _ h => h) (Or.inl ⟨by rfl, ?_⟩) hHeld (fun hHeld2 => ?_)
    rotate_left
    · (intro wz hSw; go_simp; try with_reducible rfl)
    clear hHeld; have hHeld := hHeld2; clear hHeld2
    try simp only [List.getElem_toArray, List.getElem_cons_zero, List.getElem_cons_succ, Act.put, List.setIfInBounds_toArray, List.set_cons_zero, List.set_cons_succ]
    refine wpAnyL_take (i := 22) (v := ?_) rfl (by kernel_rfl) (by kernel_rfl) (by kernel_rfl) (by rfl) (fun _ _ _ h => h) (Or.inl ⟨by rfl, ?_⟩) hHeld (fun hHeld2 => ?_)
    rotate_left
    · (intro wz hSw; go_simp; try with_reducible rfl)
    clear hHeld; have hHeld := hHeld2; clear hHeld2
    try simp only [List.getElem_toArray, List.getElem_cons_zero, List.getElem_cons_succ, Act.put, List.setIfInBounds_toArray, List.set_cons_zero, List.set_cons_succ]
    refine wpAnyL_take (i := 23) (v := ?_) rfl (by kernel_rfl) (by kernel_rfl) (by kernel_rfl) (by rfl) (fun _ _ _ h => h) (Or.inl ⟨by rfl, ?_⟩) hHeld (fun hHeld2 => ?_)
    rotate_left
    · (intro wz hSw; go_simp; try with_reducible rfl)
    clear hHeld; have hHeld := hHeld2; clear hHeld2
    try simp only [List.getElem_toArray, List.getElem_cons_zero, List.getElem_cons_succ, Act.put, List.setIfInBounds_toArray, List.set_cons_zero, List.set_cons_succ]
    refine wpAnyL_take (i := 24) (v := ?_) rfl (by kernel_rfl) (by kernel_rfl) (by kernel_rfl) (by rfl) (fun _ _ _ h => h) (Or.inl ⟨by rfl, ?_⟩) hHeld (fun hHeld2 => ?_)
    rotate_left
    · (intro wz hSw; go_simp; try with_reducible rfl)
    clear hHeld; have hHeld := hHeld2; clear hHeld2
    try simp only [List.getElem_toArray, List.getElem_cons_zero, List.getElem_cons_succ, Act.put, List.setIfInBounds_toArray, List.set_cons_zero, List.set_cons_succ]
    refine wpAnyL_take (i := 25) (v := ?_) rfl (by kernel_rfl) (by kernel_rfl) (by kernel_rfl) (by rfl) (fun _ _ _ h => h) (Or.inl ⟨by rfl, ?_⟩) hHeld (fun hHeld2 => ?_)
    rotate_left
    · (intro wz hSw; go_simp; try with_reducible rfl)
    clear hHeld; have hHeld := hHeld2; clear hHeld2
    try simp only [List.getElem_toArray, List.getElem_cons_zero, List.getElem_cons_succ, Act.put, List.setIfInBounds_toArray, List.set_cons_zero, List.set_cons_succ]
    have C3 := Lib.hid (same_any2 (some ⟨N, 33, none⟩) A4 s s 32 32 32 c4 w1 T2.out.s T2.out.s (by omega) (N + 1) w1.heap.size (HV.sumB E1.out.root T2.out HSB.out) (E1.out.b4))
    rw [show decide (s = s) = true from decide_eq_true rfl] at C3
    refine wpAnyL_oneW (i := 26) (by kernel_rfl) rfl (by rfl) hHeld (fun K hK => ?_)
    go_simp
    refine C3.out.mono ?_
    rintro en w2 ⟨q2, rfl, rfl⟩
    have E2 := Lib.hid (E1.out.later (below_drewN_self w1 q2))
    clear C3 E1
    refine hK.out _ _ (by intro p hp; cases hp) (fun hHeld2 => ?_)
    clear hHeld hK K ; have hHeld := hHeld2; clear hHeld2
    try simp only [List.getElem_toArray, List.getElem_cons_zero, List.getElem_cons_succ, Act.put, List.setIfInBounds_toArray, List.set_cons_zero, List.set_cons_succ]
    generalize w1.drewN q2 = w2 at *
    have hHeld2 := asked_none (w' := w2) hHeld
    clear hHeld; have hHeld := hHeld2; clear hHeld2
    refine wpAnyL_take (i := 27) (v := ?_) rfl (by kernel_rfl) (by kernel_rfl) (by kernel_rfl) (by rfl) (fun _ _ _ h => h) (Or.inl ⟨by rfl, ?_⟩) hHeld (fun hHeld2 => ?_)
    rotate_left
    · (intro wz hSw; go_simp; try with_reducible rfl)
    clear hHeld; have hHeld := hHeld2; clear hHeld2
    try simp only [List.getElem_toArray, List.getElem_cons_zero, List.getElem_cons_succ, Act.put, List.setIfInBounds_toArray, List.set_cons_zero, List.set_cons_succ]
    refine wpAnyL_take (i := 28) (v := ?_) rfl (by kernel_rfl) (by kernel_rfl) (by kernel_rfl) (by rfl) (fun _ _ _ h => h) (Or.inl ⟨by rfl, ?_⟩) hHeld (fun hHeld2 => ?_)
    rotate_left
    · (intro wz hSw; go_simp; try with_reducible rfl)
    clear hHeld; have hHeld := hHeld2; clear hHeld2
    try simp only [List.getElem_toArray, List.getElem_cons_zero, List.getElem_cons_succ, Act.put, List.setIfInBounds_toArray, List.set_cons_zero, List.set_cons_succ]
    refine wpAnyL_take (i := 29) (v := ?_) rfl (by kernel_rfl) (by kernel_rfl) (by kernel_rfl) (by rfl) (fun _ _ _ h => h) (Or.inl ⟨by rfl, ?_⟩) hHeld (fun hHeld2 => ?_)
    rotate_left
    · (intro wz hSw; go_simp; try with_reducible rfl)
    clear hHeld; have hHeld := hHeld2; clear hHeld2
    try simp only [List.getElem_toArray, List.getElem_cons_zero, List.getElem_cons_succ, Act.put, List.setIfInBounds_toArray, List.set_cons_zero, List.set_cons_succ]
    refine wpAnyL_take (i := 31) (v := ?_) rfl (by kernel_rfl) (by kernel_rfl) (by kernel_rfl) (by rfl) (fun _ _ _ h => h) (Or.inl ⟨by rfl, ?_⟩) hHeld (fun hHeld2 => ?_)
    rotate_left
    · (intro wz hSw; go_simp; try with_reducible rfl)
    clear hHeld; have hHeld := hHeld2; clear hHeld2
    try simp only [List.getElem_toArray, List.getElem_cons_zero, List.getElem_cons_succ, Act.put, List.setIfInBounds_toArray, List.set_cons_zero, List.set_cons_succ]
    have C4 := Lib.hid (anbytes_any E2.out.slt HN40.out HM40.out HKB.out HSB.out E2.out.tab)
    rw [HEB.out] at C4
    refine wpAnyL_oneW (i := 30) (by kernel_rfl) rfl (by rfl) hHeld (fun K hK => ?_)
    go_simp
    refine C4.out.mono ?_
    rintro en w3 ⟨v, rfl, hv, hb3⟩
    obtain ⟨A5, c5, rfl, _, _, hb5, _⟩ := hv
    rw [HL.out]
    have E3 := Lib.hid (E2.out.later hb3)
    have C5 := Lib.hid (same_any2 A5 A bs bs 80 80 c5 c w3 HL.out HL.out (by omega) w3.heap.size w3.heap.size hb5 E3.out.b0)
    rw [show decide (bs = bs) = true from decide_eq_true rfl] at C5
    clear C4 E2 hb5 hb3
    refine hK.out _ _ (by intro p hp; cases hp) (fun hHeld2 => ?_)
    clear hHeld hK K ; have hHeld := hHeld2; clear hHeld2
    try simp only [List.getElem_toArray, List.getElem_cons_zero, List.getElem_cons_succ, Act.put, List.setIfInBounds_toArray, List.set_cons_zero, List.set_cons_succ]
    have hHeld2 := asked_none (w' := w3) hHeld
    clear hHeld; have hHeld := hHeld2; clear hHeld2
    refine wpAnyL_oneW (i := 32) (by kernel_rfl) rfl (by rfl) hHeld (fun K hK => ?_)
    go_simp
    refine C5.out.mono ?_
    rintro en w4 ⟨q4, rfl, rfl⟩
    have E4 := Lib.hid (E3.out.later (below_drewN_self w3 q4))
    clear C5 E3
    refine hK.out _ _ (by intro p hp; cases hp) (fun hHeld2 => ?_)
    clear hHeld hK K ; have hHeld := hHeld2; clear hHeld2
    try simp only [List.getElem_toArray, List.getElem_cons_zero, List.getElem_cons_succ, Act.put, List.setIfInBounds_toArray, List.set_cons_zero, List.set_cons_succ]
    generalize w3.drewN q4 = w4 at *
    have hHeld2 := asked_none (w' := w4) hHeld
    clear hHeld; have hHeld := hHeld2; clear hHeld2
    refine wpAnyL_take (i := 33) (v := ?_) rfl (by kernel_rfl) (by kernel_rfl) (by kernel_rfl) (by rfl) (fun _ _ _ h => h) (Or.inl ⟨by rfl, ?_⟩) hHeld (fun hHeld2 => ?_)
    rotate_left
    · (intro wz hSw; go_simp; try with_reducible rfl)
    clear hHeld; have hHeld := hHeld2; clear hHeld2
    try simp only [List.getElem_toArray, List.getElem_cons_zero, List.getElem_cons_succ, Act.put, List.setIfInBounds_toArray, List.set_cons_zero, List.set_cons_succ]
    refine wpAnyL_take (i := 34) (v := ?_) rfl (by kernel_rfl) (by kernel_rfl) (by kernel_rfl) (by rfl) (fun _ _ _ h => h) (Or.inl ⟨by rfl, ?_⟩) hHeld (fun hHeld2 => ?_)
    rotate_left
    · (intro wz hSw; go_simp; try with_reducible rfl)
    clear hHeld; have hHeld := hHeld2; clear hHeld2
    try simp only [List.getElem_toArray, List.getElem_cons_zero, List.getElem_cons_succ, Act.put, List.setIfInBounds_toArray, List.set_cons_zero, List.set_cons_succ]
    refine wpAnyL_done (by kernel_rfl) ?_ _
    go_wp2
    go_ret
    exact ⟨rfl, E4.out.bel⟩
  · have GB := Lib.hid (bsget_bad hok)
    have NOK := Lib.hid hok
    have L1 : (bs.take 8).length = 8 := by rw [List.length_take]; have := HL.out; omega
    have L2 : ((bs.drop 8).take 8).length = 8 := by rw [List.length_take, List.length_drop]; have := HL.out; omega
    have HL1 := Lib.hid L1
    have HL2 := Lib.hid L2
    clear hok L1 L2
    go_wp2_with fail
    refine C5.out.mono ?_
    rintro en w5 (⟨hno, _⟩ | ⟨_, rfl, hb5⟩)
    · exact absurd hno NOK.out
    have B5 := Lib.hid (B4.out.trans (hb5.mono B4.out.size))
    have C6 := Lib.hid (rget_any A1 8 c (bs.take 8) HL1.out w5 w5.heap.size (YC.out w5 B5.out).2.2.1)
    have C7 := Lib.hid (rget_any A2 8 c2 ((bs.drop 8).take 8) HL2.out w5 w5.heap.size (YC.out w5 B5.out).2.2.2.1)
    clear hb5 C5 YC NOK
    generalize getN (bs.take 8) = n1 at *
    generalize getE (bs.take 8) = e1 at *
    generalize getN ((bs.drop 8).take 8) = n2 at *
    generalize getE ((bs.drop 8).take 8) = e2 at *
    go_wp2_with fail
    refine C6.out.mono ?_
    rintro en w' ⟨rfl, rfl⟩
    go_wp2_with fail
    refine C7.out.mono ?_
    rintro en w' ⟨rfl, rfl⟩
    by_cases h1 : e1 = 0
    · subst h1
      by_cases h2 : e2 = 0
      · subst h2
        by_cases h3 : 1099511627776 < n2
        · have t1 : decide ((1099511627776 : Int) < (n2 : Int)) = true := decide_eq_true (by omega)
          go_wp2
          go_ret
          exact ⟨rfl, B5.out⟩
        · have t1 : decide ((1099511627776 : Int) < (n2 : Int)) = false := decide_eq_false (by omega)
          have t2 : decide (n2 < n1) = true := decide_eq_true (by have := GB.out; omega)
          go_wp2
          go_ret
          exact ⟨rfl, B5.out⟩
      · have t1 : ((e2 : Int) != 0) = true := by simpa using h2
        go_wp2
        go_ret
        exact ⟨rfl, B5.out⟩
    · have t1 : ((e1 : Int) != 0) = true := by simpa using h1
      go_wp2
      go_ret
      exact ⟨rfl, B5.out⟩
end Go.Proofs.YtoeboblkboillaaDoor
