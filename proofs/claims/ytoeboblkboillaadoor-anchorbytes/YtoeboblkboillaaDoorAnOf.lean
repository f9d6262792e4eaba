/-
  Contract of anchor's Of. Conditions: the bytes lie in memory; the table of widths stands in its variable.
-/
import Derived.Test.YtoeboblkboillaaDoorAnNum
import Derived.Test.YtoeboblkboillaaDoorAnFns
import Derived.Test.YtoeboblkboillaaDoorAnAwake
import Derived.Test.YtoeboblkboillaaDoorFdRead
import Derived.Laws.Cover3
namespace Go.Proofs.YtoeboblkboillaaDoor
open Go.RowKit Arr Go.Sort Fld

/-- A stretch of memory is read as an array, in a head that only reads. -/
theorem stillLoadAt {P : Program} {t e : TypeId} {n : Nat} {k : IntKind} {ops : Array Oper} {rest : List Oper} {dst : Option Tmp} {ty : TypeId} {pos : String} {after : Array Edge} {x : Operand} {a : Act} {w : World} {Q : Act → Prop} (o : Of P t e n k) (g i : Nat) (l : List Nat) (hl : l.length = n) (hb : w.rangeAt g i (nv k l))
    (hx : a.eval x = .pointer (some ⟨g, i, none⟩)) (h : wpStill P ops w Q rest (a.put dst (.agg (na k l)))) : wpStill P ops w Q ({ dst := dst, op := .load t x, type := ty, pos := pos, after := after, guard := none } :: rest) a := by
  refine wpStill_step fun K hK => ?_
  have hw : Region.wanted { dst := dst, op := .load t x, type := ty, pos := pos, after := after, guard := none } (yielded ops a.tmps) = true := rfl
  rw [if_pos hw]
  unfold Oper.still execOp
  simp only [hx, Instr.loadAt, Instr.sureAddr, Sem.run_bind, Sem.run_pure, Result.andThen_ok, run_loadVar_mid w g i t (nv k l) _ hb o.hu rfl (by rw [length_nv, hl]; exact o.hi)]
  rw [Oper.stillUpon_value]
  exact hK _ h
/-- Where bytes lie that a call gave. -/
theorem LiesF.row {w : World} {lo n : Nat} {v : Value} {bs : List Nat} (h : LiesF w lo v bs) (hl : bs.length = n) (h0 : 0 < n) : ∃ b off c, v = .slice (some ⟨b, off, none⟩) n c ∧ lo ≤ b ∧ b < w.heap.size ∧ w.rangeAt b off (nv .u8 bs) := by
  obtain ⟨A, c, h1, h2, h3, h4, h5⟩ := h
  subst hl
  obtain ⟨b, off, rfl, h6, h7⟩ := h4.2 h0
  refine ⟨b, off, c, h1, h5 b rfl, h6, fun j v hv => ?_⟩
  have hj : j < bs.length := by
    have := (List.getElem?_eq_some_iff.1 hv).1
    rwa [length_nv] at this
  rw [nv_get _ _ _ hj] at hv
  cases hv
  exact h7 j hj
set_option maxRecDepth 100000 in
theorem anof_end (w : World) (A : Option Addr) (n c : Nat) (hn : n < 80) : Calls Tryd.prog 10 #[.slice A n c] w fun en w' => en = .returned (.tuple #[.pointer none, .int .i64 10]) ∧ w = w' := by
  have t1 : decide ((n : Int) < 80) = true := decide_eq_true (by omega)
  go_enter Tryd.func10, Tryd.ntmps10
  go_wp2
  go_ret2
  exact ⟨rfl, rfl⟩
set_option maxRecDepth 100000 in
theorem anof_extra (w : World) (A : Option Addr) (n c : Nat) (hn : 80 < n) : Calls Tryd.prog 10 #[.slice A n c] w fun en w' => en = .returned (.tuple #[.pointer none, .int .i64 13]) ∧ w = w' := by
  have t1 : decide ((n : Int) < 80) = false := decide_eq_false (by omega)
  have t2 : decide ((n : Int) > 80) = true := decide_eq_true (by omega)
  go_enter Tryd.func10, Tryd.ntmps10
  go_wp2
  go_ret2
  exact ⟨rfl, rfl⟩
/-- What makes bytes a slot's. -/
def okB (bs : List Nat) : Prop := cntN bs ≤ limN bs ∧ limN bs ≤ 1099511627776
/-- What Of leaves. -/
def OfP (bs : List Nat) (w : World) (en : Ending) (w' : World) : Prop :=
  (okB bs ∧ ∃ v, en = .returned (.tuple #[v, .int .i64 0]) ∧ MadeP (cntN bs) (keyB bs) (sumB bs) (limN bs) w v w') ∨ (¬ okB bs ∧ BelP (.tuple #[.pointer none, .int .i64 11]) w en w')
set_option maxRecDepth 100000 in
set_option maxHeartbeats 4000000 in
theorem anof_any (w : World) (A : Option Addr) (c : Nat) (bs : List Nat) (hl : bs.length = 80) (hb : Bys w w.heap.size A bs) (ht : Tab w 0) :
    Calls Tryd.prog 10 #[.slice A 80 c] w (OfP bs w) := by
  have mixed : Tryd.prog.follows .mixedOrders = true := by kernel_rfl
  have C1 := Lib.hid (read_any A 80 c bs hl (by omega) w w.heap.size (Nat.le_refl _) hb)
  have HT := Lib.hid ht
  have HL := Lib.hid hl
  clear hl hb ht
  go_enter Tryd.func10, Tryd.ntmps10
  go_wp2_with fail
  refine C1.out.mono ?_
  rintro en w1 ⟨g, rfl, hg, r1, b1⟩
  have C2 := Lib.hid (show Calls Tryd.prog 19 #[.pointer (some ⟨g, 0, none⟩), .int .i64 8, .int .i64 1099511627776] w1 (RNum g (aA1 bs) (aS1 bs) w1) from rnumber_any r1 8 1099511627776 (HT.out.below b1 HT.out.lt))
  have B1 := Lib.hid b1
  have HG := Lib.hid hg
  clear r1 b1 hg C1
  go_wp2_with fail
  refine C2.out.mono ?_
  rintro en w2 ⟨rfl, r2, o2⟩
  have B2 := Lib.hid (B1.out.trans (o2.below HG.out B1.out.size))
  have C3 := Lib.hid (show Calls Tryd.prog 19 #[.pointer (some ⟨g, 0, none⟩), .int .i64 8, .int .i64 1099511627776] w2 (RNum g (aA2 bs) (aS2 bs) w2) from rnumber_any r2 8 1099511627776 (HT.out.below B2.out HT.out.lt))
  clear r2 o2 C2 B1
  go_wp2_with fail
  refine C3.out.mono ?_
  rintro en w3 ⟨rfl, r3, o3⟩
  have B3 := Lib.hid (B2.out.trans (o3.below HG.out B2.out.size))
  have C4 := Lib.hid (show Calls Tryd.prog 20 #[.pointer (some ⟨g, 0, none⟩), .int .i64 32] w3 (RBys g (aA3 bs) (aS3 bs) w3) from rfixed_any r3 32)
  have LT3 := Lib.hid r3.lt
  clear r3 o3 C3 B2
  go_wp2_with fail
  refine C4.out.mono ?_
  rintro en w4 ⟨u, rfl, k4, r4, o4⟩
  have B4 := Lib.hid (B3.out.trans (o4.below HG.out B3.out.size))
  have C5 := Lib.hid (show Calls Tryd.prog 20 #[.pointer (some ⟨g, 0, none⟩), .int .i64 32] w4 (RBys g (aA4 bs) (aS4 bs) w4) from rfixed_any r4 32)
  have K4 := Lib.hid k4
  clear k4 r4 o4 C4
  go_wp2_with fail
  refine C5.out.mono ?_
  rintro en w5 ⟨u', rfl, k5, r5, o5⟩
  have B5 := Lib.hid (B4.out.trans (o5.below HG.out B4.out.size))
  have K5 := Lib.hid k5
  have KK := Lib.hid (K4.out.only o5 LT3.out)
  have C6 := Lib.hid (rdone_any r5)
  clear k5 r5 o5 C5 K4 B4 B3
  by_cases hd : okB bs
  · have hd' := hd
    obtain ⟨h1, h2⟩ := hd
    obtain ⟨e1, e2, e3, e4, e5⟩ := rd_good HL.out (Nat.le_trans h1 h2) h2
    have T2 := two_bs HL.out
    rw [e5] at C6
    rw [e1, e2]
    rw [e3] at KK
    rw [e4] at K5
    obtain ⟨ba, oa, ca, rfl, _, ka, ra⟩ := KK.out.row T2.k (by omega)
    obtain ⟨bb, ob, cb, rfl, _, kb, rb⟩ := K5.out.row T2.s (by omega)
    have HD := Lib.hid hd'
    have CS := Lib.hid (fun W => anslot_any W (cntN bs) (limN bs) (Nat.le_trans h1 h2) (keyB bs) (sumB bs) T2)
    have t1 : decide (limN bs < cntN bs) = false := decide_eq_false (by omega)
    have s1 := fun W : World => run_arrayAt (P := Tryd.prog) (w := W) 25 5 32 (some ⟨ba, oa, none⟩) 32 ca Tryd.underlying25 (by omega)
    have s2 := fun W : World => run_arrayAt (P := Tryd.prog) (w := W) 25 5 32 (some ⟨bb, ob, none⟩) 32 cb Tryd.underlying25 (by omega)
    have RA := Lib.hid ra
    have RB := Lib.hid rb
    have LK := Lib.hid T2.k
    have LS := Lib.hid T2.s
    have HP := Lib.hid (show ∀ W v W', Below w5.heap.size w5 W → MadeP (cntN bs) (keyB bs) (sumB bs) (limN bs) W v W' → OfP bs w (.returned (.tuple #[v, .int .i64 0])) W' from fun W v W' hb hm => by
      obtain ⟨gg, h1, h2, h3, h4⟩ := hm
      have hw := B5.out.trans (hb.mono B5.out.size)
      exact .inl ⟨HD.out, v, rfl, gg, h1, Nat.le_trans hw.size h2, h3, hw.trans (h4.mono hw.size)⟩)
    clear ra rb KK K5 e1 e2 e3 e4 e5 h1 h2 hd' HD B5
    generalize cntN bs = n at *
    generalize limN bs = m at *
    generalize keyB bs = k at *
    generalize sumB bs = s at *
    go_wp2_with fail
    refine C6.out.mono ?_
    rintro en w6 ⟨rfl, q, hq⟩
    have B6 := Lib.hid (show Below w5.heap.size w5 w6 by rw [hq]; exact below_drewN_self _ _)
    clear hq C6
    go_wp2_with fail
    refine region_tail 9 (by kernel_rfl) (by kernel_rfl) ?_
    intro wd hwd
    have B7 := Lib.hid (show Below w5.heap.size w5 wd by rw [hwd]; exact below_drew B6.out)
    have L1 := Lib.hid (show wd.rangeAt ba oa (nv .u8 k) from fun j v hv => (B7.out.cell (p := ⟨ba, oa + j, none⟩) ka).trans (RA.out j v hv))
    have L2 := Lib.hid (show wd.rangeAt bb ob (nv .u8 s) from fun j v hv => (B7.out.cell (p := ⟨bb, ob + j, none⟩) kb).trans (RB.out j v hv))
    clear hwd B6
    simp only [List.take_succ_cons, List.take_zero, List.drop_succ_cons, List.drop_zero]
    repeat (first | (with_reducible refine stillLoadAt key32 ba oa k LK.out L1.out rfl ?_) | (with_reducible refine stillLoadAt key32 bb ob s LS.out L2.out rfl ?_) | (with_reducible refine stillR3 _ k s T2 rfl rfl rfl ?_) | still_step)
    refine wpStill_nil ?_
    go_wp2_with fail
    refine (CS.out wd).mono ?_
    rintro en w8 ⟨v, rfl, hm⟩
    have HE := Lib.hid (HP.out _ _ _ B7.out hm)
    clear hm HP CS
    go_wp2
    go_ret2
    exact HE.out
  · by_cases h3 : cntN bs ≤ 1099511627776 ∧ limN bs ≤ 1099511627776
    · obtain ⟨e1, e2, e3, e4, e5⟩ := rd_good HL.out h3.1 h3.2
      rw [e5] at C6
      rw [e1, e2]
      have t1 : decide (limN bs < cntN bs) = true := decide_eq_true (by unfold okB at hd; omega)
      have HD := Lib.hid hd
      clear hd h3 e1 e2 e3 e4 e5 KK K5
      generalize cntN bs = n at *
      generalize limN bs = m at *
      go_wp2_with fail
      refine C6.out.mono ?_
      rintro en w6 ⟨rfl, q, hq⟩
      have HE := Lib.hid (show OfP bs w (.returned (.tuple #[.pointer none, .int .i64 11])) w6 from .inr ⟨HD.out, rfl, B5.out.trans (by rw [hq]; exact (below_drewN_self _ _).mono B5.out.size)⟩)
      clear hq C6
      go_wp2
      go_ret2
      exact HE.out
    · have e5 := rd_bad HL.out h3
      have t1 : ((doneE (aS4 bs) : Nat) : Int) ≠ 0 := by omega
      have HD := Lib.hid hd
      clear hd h3 KK K5
      generalize doneE (aS4 bs) = x at *
      generalize aA1 bs = n at *
      generalize aA2 bs = m at *
      have t2 : ((x : Int) != 0) = true := by simpa using t1
      go_wp2_with fail
      refine C6.out.mono ?_
      rintro en w6 ⟨rfl, q, hq⟩
      have HE := Lib.hid (show OfP bs w (.returned (.tuple #[.pointer none, .int .i64 11])) w6 from .inr ⟨HD.out, rfl, B5.out.trans (by rw [hq]; exact (below_drewN_self _ _).mono B5.out.size)⟩)
      clear hq C6
      go_wp2
      go_ret2
      exact HE.out
end Go.Proofs.YtoeboblkboillaaDoor
