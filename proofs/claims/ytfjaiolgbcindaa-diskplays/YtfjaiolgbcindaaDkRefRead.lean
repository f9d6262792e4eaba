/-
  Contract of the reference's Read; one write more, in memory. Conditions: the disk lies in memory as its calls leave it; its steps are fewer than 2^32; the bytes lie below what is its own.
-/
import Derived.Test.YtfjaiolgbcindaaDkRefFlush
namespace Go.Proofs.Ytfjaiolgbcindaa
open Go.RowKit Arr Dsk
set_option linter.unusedSimpArgs false

/-- append of one element, as a run. -/
theorem app1_run {w : World} {t e ty : TypeId} {z : Value} {bytes : Nat} (ht : Try.prog.underlying t = some (.slice e)) (hinfo : (Try.prog.info? e).map (fun i => (i.zero, i.size, i.bytes)) = some (some z, 1, bytes)) (hz : z.cells.size = 1) (hb : bytes ≤ 64) {v : Value} {n : Nat} {xs : List Value} (hrow : w.ownsRow 0 e 1 v n xs) (hn : n ≤ 4294967295) (x : Value) (hx : x.oneCell' = true) :
    ∃ v' w4, (Builtin.append_ #[t, t] ty #[v, .slice (some ⟨w.heap.size, 0, none⟩) 1 1]).run Try.prog (w.alloc (.cells #[x] e)) = .ok v' w4 ∧ w4.ownsRow 0 e 1 v' (n + 1) (xs ++ [x]) ∧ (w.alloc (.cells #[x] e)).grownBy w4 v.ownBlock ∧ (v'.ownBlock = v.ownBlock ∨ v'.ownBlock = some (w.heap.size + 1)) := by
  obtain ⟨i0, hi, hz0, hz1, hz2⟩ := info_parts hinfo
  have hlast := heap_alloc_last w (.cells #[x] e)
  have hmul : (n + 1) * bytes ≤ 4294967296 * 64 := Nat.mul_le_mul (by omega) hb
  obtain ⟨v', w4, h1, h2, h3, _, h5⟩ := run_append_own_at (P := Try.prog) (w.alloc (.cells #[x] e)) 0 t ty e i0 z 1 bytes ht hi hz0 hz1 hz2 hz (by decide) v n xs (hrow.alloc _) ⟨w.heap.size, 0, none⟩ 1 1 [x] rfl
    (fun j u hu => by
      match j, hu with
      | 0, hu => simp only [List.getElem?_cons_zero, Option.some.injEq] at hu; subst hu; rw [add_nat, cell_of_row _ _ _ _ _ _ hlast]; rfl
      | j + 1, hu => simp at hu)
    (by intro u hu; rw [List.mem_singleton] at hu; subst hu; exact hx) (by unfold maxLen; omega) (by omega) (Nat.zero_le _)
  rw [World.size_alloc] at h5
  exact ⟨v', w4, h1, h2, h3, h5⟩
theorem info_int : (Try.prog.info? 3).map (fun i => (i.zero, i.size, i.bytes)) = some (some (.int .i64 0), 1, 8) := by kernel_rfl
section
variable {w : World} {g B : Nat} {ρ : Nat → Nat} {r : St}
/-- What Read of the reference leaves. -/
def RReadP (q : List Nat × Nat) (w : World) (en : Ending) (w' : World) : Prop := ∃ A c, en = .returned (.tuple #[.slice A q.1.length c, .int .i64 (q.2 : Int)]) ∧ Bys w w.heap.size A q.1 ∧ w' = w
set_option maxHeartbeats 2000000 in
theorem rread_any (h : Rdk w g B ρ r) (i : Int) (hm : r.waits.length ≤ 4294967296) : Calls Try.prog 25 #[.pointer (some ⟨g, 0, none⟩), .int .i64 i] w (RReadP (r.read i) w) := by
  have hwf := h.wf
  obtain ⟨vk, va, vb, ps, qs, KA, kc, h⟩ := h
  obtain ⟨kb, ck, AA, ca, AB, cb, rfl, rfl, rfl, hp1, hq1⟩ := h.form
  have c4 := h.c4
  have c0 := h.c0
  rw [hp1] at c0
  by_cases hon : r.on = true
  · have hr : r.ready = 0 := by unfold St.ready; rw [if_pos hon]
    have c4' : w.cell? ⟨g, 4, none⟩ = some (.bool false) := by rw [c4, hon]; rfl
    by_cases hneg : i < 0
    · have t1 : decide (i < 0) = true := by simp; exact hneg
      have e1 : r.read i = ([], 41) := by
        unfold St.read
        rw [if_neg (by omega), if_neg (fun hh => by have := (has_iff r i).1 hh; omega)]
      rw [e1]
      clear h hwf c4
      go_enter Try.func25, Try.ntmps25
      go_wp2
      go_ret2
      exact ⟨none, 0, rfl, Bys.nil _ _ _, rfl⟩
    · have t1 : decide (i < 0) = false := by simp; omega
      by_cases hge : i ≥ (r.n : Int)
      · have t2 : decide (i ≥ (r.n : Int)) = true := by simp; omega
        have e1 : r.read i = ([], 41) := by
          unfold St.read
          rw [if_neg (by omega), if_neg (fun hh => by have := (has_iff r i).1 hh; omega)]
        rw [e1]
        clear h hwf c4
        generalize r.n = rn at *
        go_enter Try.func25, Try.ntmps25
        go_wp2
        go_ret2
        exact ⟨none, 0, rfl, Bys.nil _ _ _, rfl⟩
      · have t2 : decide (i ≥ (r.n : Int)) = false := by simp; omega
        obtain ⟨si, rfl⟩ : ∃ si : Nat, i = (si : Int) := ⟨i.toNat, by omega⟩
        have hsi : si < r.n := by omega
        have hsi' : (si : Int) < (r.n : Int) := by omega
        have e1 : r.read (si : Int) = (r.last si, 0) := by
          unfold St.read
          rw [if_neg (by omega), if_pos ((has_iff r _).2 ⟨by omega, by omega⟩), Int.toNat_natCast]
        rw [e1]
        have hps : si < ps.length := by omega
        obtain ⟨kb2, ekb, qk, _⟩ := sl_at h.rowK rfl si hps
        simp only [Option.some.injEq, Addr.mk.injEq, and_true] at ekb
        subst ekb
        have HX0 := Lib.hid (And.intro (h.bK ps[si] (List.getElem_mem hps)).2.2.bys (show ps[si].bs = lastOf (r.waits.take 0) si (r.kept.getD si []) from by
          have := congrArg (fun l => l[si]?) h.eK
          simp only [List.getElem?_map, List.getElem?_eq_getElem hps, Option.map_some] at this
          show ps[si].bs = r.kept.getD si []
          rw [List.getD_eq_getElem?_getD, ← this]; rfl))
        have HD := Lib.hid h
        have HQ1 := Lib.hid hq1
        obtain ⟨N, hN⟩ : ∃ N, N = r.waits.length := ⟨_, rfl⟩
        have HN := Lib.hid hN
        have hmN : N ≤ 4294967296 := by rw [hN]; exact hm
        have c2 := h.c2
        have c3 := h.c3
        rw [← hN] at c2
        rw [hq1, ← hN] at c3
        clear h hwf c4 hN hm hq1 e1
        generalize ps[si] = x at *
        clear hps
        obtain ⟨x3, x4, ys⟩ := x
        simp only [Sl.v] at qk
        simp only at HX0
        go_enter Try.func25, Try.ntmps25
        go_wp2
        go_loopw [6, 7] (fun bv iv wr => ∃ (k : Nat) (x : Sl), k ≤ N ∧ iv = .int .i64 k ∧ bv = .slice x.A x.bs.length x.c ∧ Bys w w.heap.size x.A x.bs ∧ x.bs = lastOf (r.waits.take k) si (r.kept.getD si []) ∧ w = wr) (fun _ iv _ => N - (intOf iv).toNat)
        case atStart => exact ⟨0, ⟨x3, x4, ys⟩, Nat.zero_le _, rfl, rfl, HX0.out.1, HX0.out.2, rfl⟩
        case round =>
          obtain ⟨k, x, hk, rfl, rfl, hb, hl, rfl⟩ := hrel
          have HB := Lib.hid hb
          have HL := Lib.hid hl
          have wk : IntKind.i64.wrap ((k : Int) + 1) = (k : Int) + 1 := by rw [IntKind.wrap_i64]; omega
          by_cases hlt : k < N
          · have t3 : decide ((k : Int) < (N : Int)) = true := by simp; omega
            have hkw : k < r.waits.length := by rw [← HN.out]; exact hlt
            have hkq : k < qs.length := by rw [HQ1.out]; exact hkw
            obtain ⟨ab, rfl, qa⟩ := int_at HD.out.rowA rfl k hkw
            obtain ⟨bb, rfl, qb, _⟩ := sl_at HD.out.rowB rfl k hkq
            have ebs : (r.waits[k]).2 = qs[k].bs := by
              have h1 := congrArg (fun l => l[k]?) HD.out.eB
              simp only [List.getElem?_map, List.getElem?_eq_getElem hkq, List.getElem?_eq_getElem hkw, Option.map_some, Option.some.injEq] at h1
              exact h1.symm
            have HTK := Lib.hid (show lastOf (r.waits.take (k + 1)) si (r.kept.getD si []) = if (r.waits[k]).1 = si then qs[k].bs else lastOf (r.waits.take k) si (r.kept.getD si []) from by
              rw [List.take_succ_eq_append_getElem hkw, lastOf_append, ← ebs]; rfl)
            have HX := Lib.hid (HD.out.bB qs[k] (List.getElem_mem hkq)).2.2.bys
            clear ebs hb hl
            generalize (r.waits[k]).1 = x0 at *
            generalize qs[k] = y at *
            obtain ⟨y3, y4, yb⟩ := y
            obtain ⟨z3, z4, zb⟩ := x
            simp only [Sl.v] at qb
            simp only at HB HL HX HTK
            by_cases hx : x0 = si
            · have t4 : ((x0 : Int) == (si : Int)) = true := by simp [hx]
              have HF := Lib.hid (show yb = lastOf (r.waits.take (k + 1)) si (r.kept.getD si []) from by rw [HTK.out, if_pos hx])
              clear hx
              go_wp2
              go_roundw
              case rel => exact ⟨k + 1, ⟨y3, y4, yb⟩, by omega, by go_num, rfl, HX.out, HF.out, trivial⟩
              case measure => simp [intOf]; omega
            · have t4 : ((x0 : Int) == (si : Int)) = false := by simp; omega
              have HF := Lib.hid (show zb = lastOf (r.waits.take (k + 1)) si (r.kept.getD si []) from by rw [HTK.out, if_neg hx]; exact HL.out)
              clear hx
              go_wp2
              go_roundw
              case rel => exact ⟨k + 1, ⟨z3, z4, zb⟩, by omega, by go_num, rfl, HB.out, HF.out, trivial⟩
              case measure => simp [intOf]; omega
          · obtain rfl : k = N := by omega
            have t3 : decide ((k : Int) < (k : Int)) = false := by simp
            have HF := Lib.hid (show RReadP (r.last si, 0) w (.returned (.tuple #[.slice x.A x.bs.length x.c, .int .i64 0])) w from by
              rw [List.take_of_length_le (by rw [← HN.out]; exact Nat.le_refl _)] at hl
              have e : x.bs = r.last si := hl
              exact ⟨x.A, x.c, by rw [e]; rfl, by rw [← e]; exact hb, rfl⟩)
            clear hb hl HB HL
            go_wp2
            go_ret2
            exact HF.out
  · have hr : r.ready = 40 := by unfold St.ready; rw [if_neg hon]
    have e1 : r.read i = ([], 40) := by unfold St.read; rw [if_pos (by omega), hr]
    rw [e1]
    have hf : r.on = false := by simpa using hon
    have c4' : w.cell? ⟨g, 4, none⟩ = some (.bool true) := by rw [c4, hf]; rfl
    clear h hwf c4 hon hf
    go_enter Try.func25, Try.ntmps25
    go_wp2
    go_ret2
    exact ⟨none, 0, rfl, Bys.nil _ _ _, rfl⟩

/-- One write more, in memory. -/
theorem RdkV.added {vk va vb : Value} {ps qs : List Sl} {KA : Option Addr} {kc : Nat} (h : RdkV w g B ρ r vk va vb ps qs KA kc) (hB : B ≤ w.heap.size) {w3 w6 : World} {va' vb' : Value} (i : Nat) (x : Sl) {o o' : Obj}
    (hgA : (w.alloc o).grownBy w3 va.ownBlock) (hA : w3.ownsRow 0 3 1 va' (r.waits.length + 1) ((r.waits.map fun p => Value.int .i64 (p.1 : Int)) ++ [.int .i64 (i : Int)])) (hatA : va'.ownBlock = va.ownBlock ∨ va'.ownBlock = some (w.heap.size + 1))
    (hgB : (((w3.setCell ⟨g, 2, none⟩ va').alloc o')).grownBy w6 vb.ownBlock) (hBr : w6.ownsRow 0 32 1 vb' (qs.length + 1) (qs.map Sl.v ++ [x.v])) (hatB : vb'.ownBlock = vb.ownBlock ∨ vb'.ownBlock = some ((w3.setCell ⟨g, 2, none⟩ va').heap.size + 1))
    (hx : x.bs.length ≤ x.c ∧ (x.A = none → x.c = 0) ∧ ByL w (fun k => k < B) x.A x.bs) (hw : Wf (r.add i x.bs)) :
    ∃ ρ', RdkV (w6.setCell ⟨g, 3, none⟩ vb') g B ρ' (r.add i x.bs) vk va' vb' ps (qs ++ [x]) KA kc ∧ Touch (wr4 ρ) w (w6.setCell ⟨g, 3, none⟩ vb') ∧ ∀ k, k < w.heap.size → ρ' k = ρ k := by
  have hgl := h.gl
  have hs1 : (w.alloc o).heap.size = w.heap.size + 1 := by simp
  have hs3 := hgA.size
  have hs4 : (w3.setCell ⟨g, 2, none⟩ va').heap.size = w3.heap.size := by simp
  have hs5 : ((w3.setCell ⟨g, 2, none⟩ va').alloc o').heap.size = w3.heap.size + 1 := by simp
  have hs6 := hgB.size
  rw [hs4] at hatB
  have T3 : Touch (fun k => ρ k = 3) w w3 := (Touch.of (fun k => ρ k = 3) (below_alloc w o)).grown hgA (fun k hk => .inl (h.kA k hk))
  have T4 : Touch (fun k => ρ k = 3 ∨ ρ k = 1 ∨ ρ k = 4) w (w3.setCell ⟨g, 2, none⟩ va') := (T3.more (F' := fun k => ρ k = 3 ∨ ρ k = 1 ∨ ρ k = 4) (fun k e => .inl e)).setCell (b := g) (.inl (.inr (.inl h.own))) 2 va'
  have T6 : Touch (fun k => ρ k = 3 ∨ ρ k = 1 ∨ ρ k = 4) w w6 := (T4.alloc o').grown hgB (fun k hk => .inl (.inr (.inr (h.kB k hk))))
  have T7 : Touch (fun k => ρ k = 3 ∨ ρ k = 1 ∨ ρ k = 4) w (w6.setCell ⟨g, 3, none⟩ vb') := T6.setCell (b := g) (.inl (.inr (.inl h.own))) 3 vb'
  obtain ⟨ρ', hρ⟩ : ∃ ρ' : Nat → Nat, ρ' = fun k => if k < w.heap.size then ρ k else if va'.ownBlock = some k then 3 else if vb'.ownBlock = some k then 4 else 0 := ⟨_, rfl⟩
  have hold : ∀ k, k < w.heap.size → ρ' k = ρ k := fun k hk => by rw [hρ]; simp only [if_pos hk]
  have hAl := hA.lt
  have hBl := hBr.lt
  have hkA : ∀ k, va'.ownBlock = some k → ρ' k = 3 := fun k hk => by
    by_cases hkw : k < w.heap.size
    · rw [hold k hkw]
      rcases hatA with h1 | h1
      · rw [h1] at hk; exact h.kA k hk
      · rw [h1] at hk; simp only [Option.some.injEq] at hk; omega
    · rw [hρ]; simp only [if_neg hkw, if_pos hk]
  have hAB : ∀ k, va'.ownBlock = some k → w.heap.size ≤ k → vb'.ownBlock ≠ some k := fun k hk hkw e => by
    rcases hatA with h1 | h1
    · rw [h1] at hk; have := h.lt k (by rw [h.kA k hk]; omega); omega
    · rw [h1] at hk
      simp only [Option.some.injEq] at hk
      rcases hatB with h2 | h2
      · rw [h2] at e; have := h.lt k (by rw [h.kB k e]; omega); omega
      · rw [h2] at e; simp only [Option.some.injEq] at e; have := (hAl k (by rw [h1, hk])).2; omega
  have hkB : ∀ k, vb'.ownBlock = some k → ρ' k = 4 := fun k hk => by
    by_cases hkw : k < w.heap.size
    · rw [hold k hkw]
      rcases hatB with h1 | h1
      · rw [h1] at hk; exact h.kB k hk
      · rw [h1] at hk; simp only [Option.some.injEq] at hk; omega
    · rw [hρ]; simp only [if_neg hkw, if_neg (fun e => hAB k e (by omega) hk), if_pos hk]
  have cT3 : ∀ j, w3.cell? ⟨g, j, none⟩ = w.cell? ⟨g, j, none⟩ := fun j => T3.cell (p := ⟨g, j, none⟩) hgl (by rw [h.own]; omega)
  have hg3 : g < w3.heap.size := by omega
  have nB : vb.ownBlock ≠ some g := fun e => by have := h.kB g e; rw [h.own] at this; omega
  have c6 : ∀ j, w6.cell? ⟨g, j, none⟩ = (w3.setCell ⟨g, 2, none⟩ va').cell? ⟨g, j, none⟩ := fun j => by
    have e1 := World.cell?_of_block (w := (w3.setCell ⟨g, 2, none⟩ va').alloc o') (a := ⟨g, j, none⟩) (hgB.block g (by omega) (fun e => nB e.symm))
    rw [e1]
    exact (below_alloc (w3.setCell ⟨g, 2, none⟩ va') o').cell (p := ⟨g, j, none⟩) (by show g < _; omega)
  have c : ∀ j, j ≠ 2 → j ≠ 3 → (w6.setCell ⟨g, 3, none⟩ vb').cell? ⟨g, j, none⟩ = w.cell? ⟨g, j, none⟩ := fun j h2 h3 => by
    rw [World.cell?_setCell_other _ _ _ _ (fun e => h3 (by simpa using (Addr.mk.inj e).2.1.symm)), c6, World.cell?_setCell_other _ _ _ _ (fun e => h2 (by simpa using (Addr.mk.inj e).2.1.symm)), cT3]
  have n5 : ∀ k, k < B ∨ ρ k = 5 → ¬ (ρ k = 3 ∨ ρ k = 1 ∨ ρ k = 4) := fun k e e2 => by
    rcases e with e | e
    · have := h.lo k (by omega); omega
    · omega
  have e5 : ∀ k, k < w.heap.size → (k < B ∨ ρ k = 5) → (k < B ∨ ρ' k = 5) := fun k hk e => e.imp id (fun e => (hold k hk).trans e)
  refine ⟨ρ', ⟨(hold g hgl).trans h.own, fun k hk => ?_, fun k hk => ?_, fun k hk => ?_, (c 0 (by omega) (by omega)).trans h.c0, (c 1 (by omega) (by omega)).trans h.c1, ?_, ?_, (c 4 (by omega) (by omega)).trans h.c4, (c 5 (by omega) (by omega)).trans h.c5, (c 6 (by omega) (by omega)).trans h.c6, (c 7 (by omega) (by omega)).trans h.c7, fun j => ?_, ?_, ?_, ?_, fun k hk => ?_, hkA, hkB, h.eK, ?_, ?_, ?_, ?_, hw⟩, T7.more (fun k e => by unfold wr4; omega), hold⟩
  · by_cases hkw : k < w.heap.size
    · rw [hold k hkw] at hk; exact h.one k hk
    · rw [hρ] at hk
      simp only [if_neg hkw] at hk
      split at hk
      · omega
      · split at hk <;> omega
  · rw [World.size_setCell]
    by_cases hkw : k < w.heap.size
    · omega
    · rw [hρ] at hk
      simp only [if_neg hkw] at hk
      split at hk
      · rename_i e; have := (hAl k e).2; omega
      · split at hk
        · rename_i e; exact (hBl k e).2
        · omega
  · by_cases hkw : k < w.heap.size
    · rw [hold k hkw] at hk; exact h.lo k hk
    · omega
  · rw [World.cell?_setCell_other _ _ _ _ (by simp), c6]
    exact World.cell?_setCell_same _ _ _ ((cT3 2).trans h.c2)
  · refine World.cell?_setCell_same _ _ _ (?_ : w6.cell? ⟨g, 3, none⟩ = some vb)
    rw [c6, World.cell?_setCell_other _ _ _ _ (by simp), cT3]; exact h.c3
  · rw [World.frozen?_setCell, World.frozen?_of_block (w := (w3.setCell ⟨g, 2, none⟩ va').alloc o') (a := ⟨g, j, none⟩) (hgB.block g (by omega) (fun e => nB e.symm)), (below_alloc (w3.setCell ⟨g, 2, none⟩ va') o').frozen (p := ⟨g, j, none⟩) (by show g < _; omega), World.frozen?_setCell, T3.frozen (p := ⟨g, j, none⟩) hgl (by rw [h.own]; omega)]
    exact h.free j
  · exact owns_touchN h.rowK T7 (fun b hb e => by have := h.kK b hb; omega)
  · have e1 : (r.add i x.bs).waits.length = r.waits.length + 1 := by show (r.waits ++ [(i, x.bs)]).length = _; simp
    have e2 : (r.add i x.bs).waits.map (fun p => Value.int .i64 (p.1 : Int)) = (r.waits.map fun p => Value.int .i64 (p.1 : Int)) ++ [.int .i64 (i : Int)] := by show (r.waits ++ [(i, x.bs)]).map _ = _; simp
    rw [e1, e2]
    have t : Touch (fun k => k = g ∨ vb.ownBlock = some k) w3 (w6.setCell ⟨g, 3, none⟩ vb') := (((((Touch.refl (fun k => k = g ∨ vb.ownBlock = some k) w3).setCell (b := g) (.inl (.inl rfl)) 2 va').alloc o').grown hgB (fun k hk => .inl (.inr hk)))).setCell (b := g) (.inl (.inl rfl)) 3 vb'
    refine owns_touchN hA t (fun b hb e => ?_)
    have h3 := hkA b hb
    rcases e with e | e
    · rw [e, hold g hgl, h.own] at h3; omega
    · have h4 := h.kB b e
      rw [hold b (h.lt b (by omega))] at h3; omega
  · have e1 : (qs ++ [x]).length = qs.length + 1 := by simp
    have e2 : (qs ++ [x]).map Sl.v = qs.map Sl.v ++ [x.v] := by simp
    rw [e1, e2]
    refine owns_touchN (F := fun k => k = g) hBr ((Touch.refl (fun k => k = g) w6).setCell (b := g) (.inl rfl) 3 vb') (fun b hb e => ?_)
    have h3 := hkB b hb
    rw [e, hold g hgl, h.own] at h3; omega
  · rw [hold k (h.lt k (by rw [h.kK k hk]; omega))]; exact h.kK k hk
  · show (qs ++ [x]).map Sl.bs = (r.waits ++ [(i, x.bs)]).map Prod.snd
    rw [List.map_append, List.map_append, h.eB]; rfl
  · exact slB_touch h.bK T7 n5 hold
  · intro y hy
    rcases List.mem_append.1 hy with hy | hy
    · exact slB_touch h.bB T7 n5 hold y hy
    · rw [List.mem_singleton] at hy; subst hy
      exact ⟨hx.1, hx.2.1, hx.2.2.touch T7 (fun k e => n5 k (.inl e)) (fun _ _ e => .inl e)⟩
  · exact h.keep.touch T7 (fun k e => n5 k (.inl e)) (fun _ _ e => e)

end
end Go.Proofs.Ytfjaiolgbcindaa
