/-
  FieldBack's closure: all items read, and held against what they are. Conditions: the items lie in their slice, whose head lies in the captured variable; the bytes lie in theirs; the table of widths stands in its variable. (Written by tools/gen_fdlawread.py.)
-/
import Derived.Test.YthnndklaefnpcaaDoorFdRead
import Derived.Test.YthnndklaefnpcaaDoorFdFew
import Derived.Test.YthnndklaefnpcaaDoorFdAwake
import Derived.Test.YthnndklaefnpcaaDoorHeldList
namespace Go.Proofs.YthnndklaefnpcaaDoor
open Go.RowKit Arr Fld
set_option linter.unusedSimpArgs false

theorem cntA_le (s : List Nat × Nat) (L : Nat) : (cntA s (L : Int)).length ≤ L := by
  unfold cntA
  split
  · unfold cntV
    split
    · rename_i h
      rw [List.length_take]
      unfold cntE at h
      split at h
      · rename_i h2; exact absurd h h2
      · split at h
        · cases h
        · split at h
          · cases h
          · rename_i h3
            have := Nat.min_le_left (num (s.1.take 2)) (s.1.drop 2).length
            omega
    · simp
  · simp
theorem fixA_le (s : List Nat × Nat) (L : Nat) : (fixA s (L : Int)).length ≤ L := by
  unfold fixA
  split
  · unfold fixV
    split
    · rw [List.length_take, Int.toNat_natCast]; exact Nat.min_le_left _ _
    · simp
  · simp

/-- What the closure leaves. -/
def ReadP (r : (List Nat × Nat) × Bool) (w : World) (en : Ending) (w' : World) : Prop := en = .returned (.tuple #[.int .i64 (doneE r.1 : Int), .bool r.2]) ∧ Below w.heap.size w w'
/-- What stands on the way. -/
structure RInv (w0 : World) (g : Nat) (s : List Nat × Nat) (w : World) : Prop where
  rd : Rd w g s
  lo : w0.heap.size ≤ g
  bel : Below w0.heap.size w0 w
theorem RInv.step {w0 w w5 : World} {g : Nat} {s s' : List Nat × Nat} (h : RInv w0 g s w) (h1 : Rd w5 g s') (h2 : Only g w w5) : RInv w0 g s' w5 := ⟨h1, h.lo, h.bel.trans (h2.below h.lo h.bel.size)⟩
theorem RInv.later {w0 w w' : World} {g : Nat} {s : List Nat × Nat} (h : RInv w0 g s w) (hb : Below w.heap.size w w') : RInv w0 g s w' := ⟨h.rd.below hb, h.lo, h.bel.trans (hb.mono h.bel.size)⟩
theorem Cell4.only {w w' : World} {b g : Nat} {x0 x1 x2 : Int} {v : Value} (h : Cell4 w b x0 x1 x2 v) (ho : Only g w w') (hn : b ≠ g) : Cell4 w' b x0 x1 x2 v := by
  have hl : b < w.heap.size := lt_of_cell h.1
  exact ⟨(ho.cell (p := ⟨b, 0, none⟩) hl hn).trans h.1, (ho.cell (p := ⟨b, 1, none⟩) hl hn).trans h.2.1, (ho.cell (p := ⟨b, 2, none⟩) hl hn).trans h.2.2.1, (ho.cell (p := ⟨b, 3, none⟩) hl hn).trans h.2.2.2⟩
theorem Cell4.drewN {w : World} {b : Nat} {x0 x1 x2 : Int} {v : Value} (h : Cell4 w b x0 x1 x2 v) (n : Nat) : Cell4 (w.drewN n) b x0 x1 x2 v := h

set_option maxRecDepth 10000 in
set_option maxHeartbeats 8000000 in
theorem read_walk (w : World) (gl : Nat) (Al : Option Addr) (N cl : Nat) (its : List It) (hN : its.length = N) (hcap : w.cell? ⟨gl, 0, none⟩ = some (.slice Al N cl)) (h : Items w w.heap.size Al its) (hf : Few its)
    (A : Option Addr) (n c : Nat) (xs : List Nat) (hl : xs.length = n) (hn : n ≤ 4294967296) (hb : Bys w w.heap.size A xs) (ht : Tab w 0) :
    Calls Tryd.prog 18 #[.slice A n c, .pointer (some ⟨gl, 0, none⟩)] w (ReadP (rAll its (xs, 0)) w) := by
  have HI := Lib.hid h
  have HN := Lib.hid hN
  have HT := Lib.hid ht
  have HF := Lib.hid hf
  have h30 : N ≤ 30 := by have := hf.1; omega
  have C := Lib.hid (read_any A n c xs hl hn w w.heap.size (Nat.le_refl _) hb)
  have HC := Lib.hid hcap
  have hgl := lt_of_cell hcap
  clear h hN ht hf hl hb hcap
  go_enter Tryd.func18, Tryd.ntmps18
  go_wp2_with fail
  refine C.out.mono ?_
  rintro en w1 ⟨g, rfl, hg, hR, hB1⟩
  have R0 := Lib.hid (show RInv w g (rAll (its.take 0) (xs, 0)).1 w1 from ⟨hR, hg, hB1⟩)
  have cl1 := (hB1.cell (p := ⟨gl, 0, none⟩) hgl).trans HC.out
  clear hR hg hB1 C HC
  go_wp2
  clear cl1
  go_loopw [6, 13] (fun gd i wr => ∃ k : Nat, k ≤ N ∧ i = .int .i64 k ∧ gd = .bool (rAll (its.take k) (xs, 0)).2 ∧ RInv w g (rAll (its.take k) (xs, 0)).1 wr) (fun _ i _ => N - (intOf i).toNat)
  case atStart => exact ⟨0, Nat.zero_le _, rfl, rfl, R0.out⟩
  case round =>
    clear R0
    obtain ⟨k, hk, rfl, rfl, hR⟩ := hrel
    by_cases hlt : k < N
    · have hki : k < its.length := by rw [HN.out]; exact hlt
      obtain ⟨b, off, rfl, hb, hc⟩ := (HI.out.below hR.bel).cells (by omega)
      obtain ⟨q0, q1, q2, q3⟩ := hc k hki
      obtain ⟨_, _, e3⟩ := HI.out.each k hki
      have t1 : decide ((k : Int) < (N : Int)) = true := by simp; omega
      have wk : IntKind.i64.wrap ((k : Int) + 1) = (k : Int) + 1 := by rw [IntKind.wrap_i64]; omega
      have HS := Lib.hid (rAll_succ its (xs, 0) k hki)
      have hb100 := HF.out.2 k hki
      have E3 := Lib.hid e3
      have HR := Lib.hid hR
      clear hc hR e3
      generalize its[k] = it at *
      obtain ⟨x0, x1, x2, ys, x3, x4⟩ := it
      simp only at q0 q1 q2 q3 hb100 E3
      obtain ⟨L, hL⟩ : ∃ L, L = ys.length := ⟨_, rfl⟩
      have HYL := Lib.hid hL
      rw [← hL] at q3 hb100
      clear hL
      generalize (rAll (its.take k) (xs, 0)).2 = bg at *
      generalize (rAll (its.take k) (xs, 0)).1 = s at *
      have RA := Lib.hid (HR.out.later (below_alloc wr (.cells #[.int .i64 x0, .int .i64 x1, .int .i64 x2, .slice x3 L x4] 44)))
      have CA := Lib.hid (Cell4.new wr x0 x1 x2 (.slice x3 L x4))
      have NE := Lib.hid (show wr.heap.size ≠ g by have := HR.out.rd.lt; omega)
      have TA := Lib.hid (HT.out.below RA.out.bel HT.out.lt)
      by_cases k1 : x0 = 1
      · subst k1
        have t3 : ((1 : Int) == 1) = true := rfl
        have FE : rput s ⟨1, x1, x2, ys, x3, x4⟩ = numS s x2 x1 := by unfold rput; exact if_pos rfl
        have FG : rgood s ⟨1, x1, x2, ys, x3, x4⟩ = decide ((numA s x2 x1 : Int) = x1) := by unfold rgood; exact if_pos rfl
        rw [FE, FG] at HS
        go_wp2
        have HWD0 : ∃ wd, (wr.alloc (.cells #[.int .i64 1, .int .i64 x1, .int .i64 x2, .slice x3 L x4] 44)).drew = wd := ⟨_, rfl⟩
        obtain ⟨wd, hwd⟩ := HWD0
        have HWD := Lib.hid hwd
        have CW : Go.RowKit.Hid (Cell4 wd wr.heap.size 1 x1 x2 (.slice x3 L x4)) := Lib.hid (by rw [← hwd]; exact CA.out.drewN 1)
        have RW : Go.RowKit.Hid (RInv w g s wd) := Lib.hid (by rw [← hwd]; exact RA.out.later (below_drewN_self _ 1))
        have TW : Tab wd 0 := by rw [← hwd]; exact TA.out
        have d1 := CW.out.2.1
        have d2 := CW.out.2.2.1
        have d3 := CW.out.2.2.2
        have C1 := Lib.hid (rnumber_any RW.out.rd x2 x1 TW)
        clear hwd TW CA RA FE FG q0 q1 q2 q3
        generalize numS s x2 x1 = s' at *
        generalize numA s x2 x1 = V at *
        by_cases hV : (V : Int) = x1
        · have tE : ((V : Int) == x1) = true := by simp [hV]
          have HG := Lib.hid (show Value.bool bg = .bool (decide ((V : Int) = x1) && bg) by rw [decide_eq_true hV, Bool.true_and])
          clear hV
          generalize hgi : wr.heap.size = gi at *
          clear hgi
          refine wp_region_L [(5, (fun w' => w' = wd)), (8, (fun w' => w'.cell? ⟨gi, 1, none⟩ = some (.int .i64 x1)))] 13 #[false, false, false, false, false, false, false, false, false, false, false, false, false] (by kernel_rfl) (by rfl) (by kernel_rfl) (by intro p hp; simp only [List.mem_cons, List.not_mem_nil, or_false] at hp; rcases hp with rfl | rfl; exact HWD.out; rw [HWD.out]; exact CW.out.2.1) (fun hHeld => ?_)
          rw [HWD.out] at hHeld ⊢
          refine wpAnyL_take (i := 0) (v := ?_) rfl (by kernel_rfl) (by kernel_rfl) (by kernel_rfl) (by rfl) (fun _ _ _ h => h) (Or.inl ⟨by rfl, ?_⟩) hHeld (fun hHeld2 => ?_)
          rotate_left
          · (intro wz hSw; go_simp; try with_reducible rfl)
          clear hHeld; have hHeld := hHeld2; clear hHeld2
          try simp only [List.getElem_toArray, List.getElem_cons_zero, List.getElem_cons_succ, Act.put, List.setIfInBounds_toArray, List.set_cons_zero, List.set_cons_succ]
          refine wpAnyL_take (i := 1) (v := ?_) rfl (by kernel_rfl) (by kernel_rfl) (by kernel_rfl) (by rfl) (fun _ _ _ h => h) (Or.inl ⟨by rfl, ?_⟩) hHeld (fun hHeld2 => ?_)
          rotate_left
          · (intro wz hSw; go_simp; try with_reducible rfl)
          clear hHeld; have hHeld := hHeld2; clear hHeld2
          try simp only [List.getElem_toArray, List.getElem_cons_zero, List.getElem_cons_succ, Act.put, List.setIfInBounds_toArray, List.set_cons_zero, List.set_cons_succ]
          refine wpAnyL_take (i := 2) (v := ?_) rfl (by kernel_rfl) (by kernel_rfl) (by kernel_rfl) (by rfl) (fun _ _ _ h => h) (Or.inl ⟨by rfl, ?_⟩) hHeld (fun hHeld2 => ?_)
          rotate_left
          · (intro wz hSw; have hq : wz = wd := hSw.get _ (List.Mem.head _) 2 (by kernel_rfl); subst hq; go_simp; try with_reducible rfl)
          clear hHeld; have hHeld := hHeld2; clear hHeld2
          try simp only [List.getElem_toArray, List.getElem_cons_zero, List.getElem_cons_succ, Act.put, List.setIfInBounds_toArray, List.set_cons_zero, List.set_cons_succ]
          refine wpAnyL_take (i := 3) (v := ?_) rfl (by kernel_rfl) (by kernel_rfl) (by kernel_rfl) (by rfl) (fun _ _ _ h => h) (Or.inl ⟨by rfl, ?_⟩) hHeld (fun hHeld2 => ?_)
          rotate_left
          · (intro wz hSw; go_simp; try with_reducible rfl)
          clear hHeld; have hHeld := hHeld2; clear hHeld2
          try simp only [List.getElem_toArray, List.getElem_cons_zero, List.getElem_cons_succ, Act.put, List.setIfInBounds_toArray, List.set_cons_zero, List.set_cons_succ]
          refine wpAnyL_take (i := 4) (v := ?_) rfl (by kernel_rfl) (by kernel_rfl) (by kernel_rfl) (by rfl) (fun _ _ _ h => h) (Or.inl ⟨by rfl, ?_⟩) hHeld (fun hHeld2 => ?_)
          rotate_left
          · (intro wz hSw; have hq : wz = wd := hSw.get _ (List.Mem.head _) 2 (by kernel_rfl); subst hq; go_simp; try with_reducible rfl)
          clear hHeld; have hHeld := hHeld2; clear hHeld2
          try simp only [List.getElem_toArray, List.getElem_cons_zero, List.getElem_cons_succ, Act.put, List.setIfInBounds_toArray, List.set_cons_zero, List.set_cons_succ]
          refine wpAnyL_take (i := 6) (v := ?_) rfl (by kernel_rfl) (by kernel_rfl) (by kernel_rfl) (by rfl) (fun _ _ _ h => h) (Or.inl ⟨by rfl, ?_⟩) hHeld (fun hHeld2 => ?_)
          rotate_left
          · (intro wz hSw; go_simp; try with_reducible rfl)
          clear hHeld; have hHeld := hHeld2; clear hHeld2
          try simp only [List.getElem_toArray, List.getElem_cons_zero, List.getElem_cons_succ, Act.put, List.setIfInBounds_toArray, List.set_cons_zero, List.set_cons_succ]
          refine wpAnyL_take (i := 7) (v := ?_) rfl (by kernel_rfl) (by kernel_rfl) (by kernel_rfl) (by rfl) (fun _ _ _ h => h) (Or.inl ⟨by rfl, ?_⟩) hHeld (fun hHeld2 => ?_)
          rotate_left
          · (intro wz hSw; have hq : wz.cell? ⟨gi, 1, none⟩ = some (.int .i64 x1) := hSw.get _ (List.Mem.tail _ (List.Mem.head _)) 1 (by kernel_rfl); go_simp; try with_reducible rfl)
          clear hHeld; have hHeld := hHeld2; clear hHeld2
          try simp only [List.getElem_toArray, List.getElem_cons_zero, List.getElem_cons_succ, Act.put, List.setIfInBounds_toArray, List.set_cons_zero, List.set_cons_succ]
          refine wpAnyL_one (i := 5) (by kernel_rfl) rfl rfl hHeld (fun K hK => ?_)
          go_simp
          refine C1.out.mono ?_
          rintro en w5 ⟨rfl, hR5, hO5⟩
          have c5 := CW.out.only hO5 NE.out
          have R5 := Lib.hid (RW.out.step hR5 hO5)
          have d5 := c5.2.1
          refine hK.out _ _ (by intro p hp hl; simp only [List.mem_cons, List.not_mem_nil, or_false] at hp; rcases hp with rfl | rfl; exact Bool.noConfusion (hl.symm.trans (show _ = true by kernel_rfl)); exact c5.2.1) (fun hHeld2 => ?_)
          clear hHeld hK K hR5 hO5; have hHeld := hHeld2; clear hHeld2
          try simp only [List.getElem_toArray, List.getElem_cons_zero, List.getElem_cons_succ, Act.put, List.setIfInBounds_toArray, List.set_cons_zero, List.set_cons_succ]
          refine wpAnyL_one (i := 8) (by kernel_rfl) rfl rfl hHeld (fun K hK => ?_)
          go_simp
          refine hK.out _ _ (by intro p hp hl; simp only [List.mem_cons, List.not_mem_nil, or_false] at hp; rcases hp with rfl | rfl <;> exact Bool.noConfusion (hl.symm.trans (show _ = true by kernel_rfl))) (fun hHeld2 => ?_)
          clear hHeld hK K ; have hHeld := hHeld2; clear hHeld2
          try simp only [List.getElem_toArray, List.getElem_cons_zero, List.getElem_cons_succ, Act.put, List.setIfInBounds_toArray, List.set_cons_zero, List.set_cons_succ]
          refine wpAnyL_take (i := 9) (v := ?_) rfl (by kernel_rfl) (by kernel_rfl) (by kernel_rfl) (by rfl) (fun _ _ _ h => h) (Or.inl ⟨by rfl, ?_⟩) hHeld (fun hHeld2 => ?_)
          rotate_left
          · (intro wz hSw; go_simp; try with_reducible rfl)
          clear hHeld; have hHeld := hHeld2; clear hHeld2
          try simp only [List.getElem_toArray, List.getElem_cons_zero, List.getElem_cons_succ, Act.put, List.setIfInBounds_toArray, List.set_cons_zero, List.set_cons_succ]
          refine wpAnyL_take (i := 10) (v := ?_) rfl (by kernel_rfl) (by kernel_rfl) (by kernel_rfl) (by rfl) (fun _ _ _ h => h) (Or.inl ⟨by rfl, ?_⟩) hHeld (fun hHeld2 => ?_)
          rotate_left
          · (intro wz hSw; go_simp; try with_reducible rfl)
          clear hHeld; have hHeld := hHeld2; clear hHeld2
          try simp only [List.getElem_toArray, List.getElem_cons_zero, List.getElem_cons_succ, Act.put, List.setIfInBounds_toArray, List.set_cons_zero, List.set_cons_succ]
          refine wpAnyL_take (i := 11) (v := ?_) rfl (by kernel_rfl) (by kernel_rfl) (by kernel_rfl) (by rfl) (fun _ _ _ h => h) (Or.inl ⟨by rfl, ?_⟩) hHeld (fun hHeld2 => ?_)
          rotate_left
          · (intro wz hSw; go_simp; try with_reducible rfl)
          clear hHeld; have hHeld := hHeld2; clear hHeld2
          try simp only [List.getElem_toArray, List.getElem_cons_zero, List.getElem_cons_succ, Act.put, List.setIfInBounds_toArray, List.set_cons_zero, List.set_cons_succ]
          refine wpAnyL_take (i := 12) (v := ?_) rfl (by kernel_rfl) (by kernel_rfl) (by kernel_rfl) (by rfl) (fun _ _ _ h => h) (Or.inl ⟨by rfl, ?_⟩) hHeld (fun hHeld2 => ?_)
          rotate_left
          · (intro wz hSw; go_simp; try with_reducible rfl)
          clear hHeld; have hHeld := hHeld2; clear hHeld2
          try simp only [List.getElem_toArray, List.getElem_cons_zero, List.getElem_cons_succ, Act.put, List.setIfInBounds_toArray, List.set_cons_zero, List.set_cons_succ]
          clear hHeld
          refine wpAnyL_done (by kernel_rfl) ?_ _
          go_wp2
          go_roundw
          case rel => exact ⟨k + 1, by omega, by go_num, by rw [HS.out]; exact HG.out, by rw [HS.out]; exact R5.out⟩
          case measure => simp [intOf]; omega
        · have tE : ((V : Int) == x1) = false := by simp [hV]
          have HG := Lib.hid (show Value.bool false = .bool (decide ((V : Int) = x1) && bg) by rw [decide_eq_false hV, Bool.false_and])
          clear hV
          generalize hgi : wr.heap.size = gi at *
          clear hgi
          refine wp_region_L [(5, (fun w' => w' = wd)), (8, (fun w' => w'.cell? ⟨gi, 1, none⟩ = some (.int .i64 x1)))] 13 #[false, false, false, false, false, false, false, false, false, false, false, false, false] (by kernel_rfl) (by rfl) (by kernel_rfl) (by intro p hp; simp only [List.mem_cons, List.not_mem_nil, or_false] at hp; rcases hp with rfl | rfl; exact HWD.out; rw [HWD.out]; exact CW.out.2.1) (fun hHeld => ?_)
          rw [HWD.out] at hHeld ⊢
          refine wpAnyL_take (i := 0) (v := ?_) rfl (by kernel_rfl) (by kernel_rfl) (by kernel_rfl) (by rfl) (fun _ _ _ h => h) (Or.inl ⟨by rfl, ?_⟩) hHeld (fun hHeld2 => ?_)
          rotate_left
          · (intro wz hSw; go_simp; try with_reducible rfl)
          clear hHeld; have hHeld := hHeld2; clear hHeld2
          try simp only [List.getElem_toArray, List.getElem_cons_zero, List.getElem_cons_succ, Act.put, List.setIfInBounds_toArray, List.set_cons_zero, List.set_cons_succ]
          refine wpAnyL_take (i := 1) (v := ?_) rfl (by kernel_rfl) (by kernel_rfl) (by kernel_rfl) (by rfl) (fun _ _ _ h => h) (Or.inl ⟨by rfl, ?_⟩) hHeld (fun hHeld2 => ?_)
          rotate_left
          · (intro wz hSw; go_simp; try with_reducible rfl)
          clear hHeld; have hHeld := hHeld2; clear hHeld2
          try simp only [List.getElem_toArray, List.getElem_cons_zero, List.getElem_cons_succ, Act.put, List.setIfInBounds_toArray, List.set_cons_zero, List.set_cons_succ]
          refine wpAnyL_take (i := 2) (v := ?_) rfl (by kernel_rfl) (by kernel_rfl) (by kernel_rfl) (by rfl) (fun _ _ _ h => h) (Or.inl ⟨by rfl, ?_⟩) hHeld (fun hHeld2 => ?_)
          rotate_left
          · (intro wz hSw; have hq : wz = wd := hSw.get _ (List.Mem.head _) 2 (by kernel_rfl); subst hq; go_simp; try with_reducible rfl)
          clear hHeld; have hHeld := hHeld2; clear hHeld2
          try simp only [List.getElem_toArray, List.getElem_cons_zero, List.getElem_cons_succ, Act.put, List.setIfInBounds_toArray, List.set_cons_zero, List.set_cons_succ]
          refine wpAnyL_take (i := 3) (v := ?_) rfl (by kernel_rfl) (by kernel_rfl) (by kernel_rfl) (by rfl) (fun _ _ _ h => h) (Or.inl ⟨by rfl, ?_⟩) hHeld (fun hHeld2 => ?_)
          rotate_left
          · (intro wz hSw; go_simp; try with_reducible rfl)
          clear hHeld; have hHeld := hHeld2; clear hHeld2
          try simp only [List.getElem_toArray, List.getElem_cons_zero, List.getElem_cons_succ, Act.put, List.setIfInBounds_toArray, List.set_cons_zero, List.set_cons_succ]
          refine wpAnyL_take (i := 4) (v := ?_) rfl (by kernel_rfl) (by kernel_rfl) (by kernel_rfl) (by rfl) (fun _ _ _ h => h) (Or.inl ⟨by rfl, ?_⟩) hHeld (fun hHeld2 => ?_)
          rotate_left
          · (intro wz hSw; have hq : wz = wd := hSw.get _ (List.Mem.head _) 2 (by kernel_rfl); subst hq; go_simp; try with_reducible rfl)
          clear hHeld; have hHeld := hHeld2; clear hHeld2
          try simp only [List.getElem_toArray, List.getElem_cons_zero, List.getElem_cons_succ, Act.put, List.setIfInBounds_toArray, List.set_cons_zero, List.set_cons_succ]
          refine wpAnyL_take (i := 6) (v := ?_) rfl (by kernel_rfl) (by kernel_rfl) (by kernel_rfl) (by rfl) (fun _ _ _ h => h) (Or.inl ⟨by rfl, ?_⟩) hHeld (fun hHeld2 => ?_)
          rotate_left
          · (intro wz hSw; go_simp; try with_reducible rfl)
          clear hHeld; have hHeld := hHeld2; clear hHeld2
          try simp only [List.getElem_toArray, List.getElem_cons_zero, List.getElem_cons_succ, Act.put, List.setIfInBounds_toArray, List.set_cons_zero, List.set_cons_succ]
          refine wpAnyL_take (i := 7) (v := ?_) rfl (by kernel_rfl) (by kernel_rfl) (by kernel_rfl) (by rfl) (fun _ _ _ h => h) (Or.inl ⟨by rfl, ?_⟩) hHeld (fun hHeld2 => ?_)
          rotate_left
          · (intro wz hSw; have hq : wz.cell? ⟨gi, 1, none⟩ = some (.int .i64 x1) := hSw.get _ (List.Mem.tail _ (List.Mem.head _)) 1 (by kernel_rfl); go_simp; try with_reducible rfl)
          clear hHeld; have hHeld := hHeld2; clear hHeld2
          try simp only [List.getElem_toArray, List.getElem_cons_zero, List.getElem_cons_succ, Act.put, List.setIfInBounds_toArray, List.set_cons_zero, List.set_cons_succ]
          refine wpAnyL_one (i := 5) (by kernel_rfl) rfl rfl hHeld (fun K hK => ?_)
          go_simp
          refine C1.out.mono ?_
          rintro en w5 ⟨rfl, hR5, hO5⟩
          have c5 := CW.out.only hO5 NE.out
          have R5 := Lib.hid (RW.out.step hR5 hO5)
          have d5 := c5.2.1
          refine hK.out _ _ (by intro p hp hl; simp only [List.mem_cons, List.not_mem_nil, or_false] at hp; rcases hp with rfl | rfl; exact Bool.noConfusion (hl.symm.trans (show _ = true by kernel_rfl)); exact c5.2.1) (fun hHeld2 => ?_)
          clear hHeld hK K hR5 hO5; have hHeld := hHeld2; clear hHeld2
          try simp only [List.getElem_toArray, List.getElem_cons_zero, List.getElem_cons_succ, Act.put, List.setIfInBounds_toArray, List.set_cons_zero, List.set_cons_succ]
          refine wpAnyL_one (i := 8) (by kernel_rfl) rfl rfl hHeld (fun K hK => ?_)
          go_simp
          refine hK.out _ _ (by intro p hp hl; simp only [List.mem_cons, List.not_mem_nil, or_false] at hp; rcases hp with rfl | rfl <;> exact Bool.noConfusion (hl.symm.trans (show _ = true by kernel_rfl))) (fun hHeld2 => ?_)
          clear hHeld hK K ; have hHeld := hHeld2; clear hHeld2
          try simp only [List.getElem_toArray, List.getElem_cons_zero, List.getElem_cons_succ, Act.put, List.setIfInBounds_toArray, List.set_cons_zero, List.set_cons_succ]
          refine wpAnyL_take (i := 9) (v := ?_) rfl (by kernel_rfl) (by kernel_rfl) (by kernel_rfl) (by rfl) (fun _ _ _ h => h) (Or.inl ⟨by rfl, ?_⟩) hHeld (fun hHeld2 => ?_)
          rotate_left
          · (intro wz hSw; go_simp; try with_reducible rfl)
          clear hHeld; have hHeld := hHeld2; clear hHeld2
          try simp only [List.getElem_toArray, List.getElem_cons_zero, List.getElem_cons_succ, Act.put, List.setIfInBounds_toArray, List.set_cons_zero, List.set_cons_succ]
          refine wpAnyL_take (i := 10) (v := undef) rfl (by kernel_rfl) (by kernel_rfl) (by kernel_rfl) (by rfl) (fun _ _ _ h => h) (Or.inr ⟨by rfl, rfl⟩) hHeld (fun hHeld2 => ?_)
          clear hHeld; have hHeld := hHeld2; clear hHeld2
          try simp only [List.getElem_toArray, List.getElem_cons_zero, List.getElem_cons_succ, Act.put, List.setIfInBounds_toArray, List.set_cons_zero, List.set_cons_succ]
          refine wpAnyL_take (i := 11) (v := ?_) rfl (by kernel_rfl) (by kernel_rfl) (by kernel_rfl) (by rfl) (fun _ _ _ h => h) (Or.inl ⟨by rfl, ?_⟩) hHeld (fun hHeld2 => ?_)
          rotate_left
          · (intro wz hSw; go_simp; try with_reducible rfl)
          clear hHeld; have hHeld := hHeld2; clear hHeld2
          try simp only [List.getElem_toArray, List.getElem_cons_zero, List.getElem_cons_succ, Act.put, List.setIfInBounds_toArray, List.set_cons_zero, List.set_cons_succ]
          refine wpAnyL_take (i := 12) (v := ?_) rfl (by kernel_rfl) (by kernel_rfl) (by kernel_rfl) (by rfl) (fun _ _ _ h => h) (Or.inl ⟨by rfl, ?_⟩) hHeld (fun hHeld2 => ?_)
          rotate_left
          · (intro wz hSw; go_simp; try with_reducible rfl)
          clear hHeld; have hHeld := hHeld2; clear hHeld2
          try simp only [List.getElem_toArray, List.getElem_cons_zero, List.getElem_cons_succ, Act.put, List.setIfInBounds_toArray, List.set_cons_zero, List.set_cons_succ]
          clear hHeld
          refine wpAnyL_done (by kernel_rfl) ?_ _
          go_wp2
          go_roundw
          case rel => exact ⟨k + 1, by omega, by go_num, by rw [HS.out]; exact HG.out, by rw [HS.out]; exact R5.out⟩
          case measure => simp [intOf]; omega
      · by_cases k2 : x0 = 2
        · subst k2
          have t3 : ((2 : Int) == 1) = false := rfl
          have t4 : ((2 : Int) == 2) = true := rfl
          have FE : rput s ⟨2, x1, x2, ys, x3, x4⟩ = cntS s (L : Int) := by rw [HYL.out]; unfold rput; rw [if_neg (show ¬ (2 : Int) = 1 by decide)]; exact if_pos rfl
          have FG : rgood s ⟨2, x1, x2, ys, x3, x4⟩ = decide (cntA s (L : Int) = ys) := by rw [HYL.out]; unfold rgood; rw [if_neg (show ¬ (2 : Int) = 1 by decide)]; exact if_pos rfl
          rw [FE, FG] at HS
          go_wp2
          have HWD0 : ∃ wd, (wr.alloc (.cells #[.int .i64 2, .int .i64 x1, .int .i64 x2, .slice x3 L x4] 44)).drew = wd := ⟨_, rfl⟩
          obtain ⟨wd, hwd⟩ := HWD0
          have HWD := Lib.hid hwd
          have CW : Go.RowKit.Hid (Cell4 wd wr.heap.size 2 x1 x2 (.slice x3 L x4)) := Lib.hid (by rw [← hwd]; exact CA.out.drewN 1)
          have RW : Go.RowKit.Hid (RInv w g s wd) := Lib.hid (by rw [← hwd]; exact RA.out.later (below_drewN_self _ 1))
          have TW : Tab wd 0 := by rw [← hwd]; exact TA.out
          have d1 := CW.out.2.1
          have d2 := CW.out.2.2.1
          have d3 := CW.out.2.2.2
          have C1 := Lib.hid (rbytes_any RW.out.rd (L : Int) TW)
          clear hwd TW CA RA FE FG q0 q1 q2 q3
          have HVL := Lib.hid (show (cntA s (L : Int)).length ≤ 1000000 from Nat.le_trans (cntA_le s L) (by omega))
          generalize cntS s (L : Int) = s' at *
          generalize cntA s (L : Int) = V at *
          by_cases hV : V = ys
          · have HV := Lib.hid (decide_eq_true hV)
            have HG := Lib.hid (show Value.bool bg = .bool (decide (V = ys) && bg) by rw [decide_eq_true hV, Bool.true_and])
            clear hV
            generalize hgi : wr.heap.size = gi at *
            clear hgi
            refine wp_region_L [(4, (fun w' => w' = wd)), (7, (fun w' => w'.cell? ⟨gi, 3, none⟩ = some (.slice x3 L x4)))] 12 #[false, false, false, false, false, false, false, false, false, false, false, false] (by kernel_rfl) (by rfl) (by kernel_rfl) (by intro p hp; simp only [List.mem_cons, List.not_mem_nil, or_false] at hp; rcases hp with rfl | rfl; exact HWD.out; rw [HWD.out]; exact CW.out.2.2.2) (fun hHeld => ?_)
            rw [HWD.out] at hHeld ⊢
            refine wpAnyL_take (i := 0) (v := ?_) rfl (by kernel_rfl) (by kernel_rfl) (by kernel_rfl) (by rfl) (fun _ _ _ h => h) (Or.inl ⟨by rfl, ?_⟩) hHeld (fun hHeld2 => ?_)
            rotate_left
            · (intro wz hSw; go_simp; try with_reducible rfl)
            clear hHeld; have hHeld := hHeld2; clear hHeld2
            try simp only [List.getElem_toArray, List.getElem_cons_zero, List.getElem_cons_succ, Act.put, List.setIfInBounds_toArray, List.set_cons_zero, List.set_cons_succ]
            refine wpAnyL_take (i := 1) (v := ?_) rfl (by kernel_rfl) (by kernel_rfl) (by kernel_rfl) (by rfl) (fun _ _ _ h => h) (Or.inl ⟨by rfl, ?_⟩) hHeld (fun hHeld2 => ?_)
            rotate_left
            · (intro wz hSw; go_simp; try with_reducible rfl)
            clear hHeld; have hHeld := hHeld2; clear hHeld2
            try simp only [List.getElem_toArray, List.getElem_cons_zero, List.getElem_cons_succ, Act.put, List.setIfInBounds_toArray, List.set_cons_zero, List.set_cons_succ]
            refine wpAnyL_take (i := 2) (v := ?_) rfl (by kernel_rfl) (by kernel_rfl) (by kernel_rfl) (by rfl) (fun _ _ _ h => h) (Or.inl ⟨by rfl, ?_⟩) hHeld (fun hHeld2 => ?_)
            rotate_left
            · (intro wz hSw; have hq : wz = wd := hSw.get _ (List.Mem.head _) 2 (by kernel_rfl); subst hq; go_simp; try with_reducible rfl)
            clear hHeld; have hHeld := hHeld2; clear hHeld2
            try simp only [List.getElem_toArray, List.getElem_cons_zero, List.getElem_cons_succ, Act.put, List.setIfInBounds_toArray, List.set_cons_zero, List.set_cons_succ]
            refine wpAnyL_take (i := 3) (v := ?_) rfl (by kernel_rfl) (by kernel_rfl) (by kernel_rfl) (by rfl) (fun _ _ _ h => h) (Or.inl ⟨by rfl, ?_⟩) hHeld (fun hHeld2 => ?_)
            rotate_left
            · (intro wz hSw; go_simp; try with_reducible rfl)
            clear hHeld; have hHeld := hHeld2; clear hHeld2
            try simp only [List.getElem_toArray, List.getElem_cons_zero, List.getElem_cons_succ, Act.put, List.setIfInBounds_toArray, List.set_cons_zero, List.set_cons_succ]
            refine wpAnyL_take (i := 5) (v := ?_) rfl (by kernel_rfl) (by kernel_rfl) (by kernel_rfl) (by rfl) (fun _ _ _ h => h) (Or.inl ⟨by rfl, ?_⟩) hHeld (fun hHeld2 => ?_)
            rotate_left
            · (intro wz hSw; go_simp; try with_reducible rfl)
            clear hHeld; have hHeld := hHeld2; clear hHeld2
            try simp only [List.getElem_toArray, List.getElem_cons_zero, List.getElem_cons_succ, Act.put, List.setIfInBounds_toArray, List.set_cons_zero, List.set_cons_succ]
            refine wpAnyL_take (i := 6) (v := ?_) rfl (by kernel_rfl) (by kernel_rfl) (by kernel_rfl) (by rfl) (fun _ _ _ h => h) (Or.inl ⟨by rfl, ?_⟩) hHeld (fun hHeld2 => ?_)
            rotate_left
            · (intro wz hSw; have hq : wz.cell? ⟨gi, 3, none⟩ = some (.slice x3 L x4) := hSw.get _ (List.Mem.tail _ (List.Mem.head _)) 1 (by kernel_rfl); go_simp; try with_reducible rfl)
            clear hHeld; have hHeld := hHeld2; clear hHeld2
            try simp only [List.getElem_toArray, List.getElem_cons_zero, List.getElem_cons_succ, Act.put, List.setIfInBounds_toArray, List.set_cons_zero, List.set_cons_succ]
            refine wpAnyL_one (i := 4) (by kernel_rfl) rfl rfl hHeld (fun K hK => ?_)
            go_simp
            refine C1.out.mono ?_
            rintro en w5 ⟨u, rfl, ⟨Au, cu, rfl, _, _, hbu, _⟩, hR5, hO5⟩
            have c5 := CW.out.only hO5 NE.out
            have R5 := Lib.hid (RW.out.step hR5 hO5)
            have CS := same_any2 Au x3 V ys V.length L cu x4 w5 rfl HYL.out.symm HVL.out _ _ hbu (E3.out.below R5.out.bel)
            rw [HV.out] at CS
            have CS := Lib.hid CS
            generalize V.length = VL at *
            refine hK.out _ _ (by intro p hp hl; simp only [List.mem_cons, List.not_mem_nil, or_false] at hp; rcases hp with rfl | rfl; exact Bool.noConfusion (hl.symm.trans (show _ = true by kernel_rfl)); exact c5.2.2.2) (fun hHeld2 => ?_)
            clear hHeld hK K hR5 hO5 hbu; have hHeld := hHeld2; clear hHeld2
            try simp only [List.getElem_toArray, List.getElem_cons_zero, List.getElem_cons_succ, Act.put, List.setIfInBounds_toArray, List.set_cons_zero, List.set_cons_succ]
            refine wpAnyL_one (i := 7) (by kernel_rfl) rfl rfl hHeld (fun K hK => ?_)
            go_simp
            refine CS.out.mono ?_
            rintro en w6 ⟨m6, rfl, rfl⟩
            have R6 := Lib.hid (show RInv w g _ (w5.drewN m6) from R5.out.later (below_drewN_self _ _))
            refine hK.out _ _ (by intro p hp hl; simp only [List.mem_cons, List.not_mem_nil, or_false] at hp; rcases hp with rfl | rfl <;> exact Bool.noConfusion (hl.symm.trans (show _ = true by kernel_rfl))) (fun hHeld2 => ?_)
            clear hHeld hK K ; have hHeld := hHeld2; clear hHeld2
            try simp only [List.getElem_toArray, List.getElem_cons_zero, List.getElem_cons_succ, Act.put, List.setIfInBounds_toArray, List.set_cons_zero, List.set_cons_succ]
            refine wpAnyL_take (i := 8) (v := ?_) rfl (by kernel_rfl) (by kernel_rfl) (by kernel_rfl) (by rfl) (fun _ _ _ h => h) (Or.inl ⟨by rfl, ?_⟩) hHeld (fun hHeld2 => ?_)
            rotate_left
            · (intro wz hSw; go_simp; try with_reducible rfl)
            clear hHeld; have hHeld := hHeld2; clear hHeld2
            try simp only [List.getElem_toArray, List.getElem_cons_zero, List.getElem_cons_succ, Act.put, List.setIfInBounds_toArray, List.set_cons_zero, List.set_cons_succ]
            refine wpAnyL_take (i := 9) (v := ?_) rfl (by kernel_rfl) (by kernel_rfl) (by kernel_rfl) (by rfl) (fun _ _ _ h => h) (Or.inl ⟨by rfl, ?_⟩) hHeld (fun hHeld2 => ?_)
            rotate_left
            · (intro wz hSw; go_simp; try with_reducible rfl)
            clear hHeld; have hHeld := hHeld2; clear hHeld2
            try simp only [List.getElem_toArray, List.getElem_cons_zero, List.getElem_cons_succ, Act.put, List.setIfInBounds_toArray, List.set_cons_zero, List.set_cons_succ]
            refine wpAnyL_take (i := 10) (v := ?_) rfl (by kernel_rfl) (by kernel_rfl) (by kernel_rfl) (by rfl) (fun _ _ _ h => h) (Or.inl ⟨by rfl, ?_⟩) hHeld (fun hHeld2 => ?_)
            rotate_left
            · (intro wz hSw; go_simp; try with_reducible rfl)
            clear hHeld; have hHeld := hHeld2; clear hHeld2
            try simp only [List.getElem_toArray, List.getElem_cons_zero, List.getElem_cons_succ, Act.put, List.setIfInBounds_toArray, List.set_cons_zero, List.set_cons_succ]
            refine wpAnyL_take (i := 11) (v := ?_) rfl (by kernel_rfl) (by kernel_rfl) (by kernel_rfl) (by rfl) (fun _ _ _ h => h) (Or.inl ⟨by rfl, ?_⟩) hHeld (fun hHeld2 => ?_)
            rotate_left
            · (intro wz hSw; go_simp; try with_reducible rfl)
            clear hHeld; have hHeld := hHeld2; clear hHeld2
            try simp only [List.getElem_toArray, List.getElem_cons_zero, List.getElem_cons_succ, Act.put, List.setIfInBounds_toArray, List.set_cons_zero, List.set_cons_succ]
            clear hHeld
            refine wpAnyL_done (by kernel_rfl) ?_ _
            go_wp2
            go_roundw
            case rel => exact ⟨k + 1, by omega, by go_num, by rw [HS.out]; exact HG.out, by rw [HS.out]; exact R6.out⟩
            case measure => simp [intOf]; omega
          · have HV := Lib.hid (decide_eq_false hV)
            have HG := Lib.hid (show Value.bool false = .bool (decide (V = ys) && bg) by rw [decide_eq_false hV, Bool.false_and])
            clear hV
            generalize hgi : wr.heap.size = gi at *
            clear hgi
            refine wp_region_L [(4, (fun w' => w' = wd)), (7, (fun w' => w'.cell? ⟨gi, 3, none⟩ = some (.slice x3 L x4)))] 12 #[false, false, false, false, false, false, false, false, false, false, false, false] (by kernel_rfl) (by rfl) (by kernel_rfl) (by intro p hp; simp only [List.mem_cons, List.not_mem_nil, or_false] at hp; rcases hp with rfl | rfl; exact HWD.out; rw [HWD.out]; exact CW.out.2.2.2) (fun hHeld => ?_)
            rw [HWD.out] at hHeld ⊢
            refine wpAnyL_take (i := 0) (v := ?_) rfl (by kernel_rfl) (by kernel_rfl) (by kernel_rfl) (by rfl) (fun _ _ _ h => h) (Or.inl ⟨by rfl, ?_⟩) hHeld (fun hHeld2 => ?_)
            rotate_left
            · (intro wz hSw; go_simp; try with_reducible rfl)
            clear hHeld; have hHeld := hHeld2; clear hHeld2
            try simp only [List.getElem_toArray, List.getElem_cons_zero, List.getElem_cons_succ, Act.put, List.setIfInBounds_toArray, List.set_cons_zero, List.set_cons_succ]
            refine wpAnyL_take (i := 1) (v := ?_) rfl (by kernel_rfl) (by kernel_rfl) (by kernel_rfl) (by rfl) (fun _ _ _ h => h) (Or.inl ⟨by rfl, ?_⟩) hHeld (fun hHeld2 => ?_)
            rotate_left
            · (intro wz hSw; go_simp; try with_reducible rfl)
            clear hHeld; have hHeld := hHeld2; clear hHeld2
            try simp only [List.getElem_toArray, List.getElem_cons_zero, List.getElem_cons_succ, Act.put, List.setIfInBounds_toArray, List.set_cons_zero, List.set_cons_succ]
            refine wpAnyL_take (i := 2) (v := ?_) rfl (by kernel_rfl) (by kernel_rfl) (by kernel_rfl) (by rfl) (fun _ _ _ h => h) (Or.inl ⟨by rfl, ?_⟩) hHeld (fun hHeld2 => ?_)
            rotate_left
            · (intro wz hSw; have hq : wz = wd := hSw.get _ (List.Mem.head _) 2 (by kernel_rfl); subst hq; go_simp; try with_reducible rfl)
            clear hHeld; have hHeld := hHeld2; clear hHeld2
            try simp only [List.getElem_toArray, List.getElem_cons_zero, List.getElem_cons_succ, Act.put, List.setIfInBounds_toArray, List.set_cons_zero, List.set_cons_succ]
            refine wpAnyL_take (i := 3) (v := ?_) rfl (by kernel_rfl) (by kernel_rfl) (by kernel_rfl) (by rfl) (fun _ _ _ h => h) (Or.inl ⟨by rfl, ?_⟩) hHeld (fun hHeld2 => ?_)
            rotate_left
            · (intro wz hSw; go_simp; try with_reducible rfl)
            clear hHeld; have hHeld := hHeld2; clear hHeld2
            try simp only [List.getElem_toArray, List.getElem_cons_zero, List.getElem_cons_succ, Act.put, List.setIfInBounds_toArray, List.set_cons_zero, List.set_cons_succ]
            refine wpAnyL_take (i := 5) (v := ?_) rfl (by kernel_rfl) (by kernel_rfl) (by kernel_rfl) (by rfl) (fun _ _ _ h => h) (Or.inl ⟨by rfl, ?_⟩) hHeld (fun hHeld2 => ?_)
            rotate_left
            · (intro wz hSw; go_simp; try with_reducible rfl)
            clear hHeld; have hHeld := hHeld2; clear hHeld2
            try simp only [List.getElem_toArray, List.getElem_cons_zero, List.getElem_cons_succ, Act.put, List.setIfInBounds_toArray, List.set_cons_zero, List.set_cons_succ]
            refine wpAnyL_take (i := 6) (v := ?_) rfl (by kernel_rfl) (by kernel_rfl) (by kernel_rfl) (by rfl) (fun _ _ _ h => h) (Or.inl ⟨by rfl, ?_⟩) hHeld (fun hHeld2 => ?_)
            rotate_left
            · (intro wz hSw; have hq : wz.cell? ⟨gi, 3, none⟩ = some (.slice x3 L x4) := hSw.get _ (List.Mem.tail _ (List.Mem.head _)) 1 (by kernel_rfl); go_simp; try with_reducible rfl)
            clear hHeld; have hHeld := hHeld2; clear hHeld2
            try simp only [List.getElem_toArray, List.getElem_cons_zero, List.getElem_cons_succ, Act.put, List.setIfInBounds_toArray, List.set_cons_zero, List.set_cons_succ]
            refine wpAnyL_one (i := 4) (by kernel_rfl) rfl rfl hHeld (fun K hK => ?_)
            go_simp
            refine C1.out.mono ?_
            rintro en w5 ⟨u, rfl, ⟨Au, cu, rfl, _, _, hbu, _⟩, hR5, hO5⟩
            have c5 := CW.out.only hO5 NE.out
            have R5 := Lib.hid (RW.out.step hR5 hO5)
            have CS := same_any2 Au x3 V ys V.length L cu x4 w5 rfl HYL.out.symm HVL.out _ _ hbu (E3.out.below R5.out.bel)
            rw [HV.out] at CS
            have CS := Lib.hid CS
            generalize V.length = VL at *
            refine hK.out _ _ (by intro p hp hl; simp only [List.mem_cons, List.not_mem_nil, or_false] at hp; rcases hp with rfl | rfl; exact Bool.noConfusion (hl.symm.trans (show _ = true by kernel_rfl)); exact c5.2.2.2) (fun hHeld2 => ?_)
            clear hHeld hK K hR5 hO5 hbu; have hHeld := hHeld2; clear hHeld2
            try simp only [List.getElem_toArray, List.getElem_cons_zero, List.getElem_cons_succ, Act.put, List.setIfInBounds_toArray, List.set_cons_zero, List.set_cons_succ]
            refine wpAnyL_one (i := 7) (by kernel_rfl) rfl rfl hHeld (fun K hK => ?_)
            go_simp
            refine CS.out.mono ?_
            rintro en w6 ⟨m6, rfl, rfl⟩
            have R6 := Lib.hid (show RInv w g _ (w5.drewN m6) from R5.out.later (below_drewN_self _ _))
            refine hK.out _ _ (by intro p hp hl; simp only [List.mem_cons, List.not_mem_nil, or_false] at hp; rcases hp with rfl | rfl <;> exact Bool.noConfusion (hl.symm.trans (show _ = true by kernel_rfl))) (fun hHeld2 => ?_)
            clear hHeld hK K ; have hHeld := hHeld2; clear hHeld2
            try simp only [List.getElem_toArray, List.getElem_cons_zero, List.getElem_cons_succ, Act.put, List.setIfInBounds_toArray, List.set_cons_zero, List.set_cons_succ]
            refine wpAnyL_take (i := 8) (v := ?_) rfl (by kernel_rfl) (by kernel_rfl) (by kernel_rfl) (by rfl) (fun _ _ _ h => h) (Or.inl ⟨by rfl, ?_⟩) hHeld (fun hHeld2 => ?_)
            rotate_left
            · (intro wz hSw; go_simp; try with_reducible rfl)
            clear hHeld; have hHeld := hHeld2; clear hHeld2
            try simp only [List.getElem_toArray, List.getElem_cons_zero, List.getElem_cons_succ, Act.put, List.setIfInBounds_toArray, List.set_cons_zero, List.set_cons_succ]
            refine wpAnyL_take (i := 9) (v := undef) rfl (by kernel_rfl) (by kernel_rfl) (by kernel_rfl) (by rfl) (fun _ _ _ h => h) (Or.inr ⟨by rfl, rfl⟩) hHeld (fun hHeld2 => ?_)
            clear hHeld; have hHeld := hHeld2; clear hHeld2
            try simp only [List.getElem_toArray, List.getElem_cons_zero, List.getElem_cons_succ, Act.put, List.setIfInBounds_toArray, List.set_cons_zero, List.set_cons_succ]
            refine wpAnyL_take (i := 10) (v := ?_) rfl (by kernel_rfl) (by kernel_rfl) (by kernel_rfl) (by rfl) (fun _ _ _ h => h) (Or.inl ⟨by rfl, ?_⟩) hHeld (fun hHeld2 => ?_)
            rotate_left
            · (intro wz hSw; go_simp; try with_reducible rfl)
            clear hHeld; have hHeld := hHeld2; clear hHeld2
            try simp only [List.getElem_toArray, List.getElem_cons_zero, List.getElem_cons_succ, Act.put, List.setIfInBounds_toArray, List.set_cons_zero, List.set_cons_succ]
            refine wpAnyL_take (i := 11) (v := ?_) rfl (by kernel_rfl) (by kernel_rfl) (by kernel_rfl) (by rfl) (fun _ _ _ h => h) (Or.inl ⟨by rfl, ?_⟩) hHeld (fun hHeld2 => ?_)
            rotate_left
            · (intro wz hSw; go_simp; try with_reducible rfl)
            clear hHeld; have hHeld := hHeld2; clear hHeld2
            try simp only [List.getElem_toArray, List.getElem_cons_zero, List.getElem_cons_succ, Act.put, List.setIfInBounds_toArray, List.set_cons_zero, List.set_cons_succ]
            clear hHeld
            refine wpAnyL_done (by kernel_rfl) ?_ _
            go_wp2
            go_roundw
            case rel => exact ⟨k + 1, by omega, by go_num, by rw [HS.out]; exact HG.out, by rw [HS.out]; exact R6.out⟩
            case measure => simp [intOf]; omega
        · by_cases k3 : x0 = 3
          · subst k3
            have t3 : ((3 : Int) == 1) = false := rfl
            have t4 : ((3 : Int) == 2) = false := rfl
            have t5 : ((3 : Int) == 3) = true := rfl
            have FE : rput s ⟨3, x1, x2, ys, x3, x4⟩ = fixS s (L : Int) := by rw [HYL.out]; unfold rput; rw [if_neg (show ¬ (3 : Int) = 1 by decide), if_neg (show ¬ (3 : Int) = 2 by decide)]; exact if_pos rfl
            have FG : rgood s ⟨3, x1, x2, ys, x3, x4⟩ = decide (fixA s (L : Int) = ys) := by rw [HYL.out]; unfold rgood; rw [if_neg (show ¬ (3 : Int) = 1 by decide), if_neg (show ¬ (3 : Int) = 2 by decide)]; exact if_pos rfl
            rw [FE, FG] at HS
            go_wp2
            have HWD0 : ∃ wd, (wr.alloc (.cells #[.int .i64 3, .int .i64 x1, .int .i64 x2, .slice x3 L x4] 44)).drew = wd := ⟨_, rfl⟩
            obtain ⟨wd, hwd⟩ := HWD0
            have HWD := Lib.hid hwd
            have CW : Go.RowKit.Hid (Cell4 wd wr.heap.size 3 x1 x2 (.slice x3 L x4)) := Lib.hid (by rw [← hwd]; exact CA.out.drewN 1)
            have RW : Go.RowKit.Hid (RInv w g s wd) := Lib.hid (by rw [← hwd]; exact RA.out.later (below_drewN_self _ 1))
            have TW : Tab wd 0 := by rw [← hwd]; exact TA.out
            have d1 := CW.out.2.1
            have d2 := CW.out.2.2.1
            have d3 := CW.out.2.2.2
            have C1 := Lib.hid (rfixed_any RW.out.rd (L : Int))
            clear hwd TW CA RA FE FG q0 q1 q2 q3
            have HVL := Lib.hid (show (fixA s (L : Int)).length ≤ 1000000 from Nat.le_trans (fixA_le s L) (by omega))
            generalize fixS s (L : Int) = s' at *
            generalize fixA s (L : Int) = V at *
            by_cases hV : V = ys
            · have HV := Lib.hid (decide_eq_true hV)
              have HG := Lib.hid (show Value.bool bg = .bool (decide (V = ys) && bg) by rw [decide_eq_true hV, Bool.true_and])
              clear hV
              generalize hgi : wr.heap.size = gi at *
              clear hgi
              refine wp_region_L [(4, (fun w' => w' = wd)), (7, (fun w' => w'.cell? ⟨gi, 3, none⟩ = some (.slice x3 L x4)))] 12 #[false, false, false, false, false, false, false, false, false, false, false, false] (by kernel_rfl) (by rfl) (by kernel_rfl) (by intro p hp; simp only [List.mem_cons, List.not_mem_nil, or_false] at hp; rcases hp with rfl | rfl; exact HWD.out; rw [HWD.out]; exact CW.out.2.2.2) (fun hHeld => ?_)
              rw [HWD.out] at hHeld ⊢
              refine wpAnyL_take (i := 0) (v := ?_) rfl (by kernel_rfl) (by kernel_rfl) (by kernel_rfl) (by rfl) (fun _ _ _ h => h) (Or.inl ⟨by rfl, ?_⟩) hHeld (fun hHeld2 => ?_)
              rotate_left
              · (intro wz hSw; go_simp; try with_reducible rfl)
              clear hHeld; have hHeld := hHeld2; clear hHeld2
              try simp only [List.getElem_toArray, List.getElem_cons_zero, List.getElem_cons_succ, Act.put, List.setIfInBounds_toArray, List.set_cons_zero, List.set_cons_succ]
              refine wpAnyL_take (i := 1) (v := ?_) rfl (by kernel_rfl) (by kernel_rfl) (by kernel_rfl) (by rfl) (fun _ _ _ h => h) (Or.inl ⟨by rfl, ?_⟩) hHeld (fun hHeld2 => ?_)
              rotate_left
              · (intro wz hSw; go_simp; try with_reducible rfl)
              clear hHeld; have hHeld := hHeld2; clear hHeld2
              try simp only [List.getElem_toArray, List.getElem_cons_zero, List.getElem_cons_succ, Act.put, List.setIfInBounds_toArray, List.set_cons_zero, List.set_cons_succ]
              refine wpAnyL_take (i := 2) (v := ?_) rfl (by kernel_rfl) (by kernel_rfl) (by kernel_rfl) (by rfl) (fun _ _ _ h => h) (Or.inl ⟨by rfl, ?_⟩) hHeld (fun hHeld2 => ?_)
              rotate_left
              · (intro wz hSw; have hq : wz = wd := hSw.get _ (List.Mem.head _) 2 (by kernel_rfl); subst hq; go_simp; try with_reducible rfl)
              clear hHeld; have hHeld := hHeld2; clear hHeld2
              try simp only [List.getElem_toArray, List.getElem_cons_zero, List.getElem_cons_succ, Act.put, List.setIfInBounds_toArray, List.set_cons_zero, List.set_cons_succ]
              refine wpAnyL_take (i := 3) (v := ?_) rfl (by kernel_rfl) (by kernel_rfl) (by kernel_rfl) (by rfl) (fun _ _ _ h => h) (Or.inl ⟨by rfl, ?_⟩) hHeld (fun hHeld2 => ?_)
              rotate_left
              · (intro wz hSw; go_simp; try with_reducible rfl)
              clear hHeld; have hHeld := hHeld2; clear hHeld2
              try simp only [List.getElem_toArray, List.getElem_cons_zero, List.getElem_cons_succ, Act.put, List.setIfInBounds_toArray, List.set_cons_zero, List.set_cons_succ]
              refine wpAnyL_take (i := 5) (v := ?_) rfl (by kernel_rfl) (by kernel_rfl) (by kernel_rfl) (by rfl) (fun _ _ _ h => h) (Or.inl ⟨by rfl, ?_⟩) hHeld (fun hHeld2 => ?_)
              rotate_left
              · (intro wz hSw; go_simp; try with_reducible rfl)
              clear hHeld; have hHeld := hHeld2; clear hHeld2
              try simp only [List.getElem_toArray, List.getElem_cons_zero, List.getElem_cons_succ, Act.put, List.setIfInBounds_toArray, List.set_cons_zero, List.set_cons_succ]
              refine wpAnyL_take (i := 6) (v := ?_) rfl (by kernel_rfl) (by kernel_rfl) (by kernel_rfl) (by rfl) (fun _ _ _ h => h) (Or.inl ⟨by rfl, ?_⟩) hHeld (fun hHeld2 => ?_)
              rotate_left
              · (intro wz hSw; have hq : wz.cell? ⟨gi, 3, none⟩ = some (.slice x3 L x4) := hSw.get _ (List.Mem.tail _ (List.Mem.head _)) 1 (by kernel_rfl); go_simp; try with_reducible rfl)
              clear hHeld; have hHeld := hHeld2; clear hHeld2
              try simp only [List.getElem_toArray, List.getElem_cons_zero, List.getElem_cons_succ, Act.put, List.setIfInBounds_toArray, List.set_cons_zero, List.set_cons_succ]
              refine wpAnyL_one (i := 4) (by kernel_rfl) rfl rfl hHeld (fun K hK => ?_)
              go_simp
              refine C1.out.mono ?_
              rintro en w5 ⟨u, rfl, ⟨Au, cu, rfl, _, _, hbu, _⟩, hR5, hO5⟩
              have c5 := CW.out.only hO5 NE.out
              have R5 := Lib.hid (RW.out.step hR5 hO5)
              have CS := same_any2 Au x3 V ys V.length L cu x4 w5 rfl HYL.out.symm HVL.out _ _ hbu (E3.out.below R5.out.bel)
              rw [HV.out] at CS
              have CS := Lib.hid CS
              generalize V.length = VL at *
              refine hK.out _ _ (by intro p hp hl; simp only [List.mem_cons, List.not_mem_nil, or_false] at hp; rcases hp with rfl | rfl; exact Bool.noConfusion (hl.symm.trans (show _ = true by kernel_rfl)); exact c5.2.2.2) (fun hHeld2 => ?_)
              clear hHeld hK K hR5 hO5 hbu; have hHeld := hHeld2; clear hHeld2
              try simp only [List.getElem_toArray, List.getElem_cons_zero, List.getElem_cons_succ, Act.put, List.setIfInBounds_toArray, List.set_cons_zero, List.set_cons_succ]
              refine wpAnyL_one (i := 7) (by kernel_rfl) rfl rfl hHeld (fun K hK => ?_)
              go_simp
              refine CS.out.mono ?_
              rintro en w6 ⟨m6, rfl, rfl⟩
              have R6 := Lib.hid (show RInv w g _ (w5.drewN m6) from R5.out.later (below_drewN_self _ _))
              refine hK.out _ _ (by intro p hp hl; simp only [List.mem_cons, List.not_mem_nil, or_false] at hp; rcases hp with rfl | rfl <;> exact Bool.noConfusion (hl.symm.trans (show _ = true by kernel_rfl))) (fun hHeld2 => ?_)
              clear hHeld hK K ; have hHeld := hHeld2; clear hHeld2
              try simp only [List.getElem_toArray, List.getElem_cons_zero, List.getElem_cons_succ, Act.put, List.setIfInBounds_toArray, List.set_cons_zero, List.set_cons_succ]
              refine wpAnyL_take (i := 8) (v := ?_) rfl (by kernel_rfl) (by kernel_rfl) (by kernel_rfl) (by rfl) (fun _ _ _ h => h) (Or.inl ⟨by rfl, ?_⟩) hHeld (fun hHeld2 => ?_)
              rotate_left
              · (intro wz hSw; go_simp; try with_reducible rfl)
              clear hHeld; have hHeld := hHeld2; clear hHeld2
              try simp only [List.getElem_toArray, List.getElem_cons_zero, List.getElem_cons_succ, Act.put, List.setIfInBounds_toArray, List.set_cons_zero, List.set_cons_succ]
              refine wpAnyL_take (i := 9) (v := ?_) rfl (by kernel_rfl) (by kernel_rfl) (by kernel_rfl) (by rfl) (fun _ _ _ h => h) (Or.inl ⟨by rfl, ?_⟩) hHeld (fun hHeld2 => ?_)
              rotate_left
              · (intro wz hSw; go_simp; try with_reducible rfl)
              clear hHeld; have hHeld := hHeld2; clear hHeld2
              try simp only [List.getElem_toArray, List.getElem_cons_zero, List.getElem_cons_succ, Act.put, List.setIfInBounds_toArray, List.set_cons_zero, List.set_cons_succ]
              refine wpAnyL_take (i := 10) (v := ?_) rfl (by kernel_rfl) (by kernel_rfl) (by kernel_rfl) (by rfl) (fun _ _ _ h => h) (Or.inl ⟨by rfl, ?_⟩) hHeld (fun hHeld2 => ?_)
              rotate_left
              · (intro wz hSw; go_simp; try with_reducible rfl)
              clear hHeld; have hHeld := hHeld2; clear hHeld2
              try simp only [List.getElem_toArray, List.getElem_cons_zero, List.getElem_cons_succ, Act.put, List.setIfInBounds_toArray, List.set_cons_zero, List.set_cons_succ]
              refine wpAnyL_take (i := 11) (v := ?_) rfl (by kernel_rfl) (by kernel_rfl) (by kernel_rfl) (by rfl) (fun _ _ _ h => h) (Or.inl ⟨by rfl, ?_⟩) hHeld (fun hHeld2 => ?_)
              rotate_left
              · (intro wz hSw; go_simp; try with_reducible rfl)
              clear hHeld; have hHeld := hHeld2; clear hHeld2
              try simp only [List.getElem_toArray, List.getElem_cons_zero, List.getElem_cons_succ, Act.put, List.setIfInBounds_toArray, List.set_cons_zero, List.set_cons_succ]
              clear hHeld
              refine wpAnyL_done (by kernel_rfl) ?_ _
              go_wp2
              go_roundw
              case rel => exact ⟨k + 1, by omega, by go_num, by rw [HS.out]; exact HG.out, by rw [HS.out]; exact R6.out⟩
              case measure => simp [intOf]; omega
            · have HV := Lib.hid (decide_eq_false hV)
              have HG := Lib.hid (show Value.bool false = .bool (decide (V = ys) && bg) by rw [decide_eq_false hV, Bool.false_and])
              clear hV
              generalize hgi : wr.heap.size = gi at *
              clear hgi
              refine wp_region_L [(4, (fun w' => w' = wd)), (7, (fun w' => w'.cell? ⟨gi, 3, none⟩ = some (.slice x3 L x4)))] 12 #[false, false, false, false, false, false, false, false, false, false, false, false] (by kernel_rfl) (by rfl) (by kernel_rfl) (by intro p hp; simp only [List.mem_cons, List.not_mem_nil, or_false] at hp; rcases hp with rfl | rfl; exact HWD.out; rw [HWD.out]; exact CW.out.2.2.2) (fun hHeld => ?_)
              rw [HWD.out] at hHeld ⊢
              refine wpAnyL_take (i := 0) (v := ?_) rfl (by kernel_rfl) (by kernel_rfl) (by kernel_rfl) (by rfl) (fun _ _ _ h => h) (Or.inl ⟨by rfl, ?_⟩) hHeld (fun hHeld2 => ?_)
              rotate_left
              · (intro wz hSw; go_simp; try with_reducible rfl)
              clear hHeld; have hHeld := hHeld2; clear hHeld2
              try simp only [List.getElem_toArray, List.getElem_cons_zero, List.getElem_cons_succ, Act.put, List.setIfInBounds_toArray, List.set_cons_zero, List.set_cons_succ]
              refine wpAnyL_take (i := 1) (v := ?_) rfl (by kernel_rfl) (by kernel_rfl) (by kernel_rfl) (by rfl) (fun _ _ _ h => h) (Or.inl ⟨by rfl, ?_⟩) hHeld (fun hHeld2 => ?_)
              rotate_left
              · (intro wz hSw; go_simp; try with_reducible rfl)
              clear hHeld; have hHeld := hHeld2; clear hHeld2
              try simp only [List.getElem_toArray, List.getElem_cons_zero, List.getElem_cons_succ, Act.put, List.setIfInBounds_toArray, List.set_cons_zero, List.set_cons_succ]
              refine wpAnyL_take (i := 2) (v := ?_) rfl (by kernel_rfl) (by kernel_rfl) (by kernel_rfl) (by rfl) (fun _ _ _ h => h) (Or.inl ⟨by rfl, ?_⟩) hHeld (fun hHeld2 => ?_)
              rotate_left
              · (intro wz hSw; have hq : wz = wd := hSw.get _ (List.Mem.head _) 2 (by kernel_rfl); subst hq; go_simp; try with_reducible rfl)
              clear hHeld; have hHeld := hHeld2; clear hHeld2
              try simp only [List.getElem_toArray, List.getElem_cons_zero, List.getElem_cons_succ, Act.put, List.setIfInBounds_toArray, List.set_cons_zero, List.set_cons_succ]
              refine wpAnyL_take (i := 3) (v := ?_) rfl (by kernel_rfl) (by kernel_rfl) (by kernel_rfl) (by rfl) (fun _ _ _ h => h) (Or.inl ⟨by rfl, ?_⟩) hHeld (fun hHeld2 => ?_)
              rotate_left
              · (intro wz hSw; go_simp; try with_reducible rfl)
              clear hHeld; have hHeld := hHeld2; clear hHeld2
              try simp only [List.getElem_toArray, List.getElem_cons_zero, List.getElem_cons_succ, Act.put, List.setIfInBounds_toArray, List.set_cons_zero, List.set_cons_succ]
              refine wpAnyL_take (i := 5) (v := ?_) rfl (by kernel_rfl) (by kernel_rfl) (by kernel_rfl) (by rfl) (fun _ _ _ h => h) (Or.inl ⟨by rfl, ?_⟩) hHeld (fun hHeld2 => ?_)
              rotate_left
              · (intro wz hSw; go_simp; try with_reducible rfl)
              clear hHeld; have hHeld := hHeld2; clear hHeld2
              try simp only [List.getElem_toArray, List.getElem_cons_zero, List.getElem_cons_succ, Act.put, List.setIfInBounds_toArray, List.set_cons_zero, List.set_cons_succ]
              refine wpAnyL_take (i := 6) (v := ?_) rfl (by kernel_rfl) (by kernel_rfl) (by kernel_rfl) (by rfl) (fun _ _ _ h => h) (Or.inl ⟨by rfl, ?_⟩) hHeld (fun hHeld2 => ?_)
              rotate_left
              · (intro wz hSw; have hq : wz.cell? ⟨gi, 3, none⟩ = some (.slice x3 L x4) := hSw.get _ (List.Mem.tail _ (List.Mem.head _)) 1 (by kernel_rfl); go_simp; try with_reducible rfl)
              clear hHeld; have hHeld := hHeld2; clear hHeld2
              try simp only [List.getElem_toArray, List.getElem_cons_zero, List.getElem_cons_succ, Act.put, List.setIfInBounds_toArray, List.set_cons_zero, List.set_cons_succ]
              refine wpAnyL_one (i := 4) (by kernel_rfl) rfl rfl hHeld (fun K hK => ?_)
              go_simp
              refine C1.out.mono ?_
              rintro en w5 ⟨u, rfl, ⟨Au, cu, rfl, _, _, hbu, _⟩, hR5, hO5⟩
              have c5 := CW.out.only hO5 NE.out
              have R5 := Lib.hid (RW.out.step hR5 hO5)
              have CS := same_any2 Au x3 V ys V.length L cu x4 w5 rfl HYL.out.symm HVL.out _ _ hbu (E3.out.below R5.out.bel)
              rw [HV.out] at CS
              have CS := Lib.hid CS
              generalize V.length = VL at *
              refine hK.out _ _ (by intro p hp hl; simp only [List.mem_cons, List.not_mem_nil, or_false] at hp; rcases hp with rfl | rfl; exact Bool.noConfusion (hl.symm.trans (show _ = true by kernel_rfl)); exact c5.2.2.2) (fun hHeld2 => ?_)
              clear hHeld hK K hR5 hO5 hbu; have hHeld := hHeld2; clear hHeld2
              try simp only [List.getElem_toArray, List.getElem_cons_zero, List.getElem_cons_succ, Act.put, List.setIfInBounds_toArray, List.set_cons_zero, List.set_cons_succ]
              refine wpAnyL_one (i := 7) (by kernel_rfl) rfl rfl hHeld (fun K hK => ?_)
              go_simp
              refine CS.out.mono ?_
              rintro en w6 ⟨m6, rfl, rfl⟩
              have R6 := Lib.hid (show RInv w g _ (w5.drewN m6) from R5.out.later (below_drewN_self _ _))
              refine hK.out _ _ (by intro p hp hl; simp only [List.mem_cons, List.not_mem_nil, or_false] at hp; rcases hp with rfl | rfl <;> exact Bool.noConfusion (hl.symm.trans (show _ = true by kernel_rfl))) (fun hHeld2 => ?_)
              clear hHeld hK K ; have hHeld := hHeld2; clear hHeld2
              try simp only [List.getElem_toArray, List.getElem_cons_zero, List.getElem_cons_succ, Act.put, List.setIfInBounds_toArray, List.set_cons_zero, List.set_cons_succ]
              refine wpAnyL_take (i := 8) (v := ?_) rfl (by kernel_rfl) (by kernel_rfl) (by kernel_rfl) (by rfl) (fun _ _ _ h => h) (Or.inl ⟨by rfl, ?_⟩) hHeld (fun hHeld2 => ?_)
              rotate_left
              · (intro wz hSw; go_simp; try with_reducible rfl)
              clear hHeld; have hHeld := hHeld2; clear hHeld2
              try simp only [List.getElem_toArray, List.getElem_cons_zero, List.getElem_cons_succ, Act.put, List.setIfInBounds_toArray, List.set_cons_zero, List.set_cons_succ]
              refine wpAnyL_take (i := 9) (v := undef) rfl (by kernel_rfl) (by kernel_rfl) (by kernel_rfl) (by rfl) (fun _ _ _ h => h) (Or.inr ⟨by rfl, rfl⟩) hHeld (fun hHeld2 => ?_)
              clear hHeld; have hHeld := hHeld2; clear hHeld2
              try simp only [List.getElem_toArray, List.getElem_cons_zero, List.getElem_cons_succ, Act.put, List.setIfInBounds_toArray, List.set_cons_zero, List.set_cons_succ]
              refine wpAnyL_take (i := 10) (v := ?_) rfl (by kernel_rfl) (by kernel_rfl) (by kernel_rfl) (by rfl) (fun _ _ _ h => h) (Or.inl ⟨by rfl, ?_⟩) hHeld (fun hHeld2 => ?_)
              rotate_left
              · (intro wz hSw; go_simp; try with_reducible rfl)
              clear hHeld; have hHeld := hHeld2; clear hHeld2
              try simp only [List.getElem_toArray, List.getElem_cons_zero, List.getElem_cons_succ, Act.put, List.setIfInBounds_toArray, List.set_cons_zero, List.set_cons_succ]
              refine wpAnyL_take (i := 11) (v := ?_) rfl (by kernel_rfl) (by kernel_rfl) (by kernel_rfl) (by rfl) (fun _ _ _ h => h) (Or.inl ⟨by rfl, ?_⟩) hHeld (fun hHeld2 => ?_)
              rotate_left
              · (intro wz hSw; go_simp; try with_reducible rfl)
              clear hHeld; have hHeld := hHeld2; clear hHeld2
              try simp only [List.getElem_toArray, List.getElem_cons_zero, List.getElem_cons_succ, Act.put, List.setIfInBounds_toArray, List.set_cons_zero, List.set_cons_succ]
              clear hHeld
              refine wpAnyL_done (by kernel_rfl) ?_ _
              go_wp2
              go_roundw
              case rel => exact ⟨k + 1, by omega, by go_num, by rw [HS.out]; exact HG.out, by rw [HS.out]; exact R6.out⟩
              case measure => simp [intOf]; omega
          · have t3 : (x0 == 1) = false := by simp; omega
            have t4 : (x0 == 2) = false := by simp; omega
            have t5 : (x0 == 3) = false := by simp; omega
            have FE : rput s ⟨x0, x1, x2, ys, x3, x4⟩ = s := by unfold rput; rw [if_neg k1, if_neg k2, if_neg k3]
            have FG : rgood s ⟨x0, x1, x2, ys, x3, x4⟩ = true := by unfold rgood; rw [if_neg k1, if_neg k2, if_neg k3]
            rw [FE, FG, Bool.true_and] at HS
            go_wp2
            go_roundw
            case rel => exact ⟨k + 1, by omega, by go_num, by rw [HS.out], by rw [HS.out]; exact RA.out⟩
            case measure => simp [intOf]; omega
    · obtain rfl : k = N := by omega
      have t1 : decide ((k : Int) < (k : Int)) = false := by simp
      rw [List.take_of_length_le (by rw [HN.out]; exact Nat.le_refl _)] at hR ⊢
      have D := Lib.hid (rdone_any hR.rd)
      have HB := Lib.hid hR.bel
      clear hR
      have HP := Lib.hid (show ∀ m, ReadP (rAll its (xs, 0)) w (.returned (.tuple #[.int .i64 (doneE (rAll its (xs, 0)).1 : Int), .bool (rAll its (xs, 0)).2])) (wr.drewN m) from fun m => ⟨rfl, below_drewN HB.out m⟩)
      clear HB
      generalize (rAll its (xs, 0)).2 = bg at *
      generalize doneE (rAll its (xs, 0)).1 = x at *
      go_wp2_with fail
      refine D.out.mono ?_
      rintro en w2 ⟨rfl, m, rfl⟩
      go_wp2
      go_ret2
      exact HP.out m
end Go.Proofs.YthnndklaefnpcaaDoor
