/-
  Contract of the library's DeleteFunc over what waits. Conditions: the slice holds its writes, in a row of the disk's own.
-/
import Derived.Test.YtfjaiolgbcindaaDkDel
namespace Go.Proofs.Ytfjaiolgbcindaa
open Go.RowKit Arr Dsk
set_option linter.unusedSimpArgs false

theorem hds_set : ∀ (ws : List Wt) (k : Nat) (x : Wt), ((hds ws).set (k * 2) (.int .i64 (x.i : Int))).set (k * 2 + 1) (.slice x.A x.bs.length x.c) = hds (ws.set k x)
  | [], k, x => rfl
  | y :: ws, 0, x => by simp [hds, Wt.cs]
  | y :: ws, k + 1, x => by
    have := hds_set ws k x
    simp only [hds] at this ⊢
    have e1 : (k + 1) * 2 = k * 2 + 2 := by omega
    rw [e1, List.set_cons_succ, List.flatMap_cons, List.flatMap_cons, ← this]
    simp [Wt.cs]
theorem hds_take (ws : List Wt) (k : Nat) (hk : k ≤ ws.length) : (hds ws).take (k * 2) = hds (ws.take k) := by
  have h1 : hds ws = hds (ws.take k) ++ hds (ws.drop k) := by
    unfold hds; rw [← List.flatMap_append, List.take_append_drop]
  have h2 : (hds (ws.take k)).length = k * 2 := by rw [hds_len, List.length_take, Nat.min_eq_left hk]
  rw [h1, ← h2, List.take_left]
def others (i : Nat) (ws : List Wt) : List Wt := ws.filter fun x => decide (x.i ≠ i)
theorem others_none {i : Nat} {ws : List Wt} (h : ∀ x, x ∈ ws → x.i ≠ i) : others i ws = ws := List.filter_eq_self.2 (fun x hx => by simp [h x hx])
theorem others_append (i : Nat) (ws us : List Wt) : others i (ws ++ us) = others i ws ++ others i us := List.filter_append ..
theorem zero_w (W : World) : (zeroValue 66).run Try.prog W = .ok (.agg #[.int .i64 0, .slice none 0 0]) W := Try.zeroValue66 W

/-- What DeleteFunc leaves. -/
def DelP (i : Nat) (ws : List Wt) (A : Option Addr) (w : World) (en : Ending) (w' : World) : Prop :=
  ∃ c', en = .returned (.slice A (others i ws).length c') ∧ w'.ownsRow 0 66 2 (.slice A (others i ws).length c') (others i ws).length (hds (others i ws)) ∧ Touch (fun k => Option.map Addr.block A = some k) w w'
set_option maxRecDepth 10000 in
set_option maxHeartbeats 2000000 in
theorem del_any (w : World) (A : Option Addr) (N cc sb i : Nat) (ws : List Wt) (hN : ws.length = N) (hm : N ≤ 4294967296) (hrow : w.ownsRow 0 66 2 (.slice A N cc) N (hds ws)) (hs : w.cell? ⟨sb, 0, none⟩ = some (.int .i64 (i : Int))) (hsb : Option.map Addr.block A ≠ some sb) :
    Calls Try.prog 38 #[.slice A N cc, .func (.func 39) #[] #[.pointer (some ⟨sb, 0, none⟩)]] w (DelP i ws A w) := by
  have HNW := Lib.hid hN
  have CI := Lib.hid (index_any w A N cc sb i ws hN hm (fun hl => by
    obtain ⟨b, o, e, ho, q0, _⟩ := row_at hrow hN 0 hl
    refine ⟨b, o, e, lt_of_cell q0, fun k hk => ?_⟩
    obtain ⟨b', o', e', _, q0', q1'⟩ := row_at hrow hN k hk
    rw [e] at e'
    simp only [Option.some.injEq, Addr.mk.injEq, and_true] at e'
    obtain ⟨rfl, rfl⟩ := e'
    exact ⟨q0', q1'⟩) hs)
  have HROW := Lib.hid hrow
  have hsl := lt_of_cell hs
  have HSB := Lib.hid hsb
  clear hN hrow hsb
  go_enter Try.func38, Try.ntmps38
  go_wp2_with fail
  refine CI.out.mono ?_
  rintro en w1 ⟨hidx, hB1⟩
  have HB1 := Lib.hid hB1
  clear hB1 CI
  rcases hidx with ⟨rfl, hall⟩ | ⟨k0, hk0, rfl, h1, h2⟩
  · have t1 : ((-1 : Int) == -1) = true := rfl
    have HF := Lib.hid (show DelP i ws A w (.returned (.slice A N cc)) w1 from by
      unfold DelP
      rw [others_none hall, HNW.out]
      exact ⟨cc, rfl, owns_touchN (F := fun _ => False) HROW.out (Touch.of _ HB1.out) (fun _ _ h => h), Touch.of _ HB1.out⟩)
    clear hall
    go_wp2
    go_ret
    exact HF.out
  · have hk0N : k0 < N := by rw [← HNW.out]; exact hk0
    have t1 : ((k0 : Int) == -1) = false := by simp
    have w0 : IntKind.i64.wrap ((k0 : Int) + 1) = ((k0 + 1 : Nat) : Int) := by rw [IntKind.wrap_i64]; omega
    obtain ⟨b, o, rfl, ho, hz0, hz1⟩ := row_at HROW.out HNW.out 0 (by omega)
    have HO := Lib.hid ho
    have hbsb : b ≠ sb := fun e => HSB.out (by rw [e, Option.map_some])
    have HBS := Lib.hid hbsb
    have R1 := Lib.hid (show w1.ownsRow 0 66 2 (.slice (some ⟨b, 0, none⟩) N cc) N (hds ws) from by
      have := HROW.out
      rw [ho] at this
      exact owns_touchN (F := fun _ => False) this (Touch.of _ HB1.out) (fun _ _ h => h))
    have HST := Lib.hid (show ws.take k0 = others i (ws.take (k0 + 1)) from by
      rw [List.take_succ_eq_append_getElem hk0, others_append, others_none (fun x hx => by
        obtain ⟨j, hj, rfl⟩ := List.getElem_of_mem hx
        rw [List.length_take] at hj
        rw [List.getElem_take]
        exact h2 j (by omega) (by omega))]
      simp [others, h1])
    have HCC := Lib.hid (show N ≤ cc from by
      rcases R1.out.2 with ⟨h0, _⟩ | ⟨_, _, _, h3, _, _, h4, _⟩
      · cases h0
      · simp only [Value.slice.injEq] at h3; omega)
    clear h1 h2 hz0 hz1 hk0 ho hbsb
    go_wp2
    go_loopw [5, 6] (fun iv jv wr => ∃ (k j : Nat) (xs : List Wt), k < j ∧ j ≤ N ∧ iv = .int .i64 k ∧ jv = .int .i64 j ∧ xs.length = N ∧ xs.take k = others i (ws.take j) ∧ (∀ m, j ≤ m → xs[m]? = ws[m]?) ∧ wr.ownsRow 0 66 2 (.slice (some ⟨b, 0, none⟩) N cc) N (hds xs) ∧ Touch (fun k => k = b) w wr) (fun _ jv _ => N - (intOf jv).toNat)
    case atStart => exact ⟨k0, k0 + 1, ws, by omega, by omega, rfl, rfl, HNW.out, HST.out, fun _ _ => rfl, R1.out, Touch.of _ HB1.out⟩
    case round =>
      obtain ⟨k, j, xs, hkj, hjN, rfl, rfl, hxl, htk, hsm, hr, hT⟩ := hrel
      have HXL := Lib.hid hxl
      have HTK := Lib.hid htk
      have HSM := Lib.hid hsm
      have HR := Lib.hid hr
      have HT := Lib.hid hT
      by_cases hlt : j < N
      · have t2 : decide ((j : Int) < (N : Int)) = true := by simp; omega
        have wj : IntKind.i64.wrap ((j : Int) + 1) = (j : Int) + 1 := by rw [IntKind.wrap_i64]; omega
        have wk : IntKind.i64.wrap ((k : Int) + 1) = (k : Int) + 1 := by rw [IntKind.wrap_i64]; omega
        have hjx : j < xs.length := by omega
        have hjw : j < ws.length := by rw [HNW.out]; exact hlt
        have exj : xs[j] = ws[j] := by
          have := hsm j (Nat.le_refl _)
          rw [List.getElem?_eq_getElem hjx, List.getElem?_eq_getElem hjw] at this
          simpa using this
        have HTW := Lib.hid (List.take_succ_eq_append_getElem hjw)
        obtain ⟨b', o', e', ho', q0, q1⟩ := row_at hr hxl j hjx
        simp only [Option.some.injEq, Addr.mk.injEq, and_true] at e'
        obtain ⟨rfl, rfl⟩ := e'
        rw [exj] at q0 q1
        have eo := HO.out
        have q0' : wr.cell? ⟨b, o + j * 2, none⟩ = some (.int .i64 (ws[j].i : Int)) := by rw [eo]; exact q0
        have q1' : wr.cell? ⟨b, o + j * 2 + 1, none⟩ = some (.slice ws[j].A ws[j].bs.length ws[j].c) := by rw [eo]; exact q1
        have hsw : wr.cell? ⟨sb, 0, none⟩ = some (.int .i64 (i : Int)) := (hT.cell (p := ⟨sb, 0, none⟩) hsl (fun e => HBS.out e.symm)).trans hs
        clear q0 q1 ho' exj hxl htk hsm hr hT eo
        generalize ws[j] = x at *
        obtain ⟨x3, x4, x0, ys⟩ := x
        simp only at q0' q1'
        obtain ⟨L, hL⟩ : ∃ L, L = ys.length := ⟨_, rfl⟩
        have HYL := Lib.hid hL
        rw [← hL] at q1'
        clear hL
        have hb1 := below_alloc wr (.cells #[.int .i64 (x0 : Int), .slice x3 L x4] 66)
        obtain ⟨p0, p1⟩ := two_cells wr (.int .i64 (x0 : Int)) (.slice x3 L x4)
        have hsw1 := (hb1.cell (p := ⟨sb, 0, none⟩) (lt_of_cell hsw)).trans hsw
        have CL := Lib.hid (clo_any _ sb (i : Int) (x0 : Int) x3 L x4 hsw1)
        have hb2 := hb1.alloc hb1.size (.cells #[.int .i64 (x0 : Int), .slice x3 L x4] 66)
        have HB2 := Lib.hid hb2
        have hb3 := below_alloc (wr.alloc (.cells #[.int .i64 (x0 : Int), .slice x3 L x4] 66)) (.cells #[.int .i64 (x0 : Int), .slice x3 L x4] 66)
        have r0 := (hb3.cell (p := ⟨wr.heap.size, 0, none⟩) (lt_of_cell p0)).trans p0
        have r1 := (hb3.cell (p := ⟨wr.heap.size, 1, none⟩) (lt_of_cell p1)).trans p1
        have RA := Lib.hid (owns_touchN (F := fun _ => False) HR.out (Touch.of _ hb2) (fun _ _ h => h))
        have TA := Lib.hid (HT.out.trans (F' := fun _ => False) (Touch.of _ hb2) (fun _ h => h.elim))
        clear hb1 hb2 hb3
        by_cases hx : x0 = i
        · have t3 : ((x0 : Int) == (i : Int)) = true := by simp [hx]
          rw [t3] at CL
          have HF := Lib.hid (show xs.take k = others i (ws.take (j + 1)) from by
            rw [HTW.out, others_append, ← HTK.out]; simp [others, hx])
          clear hx
          go_wp2_with fail
          refine CL.out.mono ?_
          rintro en w' ⟨rfl, rfl⟩
          go_wp2
          go_roundw
          case rel => exact ⟨k, j + 1, xs, by omega, by omega, rfl, by go_num, HXL.out, HF.out, fun m hm => HSM.out m (by omega), RA.out, TA.out⟩
          case measure => simp [intOf]; omega
        · have t3 : ((x0 : Int) == (i : Int)) = false := by simp; omega
          rw [t3] at CL
          have hkx : k < xs.length := by have := HXL.out; omega
          have HF := Lib.hid (show (xs.set k ⟨x3, x4, x0, ys⟩).take (k + 1) = others i (ws.take (j + 1)) from by
            rw [HTW.out, others_append, ← HTK.out, List.take_succ_eq_append_getElem (by rw [List.length_set]; exact hkx), List.take_set_of_le (Nat.le_refl _), List.getElem_set_self]
            simp [others, hx])
          have HS2 := Lib.hid (show ∀ m, j + 1 ≤ m → (xs.set k ⟨x3, x4, x0, ys⟩)[m]? = ws[m]? from fun m hm => by rw [List.getElem?_set_ne (by omega)]; exact HSM.out m (by omega))
          clear hx
          go_wp2_with fail
          refine CL.out.mono ?_
          rintro en w' ⟨rfl, rfl⟩
          generalize (wr.alloc (.cells #[.int .i64 (x0 : Int), .slice x3 L x4] 66)).alloc (.cells #[.int .i64 (x0 : Int), .slice x3 L x4] 66) = w3 at *
          obtain ⟨b9, o9, e9, ho9, s0, s1⟩ := row_at RA.out HXL.out k hkx
          simp only [Option.some.injEq, Addr.mk.injEq, and_true] at e9
          obtain ⟨rfl, rfl⟩ := e9
          have eo := HO.out
          have s0' : w3.cell? ⟨b, o + k * 2, none⟩ = some (.int .i64 (xs[k].i : Int)) := by rw [eo]; exact s0
          have s1' : w3.cell? ⟨b, o + k * 2 + 1, none⟩ = some (.slice xs[k].A xs[k].bs.length xs[k].c) := by rw [eo]; exact s1
          have f0' : w3.frozen? ⟨b, o + k * 2, none⟩ = false := RA.out.frozenAt _
          have f1' : w3.frozen? ⟨b, o + k * 2 + 1, none⟩ = false := RA.out.frozenAt _
          have RB := (RA.out.stored (o + k * 2) (.int .i64 (x0 : Int))).1
          have RC := (RB.stored (o + k * 2 + 1) (.slice x3 L x4)).1
          have eh : ((hds xs).set (o + k * 2) (.int .i64 (x0 : Int))).set (o + k * 2 + 1) (.slice x3 L x4) = hds (xs.set k ⟨x3, x4, x0, ys⟩) := by
            have := hds_set xs k ⟨x3, x4, x0, ys⟩
            simp only at this
            rw [← HYL.out] at this
            rw [eo, Nat.zero_add]; exact this
          rw [eh] at RC
          have HRC := Lib.hid RC
          have TC := Lib.hid ((TA.out.setCell (b := b) (.inl rfl) (o + k * 2) (.int .i64 (x0 : Int))).setCell (b := b) (.inl rfl) (o + k * 2 + 1) (.slice x3 L x4))
          have hkN : k < N := by omega
          clear s0 s1 ho9 RB RC eh eo RA TA CL q0' q1' hsw hsw1 p0 p1
          generalize xs[k].i = y0 at *
          generalize xs[k].A = y1 at *
          generalize xs[k].c = y2 at *
          generalize xs[k].bs.length = y3 at *
          go_wp2
          go_roundw
          case rel => exact ⟨k + 1, j + 1, _, by omega, by omega, by go_num, by go_num, by rw [List.length_set]; exact HXL.out, HF.out, HS2.out, HRC.out, TC.out⟩
          case measure => simp [intOf]; omega
      · obtain rfl : j = N := by omega
        have t2 : decide ((j : Int) < (j : Int)) = false := by simp
        have hcc := HCC.out
        have h11 := run_from_w b o j cc k (by omega) (by omega)
        have h12 := run_to_w b o j cc k (by omega)
        have eo := HO.out
        have hcl0 := run_clear2 (P := Try.prog) wr 54 66 (.agg #[.int .i64 0, .slice none 0 0]) (.int .i64 0) (.slice none 0 0) Try.underlying54 zero_w rfl rfl rfl b (o + k * 2) (j - k) (cc - k) (by omega)
          (fun m hm => by
            rw [eo, Nat.zero_add, hr.cellAt (k * 2 + m) (by omega), List.getElem?_eq_getElem (by rw [hds_len, hxl]; omega)]; rfl)
          (fun m hm => by rw [eo, Nat.zero_add]; exact hr.frozenAt _)
        obtain ⟨vs, hcl⟩ := hcl0
        have hR : (wr.setCells b (o + k * 2) vs).ownsRow 0 66 2 (.slice (some ⟨b, 0, none⟩) k cc) k ((setAll (hds xs) (o + k * 2) vs).take (k * 2)) := owns_less (owns_sets vs (o + k * 2) wr (hds xs) hr) (by omega)
        have ef : (setAll (hds xs) (o + k * 2) vs).take (k * 2) = hds (others i ws) := by
          rw [take_setAll vs _ _ _ (by omega), hds_take xs k (by omega), htk, List.take_of_length_le (by rw [HNW.out]; exact Nat.le_refl _)]
        have el : k = (others i ws).length := by
          rw [List.take_of_length_le (l := ws) (by rw [HNW.out]; exact Nat.le_refl _)] at htk
          rw [← htk, List.length_take]; omega
        rw [ef] at hR
        have HF := Lib.hid (show DelP i ws (some ⟨b, o, none⟩) w (.returned (.slice (some ⟨b, o, none⟩) k cc)) (wr.setCells b (o + k * 2) vs) from by
          unfold DelP
          rw [← el]
          have eo2 : (some ⟨b, o, none⟩ : Option Addr) = some ⟨b, 0, none⟩ := by rw [eo]
          rw [eo2]
          exact ⟨cc, rfl, hR, Touch.setCells (F := fun k => Option.map Addr.block (some (⟨b, 0, none⟩ : Addr)) = some k) (hT.more (fun k e => by rw [e]; rfl)) rfl vs _⟩)
        clear hR ef el hr hT htk hsm hxl eo
        have hkj' : (k : Int) ≤ (j : Int) := by omega
        go_wp2
        go_ret
        exact HF.out
end Go.Proofs.Ytfjaiolgbcindaa
