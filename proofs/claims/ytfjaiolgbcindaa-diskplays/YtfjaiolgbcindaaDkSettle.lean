/-
  Contract of the disk's settle: what waits is kept, or not; then nothing waits. Conditions: the disk lies in memory as its methods leave it, the list in blocks that are neither the disk's own nor those of what is kept. (Written by tools/gen_dksettle.py.)
-/
import Derived.Test.YtfjaiolgbcindaaDkFns
import Derived.Test.YtfjaiolgbcindaaQuietTail
import Derived.WalkMore
namespace Go.Proofs.Ytfjaiolgbcindaa
open Go.RowKit Arr Dsk
section
variable {w : World} {g : Nat} {κ : Nat → Nat} {s : St} {kb kc : Nat} {v : Value} {ws : List Wt} {A5 : Option Addr} {c5 : Nat}
/-- What a call leaves whose disk keeps its blocks. -/
def DskQ (g : Nat) (κ : Nat → Nat) (s : St) (v : Value) (w : World) (en : Ending) (w' : World) : Prop := en = .returned v ∧ Dsk w' g κ s ∧ Touch (fun k => κ k ≠ 0) w w'
theorem DskQ.p {v : Value} {w' : World} {en : Ending} (h : DskQ g κ s v w en w') : DskP g κ s v w en w' := ⟨h.1, κ, h.2.1, h.2.2, fun _ _ => rfl⟩
theorem under_waits : Try.prog.underlying 54 = some (.slice 66) := Try.underlying54
theorem row_form {W : World} {u : Value} {n : Nat} {xs : List Value} (h : W.ownsRow 0 66 2 u n xs) : ∃ A c, u = .slice A n c ∧ n ≤ c := by
  rcases h.2 with ⟨rfl, rfl⟩ | ⟨b, cap, cur, rfl, _, _, h4, _⟩
  · exact ⟨none, 0, rfl, Nat.le_refl _⟩
  · exact ⟨_, _, rfl, h4⟩
theorem row_at {W : World} {A : Option Addr} {n c : Nat} {xs : List Wt} (h : W.ownsRow 0 66 2 (.slice A n c) n (hds xs)) (hn : xs.length = n) : ∀ k (hk : k < xs.length), ∃ b o, A = some ⟨b, o, none⟩ ∧ o = 0 ∧ W.cell? ⟨b, o + k * 2, none⟩ = some (.int .i64 (xs[k].i : Int)) ∧ W.cell? ⟨b, o + k * 2 + 1, none⟩ = some (.slice xs[k].A xs[k].bs.length xs[k].c) := fun k hk => by
  rcases h.2 with ⟨h1, h0⟩ | ⟨b, cap, cur, h1, _⟩
  · omega
  · simp only [Value.slice.injEq] at h1
    obtain ⟨rfl, _, rfl⟩ := h1
    obtain ⟨q0, q1⟩ := hds_get xs k hk
    exact ⟨b, 0, rfl, rfl, by rw [Nat.zero_add, h.cellAt (k * 2) (by omega)]; exact q0, by rw [Nat.zero_add, h.cellAt (k * 2 + 1) (by omega)]; exact q1⟩
theorem size1_byte : (Try.prog.info? 5).map (·.size) = some 1 := by kernel_rfl
/-- The copy of a write into its sector. -/
theorem copy_run (h : DskV w g κ s kb kc v ws A5 c5) (i : Nat) (hi : i < s.n) (A : Option Addr) (c : Nat) (b : List Nat) (hb : b.length = s.sz) (hx : ByL w (fun _ => True) A b) :
    (Builtin.copy_ #[32, 32] 3 #[.slice (some ⟨kb, i * s.sz, none⟩) s.sz (kc - i * s.sz), .slice A b.length c]).run Try.prog w = .ok (.int .i64 (s.sz : Int)) (w.setCells kb (i * s.sz) (nv .u8 b)) := by
  have z0 := h.wf.z0
  obtain ⟨sb, so, rfl, _, _, hc⟩ := hx.2 (by omega)
  have kl := h.wf.kl
  have kz : ∀ c, c ∈ s.kept → c.length = s.sz := fun c hc => (h.wf.kb c hc).1
  have fl := flat_len s.kept kz
  have e1 : i * s.sz + s.sz ≤ s.kept.flatten.length := by rw [fl, kl, ← Nat.succ_mul]; exact Nat.mul_le_mul_right _ hi
  have hp := (Holds.at0 h.kept).part (i * s.sz) s.sz e1
  rw [Nat.zero_add] at hp
  have := run_copy_bytes (P := Try.prog) w 32 32 3 5 Try.underlying32 size1_byte kb (i * s.sz) s.sz (kc - i * s.sz) sb so b.length c _ b hp (by rw [hb]; exact (Nat.min_self _).symm) (by rw [List.length_take, List.length_drop, hb]; omega) hc
  rw [hb] at this
  rw [hb]
  exact this
theorem ByL.all {ok : Nat → Prop} {A : Option Addr} {b : List Nat} (h : ByL w ok A b) : ByL w (fun _ => True) A b := ⟨h.1, fun hl => by obtain ⟨b', off, e, h1, _, hc⟩ := h.2 hl; exact ⟨b', off, e, h1, trivial, hc⟩⟩
/-- The copy of an element that is gone through. -/
theorem two_cells (w : World) (x y : Value) : (w.alloc (.cells #[x, y] 66)).cell? ⟨w.heap.size, 0, none⟩ = some x ∧ (w.alloc (.cells #[x, y] 66)).cell? ⟨w.heap.size, 1, none⟩ = some y := by
  have hlast := heap_alloc_last w (.cells #[x, y] 66)
  exact ⟨by rw [cell_of_row _ _ _ _ _ _ hlast]; rfl, by rw [cell_of_row _ _ _ _ _ _ hlast]; rfl⟩
theorem Dsk.Wf.put (h : Wf s) (i : Nat) (b : List Nat) (hb : b.length = s.sz) (hx : ∀ x, x ∈ b → x < 256) : Wf { s with kept := s.kept.set i b } :=
  ⟨h.n0, h.n1, h.z0, h.z1, (List.length_set ..).trans h.kl, fun c hc => (mem_set_or hc).elim (h.kb c) (fun e => by rw [e]; exact ⟨hb, hx⟩), h.wb, h.ws, h.ll, h.lh, h.off⟩
theorem Dsk.Wf.none (h : Wf s) : Wf { s with waits := [] } := ⟨h.n0, h.n1, h.z0, h.z1, h.kl, h.kb, fun p hp => (by cases hp), Nat.zero_le _, h.ll, h.lh, fun _ => rfl⟩

set_option maxRecDepth 10000 in
set_option maxHeartbeats 2000000 in
theorem settle_any (h : DskV w g κ s kb kc v ws A5 c5) (rest : Bool) (A : Option Addr) (n c : Nat) (keep : List Bool) (hl : keep.length = n) (hk : Bls w (fun k => κ k ≠ 1 ∧ κ k ≠ 2) A keep) (hm : ws.length ≤ 4294967296) :
    Calls Try.prog 30 #[.pointer (some ⟨g, 0, none⟩), .slice A n c, .bool rest] w (DskQ g κ { s with kept := setl rest keep s.waits s.kept, waits := [] } (.tuple #[]) w) := by
  obtain ⟨A2, cc, rfl, hcc⟩ := row_form h.row
  obtain ⟨N, hN⟩ : ∃ N, N = ws.length := ⟨_, rfl⟩
  have HN := Lib.hid hN
  have c2 := h.c2
  rw [← hN] at c2 hcc hm
  have HROW := Lib.hid (fun (wr : World) (K : List (List Nat)) (hv : DskV wr g κ { s with kept := K } kb kc (.slice A2 ws.length cc) ws A5 c5) (k : Nat) (hk : k < ws.length) => row_at hv.row rfl k hk)
  have HD := Lib.hid h
  have HK := Lib.hid hk
  have HL := Lib.hid hl
  have HW := Lib.hid h.wsE
  have HWB := Lib.hid h.wf.wb
  obtain ⟨fin, hfin⟩ : ∃ fin, fin = setl rest keep s.waits s.kept := ⟨_, rfl⟩
  have HFIN := Lib.hid hfin
  rw [← hfin]
  clear h hk hl hN hfin
  go_enter Try.func30, Try.ntmps30
  go_wp2
  go_step3
  go_wp2
  go_step3
  go_wp2
  clear c2
  go_loopw [13] (fun i wr => ∃ (k : Nat) (K : List (List Nat)), k ≤ N ∧ i = .int .i64 k ∧ DskV wr g κ { s with kept := K } kb kc (.slice A2 ws.length cc) ws A5 c5 ∧ setl rest (keep.drop k) (s.waits.drop k) K = fin ∧ Touch (fun k => κ k = 2) w wr) (fun i _ => N - (intOf i).toNat)
  case atStart => exact ⟨0, s.kept, Nat.zero_le _, rfl, HD.out, by rw [List.drop_zero, List.drop_zero]; exact HFIN.out.symm, Touch.refl _ _⟩
  case round =>
    obtain ⟨k, K, hk, rfl, hV, hf, hT⟩ := hrel
    have HV := Lib.hid hV
    have HF := Lib.hid hf
    have HT := Lib.hid hT
    by_cases hlt : k < N
    · have hki : k < ws.length := by rw [← HN.out]; exact hlt
      obtain ⟨wb, o, rfl, ho, q0, q1⟩ := HROW.out wr K hV k hki
      clear ho
      have t1 : decide ((k : Int) < (N : Int)) = true := by simp; omega
      have wk : IntKind.i64.wrap ((k : Int) + 1) = (k : Int) + 1 := by rw [IntKind.wrap_i64]; omega
      have hkw : k < s.waits.length := by rw [← HW.out, List.length_map]; exact hki
      have ew : s.waits[k] = ws[k].pr := by
        have := List.getElem_map Wt.pr (l := ws) (i := k) (h := by rw [List.length_map]; exact hki)
        rw [← this]; simp only [HW.out]
      have EW := Lib.hid (show s.waits.drop k = (ws[k].i, ws[k].bs) :: s.waits.drop (k + 1) from by rw [List.drop_eq_getElem_cons hkw, ew]; rfl)
      obtain ⟨bi, bl, bx⟩ := HWB.out (ws[k].i, ws[k].bs) (by have := List.getElem_mem hkw; rw [ew] at this; exact this)
      have HX := Lib.hid (hV.wsB ws[k] (List.getElem_mem hki))
      have BL := Lib.hid bl
      have BX := Lib.hid bx
      have BI := Lib.hid bi
      clear ew bl bx bi hV hf hT
      generalize ws[k] = x at *
      obtain ⟨x3, x4, x0, ys⟩ := x
      simp only at q0 q1 EW HX BL BX BI
      obtain ⟨L, hL⟩ : ∃ L, L = ys.length := ⟨_, rfl⟩
      have HYL := Lib.hid hL
      rw [← hL] at q1
      clear hL
      have b1 := below_alloc wr (.cells #[.int .i64 (x0 : Int), .slice x3 L x4] 66)
      have tb : Touch (fun _ => False) wr (wr.alloc (.cells #[.int .i64 (x0 : Int), .slice x3 L x4] 66)) := Touch.of _ b1
      have V1 := Lib.hid (HV.out.touch tb (fun _ _ h => h))
      have T1 := Lib.hid (HT.out.alloc (.cells #[.int .i64 (x0 : Int), .slice x3 L x4] 66))
      have X1 := Lib.hid (HX.out.2.2.touch (ok' := fun b => κ b = 4) tb (fun _ _ h => h) (fun _ _ e => e))
      have Q2 := Lib.hid (two_cells wr (.int .i64 (x0 : Int)) (.slice x3 L x4))
      clear b1 tb
      by_cases hn : k < n
      · have t2 : decide ((k : Int) < (n : Int)) = true := by simp; omega
        have hkk : k < keep.length := by rw [HL.out]; exact hn
        have EK := Lib.hid (List.drop_eq_getElem_cons hkk)
        obtain ⟨ab, ao, rfl, ab1, ab2, ac⟩ := HK.out (by omega)
        have qk : wr.cell? ⟨ab, ao + k, none⟩ = some (.bool keep[k]) := by
          have := (HT.out.cell (p := ⟨ab, ao + k, none⟩) ab1 ab2.2).trans (ac k hkk)
          rw [this]; simp [hkk]
        have qk1 := ((below_alloc wr (.cells #[.int .i64 (x0 : Int), .slice x3 L x4] 66)).cell (p := ⟨ab, ao + k, none⟩) (lt_of_cell qk)).trans qk
        clear ac
        generalize keep[k] = kx at *
        cases kx with
        | false =>
          have FN := Lib.hid (show setl rest (keep.drop (k + 1)) (s.waits.drop (k + 1)) K = fin from by rw [← HF.out, EW.out, EK.out]; rfl)
          clear EW EK HF
          go_wp2
          go_roundw
          case rel => exact ⟨k + 1, K, by omega, by go_num, V1.out, FN.out, T1.out⟩
          case measure => simp [intOf]; omega
        | true =>
          have FN := Lib.hid (show setl rest (keep.drop (k + 1)) (s.waits.drop (k + 1)) (K.set x0 ys) = fin from by rw [← HF.out, EW.out, EK.out]; rfl)
          clear EW EK HF
          have C := Lib.hid (at_any V1.out x0 BI.out)
          have V2 := Lib.hid (V1.out.setKept x0 ys BI.out BL.out (V1.out.wf.put x0 ys BL.out BX.out))
          have T2 := Lib.hid (Touch.setCells (F := fun k => κ k = 2) T1.out V1.out.k2 (nv .u8 ys) (x0 * s.sz))
          go_wp2_with fail
          generalize wr.alloc (.cells #[.int .i64 (x0 : Int), .slice x3 L x4] 66) = w1 at *
          generalize wr.heap.size = nb at *
          obtain ⟨p0, p1⟩ := Q2.out
          clear Q2 q0 q1
          have CP := Lib.hid (fun (m : Nat) => copy_run (V1.out.touch (touch_none (fun _ => False) w1 m) (fun _ _ h => h)) x0 BI.out x3 x4 ys BL.out (X1.out.touch (ok' := fun _ => True) (touch_none (fun _ => False) w1 m) (fun _ _ h => h) (fun _ _ _ => trivial)))
          have CA := Lib.hid (fun (m : Nat) => at_any (V1.out.touch (touch_none (fun _ => False) w1 m) (fun _ _ h => h)) x0 BI.out)
          have VK := Lib.hid (fun (m : Nat) => (V1.out.touch (touch_none (fun _ => False) w1 m) (fun _ _ h => h)).setKept x0 ys BI.out BL.out (V1.out.wf.put x0 ys BL.out BX.out))
          have TK := Lib.hid (fun (m : Nat) => Touch.setCells (F := fun k => κ k = 2) (T1.out.drewN m) V1.out.k2 (nv .u8 ys) (x0 * s.sz))
          rw [← HYL.out] at CP
          clear V1 X1 T1 C V2 T2
          refine region_quiet_tail 6 (by kernel_rfl) (by kernel_rfl) ?_
          simp only [List.take_succ_cons, List.take_zero, List.drop_succ_cons, List.drop_zero]
          repeat (go_big_quiet_step ((go_at_call 37; exact Calls.quiet_of (CA.out _))))
          refine wpQuiet_nil ?_
          intro wd hwd
          obtain ⟨m, rfl⟩ := hwd
          have CP1 := Lib.hid (CP.out m)
          have VK1 := Lib.hid (VK.out m)
          have TK1 := Lib.hid (TK.out m)
          clear CP VK TK CA
          generalize w1.drewN m = wd at *
          go_wp2_with (first | (with_reducible refine Arr.list_copy (.slice (some ⟨kb, x0 * s.sz, none⟩) s.sz (kc - x0 * s.sz)) (.slice x3 L x4) _ (wd.setCells kb (x0 * s.sz) (nv .u8 ys)) rfl rfl CP1.out ?_) | fail)
          go_roundw
          case rel => exact ⟨k + 1, K.set x0 ys, by omega, by go_num, VK1.out, FN.out, TK1.out⟩
          case measure => simp [intOf]; omega
      · have t2 : decide ((k : Int) < (n : Int)) = false := by simp; omega
        have EK := Lib.hid (show keep.drop k = [] ∧ keep.drop (k + 1) = [] from ⟨List.drop_eq_nil_of_le (by rw [HL.out]; omega), List.drop_eq_nil_of_le (by rw [HL.out]; omega)⟩)
        cases rest with
        | true =>
          have FN := Lib.hid (show setl true (keep.drop (k + 1)) (s.waits.drop (k + 1)) (K.set x0 ys) = fin from by rw [← HF.out, EW.out, EK.out.1, EK.out.2]; rfl)
          clear EW EK HF
          have C := Lib.hid (at_any V1.out x0 BI.out)
          have V2 := Lib.hid (V1.out.setKept x0 ys BI.out BL.out (V1.out.wf.put x0 ys BL.out BX.out))
          have T2 := Lib.hid (Touch.setCells (F := fun k => κ k = 2) T1.out V1.out.k2 (nv .u8 ys) (x0 * s.sz))
          go_wp2_with fail
          generalize wr.alloc (.cells #[.int .i64 (x0 : Int), .slice x3 L x4] 66) = w1 at *
          generalize wr.heap.size = nb at *
          obtain ⟨p0, p1⟩ := Q2.out
          clear Q2 q0 q1
          have CP := Lib.hid (fun (m : Nat) => copy_run (V1.out.touch (touch_none (fun _ => False) w1 m) (fun _ _ h => h)) x0 BI.out x3 x4 ys BL.out (X1.out.touch (ok' := fun _ => True) (touch_none (fun _ => False) w1 m) (fun _ _ h => h) (fun _ _ _ => trivial)))
          have CA := Lib.hid (fun (m : Nat) => at_any (V1.out.touch (touch_none (fun _ => False) w1 m) (fun _ _ h => h)) x0 BI.out)
          have VK := Lib.hid (fun (m : Nat) => (V1.out.touch (touch_none (fun _ => False) w1 m) (fun _ _ h => h)).setKept x0 ys BI.out BL.out (V1.out.wf.put x0 ys BL.out BX.out))
          have TK := Lib.hid (fun (m : Nat) => Touch.setCells (F := fun k => κ k = 2) (T1.out.drewN m) V1.out.k2 (nv .u8 ys) (x0 * s.sz))
          rw [← HYL.out] at CP
          clear V1 X1 T1 C V2 T2
          refine region_quiet_tail 6 (by kernel_rfl) (by kernel_rfl) ?_
          simp only [List.take_succ_cons, List.take_zero, List.drop_succ_cons, List.drop_zero]
          repeat (go_big_quiet_step ((go_at_call 37; exact Calls.quiet_of (CA.out _))))
          refine wpQuiet_nil ?_
          intro wd hwd
          obtain ⟨m, rfl⟩ := hwd
          have CP1 := Lib.hid (CP.out m)
          have VK1 := Lib.hid (VK.out m)
          have TK1 := Lib.hid (TK.out m)
          clear CP VK TK CA
          generalize w1.drewN m = wd at *
          go_wp2_with (first | (with_reducible refine Arr.list_copy (.slice (some ⟨kb, x0 * s.sz, none⟩) s.sz (kc - x0 * s.sz)) (.slice x3 L x4) _ (wd.setCells kb (x0 * s.sz) (nv .u8 ys)) rfl rfl CP1.out ?_) | fail)
          go_roundw
          case rel => exact ⟨k + 1, K.set x0 ys, by omega, by go_num, VK1.out, FN.out, TK1.out⟩
          case measure => simp [intOf]; omega
        | false =>
          have FN := Lib.hid (show K = fin from by rw [← HF.out, EW.out, EK.out.1]; rfl)
          obtain rfl : K = fin := FN.out
          clear EW EK HF
          have FX := Lib.hid (V1.out.setNone V1.out.wf.none)
          have FT := Lib.hid ((T1.out.more (F' := fun k => κ k ≠ 0) (fun k e => by rw [e]; omega)).setCell (b := g) (.inl (by rw [V1.out.own]; omega)) 2 (.slice none 0 0))
          have c2 := V1.out.c2
          have f2 := V1.out.free 2
          clear T1
          go_wp2
          go_end0
          exact ⟨rfl, ⟨_, _, _, _, _, _, FX.out⟩, FT.out⟩
    · obtain rfl : k = N := by omega
      have t1 : decide ((k : Int) < (k : Int)) = false := by simp
      have ED : s.waits.drop k = [] := List.drop_eq_nil_of_le (by rw [← HW.out, List.length_map, ← HN.out]; exact Nat.le_refl _)
      have FN := Lib.hid (show K = fin from by rw [← HF.out, ED, setl_nil])
      clear ED
      obtain rfl : K = fin := FN.out
      have FX := Lib.hid (hV.setNone hV.wf.none)
      have FT := Lib.hid ((hT.more (F' := fun k => κ k ≠ 0) (fun k e => by rw [e]; omega)).setCell (b := g) (.inl (by rw [hV.own]; omega)) 2 (.slice none 0 0))
      have c2 := hV.c2
      have f2 := hV.free 2
      clear hT hf hV HF
      go_wp2
      go_end0
      exact ⟨rfl, ⟨_, _, _, _, _, _, FX.out⟩, FT.out⟩
end
end Go.Proofs.Ytfjaiolgbcindaa
