/-
  Contracts of the reference's Crash, burnt and Flush. Conditions: the disk lies in memory as its calls leave it; its steps are fewer than 2^32.
-/
import Derived.Test.YtfjaiolgbcindaaDkRefMem
namespace Go.Proofs.Ytfjaiolgbcindaa
open Go.RowKit Arr Dsk
set_option linter.unusedSimpArgs false

namespace Dsk
def St.gone (r : St) (keep : List Bool) : St := { r.crash keep with left := -1 }
def St.rcrash (r : St) (keep : List Bool) : St := if r.on then r.gone keep else r
def St.burn (r : St) : St × Bool := if r.left = 0 then (r.rcrash r.keep, true) else (r.count, false)
def St.rflush (r : St) : St × Nat := if r.ready ≠ 0 then (r, r.ready) else if r.left = 0 then (r.gone r.keep, 40) else (r.count.flushed, 0)
def St.rwrite (r : St) (i : Int) (b : List Nat) : St × Nat :=
  if r.ready ≠ 0 then (r, r.ready) else if r.fits i b.length ≠ 0 then (r, r.fits i b.length) else if r.left = 0 then (r.gone r.keep, 40) else (r.count.add i.toNat b, 0)
theorem Wf.gone {r : St} (h : Wf r) (keep : List Bool) : Wf (r.gone keep) := by
  have hc := h.crash keep
  exact ⟨hc.n0, hc.n1, hc.z0, hc.z1, hc.kl, hc.kb, hc.wb, hc.ws, by show (-9223372036854775808 : Int) ≤ -1; omega, by show (-1 : Int) ≤ 9223372036854775807; omega, hc.off⟩
end Dsk
section
variable {w : World} {g B : Nat} {ρ : Nat → Nat} {r : St}
/-- The disk's row of what is kept, as a slice. -/
theorem RdkV.form {w : World} {r : St} {vk va vb : Value} {ps qs : List Sl} {KA : Option Addr} {kc : Nat} (h : RdkV w g B ρ r vk va vb ps qs KA kc) :
    ∃ kb ck AA ca AB cb, vk = .slice (some ⟨kb, 0, none⟩) ps.length ck ∧ va = .slice AA r.waits.length ca ∧ vb = .slice AB qs.length cb ∧ ps.length = r.n ∧ qs.length = r.waits.length := by
  have e1 : ps.length = r.n := by rw [← h.wf.kl, ← h.eK, List.length_map]
  have e2 : qs.length = r.waits.length := by
    have := congrArg List.length h.eB
    simpa using this
  have n0 := h.wf.n0
  obtain ⟨A, c, ea, _⟩ := own_form h.rowA
  obtain ⟨A', c', eb, _⟩ := own_form h.rowB
  rcases h.rowK.2 with ⟨_, h0⟩ | ⟨b, cap, cur, h1, _⟩
  · omega
  · exact ⟨b, cap, A, c, A', c', h1, ea, eb, e1, e2⟩

set_option maxRecDepth 10000 in
set_option maxHeartbeats 2000000 in
theorem rcrash_on (h : Rdk w g B ρ r) (hon : r.on = true) (A : Option Addr) (n c : Nat) (keep : List Bool) (hl : keep.length = n) (hk : Bls w (fun k => ¬ wr4 ρ k) A keep) (hm : r.waits.length ≤ 4294967296) :
    Calls Try.prog 27 #[.pointer (some ⟨g, 0, none⟩), .slice A n c] w (RdkP g B ρ (r.gone keep) (.tuple #[]) w) := by
  obtain ⟨vk, va, vb, ps, qs, KA, kc, h⟩ := h
  obtain ⟨kb, ck, AA, ca, AB, cb, rfl, rfl, rfl, hp1, hq1⟩ := h.form
  have c4 := h.c4
  rw [hon] at c4
  have c4' : w.cell? ⟨g, 4, none⟩ = some (.bool false) := c4
  obtain ⟨N, hN⟩ : ∃ N, N = r.waits.length := ⟨_, rfl⟩
  have HN := Lib.hid hN
  have HK := Lib.hid hk
  have HL := Lib.hid hl
  have HD := Lib.hid h
  have HQ1 := Lib.hid hq1
  have HWB := Lib.hid h.wf.wb
  have HGW := Lib.hid (h.wf.gone keep)
  obtain ⟨fin, hfin⟩ : ∃ fin, fin = setl false keep r.waits r.kept := ⟨_, rfl⟩
  have HFIN := Lib.hid hfin
  have HG := Lib.hid (show r.gone keep = { { { { r with kept := fin } with waits := [] } with on := !true } with left := -1 } from by rw [hfin]; rfl)
  have hmN : N ≤ 4294967296 := by rw [hN]; exact hm
  clear h hk hl hN hfin c4 hm hq1
  go_enter Try.func27, Try.ntmps27
  go_wp2
  clear c4'
  go_loopw [4] (fun i wr => ∃ (k : Nat) (K : List (List Nat)) (ps' : List Sl), k ≤ N ∧ i = .int .i64 k ∧ RdkV wr g B ρ { r with kept := K } (.slice (some ⟨kb, 0, none⟩) ps'.length ck) (.slice AA r.waits.length ca) (.slice AB qs.length cb) ps' qs KA kc ∧ ps'.length = r.n ∧ setl false (keep.drop k) (r.waits.drop k) K = fin ∧ Touch (fun k => ρ k = 2) w wr) (fun i _ => N - (intOf i).toNat)
  case atStart => exact ⟨0, r.kept, ps, Nat.zero_le _, rfl, HD.out, hp1, by rw [List.drop_zero, List.drop_zero]; exact HFIN.out.symm, Touch.refl _ _⟩
  case round =>
    obtain ⟨k, K, ps', hkN, rfl, hV, hpl, hf, hT⟩ := hrel
    have HV := Lib.hid hV
    have HF := Lib.hid hf
    have HT := Lib.hid hT
    have HPL := Lib.hid hpl
    have c0 := hV.c0
    have c2 := hV.c2
    have c3 := hV.c3
    rw [← HN.out] at c2
    rw [HQ1.out, ← HN.out] at c3
    rw [hpl] at c0
    have wk : IntKind.i64.wrap ((k : Int) + 1) = (k : Int) + 1 := by rw [IntKind.wrap_i64]; omega
    by_cases hlt : k < N
    · have t1 : decide ((k : Int) < (N : Int)) = true := by simp; omega
      have hkw : k < r.waits.length := by rw [← HN.out]; exact hlt
      have hkq : k < qs.length := by rw [HQ1.out]; exact hkw
      obtain ⟨ab, rfl, qa⟩ := int_at hV.rowA rfl k hkw
      obtain ⟨bb, rfl, qb, _⟩ := sl_at hV.rowB rfl k hkq
      have ebs : (r.waits[k]).2 = qs[k].bs := by
        have h1 := congrArg (fun l => l[k]?) hV.eB
        simp only [List.getElem?_map, List.getElem?_eq_getElem hkq, List.getElem?_eq_getElem hkw, Option.map_some, Option.some.injEq] at h1
        exact h1.symm
      have EW := Lib.hid (show r.waits.drop k = ((r.waits[k]).1, qs[k].bs) :: r.waits.drop (k + 1) from by rw [List.drop_eq_getElem_cons hkw, ← ebs])
      obtain ⟨bi, bl, bx⟩ := HWB.out _ (List.getElem_mem hkw)
      have HX := Lib.hid (hV.bB qs[k] (List.getElem_mem hkq))
      rw [ebs] at bl bx
      have hwp := Lib.hid (hV.wf.put (r.waits[k]).1 qs[k].bs bl bx)
      have hsl : (r.waits[k]).1 < ps'.length := by rw [hpl]; exact bi
      obtain ⟨kb2, ekb, qk, fk⟩ := sl_at hV.rowK rfl (r.waits[k]).1 hsl
      simp only [Option.some.injEq, Addr.mk.injEq, and_true] at ekb
      subst ekb
      have hbi : ((r.waits[k]).1 : Int) < (r.n : Int) := by omega
      generalize hvo : ps'[(r.waits[k]).1].v = vold at qk
      clear hvo
      clear ebs bl bx hV hf hT hpl bi hsl
      have hkept := Lib.hid (HV.out.setKept (r.waits[k]).1 qs[k] HX.out hwp.out)
      have hT2 := Lib.hid (HT.out.setCell (b := kb) (.inl (HV.out.kK kb rfl)) (r.waits[k]).1 qs[k].v)
      generalize (r.waits[k]).1 = x0 at *
      generalize qs[k] = x at *
      obtain ⟨x3, x4, ys⟩ := x
      simp only [Sl.v] at qb hkept hT2
      simp only at EW HX hwp
      by_cases hn : k < n
      · have t2 : decide ((k : Int) < (n : Int)) = true := by simp; omega
        have hkk : k < keep.length := by rw [HL.out]; exact hn
        have EK := Lib.hid (List.drop_eq_getElem_cons hkk)
        obtain ⟨fb, fo, rfl, fb1, fb2, fc⟩ := HK.out (by omega)
        have qk1 : wr.cell? ⟨fb, fo + k, none⟩ = some (.bool keep[k]) := by
          have := (HT.out.cell (p := ⟨fb, fo + k, none⟩) fb1 (fun e => fb2 (.inr (.inl e)))).trans (fc k hkk)
          rw [this]; simp [hkk]
        clear fc
        generalize keep[k] = kx at *
        cases kx with
        | false =>
          have FN := Lib.hid (show setl false (keep.drop (k + 1)) (r.waits.drop (k + 1)) K = fin from by rw [← HF.out, EW.out, EK.out]; rfl)
          clear EW EK HF
          go_wp2
          go_roundw
          case rel => exact ⟨k + 1, K, ps', by omega, by go_num, HV.out, HPL.out, FN.out, HT.out⟩
          case measure => simp [intOf]; omega
        | true =>
          have FN := Lib.hid (show setl false (keep.drop (k + 1)) (r.waits.drop (k + 1)) (K.set x0 ys) = fin from by rw [← HF.out, EW.out, EK.out]; rfl)
          clear EW EK HF
          go_wp2
          refine region_quiet_tail 19 (by kernel_rfl) (by kernel_rfl) ?_
          simp only [List.take_succ_cons, List.take_zero, List.drop_succ_cons, List.drop_zero]
          repeat (go_big_quiet_step (fail))
          refine wpQuiet_nil ?_
          intro wd hwd
          obtain ⟨m, rfl⟩ := hwd
          have qk2 : (wr.drewN m).cell? ⟨kb, x0, none⟩ = some vold := qk
          have fk2 : (wr.drewN m).frozen? ⟨kb, x0, none⟩ = false := fk
          have VD := Lib.hid (show RdkV ((wr.drewN m).setCell ⟨kb, x0, none⟩ (.slice x3 ys.length x4)) g B ρ { r with kept := K.set x0 ys } (.slice (some ⟨kb, 0, none⟩) (ps'.set x0 ⟨x3, x4, ys⟩).length ck) (.slice (some ⟨ab, 0, none⟩) r.waits.length ca) (.slice (some ⟨bb, 0, none⟩) qs.length cb) (ps'.set x0 ⟨x3, x4, ys⟩) qs KA kc from (HV.out.touch (F := fun _ => False) (touch_none _ wr m) (fun _ h => h.elim)).setKept x0 ⟨x3, x4, ys⟩ (slB_touch (xs := [⟨x3, x4, ys⟩]) (by intro y hy; rw [List.mem_singleton] at hy; subst hy; exact HX.out) (F := fun _ => False) (touch_none _ wr m) (fun _ _ h => h) (fun _ _ => rfl) _ (List.mem_singleton.2 rfl)) hwp.out)
          have TD := Lib.hid ((HT.out.drewN m).setCell (b := kb) (.inl (HV.out.kK kb rfl)) x0 (.slice x3 ys.length x4))
          have PD := Lib.hid (show (ps'.set x0 ⟨x3, x4, ys⟩).length = r.n from by rw [List.length_set]; exact HPL.out)
          clear qk fk qa qb c0 c2 c3 HV HT
          generalize wr.drewN m = wd at *
          generalize ys.length = L at *
          go_wp2
          go_roundw
          case rel => exact ⟨k + 1, K.set x0 ys, _, by omega, by go_num, VD.out, PD.out, FN.out, TD.out⟩
          case measure => simp [intOf]; omega
      · have t2 : decide ((k : Int) < (n : Int)) = false := by simp; omega
        have EK := Lib.hid (show keep.drop k = [] ∧ keep.drop (k + 1) = [] from ⟨List.drop_eq_nil_of_le (by rw [HL.out]; omega), List.drop_eq_nil_of_le (by rw [HL.out]; omega)⟩)
        have FN := Lib.hid (show setl false (keep.drop (k + 1)) (r.waits.drop (k + 1)) K = fin from by
          rw [← HF.out, EW.out, EK.out.1, EK.out.2]
          cases r.waits.drop (k + 1) <;> rfl)
        clear EW EK HF
        go_wp2
        go_roundw
        case rel => exact ⟨k + 1, K, ps', by omega, by go_num, HV.out, HPL.out, FN.out, HT.out⟩
        case measure => simp [intOf]; omega
    · obtain rfl : k = N := by omega
      have t1 : decide ((k : Int) < (k : Int)) = false := by simp
      have ED : r.waits.drop k = [] := List.drop_eq_nil_of_le (by rw [← HN.out]; exact Nat.le_refl _)
      obtain rfl : K = fin := by rw [← hf, ED, setl_nil]
      clear ED hf HF
      have n1 := hV.setNone hV.wf.none
      have n2 := n1.setOn true (by
        have := HGW.out.off
        exact ⟨n1.wf.n0, n1.wf.n1, n1.wf.z0, n1.wf.z1, n1.wf.kl, n1.wf.kb, n1.wf.wb, n1.wf.ws, n1.wf.ll, n1.wf.lh, fun _ => rfl⟩)
      have n3 := n2.setLeft (-1) (by rw [← HG.out]; exact HGW.out)
      rw [← HG.out] at n3
      have FX := Lib.hid n3
      have FT := Lib.hid (((((hT.more (F' := wr4 ρ) (fun k e => .inr (.inl e))).setCell (b := g) (.inl (.inl hV.own)) 2 (.slice none 0 0)).setCell (b := g) (.inl (.inl hV.own)) 3 (.slice none 0 0)).setCell (b := g) (.inl (.inl hV.own)) 4 (.bool true)).setCell (b := g) (.inl (.inl hV.own)) 5 (.int .i64 (-1)))
      have c4 := hV.c4
      have c5 := hV.c5
      have f2 := hV.free 2
      have f3 := hV.free 3
      have f4 := hV.free 4
      have f5 := hV.free 5
      clear n1 n2 n3 hV hT hpl HV HT
      go_wp2
      go_end0
      exact ⟨rfl, ρ, ⟨_, _, _, _, _, _, _, FX.out⟩, FT.out, fun _ _ => rfl⟩
theorem rcrash_off (h : Rdk w g B ρ r) (hon : r.on = false) (v : Value) : Calls Try.prog 27 #[.pointer (some ⟨g, 0, none⟩), v] w (RdkP g B ρ r (.tuple #[]) w) := by
  have HD := Lib.hid h
  obtain ⟨vk, va, vb, ps, qs, KA, kc, h⟩ := h
  have c4 := h.c4
  rw [hon] at c4
  have c4' : w.cell? ⟨g, 4, none⟩ = some (.bool true) := c4
  clear h c4
  go_enter Try.func27, Try.ntmps27
  go_wp2
  (try simp only [Exit.inBlock, Exit.then])
  refine bodyPost_ret (results_none rfl _ _ _) rfl ?_
  exact RdkP.same HD.out _
theorem rcrash_any (h : Rdk w g B ρ r) (A : Option Addr) (n c : Nat) (keep : List Bool) (hl : keep.length = n) (hk : Bls w (fun k => ¬ wr4 ρ k) A keep) (hm : r.waits.length ≤ 4294967296) :
    Calls Try.prog 27 #[.pointer (some ⟨g, 0, none⟩), .slice A n c] w (RdkP g B ρ (r.rcrash keep) (.tuple #[]) w) := by
  unfold St.rcrash
  by_cases hon : r.on = true
  · rw [if_pos hon]; exact rcrash_on h hon A n c keep hl hk hm
  · rw [if_neg hon]; exact rcrash_off h (by simpa using hon) _
end
end Go.Proofs.Ytfjaiolgbcindaa
