/-
  Contracts of the reference's burnt, Flush and Read. Conditions: the disk lies in memory as its calls leave it; its steps are fewer than 2^32.
-/
import Derived.Test.YtfjaiolgbcindaaDkRefCrash
namespace Go.Proofs.Ytfjaiolgbcindaa
open Go.RowKit Arr Dsk
set_option linter.unusedSimpArgs false
section
variable {w : World} {g B : Nat} {ρ : Nat → Nat} {r : St}
theorem low_wr4 {w : World} {g B : Nat} {ρ : Nat → Nat} {r : St} {vk va vb : Value} {ps qs : List Sl} {KA : Option Addr} {kc : Nat} (h : RdkV w g B ρ r vk va vb ps qs KA kc) {k : Nat} (hk : k < B) : ¬ wr4 ρ k := fun hx => by
  unfold wr4 at hx
  have := h.lo k (by omega)
  omega
theorem burnt_any (h : Rdk w g B ρ r) (hon : r.on = true) (hm : r.steps ≤ 4294967294) :
    Calls Try.prog 40 #[.pointer (some ⟨g, 0, none⟩)] w (RdkP g B ρ (if r.left = 0 then r.gone r.keep else r.count) (.bool (decide (r.left = 0))) w) := by
  have hwf := h.wf
  have hws := hwf.ws
  by_cases h0 : r.left = 0
  · rw [if_pos h0, decide_eq_true h0]
    have HC := Lib.hid (fun A c (hk : Bls w (fun k => ¬ wr4 ρ k) A r.keep) => by
      have := rcrash_any h A r.keep.length c r.keep rfl hk (by omega)
      unfold St.rcrash at this
      rw [if_pos hon] at this
      exact this)
    obtain ⟨vk, va, vb, ps, qs, KA, kc, h⟩ := h
    have c5 := h.c5
    have c6 := h.c6
    rw [h0] at c5
    have CR := Lib.hid (HC.out KA kc (h.keep.touch (F := fun _ => False) (Touch.refl _ w) (fun _ _ h => h) (fun k _ e => low_wr4 h e)))
    have t1 : ((0 : Int) == 0) = true := rfl
    clear h HC hwf hws
    generalize r.keep.length = kn at *
    generalize r.gone r.keep = r2 at *
    go_enter Try.func40, Try.ntmps40
    go_wp2_with fail
    refine CR.out.mono ?_
    rintro en w' ⟨rfl, hp⟩
    have HP := Lib.hid hp
    clear hp
    go_wp2
    go_ret
    exact ⟨rfl, HP.out⟩
  · rw [if_neg h0, decide_eq_false h0]
    obtain ⟨vk, va, vb, ps, qs, KA, kc, h⟩ := h
    have c5 := h.c5
    have c7 := h.c7
    have f5 := h.free 5
    have f7 := h.free 7
    have lh := hwf.lh
    have ll := hwf.ll
    have t1 : (r.left == 0) = false := by simp; exact h0
    have ws1 : IntKind.i64.wrap ((r.steps : Int) + 1) = ((r.steps + 1 : Nat) : Int) := by rw [IntKind.wrap_i64]; omega
    by_cases hp : 0 < r.left
    · have t2 : decide (r.left > 0) = true := by simp; exact hp
      have wl : IntKind.i64.wrap (r.left - 1) = r.left - 1 := by rw [IntKind.wrap_i64]; omega
      have e1 : r.count = { { r with left := r.left - 1 } with steps := r.steps + 1 } := by unfold St.count; rw [if_pos hp]
      have w1 : Wf { r with left := r.left - 1 } := ⟨hwf.n0, hwf.n1, hwf.z0, hwf.z1, hwf.kl, hwf.kb, hwf.wb, hwf.ws, by show _ ≤ r.left - 1; omega, by show r.left - 1 ≤ _; omega, hwf.off⟩
      have h1 := h.setLeft (r.left - 1) w1
      have h2 := h1.setSteps (r.steps + 1) (by rw [← e1]; exact hwf.count)
      have FX := Lib.hid h2
      have FT := Lib.hid (((Touch.refl (wr4 ρ) w).setCell (b := g) (.inl (.inl h.own)) 5 (.int .i64 (r.left - 1))).setCell (b := g) (.inl (.inl h.own)) 7 (.int .i64 ((r.steps + 1 : Nat) : Int)))
      have c7' := h1.c7
      rw [e1]
      clear h h1 h2 hwf hws w1 e1 hon
      obtain ⟨l, hl⟩ : ∃ l, l = r.left := ⟨_, rfl⟩
      obtain ⟨p, hpp⟩ : ∃ p, p = r.steps := ⟨_, rfl⟩
      simp only [← hl, ← hpp] at *
      clear hl hpp
      go_enter Try.func40, Try.ntmps40
      go_wp2
      go_ret
      exact ⟨rfl, ρ, ⟨_, _, _, _, _, _, _, FX.out⟩, FT.out, fun _ _ => rfl⟩
    · have t2 : decide (r.left > 0) = false := by simp; omega
      have e1 : r.count = { r with steps := r.steps + 1 } := by unfold St.count; rw [if_neg hp]
      have h2 := h.setSteps (r.steps + 1) (by rw [← e1]; exact hwf.count)
      have FX := Lib.hid h2
      have FT := Lib.hid ((Touch.refl (wr4 ρ) w).setCell (b := g) (.inl (.inl h.own)) 7 (.int .i64 ((r.steps + 1 : Nat) : Int)))
      rw [e1]
      clear h h2 hwf hws e1 hon
      obtain ⟨l, hl⟩ : ∃ l, l = r.left := ⟨_, rfl⟩
      obtain ⟨p, hpp⟩ : ∃ p, p = r.steps := ⟨_, rfl⟩
      simp only [← hl, ← hpp] at *
      clear hl hpp
      go_enter Try.func40, Try.ntmps40
      go_wp2
      go_ret
      exact ⟨rfl, ρ, ⟨_, _, _, _, _, _, _, FX.out⟩, FT.out, fun _ _ => rfl⟩
theorem rflush_off (h : Rdk w g B ρ r) (hon : r.on = false) : Calls Try.prog 26 #[.pointer (some ⟨g, 0, none⟩)] w (RdkP g B ρ r (.int .i64 40) w) := by
  have HD := Lib.hid h
  obtain ⟨vk, va, vb, ps, qs, KA, kc, h⟩ := h
  have c4 := h.c4
  rw [hon] at c4
  have c4' : w.cell? ⟨g, 4, none⟩ = some (.bool true) := c4
  clear h c4
  go_enter Try.func26, Try.ntmps26
  go_wp2
  go_ret
  exact RdkP.same HD.out _
set_option maxRecDepth 10000 in
set_option maxHeartbeats 2000000 in
theorem rflush_on (h : Rdk w g B ρ r) (hon : r.on = true) (hm : r.steps ≤ 4294967294) :
    Calls Try.prog 26 #[.pointer (some ⟨g, 0, none⟩)] w (RdkP g B ρ (if r.left = 0 then r.gone r.keep else r.count.flushed) (.int .i64 (if r.left = 0 then 40 else 0)) w) := by
  have CB := Lib.hid (burnt_any h hon hm)
  have hws := h.wf.ws
  have HWC := Lib.hid h.wf.count
  obtain ⟨vk, va, vb, ps, qs, KA, kc, h⟩ := h
  have c4 := h.c4
  rw [hon] at c4
  have c4' : w.cell? ⟨g, 4, none⟩ = some (.bool false) := c4
  clear h c4
  by_cases h0 : r.left = 0
  · rw [if_pos h0, if_pos h0]
    rw [if_pos h0, decide_eq_true h0] at CB
    clear h0
    generalize r.gone r.keep = r2 at *
    go_enter Try.func26, Try.ntmps26
    go_wp2_with fail
    refine CB.out.mono ?_
    rintro en w' ⟨rfl, hp⟩
    have HP := Lib.hid hp
    clear hp
    go_wp2
    go_ret
    exact ⟨rfl, HP.out⟩
  · rw [if_neg h0, if_neg h0]
    rw [if_neg h0, decide_eq_false h0] at CB
    have HFL := Lib.hid (show r.count.flushed = { { r.count with kept := setl true [] r.count.waits r.count.kept } with waits := [] } from rfl)
    have HWF := Lib.hid HWC.out.flushed
    have hml : r.count.waits.length ≤ 4294967296 := by have : r.count.waits = r.waits := rfl; rw [this]; omega
    clear h0
    generalize r.count.flushed = r2 at *
    generalize r.count = r1 at *
    go_enter Try.func26, Try.ntmps26
    go_wp2_with fail
    refine CB.out.mono ?_
    rintro en w1 ⟨rfl, ρ1, hd, hT, hE⟩
    have HT0 := Lib.hid hT
    have HE0 := Lib.hid hE
    obtain ⟨vk, va, vb, ps, qs, KA, kc, h⟩ := hd
    obtain ⟨kb, ck, AA, ca, AB, cb, rfl, rfl, rfl, hp1, hq1⟩ := h.form
    have HD := Lib.hid h
    have HQ1 := Lib.hid hq1
    have HWB := Lib.hid h.wf.wb
    obtain ⟨N, hN⟩ : ∃ N, N = r1.waits.length := ⟨_, rfl⟩
    have HN := Lib.hid hN
    have hmN : N ≤ 4294967296 := by rw [hN]; exact hml
    obtain ⟨fin, hfin⟩ : ∃ fin, fin = setl true [] r1.waits r1.kept := ⟨_, rfl⟩
    have HFIN := Lib.hid hfin
    have HG := Lib.hid (show r2 = { { r1 with kept := fin } with waits := [] } from by rw [hfin]; exact HFL.out)
    clear h hfin hN hml hT hE hq1 CB HFL c4'
    go_wp2
    go_loopw [3] (fun i wr => ∃ (k : Nat) (K : List (List Nat)) (ps' : List Sl), k ≤ N ∧ i = .int .i64 k ∧ RdkV wr g B ρ1 { r1 with kept := K } (.slice (some ⟨kb, 0, none⟩) ps'.length ck) (.slice AA r1.waits.length ca) (.slice AB qs.length cb) ps' qs KA kc ∧ ps'.length = r1.n ∧ setl true [] (r1.waits.drop k) K = fin ∧ Touch (fun k => ρ1 k = 2) w1 wr) (fun i _ => N - (intOf i).toNat)
    case atStart => exact ⟨0, r1.kept, ps, Nat.zero_le _, rfl, HD.out, hp1, by rw [List.drop_zero]; exact HFIN.out.symm, Touch.refl _ _⟩
    case round =>
      obtain ⟨k, K, ps', hkN, rfl, hV, hpl, hf, hT⟩ := hrel
      have HV := Lib.hid hV
      have HF := Lib.hid hf
      have HT := Lib.hid hT
      have HPL := Lib.hid hpl
      have c0 := hV.c0
      have c2 := hV.c2
      have c3 := hV.c3
      rw [← HN.out] at c2
      rw [HQ1.out, ← HN.out] at c3
      rw [hpl] at c0
      have wk : IntKind.i64.wrap ((k : Int) + 1) = (k : Int) + 1 := by rw [IntKind.wrap_i64]; omega
      by_cases hlt : k < N
      · have t1 : decide ((k : Int) < (N : Int)) = true := by simp; omega
        have hkw : k < r1.waits.length := by rw [← HN.out]; exact hlt
        have hkq : k < qs.length := by rw [HQ1.out]; exact hkw
        obtain ⟨ab, rfl, qa⟩ := int_at hV.rowA rfl k hkw
        obtain ⟨bb, rfl, qb, _⟩ := sl_at hV.rowB rfl k hkq
        have ebs : (r1.waits[k]).2 = qs[k].bs := by
          have h1 := congrArg (fun l => l[k]?) hV.eB
          simp only [List.getElem?_map, List.getElem?_eq_getElem hkq, List.getElem?_eq_getElem hkw, Option.map_some, Option.some.injEq] at h1
          exact h1.symm
        have EW := Lib.hid (show r1.waits.drop k = ((r1.waits[k]).1, qs[k].bs) :: r1.waits.drop (k + 1) from by rw [List.drop_eq_getElem_cons hkw, ← ebs])
        obtain ⟨bi, bl, bx⟩ := HWB.out _ (List.getElem_mem hkw)
        have HX := Lib.hid (hV.bB qs[k] (List.getElem_mem hkq))
        rw [ebs] at bl bx
        have hwp := Lib.hid (hV.wf.put (r1.waits[k]).1 qs[k].bs bl bx)
        have hsl : (r1.waits[k]).1 < ps'.length := by rw [hpl]; exact bi
        obtain ⟨kb2, ekb, qk, fk⟩ := sl_at hV.rowK rfl (r1.waits[k]).1 hsl
        simp only [Option.some.injEq, Addr.mk.injEq, and_true] at ekb
        subst ekb
        have hbi : ((r1.waits[k]).1 : Int) < (r1.n : Int) := by omega
        generalize hvo : ps'[(r1.waits[k]).1].v = vold at qk
        clear hvo
        clear ebs bl bx hV hf hT hpl bi hsl
        generalize (r1.waits[k]).1 = x0 at *
        generalize qs[k] = x at *
        obtain ⟨x3, x4, ys⟩ := x
        simp only [Sl.v] at qb
        simp only at EW HX hwp
        have FN := Lib.hid (show setl true [] (r1.waits.drop (k + 1)) (K.set x0 ys) = fin from by rw [← HF.out, EW.out]; rfl)
        clear EW HF
        go_wp2
        refine region_quiet_tail 19 (by kernel_rfl) (by kernel_rfl) ?_
        simp only [List.take_succ_cons, List.take_zero, List.drop_succ_cons, List.drop_zero]
        repeat (go_big_quiet_step (fail))
        refine wpQuiet_nil ?_
        intro wd hwd
        obtain ⟨m, rfl⟩ := hwd
        have qk2 : (wr.drewN m).cell? ⟨kb, x0, none⟩ = some vold := qk
        have fk2 : (wr.drewN m).frozen? ⟨kb, x0, none⟩ = false := fk
        have VD := Lib.hid (show RdkV ((wr.drewN m).setCell ⟨kb, x0, none⟩ (.slice x3 ys.length x4)) g B ρ1 { r1 with kept := K.set x0 ys } (.slice (some ⟨kb, 0, none⟩) (ps'.set x0 ⟨x3, x4, ys⟩).length ck) (.slice (some ⟨ab, 0, none⟩) r1.waits.length ca) (.slice (some ⟨bb, 0, none⟩) qs.length cb) (ps'.set x0 ⟨x3, x4, ys⟩) qs KA kc from (HV.out.touch (F := fun _ => False) (touch_none _ wr m) (fun _ h => h.elim)).setKept x0 ⟨x3, x4, ys⟩ (slB_touch (xs := [⟨x3, x4, ys⟩]) (by intro y hy; rw [List.mem_singleton] at hy; subst hy; exact HX.out) (F := fun _ => False) (touch_none _ wr m) (fun _ _ h => h) (fun _ _ => rfl) _ (List.mem_singleton.2 rfl)) hwp.out)
        have TD := Lib.hid ((HT.out.drewN m).setCell (b := kb) (.inl (HV.out.kK kb rfl)) x0 (.slice x3 ys.length x4))
        have PD := Lib.hid (show (ps'.set x0 ⟨x3, x4, ys⟩).length = r1.n from by rw [List.length_set]; exact HPL.out)
        clear qk fk qa qb c0 c2 c3 HV HT
        generalize wr.drewN m = wd at *
        generalize ys.length = L at *
        go_wp2
        go_roundw
        case rel => exact ⟨k + 1, K.set x0 ys, _, by omega, by go_num, VD.out, PD.out, FN.out, TD.out⟩
        case measure => simp [intOf]; omega
      · obtain rfl : k = N := by omega
        have t1 : decide ((k : Int) < (k : Int)) = false := by simp
        have ED : r1.waits.drop k = [] := List.drop_eq_nil_of_le (by rw [← HN.out]; exact Nat.le_refl _)
        obtain rfl : K = fin := by rw [← hf, ED, setl_nil]
        clear ED hf HF
        have n1 := hV.setNone hV.wf.none
        rw [← HG.out] at n1
        have FX := Lib.hid n1
        have FT := Lib.hid (HT0.out.trans (((hT.more (F' := wr4 ρ1) (fun k e => .inr (.inl e))).setCell (b := g) (.inl (.inl hV.own)) 2 (.slice none 0 0)).setCell (b := g) (.inl (.inl hV.own)) 3 (.slice none 0 0)) (fun k hk => by
          by_cases hkw : k < w.heap.size
          · left; unfold wr4 at hk ⊢; rw [HE0.out k hkw] at hk; exact hk
          · right; omega))
        have f2 := hV.free 2
        have f3 := hV.free 3
        clear n1 hV hT hpl HV HT
        go_wp2
        go_ret
        exact ⟨rfl, ρ1, ⟨_, _, _, _, _, _, _, FX.out⟩, FT.out, HE0.out⟩
theorem rflush_any (h : Rdk w g B ρ r) (hm : r.steps ≤ 4294967294) :
    Calls Try.prog 26 #[.pointer (some ⟨g, 0, none⟩)] w (RdkP g B ρ r.rflush.1 (.int .i64 (r.rflush.2 : Int)) w) := by
  by_cases hon : r.on = true
  · have hr : r.ready = 0 := by unfold St.ready; rw [if_pos hon]
    have := rflush_on h hon hm
    unfold St.rflush
    rw [if_neg (by omega)]
    by_cases h0 : r.left = 0
    · rw [if_pos h0] at this ⊢; rw [if_pos h0] at this; exact this
    · rw [if_neg h0] at this ⊢; rw [if_neg h0] at this; exact this
  · have hr : r.ready = 40 := by unfold St.ready; rw [if_neg hon]
    unfold St.rflush
    rw [if_pos (by omega), hr]
    exact rflush_off h (by simpa using hon)
end
end Go.Proofs.Ytfjaiolgbcindaa
