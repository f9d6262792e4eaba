/-
  Contract of the reference's Overwrite. Conditions: the disk lies in memory as its calls leave it; its steps are fewer than 2^32; the bytes lie below what is its own.
-/
import Derived.Test.YtfjaiolgbcindaaDkRefW2
namespace Go.Proofs.Ytfjaiolgbcindaa
open Go.RowKit Arr Dsk
set_option linter.unusedSimpArgs false
section
variable {w : World} {g B : Nat} {ρ : Nat → Nat} {r : St}
/-- Two new rows take the place of those that wait. -/
theorem RdkV.replaced {vk va vb : Value} {ps qs : List Sl} {KA : Option Addr} {kc : Nat} (h : RdkV w g B ρ r vk va vb ps qs KA kc) (hB : B ≤ w.heap.size) {wr : World} (hb : Below w.heap.size w wr) {av bv : Value} (us : List (Nat × List Nat)) (qs' : List Sl)
    (hA : wr.ownsRow 0 3 1 av us.length (us.map fun p => Value.int .i64 (p.1 : Int))) (hBr : wr.ownsRow 0 32 1 bv qs'.length (qs'.map Sl.v)) (eB : qs'.map Sl.bs = us.map Prod.snd) (fA : ∀ k, av.ownBlock = some k → w.heap.size ≤ k ∧ bv.ownBlock ≠ some k) (fB : ∀ k, bv.ownBlock = some k → w.heap.size ≤ k) (hq : ∀ x, x ∈ qs' → x ∈ qs) (hw : Wf { r with waits := us }) :
    ∃ ρ', RdkV ((wr.setCell ⟨g, 2, none⟩ av).setCell ⟨g, 3, none⟩ bv) g B ρ' { r with waits := us } vk av bv ps qs' KA kc ∧ Touch (wr4 ρ) w ((wr.setCell ⟨g, 2, none⟩ av).setCell ⟨g, 3, none⟩ bv) ∧ ∀ k, k < w.heap.size → ρ' k = ρ k := by
  have hgl := h.gl
  have hs := hb.size
  have T : Touch (fun k => ρ k = 1) w ((wr.setCell ⟨g, 2, none⟩ av).setCell ⟨g, 3, none⟩ bv) := ((Touch.of (fun k => ρ k = 1) hb).setCell (b := g) (.inl h.own) 2 av).setCell (b := g) (.inl h.own) 3 bv
  have Tg : Touch (fun k => k = g) wr ((wr.setCell ⟨g, 2, none⟩ av).setCell ⟨g, 3, none⟩ bv) := ((Touch.refl (fun k => k = g) wr).setCell (b := g) (.inl rfl) 2 av).setCell (b := g) (.inl rfl) 3 bv
  have c0 : ∀ j, wr.cell? ⟨g, j, none⟩ = w.cell? ⟨g, j, none⟩ := fun j => hb.cell (p := ⟨g, j, none⟩) hgl
  have c : ∀ j, j ≠ 2 → j ≠ 3 → ((wr.setCell ⟨g, 2, none⟩ av).setCell ⟨g, 3, none⟩ bv).cell? ⟨g, j, none⟩ = w.cell? ⟨g, j, none⟩ := fun j h2 h3 => by
    rw [World.cell?_setCell_other _ _ _ _ (fun e => h3 (by simpa using (Addr.mk.inj e).2.1.symm)), World.cell?_setCell_other _ _ _ _ (fun e => h2 (by simpa using (Addr.mk.inj e).2.1.symm)), c0]
  obtain ⟨ρ', hρ⟩ : ∃ ρ' : Nat → Nat, ρ' = fun k => if k < w.heap.size then ρ k else if av.ownBlock = some k then 3 else if bv.ownBlock = some k then 4 else 0 := ⟨_, rfl⟩
  have hold : ∀ k, k < w.heap.size → ρ' k = ρ k := fun k hk => by rw [hρ]; simp only [if_pos hk]
  have hkA : ∀ k, av.ownBlock = some k → ρ' k = 3 := fun k hk => by
    have := (fA k hk).1
    rw [hρ]; simp only [if_neg (by omega : ¬ k < w.heap.size), if_pos hk]
  have hkB : ∀ k, bv.ownBlock = some k → ρ' k = 4 := fun k hk => by
    have := fB k hk
    rw [hρ]; simp only [if_neg (by omega : ¬ k < w.heap.size), if_neg (fun e => (fA k e).2 hk), if_pos hk]
  obtain ⟨p1, _, _, p4, p5, p6⟩ := h.parts (ρ' := ρ') T (fun k hf => .inl hf) hold
  refine ⟨ρ', ⟨(hold g hgl).trans h.own, fun k hk => ?_, fun k hk => ?_, fun k hk => ?_, (c 0 (by omega) (by omega)).trans h.c0, (c 1 (by omega) (by omega)).trans h.c1, ?_, ?_, (c 4 (by omega) (by omega)).trans h.c4, (c 5 (by omega) (by omega)).trans h.c5, (c 6 (by omega) (by omega)).trans h.c6, (c 7 (by omega) (by omega)).trans h.c7, fun j => ?_, p1, ?_, ?_, fun k hk => ?_, hkA, hkB, h.eK, eB, p4, fun x hx => p5 x (hq x hx), p6, hw⟩, T.more (fun k e => .inl e), hold⟩
  · by_cases hkw : k < w.heap.size
    · rw [hold k hkw] at hk; exact h.one k hk
    · rw [hρ] at hk
      simp only [if_neg hkw] at hk
      split at hk
      · omega
      · split at hk <;> omega
  · simp only [World.size_setCell]
    by_cases hkw : k < w.heap.size
    · omega
    · rw [hρ] at hk
      simp only [if_neg hkw] at hk
      split at hk
      · rename_i e; exact (hA.lt k e).2
      · split at hk
        · rename_i e; exact (hBr.lt k e).2
        · omega
  · by_cases hkw : k < w.heap.size
    · rw [hold k hkw] at hk; exact h.lo k hk
    · omega
  · rw [World.cell?_setCell_other _ _ _ _ (by simp)]; exact World.cell?_setCell_same _ _ _ ((c0 2).trans h.c2)
  · exact World.cell?_setCell_same _ _ _ ((World.cell?_setCell_other _ _ _ _ (by simp)).trans ((c0 3).trans h.c3))
  · rw [World.frozen?_setCell, World.frozen?_setCell, hb.frozen (p := ⟨g, j, none⟩) hgl]; exact h.free j
  · exact owns_touchN hA Tg (fun b hb' e => by have := (fA b hb').1; omega)
  · exact owns_touchN hBr Tg (fun b hb' e => by have := fB b hb'; omega)
  · rw [hold k (h.lt k (by rw [h.kK k hk]; omega))]; exact h.kK k hk
/-- Pairs of what waits. -/
def zq (ws : List (Nat × List Nat)) (qs : List Sl) : List (Nat × Sl) := (ws.map Prod.fst).zip qs
def keepZ (i : Nat) (zs : List (Nat × Sl)) : List (Nat × Sl) := zs.filter fun z => decide (z.1 ≠ i)
theorem zq_get {ws : List (Nat × List Nat)} {qs : List Sl} (k : Nat) (h1 : k < ws.length) (h2 : k < qs.length) : (zq ws qs)[k]? = some ((ws[k]).1, qs[k]) := by
  unfold zq
  rw [List.getElem?_zip_eq_some]
  exact ⟨by rw [List.getElem?_map, List.getElem?_eq_getElem h1]; rfl, List.getElem?_eq_getElem h2⟩
theorem zq_map {ws : List (Nat × List Nat)} {qs : List Sl} (e : qs.map Sl.bs = ws.map Prod.snd) : (zq ws qs).map (fun z => (z.1, z.2.bs)) = ws := by
  have hl : qs.length = ws.length := by have := congrArg List.length e; simpa using this
  apply List.ext_getElem?
  intro k
  by_cases hk : k < ws.length
  · rw [List.getElem?_map, zq_get k hk (by omega), List.getElem?_eq_getElem hk]
    have h1 := congrArg (fun l => l[k]?) e
    simp only [List.getElem?_map, List.getElem?_eq_getElem hk, List.getElem?_eq_getElem (by omega : k < qs.length), Option.map_some, Option.some.injEq] at h1
    simp only [Option.map_some, h1]
  · rw [List.getElem?_eq_none (by rw [List.length_map]; unfold zq; rw [List.length_zip, List.length_map]; omega), List.getElem?_eq_none (by omega)]
theorem keepZ_pr (i : Nat) (zs : List (Nat × Sl)) : (keepZ i zs).map (fun z => (z.1, z.2.bs)) = (zs.map fun z => (z.1, z.2.bs)).filter fun p => decide (p.1 ≠ i) := by
  unfold keepZ; rw [List.filter_map]; rfl
theorem keepZ_snoc (i : Nat) (zs : List (Nat × Sl)) (z : Nat × Sl) : keepZ i (zs ++ [z]) = if z.1 = i then keepZ i zs else keepZ i zs ++ [z] := by
  unfold keepZ
  rw [List.filter_append]
  by_cases h : z.1 = i
  · simp [h]
  · simp [h]
set_option maxRecDepth 10000 in
set_option maxHeartbeats 2000000 in
theorem rover_ok (h : Rdk w g B ρ r) (hB : B ≤ w.heap.size) (hm : r.waits.length ≤ 4294967295) (i : Nat) (A : Option Addr) (n c : Nat) (b : List Nat) (hl : b.length = n) (hc : n ≤ c) (hA : A = none → c = 0) (hb : ByL w (fun k => k < B) A b) (hi : i < r.n) (hz : n = r.sz) :
    Calls Try.prog 28 #[.pointer (some ⟨g, 0, none⟩), .int .i64 (i : Int), .slice A n c] w (RdkP g B ρ (r.over i b) (.int .i64 0) w) := by
  have hwf := h.wf
  have HWP := hwf.put i b (by omega) hb.1
  have HWF := Lib.hid (hwf.over i b (by omega) hb.1)
  obtain ⟨vk, va, vb, ps, qs, KA, kc, h⟩ := h
  obtain ⟨kb, ck, AA, ca, AB, cb, rfl, rfl, rfl, hp1, hq1⟩ := h.form
  have c0 := h.c0
  have c1 := h.c1
  rw [hp1] at c0
  have hps : i < ps.length := by omega
  obtain ⟨kb2, ekb, qk, fk⟩ := sl_at h.rowK rfl i hps
  simp only [Option.some.injEq, Addr.mk.injEq, and_true] at ekb
  subst ekb
  generalize hvo : ps[i].v = vold at qk
  clear hvo
  have V1 := h.setKept i ⟨A, c, b⟩ ⟨by show b.length ≤ c; omega, hA, hb.touch (F := fun _ => False) (Touch.refl _ w) (fun _ _ h => h) (fun _ _ e => .inl e)⟩ HWP
  have T1 := Lib.hid ((Touch.refl (wr4 ρ) w).setCell (b := kb) (.inl (.inr (.inl (h.kK kb rfl)))) i (Sl.mk A c b).v)
  have hv : (Sl.mk A c b).v = .slice A n c := by show Value.slice A b.length c = _; rw [hl]
  rw [hv] at V1 T1
  have t1 : decide ((i : Int) < 0) = false := by simp
  have hi' : (i : Int) < (r.n : Int) := by omega
  subst hz
  have t3 : ((r.sz : Int) == (r.sz : Int)) = true := by simp
  have t4 : ((r.sz : Int) != (r.sz : Int)) = false := by simp
  have HV := Lib.hid V1
  have HQ1 := Lib.hid hq1
  obtain ⟨N, hN⟩ : ∃ N, N = r.waits.length := ⟨_, rfl⟩
  have HN := Lib.hid hN
  have hmN : N ≤ 4294967295 := by rw [hN]; exact hm
  have HG := Lib.hid (show r.over i b = { { r with kept := r.kept.set i b } with waits := r.waits.filter fun p => decide (p.1 ≠ i) } from rfl)
  have HB := Lib.hid hB
  clear h hwf HWP hb hl hc hA hp1 hq1 hv hps V1 hN hm hi hB
  generalize r.sz = n at *
  generalize r.n = rn at *
  go_enter Try.func28, Try.ntmps28
  go_wp2_with fail
  have hs5 : (w.setCell ⟨kb, i, none⟩ (.slice A n c)).heap.size = w.heap.size := by simp
  generalize w.setCell ⟨kb, i, none⟩ (.slice A n c) = w5 at *
  clear qk fk c0 c1
  go_loopw [7, 8, 9] (fun av0 bv0 iv wr => ∃ (k : Nat) (av bv : Value), av = av0 ∧ bv = bv0 ∧ k ≤ N ∧ iv = .int .i64 k ∧ wr.ownsRow 0 3 1 av (keepZ i ((zq r.waits qs).take k)).length ((keepZ i ((zq r.waits qs).take k)).map fun z => Value.int .i64 (z.1 : Int)) ∧ wr.ownsRow 0 32 1 bv (keepZ i ((zq r.waits qs).take k)).length ((keepZ i ((zq r.waits qs).take k)).map fun z => z.2.v) ∧
    (∀ k, av.ownBlock = some k → w5.heap.size ≤ k ∧ bv.ownBlock ≠ some k) ∧ (∀ k, bv.ownBlock = some k → w5.heap.size ≤ k) ∧ Below w5.heap.size w5 wr) (fun _ _ iv _ => N - (intOf iv).toNat)
  case atStart => exact ⟨0, _, _, rfl, rfl, Nat.zero_le _, rfl, World.ownsRow_nil _ _ _ _, World.ownsRow_nil _ _ _ _, fun k hk => (by cases hk), fun k hk => (by cases hk), Below.refl _ _⟩
  case round =>
    obtain ⟨k, av, bv, rfl, rfl, hkN, rfl, hra, hrb, hfa, hfb, hBel⟩ := hrel
    have HRA := Lib.hid hra
    have HRB := Lib.hid hrb
    have HFA := Lib.hid hfa
    have HFB := Lib.hid hfb
    have HBEL := Lib.hid hBel
    have hgl := HV.out.gl
    have c2 := (hBel.cell (p := ⟨g, 2, none⟩) hgl).trans HV.out.c2
    have c3 := (hBel.cell (p := ⟨g, 3, none⟩) hgl).trans HV.out.c3
    have ewl : ({ r with kept := r.kept.set i b } : St).waits.length = r.waits.length := rfl
    rw [← HN.out] at c2
    rw [HQ1.out, ← HN.out] at c3
    have wk : IntKind.i64.wrap ((k : Int) + 1) = (k : Int) + 1 := by rw [IntKind.wrap_i64]; omega
    by_cases hlt : k < N
    · have t5 : decide ((k : Int) < (N : Int)) = true := by simp; omega
      have hkw : k < r.waits.length := by rw [← HN.out]; exact hlt
      have hkq : k < qs.length := by rw [HQ1.out]; exact hkw
      obtain ⟨ab, rfl, qa0⟩ := int_at HV.out.rowA rfl k hkw
      obtain ⟨bb, rfl, qb0, _⟩ := sl_at HV.out.rowB rfl k hkq
      have qa := (hBel.cell (p := ⟨ab, k, none⟩) (lt_of_cell qa0)).trans qa0
      have qb := (hBel.cell (p := ⟨bb, k, none⟩) (lt_of_cell qb0)).trans qb0
      have hzk : k < (zq r.waits qs).length := by
        unfold zq; rw [List.length_zip, List.length_map]; omega
      have ezk : (zq r.waits qs)[k] = ((r.waits[k]).1, qs[k]) := by
        have := zq_get k hkw hkq
        rw [List.getElem?_eq_getElem hzk] at this
        simpa using this
      have HSN := Lib.hid (show keepZ i ((zq r.waits qs).take (k + 1)) = if (r.waits[k]).1 = i then keepZ i ((zq r.waits qs).take k) else keepZ i ((zq r.waits qs).take k) ++ [((r.waits[k]).1, qs[k])] from by
        rw [List.take_succ_eq_append_getElem hzk, keepZ_snoc, ezk])
      have HZL := Lib.hid (show (keepZ i ((zq r.waits qs).take k)).length ≤ 4294967295 from Nat.le_trans (List.length_filter_le _ _) (by rw [List.length_take]; omega))
      have hbl := Lib.hid (And.intro (lt_of_cell qb0) (lt_of_cell qa0))
      have qb0' := Lib.hid qb0
      clear qa0 qb0 hra hrb hfa hfb hBel ezk hzk ewl
      have ebw : HV.out.gl = HV.out.gl := rfl
      clear ebw
      change wr.cell? ⟨ab, k, none⟩ = some (.int .i64 ((r.waits[k]).1 : Int)) at qa
      generalize (r.waits[k]).1 = x0 at *
      generalize qs[k] = y at *
      obtain ⟨y3, y4, yb⟩ := y
      simp only [Sl.v] at qb qb0'
      by_cases hx : x0 = i
      · have t6 : ((x0 : Int) == (i : Int)) = true := by simp [hx]
        have t7 : ((x0 : Int) != (i : Int)) = false := by simp [hx]
        have HSE := Lib.hid (show keepZ i ((zq r.waits qs).take (k + 1)) = keepZ i ((zq r.waits qs).take k) from by rw [HSN.out, if_pos hx])
        clear hx HSN
        go_wp2
        go_roundw
        case rel => exact ⟨k + 1, _, _, rfl, rfl, by omega, by go_num, by rw [HSE.out]; exact HRA.out, by rw [HSE.out]; exact HRB.out, HFA.out, HFB.out, HBEL.out⟩
        case measure => simp [intOf]; omega
      · have t6 : ((x0 : Int) == (i : Int)) = false := by simp; omega
        have t7 : ((x0 : Int) != (i : Int)) = true := by simp; omega
        have HSE := Lib.hid (show keepZ i ((zq r.waits qs).take (k + 1)) = keepZ i ((zq r.waits qs).take k) ++ [(x0, ⟨y3, y4, yb⟩)] from by rw [HSN.out, if_neg hx])
        clear hx HSN
        obtain ⟨zs0, hzs0⟩ : ∃ zs0, zs0 = keepZ i ((zq r.waits qs).take k) := ⟨_, rfl⟩
        rw [← hzs0] at HRA HRB HZL HSE
        clear hzs0
        obtain ⟨zm, hzm⟩ : ∃ zm, zm = zs0.length := ⟨_, rfl⟩
        have HZM := Lib.hid hzm
        rw [← hzm] at HRA HRB HZL
        clear hzm
        obtain ⟨av', w3, hr1, ho1, hg1, ha1⟩ := app1_run (ty := 38) Try.underlying38 info_int rfl (by decide) HRA.out HZL.out (.int .i64 (x0 : Int)) rfl
        have hsr : (wr.alloc (.cells #[.int .i64 (x0 : Int)] 3)).heap.size = wr.heap.size + 1 := by simp
        have hs3 := hg1.size
        have hbs := HBEL.out.size
        have B3 : Below w5.heap.size w5 w3 := (HBEL.out.alloc hbs _).grown hg1 (by omega) (fun k hk => (HFA.out k hk).1)
        have tA : Touch (fun k => av.ownBlock = some k) wr w3 := (Touch.of (fun k => av.ownBlock = some k) (below_alloc wr _)).grown hg1 (fun k hk => .inl hk)
        have rB3 := owns_touchN HRB.out tA (fun k hk e => (HFA.out k e).2 hk)
        obtain ⟨bv', w6, hr2, ho2, hg2, ha2⟩ := app1_run (ty := 37) Try.underlying37 info_slb rfl (by decide) rB3 HZL.out (.slice y3 yb.length y4) rfl
        have hs3' : (w3.alloc (.cells #[.slice y3 yb.length y4] 32)).heap.size = w3.heap.size + 1 := by simp
        have hs6 := hg2.size
        have tB : Touch (fun k => bv.ownBlock = some k) w3 w6 := (Touch.of (fun k => bv.ownBlock = some k) (below_alloc w3 _)).grown hg2 (fun k hk => .inl hk)
        have avl := ho1.lt
        have nab : ∀ k, av'.ownBlock = some k → bv.ownBlock ≠ some k := fun k hk e => by
          rcases ha1 with h1 | h1
          · rw [h1] at hk; exact (HFA.out k hk).2 e
          · rw [h1] at hk; simp only [Option.some.injEq] at hk; have := (HRB.out.lt k e).2; omega
        have RA6 := Lib.hid (owns_touchN ho1 tB (fun k hk e => nab k hk e))
        have RB6 := Lib.hid ho2
        have FA6 := Lib.hid (show ∀ k, av'.ownBlock = some k → w5.heap.size ≤ k ∧ bv'.ownBlock ≠ some k from fun k hk => by
          refine ⟨?_, fun e => ?_⟩
          · rcases ha1 with h1 | h1
            · rw [h1] at hk; exact (HFA.out k hk).1
            · rw [h1] at hk; simp only [Option.some.injEq] at hk; omega
          · rcases ha2 with h2 | h2
            · rw [h2] at e; exact nab k hk e
            · rw [h2] at e; simp only [Option.some.injEq] at e; have := (avl k hk).2; omega)
        have FB6 := Lib.hid (show ∀ k, bv'.ownBlock = some k → w5.heap.size ≤ k from fun k hk => by
          rcases ha2 with h2 | h2
          · rw [h2] at hk; exact HFB.out k hk
          · rw [h2] at hk; simp only [Option.some.injEq] at hk; omega)
        have B6 := Lib.hid ((B3.alloc B3.size (.cells #[.slice y3 yb.length y4] 32)).grown hg2 (by have := B3.size; omega) (fun k hk => HFB.out k hk))
        have c3' := (B3.cell (p := ⟨g, 3, none⟩) hgl).trans HV.out.c3
        rw [HQ1.out, ← HN.out] at c3'
        have qb3 := (B3.cell (p := ⟨bb, k, none⟩) hbl.out.1).trans qb0'.out
        have HR1 := Lib.hid hr1
        have HR2 := Lib.hid hr2
        have HSE2 := Lib.hid (show (keepZ i ((zq r.waits qs).take (k + 1))).length = zm + 1 ∧ (keepZ i ((zq r.waits qs).take (k + 1))).map (fun z => Value.int .i64 (z.1 : Int)) = zs0.map (fun z => Value.int .i64 (z.1 : Int)) ++ [.int .i64 (x0 : Int)] ∧ (keepZ i ((zq r.waits qs).take (k + 1))).map (fun z => z.2.v) = zs0.map (fun z => z.2.v) ++ [.slice y3 yb.length y4] from by
          rw [HSE.out, HZM.out]; simp [Sl.v])
        clear hr1 hr2 ho1 ho2 hg1 hg2 ha1 ha2 tA tB rB3 nab avl B3 hsr hs3 hs3' hs6 hbs HSE
        generalize yb.length = L at *
        go_wp2_with (first | (at_builtin; refine list_app rfl (.tmp 53) (.tmp 61) 38 rfl av (.slice (some ⟨wr.heap.size, 0, none⟩) 1 1) rfl rfl HR1.out ?_) | (at_builtin; refine list_app rfl (.tmp 63) (.tmp 71) 37 rfl bv (.slice (some ⟨w3.heap.size, 0, none⟩) 1 1) rfl rfl HR2.out ?_) | fail)
        go_roundw
        case rel => exact ⟨k + 1, _, _, rfl, rfl, by omega, by go_num, by rw [HSE2.out.1, HSE2.out.2.1]; exact RA6.out, by rw [HSE2.out.1, HSE2.out.2.2]; exact RB6.out, FA6.out, FB6.out, B6.out⟩
        case measure => simp [intOf]; omega
    · obtain rfl : k = N := by omega
      have t5 : decide ((k : Int) < (k : Int)) = false := by simp
      have hlz : (zq r.waits qs).length = k := by unfold zq; rw [List.length_zip, List.length_map, HQ1.out, ← HN.out]; simp
      have etk : (zq r.waits qs).take k = zq r.waits qs := List.take_of_length_le (by omega)
      rw [etk] at hra hrb
      obtain ⟨Aa, ca2, rfl, _⟩ := own_form hra
      obtain ⟨Ab, cb2, rfl, _⟩ := own_form hrb
      have em := zq_map (ws := r.waits) (qs := qs) HV.out.eB
      have eu : (keepZ i (zq r.waits qs)).map (fun z => (z.1, z.2.bs)) = r.waits.filter fun p => decide (p.1 ≠ i) := by rw [keepZ_pr, em]
      have e1 : (keepZ i (zq r.waits qs)).length = (r.waits.filter fun p => decide (p.1 ≠ i)).length := by rw [← eu, List.length_map]
      have e2 : (keepZ i (zq r.waits qs)).map (fun z => Value.int .i64 (z.1 : Int)) = (r.waits.filter fun p => decide (p.1 ≠ i)).map fun p => Value.int .i64 (p.1 : Int) := by rw [← eu, List.map_map]; rfl
      have e3 : (keepZ i (zq r.waits qs)).map (fun z => z.2.v) = ((keepZ i (zq r.waits qs)).map Prod.snd).map Sl.v := by rw [List.map_map]; rfl
      have hra' := hra
      have hrb' := hrb
      rw [e1, e2] at hra'
      rw [e3, show (keepZ i (zq r.waits qs)).length = ((keepZ i (zq r.waits qs)).map Prod.snd).length from by rw [List.length_map]] at hrb'
      have hsz5 : B ≤ w5.heap.size := by have := HB.out; omega
      have REP0 := (HV.out.replaced hsz5 hBel (r.waits.filter fun p => decide (p.1 ≠ i)) ((keepZ i (zq r.waits qs)).map Prod.snd) hra' hrb' (by rw [← eu, List.map_map, List.map_map]; rfl)
        (fun k hk => by have := hfa k (by rw [e1]; exact hk); rw [List.length_map]; exact this) (fun k hk => hfb k (by rw [List.length_map] at hk; exact hk)) (fun x hx => by
          obtain ⟨z, hz, rfl⟩ := List.mem_map.1 hx
          have := (List.mem_filter.1 hz).1
          exact (List.of_mem_zip this).2) (by rw [← HG.out]; exact HWF.out))
      rw [← e1, List.length_map] at REP0
      have REP := Lib.hid REP0
      have hgl := HV.out.gl
      have c2 := (hBel.cell (p := ⟨g, 2, none⟩) hgl).trans HV.out.c2
      have c3 := (hBel.cell (p := ⟨g, 3, none⟩) hgl).trans HV.out.c3
      have f2 := (hBel.frozen (p := ⟨g, 2, none⟩) hgl).trans (HV.out.free 2)
      have f3 := (hBel.frozen (p := ⟨g, 3, none⟩) hgl).trans (HV.out.free 3)
      have ewl : ({ r with kept := r.kept.set i b } : St).waits.length = r.waits.length := rfl
      rw [← HN.out] at c2
      rw [HQ1.out, ← HN.out] at c3
      clear REP0 hra hrb hra' hrb' e1 e2 e3 eu em etk hlz hfa hfb hBel hsz5
      generalize (keepZ i (zq r.waits qs)).length = m at *
      go_wp2
      go_ret
      obtain ⟨ρ', a1, a2, a3⟩ := REP.out
      refine ⟨rfl, ρ', ⟨_, _, _, _, _, _, _, by rw [HG.out]; exact a1⟩, T1.out.trans a2 (fun k hk => ?_), fun k hk => a3 k (by omega)⟩
      exact .inl hk
end
end Go.Proofs.Ytfjaiolgbcindaa
