/-
  Contract of the disk's Write. Conditions: the disk lies in memory as its methods leave it (or is none); its steps are fewer than 2^32; the bytes lie in memory. (Written by tools/gen_dkwrite.py.)
-/
import Derived.Test.YtfjaiolgbcindaaDkLast
import Derived.Test.YtfjaiolgbcindaaHeldList
namespace Go.Proofs.Ytfjaiolgbcindaa
open Go.RowKit Arr Dsk
set_option linter.unusedSimpArgs false

/-- append, as one operation. -/
theorem wp_app {P : Program} {w : World} {o : Oper} {a : Act} {K : Act → World → Prop} {Q : Exit → Act → World → Prop} (s x : Operand) (t : TypeId) (ho : o.op = .call { callee := .builtin .append, args := #[s, x], argTypes := #[t, t] }) (v u : Value) (hs : a.eval s = v) (hx : a.eval x = u) {v' : Value} {w' : World}
    (hr : (Builtin.append_ #[t, t] o.type #[v, u]).run P w = .ok v' w') (h : K (a.put o.dst v') w') : o.wp P a w K Q := by
  unfold Oper.wp execOp
  simp only [ho, resolve, invoke, builtin, Sem.run_bind, Sem.run_pure, Result.andThen_ok, List.map_toArray, List.map_cons, List.map_nil, hs, hx, hr]
  exact h
section
variable {w : World} {g : Nat} {κ : Nat → Nat} {s : St} {kb kc : Nat} {v : Value} {ws : List Wt} {A5 : Option Addr} {c5 : Nat}
theorem info_write : (Try.prog.info? 66).map (fun i => (i.zero, i.size, i.bytes)) = some (some (.agg #[.int .i64 0, .slice none 0 0]), 2, 32) := by kernel_rfl
/-- One write more, in memory. -/
theorem DskV.added (h : DskV w g κ s kb kc v ws A5 c5) {w2 w4 : World} (hb : Below w.heap.size w w2) (A : Option Addr) (cap i : Nat) (b : List Nat) (hc : b.length ≤ cap) (hA : A = none → cap = 0) (hB : Bys w2 w2.heap.size A b) (hN : ∀ k, Option.map Addr.block A = some k → w.heap.size ≤ k) (hgr : w2.grownBy w4 v.ownBlock) {v' : Value}
    (hown : w4.ownsRow 0 66 2 v' (ws.length + 1) (hds ws ++ [.int .i64 (i : Int), .slice A b.length cap])) (hat : v'.ownBlock = v.ownBlock ∨ v'.ownBlock = some w2.heap.size) (hw : Wf (s.add i b)) :
    ∃ κ', DskV (w4.setCell ⟨g, 2, none⟩ v') g κ' (s.add i b) kb kc v' (ws ++ [⟨A, cap, i, b⟩]) A5 c5 ∧ Touch (fun k => κ k ≠ 0) w (w4.setCell ⟨g, 2, none⟩ v') ∧ ∀ k, k < w.heap.size → κ' k = κ k := by
  have hlt : ∀ k, κ k ≠ 0 → k < w.heap.size := h.lt
  have hs2 := hb.size
  have hs4 := hgr.size
  have hv : ∀ k, v.ownBlock = some k → κ k = 3 := h.vk
  have hgl := h.gl
  have hkl := h.kl
  have T2 : Touch (fun k => κ k = 3) w w4 := (Touch.of (fun k => κ k = 3) hb).grown hgr (fun k hk => .inl (hv k hk))
  have T4 : Touch (fun k => κ k = 1 ∨ κ k = 3) w (w4.setCell ⟨g, 2, none⟩ v') := (T2.more (F' := fun k => κ k = 1 ∨ κ k = 3) (fun k e => .inr e)).setCell (b := g) (.inl (.inl h.own)) 2 v'
  have hvl := hown.lt
  obtain ⟨κ', hκ⟩ : ∃ κ' : Nat → Nat, κ' = fun k => if k < w.heap.size then κ k else if v'.ownBlock = some k then 3 else if k < w2.heap.size ∧ Option.map Addr.block A = some k then 4 else 0 := ⟨_, rfl⟩
  have hold : ∀ k, k < w.heap.size → κ' k = κ k := fun k hk => by rw [hκ]; simp only [if_pos hk]
  have hrow : ∀ k, v'.ownBlock = some k → κ' k = 3 := fun k hk => by
    by_cases hkw : k < w.heap.size
    · rw [hold k hkw]
      rcases hat with h1 | h1
      · rw [h1] at hk; exact hv k hk
      · rw [h1] at hk; simp only [Option.some.injEq] at hk; omega
    · rw [hκ]; simp only [if_neg hkw, if_pos hk]
  have c : ∀ j, j ≠ 2 → (w4.setCell ⟨g, 2, none⟩ v').cell? ⟨g, j, none⟩ = w.cell? ⟨g, j, none⟩ := fun j hj => (World.cell?_setCell_other _ _ _ _ (fun e => hj (by simpa using (Addr.mk.inj e).2.1.symm))).trans (T2.cell (p := ⟨g, j, none⟩) hgl (by rw [h.own]; omega))
  have n1 : ∀ k, κ k = 2 → ¬ (κ k = 1 ∨ κ k = 3) := fun k e => by omega
  have n2 : ∀ k, κ k = 4 → ¬ (κ k = 1 ∨ κ k = 3) := fun k e => by omega
  have n3 : ∀ k, κ k = 5 → ¬ (κ k = 1 ∨ κ k = 3) := fun k e => by omega
  have tb : Touch (fun k => v.ownBlock = some k ∨ k = g) w2 (w4.setCell ⟨g, 2, none⟩ v') := ((Touch.refl (fun k => v.ownBlock = some k ∨ k = g) w2).grown hgr (fun k hk => .inl (.inl hk))).setCell (b := g) (.inl (.inr rfl)) 2 v'
  refine ⟨κ', ⟨(hold g hgl).trans h.own, fun k hk => ?_, fun k hk => ?_, (hold kb hkl).trans h.k2, (c 0 (by omega)).trans h.c0, (c 1 (by omega)).trans h.c1, ?_, (c 3 (by omega)).trans h.c3, (c 4 (by omega)).trans h.c4, (c 5 (by omega)).trans h.c5, (c 6 (by omega)).trans h.c6, fun j => ?_, h.room, h.keptT T4 n1, ?_, hrow, ?_, ?_, h.keepT T4 n3 hold, hw⟩, T4.more (fun k e => by omega), hold⟩
  · by_cases hkw : k < w.heap.size
    · rw [hold k hkw] at hk; exact h.one k hk
    · rw [hκ] at hk
      simp only [if_neg hkw] at hk
      split at hk
      · omega
      · split at hk <;> omega
  · rw [World.size_setCell]
    by_cases hkw : k < w.heap.size
    · omega
    · rw [hκ] at hk
      simp only [if_neg hkw] at hk
      split at hk
      · rename_i h1; exact (hvl k h1).2
      · split at hk
        · omega
        · omega
  · exact World.cell?_setCell_same _ _ _ ((T2.cell (p := ⟨g, 2, none⟩) hgl (by rw [h.own]; omega)).trans h.c2)
  · rw [World.frozen?_setCell]; exact (T2.frozen (p := ⟨g, j, none⟩) hgl (by rw [h.own]; omega)).trans (h.free j)
  · have e1 : (ws ++ [(⟨A, cap, i, b⟩ : Wt)]).length = ws.length + 1 := by simp
    rw [e1, hds_snoc]
    refine owns_touchN (F := fun k => k = g) hown ((Touch.refl (fun k => k = g) w4).setCell (b := g) (.inl rfl) 2 v') (fun k hk e => ?_)
    have := hrow k hk
    rw [e, hold g hgl, h.own] at this
    omega
  · rw [List.map_append, h.wsE]; rfl
  · intro x hx
    rcases List.mem_append.1 hx with hx | hx
    · exact h.wsT T4 n2 hold x hx
    · rw [List.mem_singleton] at hx
      subst hx
      refine ⟨hc, hA, hB.1, fun hl => ?_⟩
      obtain ⟨k, off, e, hk, hcell⟩ := hB.2 hl
      have hkN := hN k (by rw [e]; rfl)
      have nrow : v'.ownBlock ≠ some k := fun e' => by
        rcases hat with h1 | h1
        · rw [h1] at e'
          have := hlt k (by rw [hv k e']; omega)
          omega
        · rw [h1] at e'; simp only [Option.some.injEq] at e'; omega
      refine ⟨k, off, e, ?_, ?_, fun j hj => (tb.cell (p := ⟨k, off + j, none⟩) hk (fun e' => ?_)).trans (hcell j hj)⟩
      · rw [World.size_setCell]; omega
      · show κ' k = 4
        rw [hκ]
        simp only [if_neg (by omega : ¬ k < w.heap.size), if_neg nrow, e, Option.map_some, and_true, if_pos hk]
      · rcases e' with e' | e'
        · have := hlt k (by rw [hv k e']; omega)
          omega
        · have e2 : k = g := e'
          omega
/-- append of one write, as a run. -/
theorem append_run (h : DskV w g κ s kb kc v ws A5 c5) {w2 : World} (hb : Below w.heap.size w w2) (i : Nat) (A : Option Addr) (n c : Nat) (hm : s.waits.length ≤ 4294967295) :
    ∃ v' w4, (Builtin.append_ #[54, 54] 54 #[v, .slice (some ⟨w2.heap.size, 0, none⟩) 1 1]).run Try.prog (w2.alloc (.cells #[.int .i64 (i : Int), .slice A n c] 66)) = .ok v' w4 ∧
      w4.ownsRow 0 66 2 v' (ws.length + 1) (hds ws ++ [.int .i64 (i : Int), .slice A n c]) ∧ (w2.alloc (.cells #[.int .i64 (i : Int), .slice A n c] 66)).grownBy w4 v.ownBlock ∧ (v'.ownBlock = v.ownBlock ∨ v'.ownBlock = some (w2.alloc (.cells #[.int .i64 (i : Int), .slice A n c] 66)).heap.size) := by
  obtain ⟨i0, hi, hz0, hz1, hz2⟩ := info_parts info_write
  have hr : (w2.alloc (.cells #[.int .i64 (i : Int), .slice A n c] 66)).ownsRow 0 66 2 v ws.length (hds ws) := (owns_touchN (F := fun _ => False) h.row (Touch.of _ hb) (fun _ _ h => h)).alloc _
  have hml : ws.length ≤ 4294967295 := by rw [← h.wsE, List.length_map] at hm; exact hm
  obtain ⟨q0, q1⟩ := two_cells w2 (.int .i64 (i : Int)) (.slice A n c)
  obtain ⟨v', w4, h1, h2, h3, _, h5⟩ := run_append_own_at (P := Try.prog) (w2.alloc (.cells #[.int .i64 (i : Int), .slice A n c] 66)) 0 54 54 66 i0 (.agg #[.int .i64 0, .slice none 0 0]) 2 32 under_waits hi hz0 hz1 hz2 rfl (by decide) v ws.length (hds ws) hr ⟨w2.heap.size, 0, none⟩ 1 1 [.int .i64 (i : Int), .slice A n c] rfl
    (fun j u hu => by
      match j, hu with
      | 0, hu => simp only [List.getElem?_cons_zero, Option.some.injEq] at hu; subst hu; rw [add_nat]; exact q0
      | 1, hu => simp only [List.getElem?_cons_succ, List.getElem?_cons_zero, Option.some.injEq] at hu; subst hu; rw [add_nat]; exact q1
      | j + 2, hu => simp at hu)
    (by intro u hu; simp only [List.mem_cons, List.not_mem_nil, or_false] at hu; rcases hu with rfl | rfl <;> rfl) (by unfold maxLen; omega) (by omega) (Nat.zero_le _)
  exact ⟨v', w4, h1, h2, h3, h5⟩
theorem DskV.grownFree (h : DskV w g κ s kb kc v ws A5 c5) {w2 w4 : World} {o : Obj} (hb : Below w.heap.size w w2) (hgr : (w2.alloc o).grownBy w4 v.ownBlock) : w4.frozen? ⟨g, 2, none⟩ = false ∧ w4.cell? ⟨g, 2, none⟩ = some v := by
  have ht : Touch (fun k => κ k = 3) w w4 := (Touch.of (fun k => κ k = 3) (hb.alloc hb.size o)).grown hgr (fun k hk => .inl (h.vk k hk))
  exact ⟨(ht.frozen (p := ⟨g, 2, none⟩) h.gl (by rw [h.own]; omega)).trans (h.free 2), (ht.cell (p := ⟨g, 2, none⟩) h.gl (by rw [h.own]; omega)).trans h.c2⟩
theorem Bys.below' {w' : World} {A : Option Addr} {bs : List Nat} (h : Bys w w.heap.size A bs) (hb : Below w.heap.size w w') : Bys w' w'.heap.size A bs := (h.below hb).more hb.size
theorem write_nil (w : World) (v u : Value) : Calls Try.prog 20 #[.pointer none, v, u] w fun en w' => en = .returned (.int .i64 1) ∧ w = w' := by
  have C := Lib.hid (ready_nil w)
  go_enter Try.func20, Try.ntmps20
  go_wp2_with fail
  refine C.out.mono ?_
  rintro en w' ⟨rfl, rfl⟩
  go_wp2
  go_ret
  exact ⟨rfl, rfl⟩
set_option maxRecDepth 10000 in
set_option maxHeartbeats 2000000 in
theorem write_ok (h : Dsk w g κ s) (hr : s.ready = 0) (h0 : s.left ≠ 0) (hm : s.steps ≤ 4294967294) (i : Nat) (A : Option Addr) (n c : Nat) (b : List Nat) (hl : b.length = n) (hb : ByL w (fun k => κ k = 0) A b) (hf : s.fits (i : Int) n = 0) :
    Calls Try.prog 20 #[.pointer (some ⟨g, 0, none⟩), .int .i64 (i : Int), .slice A n c] w (DskP g κ (s.count.add i b) (.int .i64 0) w) := by
  have C1 := Lib.hid (ready_any h)
  rw [hr] at C1
  have C2 := Lib.hid (fits_any h (i : Int) A n c)
  rw [hf] at C2
  have C3 := Lib.hid (fun m => step_any (h.below (below_drewN_self w m)) (by omega))
  have e2 : s.step = (s.count, 0) := by unfold St.step; rw [if_neg h0]
  rw [e2] at C3
  have hon : s.on = true := by
    unfold St.ready at hr
    by_cases hc : s.on = true
    · exact hc
    · rw [if_neg hc] at hr; omega
  obtain ⟨hi, hn⟩ : i < s.n ∧ n = s.sz := by
    unfold St.fits at hf
    by_cases h1 : s.has (i : Int) = true
    · rw [if_pos h1] at hf
      by_cases h2 : n = s.sz
      · exact ⟨by have := (has_iff s (i : Int)).1 h1; omega, h2⟩
      · rw [if_neg h2] at hf; omega
    · rw [if_neg h1] at hf; omega
  have HWF := Lib.hid (h.wf.added hon i b hi (by omega) hb.1)
  have hn4 : n ≤ 4294967296 := by have := h.wf.z1; omega
  have HWS := Lib.hid (show s.count.waits.length ≤ 4294967295 from by have := h.wf.ws; have e : s.count.waits = s.waits := rfl; rw [e]; omega)
  have HL := Lib.hid hl
  have HB := Lib.hid hb
  have HLT := Lib.hid h.lt
  clear h hr h0 hm hl hb hf e2 hon hi hn
  generalize s.count = s1 at *
  go_enter Try.func20, Try.ntmps20
  go_wp2_with fail
  refine C1.out.mono ?_
  rintro en w' ⟨rfl, rfl⟩
  go_wp2_with fail
  refine C2.out.mono ?_
  rintro en w' ⟨rfl, m, rfl⟩
  go_wp2_with fail
  refine (C3.out m).mono ?_
  rintro en w1 ⟨rfl, hd, hT⟩
  obtain ⟨kb, kc, v, ws, A5, c5, h⟩ := hd
  have HT := Lib.hid (show Touch (fun k => κ k ≠ 0) w w1 from ((Touch.refl _ w).drewN m).trans hT (fun _ e => .inl e))
  have HD := Lib.hid h
  have HB1 := Lib.hid (show Bys w1 w1.heap.size A b from (HB.out.touch (ok' := fun _ => True) HT.out (fun _ e h => h e) (fun _ _ _ => trivial)).bys)
  have a2 := h.c2
  clear h hT C1 C2 C3 HB
  go_wp2
  refine wp_region_L [(10, (fun w' => w'.cell? ⟨g, 2, none⟩ = some v))] 14 #[false, false, false, false, false, false, false, false, false, false, false, false, false, false] (by kernel_rfl) (by rfl) (by kernel_rfl) (by intro p hp; simp only [List.mem_cons, List.not_mem_nil, or_false] at hp; rcases hp with rfl; exact a2) (fun hHeld => ?_)
  refine wpAnyL_take (i := 0) (v := ?_) rfl (by kernel_rfl) (by kernel_rfl) (by kernel_rfl) (by rfl) (fun _ _ _ h => h) (Or.inl ⟨by rfl, ?_⟩) hHeld (fun hHeld2 => ?_)
  rotate_left
  · (intro wz hSw; go_simp; try with_reducible rfl)
  clear hHeld; have hHeld := hHeld2; clear hHeld2
  try simp only [List.getElem_toArray, List.getElem_cons_zero, List.getElem_cons_succ, Act.put, List.setIfInBounds_toArray, List.set_cons_zero, List.set_cons_succ]
  refine wpAnyL_take (i := 1) (v := ?_) rfl (by kernel_rfl) (by kernel_rfl) (by kernel_rfl) (by rfl) (fun _ _ _ h => h) (Or.inl ⟨by rfl, ?_⟩) hHeld (fun hHeld2 => ?_)
  rotate_left
  · (intro wz hSw; go_simp; try with_reducible rfl)
  clear hHeld; have hHeld := hHeld2; clear hHeld2
  try simp only [List.getElem_toArray, List.getElem_cons_zero, List.getElem_cons_succ, Act.put, List.setIfInBounds_toArray, List.set_cons_zero, List.set_cons_succ]
  refine wpAnyL_take (i := 2) (v := ?_) rfl (by kernel_rfl) (by kernel_rfl) (by kernel_rfl) (by rfl) (fun _ _ _ h => h) (Or.inl ⟨by rfl, ?_⟩) hHeld (fun hHeld2 => ?_)
  rotate_left
  · (intro wz hSw; go_simp; try with_reducible rfl)
  clear hHeld; have hHeld := hHeld2; clear hHeld2
  try simp only [List.getElem_toArray, List.getElem_cons_zero, List.getElem_cons_succ, Act.put, List.setIfInBounds_toArray, List.set_cons_zero, List.set_cons_succ]
  refine wpAnyL_take (i := 3) (v := ?_) rfl (by kernel_rfl) (by kernel_rfl) (by kernel_rfl) (by rfl) (fun _ _ _ h => h) (Or.inl ⟨by rfl, ?_⟩) hHeld (fun hHeld2 => ?_)
  rotate_left
  · (intro wz hSw; go_simp; try with_reducible rfl)
  clear hHeld; have hHeld := hHeld2; clear hHeld2
  try simp only [List.getElem_toArray, List.getElem_cons_zero, List.getElem_cons_succ, Act.put, List.setIfInBounds_toArray, List.set_cons_zero, List.set_cons_succ]
  refine wpAnyL_take (i := 4) (v := ?_) rfl (by kernel_rfl) (by kernel_rfl) (by kernel_rfl) (by rfl) (fun _ _ _ h => h) (Or.inl ⟨by rfl, ?_⟩) hHeld (fun hHeld2 => ?_)
  rotate_left
  · (intro wz hSw; have hq : wz.cell? ⟨g, 2, none⟩ = some v := hSw.get _ (List.Mem.head _) 3 (by kernel_rfl); go_simp; try with_reducible rfl)
  clear hHeld; have hHeld := hHeld2; clear hHeld2
  try simp only [List.getElem_toArray, List.getElem_cons_zero, List.getElem_cons_succ, Act.put, List.setIfInBounds_toArray, List.set_cons_zero, List.set_cons_succ]
  refine wpAnyL_take (i := 5) (v := ?_) rfl (by kernel_rfl) (by kernel_rfl) (by kernel_rfl) (by rfl) (fun _ _ _ h => h) (Or.inl ⟨by rfl, ?_⟩) hHeld (fun hHeld2 => ?_)
  rotate_left
  · (intro wz hSw; go_simp; try with_reducible rfl)
  clear hHeld; have hHeld := hHeld2; clear hHeld2
  try simp only [List.getElem_toArray, List.getElem_cons_zero, List.getElem_cons_succ, Act.put, List.setIfInBounds_toArray, List.set_cons_zero, List.set_cons_succ]
  refine wpAnyL_take (i := 6) (v := ?_) rfl (by kernel_rfl) (by kernel_rfl) (by kernel_rfl) (by rfl) (fun _ _ _ h => h) (Or.inl ⟨by rfl, ?_⟩) hHeld (fun hHeld2 => ?_)
  rotate_left
  · (intro wz hSw; go_simp; try with_reducible rfl)
  clear hHeld; have hHeld := hHeld2; clear hHeld2
  try simp only [List.getElem_toArray, List.getElem_cons_zero, List.getElem_cons_succ, Act.put, List.setIfInBounds_toArray, List.set_cons_zero, List.set_cons_succ]
  refine wpAnyL_one (i := 7) (by kernel_rfl) rfl rfl hHeld (fun K hK => ?_)
  go_simp
  refine (clone_anyN A n c b HL.out hn4 w1.drew w1.heap.size (Nat.le_refl _) (HB1.out.drewN 1)).mono ?_
  rintro en w2 ⟨A', c', rfl, hc', hA', hb', hN', hBel⟩
  have b2 : w2.cell? ⟨g, 2, none⟩ = some v := (hBel.cell (p := ⟨g, 2, none⟩) HD.out.gl).trans a2
  have HC := Lib.hid (And.intro hc' (And.intro hA' (And.intro hb' (And.intro hN' (show Below w1.heap.size w1 w2 from (below_drewN_self w1 1).trans hBel)))))
  clear hc' hA' hb' hN' hBel
  refine hK.out _ _ (by intro p hp hl; simp only [List.mem_cons, List.not_mem_nil, or_false] at hp; rcases hp with rfl; exact b2) (fun hHeld2 => ?_)
  clear hHeld hK K ; have hHeld := hHeld2; clear hHeld2
  try simp only [List.getElem_toArray, List.getElem_cons_zero, List.getElem_cons_succ, Act.put, List.setIfInBounds_toArray, List.set_cons_zero, List.set_cons_succ]
  refine wpAnyL_one (i := 8) (by kernel_rfl) rfl rfl hHeld (fun K hK => ?_)
  go_simp
  refine hK.out _ _ (by intro p hp hl; simp only [List.mem_cons, List.not_mem_nil, or_false] at hp; rcases hp with rfl; exact b2) (fun hHeld2 => ?_)
  clear hHeld hK K ; have hHeld := hHeld2; clear hHeld2
  try simp only [List.getElem_toArray, List.getElem_cons_zero, List.getElem_cons_succ, Act.put, List.setIfInBounds_toArray, List.set_cons_zero, List.set_cons_succ]
  refine wpAnyL_one (i := 9) (by kernel_rfl) rfl rfl hHeld (fun K hK => ?_)
  go_simp
  have b3 : (w2.alloc (.cells #[.int .i64 (i : Int), .slice A' n c'] 66)).cell? ⟨g, 2, none⟩ = some v := ((below_alloc w2 (.cells #[.int .i64 (i : Int), .slice A' n c'] 66)).cell (p := ⟨g, 2, none⟩) (lt_of_cell b2)).trans b2
  refine hK.out _ _ (by intro p hp hl; simp only [List.mem_cons, List.not_mem_nil, or_false] at hp; rcases hp with rfl; exact b3) (fun hHeld2 => ?_)
  clear hHeld hK K ; have hHeld := hHeld2; clear hHeld2
  try simp only [List.getElem_toArray, List.getElem_cons_zero, List.getElem_cons_succ, Act.put, List.setIfInBounds_toArray, List.set_cons_zero, List.set_cons_succ]
  have RUN := Lib.hid (append_run HD.out HC.out.2.2.2.2 i A' n c' HWS.out)
  obtain ⟨v', w4, hr, hown, hgr, hat⟩ := RUN.out
  clear RUN
  refine wpAnyL_one (i := 10) (by kernel_rfl) rfl rfl hHeld (fun K hK => ?_)
  refine wp_app (.tmp 31) (.tmp 36) 54 rfl v _ rfl rfl hr ?_
  have ADD := Lib.hid (HD.out.added (HC.out.2.2.2.2.alloc HC.out.2.2.2.2.size (.cells #[.int .i64 (i : Int), .slice A' n c'] 66)) A' c' i b (by rw [HL.out]; exact HC.out.1) HC.out.2.1 (HC.out.2.2.1.below' (below_alloc w2 _)) HC.out.2.2.2.1 hgr (by rw [HL.out]; exact hown) hat HWF.out)
  have FR := HD.out.grownFree HC.out.2.2.2.2 hgr
  have b4 : w4.cell? ⟨g, 2, none⟩ = some v := FR.2
  have b5 : w4.frozen? ⟨g, 2, none⟩ = false := FR.1
  obtain ⟨A7, c7, rfl, _⟩ := row_form hown
  refine hK.out _ _ (by intro p hp hl; simp only [List.mem_cons, List.not_mem_nil, or_false] at hp; rcases hp with rfl; exact Bool.noConfusion (hl.symm.trans (show _ = true by kernel_rfl))) (fun hHeld2 => ?_)
  clear hHeld hK K hr hown hgr hat FR; have hHeld := hHeld2; clear hHeld2
  try simp only [List.getElem_toArray, List.getElem_cons_zero, List.getElem_cons_succ, Act.put, List.setIfInBounds_toArray, List.set_cons_zero, List.set_cons_succ]
  refine wpAnyL_one (i := 11) (by kernel_rfl) rfl rfl hHeld (fun K hK => ?_)
  go_simp
  refine hK.out _ _ (by intro p hp hl; simp only [List.mem_cons, List.not_mem_nil, or_false] at hp; rcases hp with rfl; exact Bool.noConfusion (hl.symm.trans (show _ = true by kernel_rfl))) (fun hHeld2 => ?_)
  clear hHeld hK K ; have hHeld := hHeld2; clear hHeld2
  try simp only [List.getElem_toArray, List.getElem_cons_zero, List.getElem_cons_succ, Act.put, List.setIfInBounds_toArray, List.set_cons_zero, List.set_cons_succ]
  refine wpAnyL_one (i := 12) (by kernel_rfl) rfl rfl hHeld (fun K hK => ?_)
  go_simp
  refine hK.out _ _ (by intro p hp hl; simp only [List.mem_cons, List.not_mem_nil, or_false] at hp; rcases hp with rfl; exact Bool.noConfusion (hl.symm.trans (show _ = true by kernel_rfl))) (fun hHeld2 => ?_)
  clear hHeld hK K ; have hHeld := hHeld2; clear hHeld2
  try simp only [List.getElem_toArray, List.getElem_cons_zero, List.getElem_cons_succ, Act.put, List.setIfInBounds_toArray, List.set_cons_zero, List.set_cons_succ]
  refine wpAnyL_one (i := 13) (by kernel_rfl) rfl rfl hHeld (fun K hK => ?_)
  go_simp
  refine hK.out _ _ (by intro p hp hl; simp only [List.mem_cons, List.not_mem_nil, or_false] at hp; rcases hp with rfl; exact Bool.noConfusion (hl.symm.trans (show _ = true by kernel_rfl))) (fun hHeld2 => ?_)
  clear hHeld hK K hHeld2
  try simp only [List.getElem_toArray, List.getElem_cons_zero, List.getElem_cons_succ, Act.put]
  refine wpAnyL_done (by kernel_rfl) ?_ _
  clear b4 b5 b2 b3 a2
  go_wp2
  go_ret
  obtain ⟨κ', h1, h2, h3⟩ := ADD.out
  exact ⟨rfl, κ', ⟨_, _, _, _, _, _, h1⟩, HT.out.trans h2 (fun _ e => .inl e), fun k hk => h3 k (Nat.lt_of_lt_of_le hk HT.out.size)⟩
/-- What Write leaves. -/
theorem write_any (h : Dsk w g κ s) (hm : s.steps ≤ 4294967294) (i : Int) (A : Option Addr) (n c : Nat) (b : List Nat) (hl : b.length = n) (hb : ByL w (fun k => κ k = 0) A b) :
    Calls Try.prog 20 #[.pointer (some ⟨g, 0, none⟩), .int .i64 i, .slice A n c] w (DskP g κ (s.write i b).1 (.int .i64 ((s.write i b).2 : Int)) w) := by
  by_cases hr : s.ready = 0
  · by_cases hf : s.fits i n = 0
    · by_cases h0 : s.left = 0
      · have e1 : s.write i b = (s.crash s.keep, 40) := by unfold St.write; rw [hl, if_neg (by omega), if_neg (by omega), if_pos h0]
        rw [e1]
        have C1 := Lib.hid (ready_any h)
        rw [hr] at C1
        have C2 := Lib.hid (fits_any h i A n c)
        rw [hf] at C2
        have C3 := Lib.hid (fun m => step_any (h.below (below_drewN_self w m)) (by omega))
        have e2 : s.step = (s.crash s.keep, 40) := by unfold St.step; rw [if_pos h0]
        rw [e2] at C3
        clear h hr h0 hm hl hb hf e2 e1
        generalize s.crash s.keep = s1 at *
        go_enter Try.func20, Try.ntmps20
        go_wp2_with fail
        refine C1.out.mono ?_
        rintro en w' ⟨rfl, rfl⟩
        go_wp2_with fail
        refine C2.out.mono ?_
        rintro en w' ⟨rfl, m, rfl⟩
        go_wp2_with fail
        refine (C3.out m).mono ?_
        rintro en w1 ⟨rfl, hd, hT⟩
        have HD := Lib.hid hd
        have HT := Lib.hid (show Touch (fun k => κ k ≠ 0) w w1 from ((Touch.refl _ w).drewN m).trans hT (fun _ e => .inl e))
        clear hd hT
        go_wp2
        go_ret
        exact ⟨rfl, κ, HD.out, HT.out, fun _ _ => rfl⟩
      · have hi : 0 ≤ i := by
          unfold St.fits at hf
          by_cases h1 : s.has i = true
          · exact ((has_iff s i).1 h1).1
          · rw [if_neg h1] at hf; omega
        have e1 : s.write i b = (s.count.add i.toNat b, 0) := by unfold St.write; rw [hl, if_neg (by omega), if_neg (by omega), if_neg h0]
        rw [e1]
        have ei : i = ((i.toNat : Nat) : Int) := by omega
        have key := write_ok h hr h0 hm i.toNat A n c b hl hb (by rw [← ei]; exact hf)
        rw [← ei] at key
        exact key
    · have e1 : s.write i b = (s, s.fits i n) := by unfold St.write; rw [hl, if_neg (by omega), if_pos hf]
      rw [e1]
      have C1 := Lib.hid (ready_any h)
      rw [hr] at C1
      have C2 := Lib.hid (fits_any h i A n c)
      have t1 : ((s.fits i n : Int) == 0) = false := by simp; omega
      have t2 : ((s.fits i n : Int) != 0) = true := by simp; omega
      have HD := Lib.hid h
      clear h hr hm hl hb hf e1
      generalize s.fits i n = r at *
      go_enter Try.func20, Try.ntmps20
      go_wp2_with fail
      refine C1.out.mono ?_
      rintro en w' ⟨rfl, rfl⟩
      go_wp2_with fail
      refine C2.out.mono ?_
      rintro en w' ⟨rfl, m, rfl⟩
      go_wp2
      go_ret
      exact DskP.stay HD.out _ m
  · have e1 : s.write i b = (s, s.ready) := by unfold St.write; rw [if_pos hr]
    rw [e1]
    have C1 := Lib.hid (ready_any h)
    have t1 : ((s.ready : Int) == 0) = false := by simp; omega
    have t2 : ((s.ready : Int) != 0) = true := by simp; omega
    have HD := Lib.hid h
    clear h hm hl hb hr e1
    generalize s.ready = r at *
    go_enter Try.func20, Try.ntmps20
    go_wp2_with fail
    refine C1.out.mono ?_
    rintro en w' ⟨rfl, rfl⟩
    go_wp2
    go_ret
    exact DskP.same HD.out _
end
end Go.Proofs.Ytfjaiolgbcindaa
