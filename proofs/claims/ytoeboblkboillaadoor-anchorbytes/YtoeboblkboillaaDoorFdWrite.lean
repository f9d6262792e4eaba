/-
  Contracts of field's Writer: Fixed, Number, Bytes and Out. Conditions: the writer lies in memory as its methods leave it; the bytes lie outside its blocks; the table of widths stands in its variable. (Written by tools/gen_fdwrite.py.)
-/
import Derived.Test.YtoeboblkboillaaDoorFdMem
import Derived.Test.YtoeboblkboillaaDoorHeldList
namespace Go.Proofs.YtoeboblkboillaaDoor
open Go.RowKit Arr Fld
set_option linter.unusedSimpArgs false

theorem Txt.row' {w : World} {g t : Nat} {A : Option Addr} {n c : Nat} {bs : List Nat} (h : Txt w g t (.slice A n c) bs) (hn : bs.length = n) : w.ownsRow (t + 1) 5 1 (.slice A n c) n (vals .u8 bs) := by subst hn; exact h.row

set_option maxRecDepth 10000 in
set_option maxHeartbeats 2000000 in
theorem wfixed_text {w : World} {g t n c0 m c q : Nat} {F : Nat → Prop} {A0 A : Option Addr} {bs ys : List Nat} (T : Txt w g t (.slice A0 n c0) bs) (hn : bs.length = n) (hs : w.cell? ⟨g, 2, none⟩ = some (.int .i64 (n : Int)))
    (hA : A = none → c = 0) (hl : ys.length = m) (hq : n + m = q) (hm : q ≤ 4294967296) (hx : Bys w w.heap.size A ys)
    (he : ∀ (w1 : World), (∃ k, w1 = w.drewN k) → ∀ w2 v', w2.ownsRow (t + 1) 5 1 v' q (vals .u8 (bs ++ ys)) → w1.grownBy w2 (Value.slice A0 n c0).ownBlock → (v'.ownBlock = (Value.slice A0 n c0).ownBlock ∨ v'.ownBlock = some w1.heap.size) → WrtP g F (bs ++ ys, 0) w (.returned (.tuple #[])) ((w2.setCell ⟨t, 0, none⟩ v').setCell ⟨g, 2, none⟩ (.int .i64 (q : Int)))) :
    Calls Tryd.prog 16 #[.pointer (some ⟨g, 0, none⟩), .slice A m c] w (WrtP g F (bs ++ ys, 0) w) := by
  have C := Lib.hid (failed_no T.err)
  have TX0 := Lib.hid T
  have a1 := T.c1
  have a3 := T.c3
  have t1 : ((n : Int) != (n : Int)) = false := by simp
  have HA := Lib.hid hA
  have HL := Lib.hid hl
  have HN := Lib.hid hn
  have HQ := Lib.hid hq
  have HM := Lib.hid hm
  have HX0 := Lib.hid hx
  have HE0 := Lib.hid he
  clear T hA hl hx he hn hq hm
  go_enter Tryd.func16, Tryd.ntmps16
  go_wp2_with fail
  refine C.out.mono ?_
  rintro en w' ⟨rfl, rfl⟩
  go_wp2
  go_quiet (fail)
  have TX := Lib.hid (TX0.out.drewN nq)
  have HX := Lib.hid (show ∀ k, Bys ((w.drewN nq).drewN k) ((w.drewN nq).drewN k).heap.size A ys from fun k => HX0.out)
  have HE := Lib.hid (HE0.out _ ⟨nq, rfl⟩)
  go_wp2
  have c1 := TX.out.c1
  have c3 := TX.out.c3
  generalize w.drewN nq = w1 at *
  clear a1 a3 hs t1 C TX0 HX0 HE0
  refine wp_region_L [(12, (fun w' => w' = w1.drew)), (13, (fun w' => w'.cell? ⟨g, 1, none⟩ = some (.pointer (some ⟨t, 0, none⟩))))] 16 #[false, false, false, false, false, false, false, false, false, false, false, false, false, false, false, false] (by kernel_rfl) (by rfl) (by kernel_rfl) (by intro p hp; simp only [List.mem_cons, List.not_mem_nil, or_false] at hp; rcases hp with rfl | rfl; exact rfl; exact c1) (fun hHeld => ?_)
  have d1 : w1.drew.cell? ⟨g, 1, none⟩ = some (.pointer (some ⟨t, 0, none⟩)) := c1
  have d3 : w1.drew.cell? ⟨t, 0, none⟩ = some (.slice A0 n c0) := c3
  refine wpAnyL_take (i := 0) (v := ?_) rfl (by kernel_rfl) (by kernel_rfl) (by kernel_rfl) (by rfl) (fun _ _ _ h => h) (Or.inl ⟨by rfl, ?_⟩) hHeld (fun hHeld2 => ?_)
  rotate_left
  · (intro wz hSw; go_simp; try with_reducible rfl)
  clear hHeld; have hHeld := hHeld2; clear hHeld2
  try simp only [List.getElem_toArray, List.getElem_cons_zero, List.getElem_cons_succ, Act.put, List.setIfInBounds_toArray, List.set_cons_zero, List.set_cons_succ]
  refine wpAnyL_take (i := 1) (v := ?_) rfl (by kernel_rfl) (by kernel_rfl) (by kernel_rfl) (by rfl) (fun _ _ _ h => h) (Or.inl ⟨by rfl, ?_⟩) hHeld (fun hHeld2 => ?_)
  rotate_left
  · (intro wz hSw; go_simp; try with_reducible rfl)
  clear hHeld; have hHeld := hHeld2; clear hHeld2
  try simp only [List.getElem_toArray, List.getElem_cons_zero, List.getElem_cons_succ, Act.put, List.setIfInBounds_toArray, List.set_cons_zero, List.set_cons_succ]
  refine wpAnyL_take (i := 2) (v := ?_) rfl (by kernel_rfl) (by kernel_rfl) (by kernel_rfl) (by rfl) (fun _ _ _ h => h) (Or.inl ⟨by rfl, ?_⟩) hHeld (fun hHeld2 => ?_)
  rotate_left
  · (intro wz hSw; go_simp; try with_reducible rfl)
  clear hHeld; have hHeld := hHeld2; clear hHeld2
  try simp only [List.getElem_toArray, List.getElem_cons_zero, List.getElem_cons_succ, Act.put, List.setIfInBounds_toArray, List.set_cons_zero, List.set_cons_succ]
  refine wpAnyL_take (i := 3) (v := ?_) rfl (by kernel_rfl) (by kernel_rfl) (by kernel_rfl) (by rfl) (fun _ _ _ h => h) (Or.inl ⟨by rfl, ?_⟩) hHeld (fun hHeld2 => ?_)
  rotate_left
  · (intro wz hSw; have hq : wz.cell? ⟨g, 1, none⟩ = some (.pointer (some ⟨t, 0, none⟩)) := hSw.get _ (List.Mem.tail _ (List.Mem.head _)) 1 (by kernel_rfl); go_simp; try with_reducible rfl)
  clear hHeld; have hHeld := hHeld2; clear hHeld2
  try simp only [List.getElem_toArray, List.getElem_cons_zero, List.getElem_cons_succ, Act.put, List.setIfInBounds_toArray, List.set_cons_zero, List.set_cons_succ]
  refine wpAnyL_take (i := 4) (v := ?_) rfl (by kernel_rfl) (by kernel_rfl) (by kernel_rfl) (by rfl) (fun _ _ _ h => h) (Or.inl ⟨by rfl, ?_⟩) hHeld (fun hHeld2 => ?_)
  rotate_left
  · (intro wz hSw; go_simp; try with_reducible rfl)
  clear hHeld; have hHeld := hHeld2; clear hHeld2
  try simp only [List.getElem_toArray, List.getElem_cons_zero, List.getElem_cons_succ, Act.put, List.setIfInBounds_toArray, List.set_cons_zero, List.set_cons_succ]
  refine wpAnyL_take (i := 5) (v := ?_) rfl (by kernel_rfl) (by kernel_rfl) (by kernel_rfl) (by rfl) (fun _ _ _ h => h) (Or.inl ⟨by rfl, ?_⟩) hHeld (fun hHeld2 => ?_)
  rotate_left
  · (intro wz hSw; go_simp; try with_reducible rfl)
  clear hHeld; have hHeld := hHeld2; clear hHeld2
  try simp only [List.getElem_toArray, List.getElem_cons_zero, List.getElem_cons_succ, Act.put, List.setIfInBounds_toArray, List.set_cons_zero, List.set_cons_succ]
  refine wpAnyL_take (i := 6) (v := ?_) rfl (by kernel_rfl) (by kernel_rfl) (by kernel_rfl) (by rfl) (fun _ _ _ h => h) (Or.inl ⟨by rfl, ?_⟩) hHeld (fun hHeld2 => ?_)
  rotate_left
  · (intro wz hSw; go_simp; try with_reducible rfl)
  clear hHeld; have hHeld := hHeld2; clear hHeld2
  try simp only [List.getElem_toArray, List.getElem_cons_zero, List.getElem_cons_succ, Act.put, List.setIfInBounds_toArray, List.set_cons_zero, List.set_cons_succ]
  refine wpAnyL_take (i := 7) (v := ?_) rfl (by kernel_rfl) (by kernel_rfl) (by kernel_rfl) (by rfl) (fun _ _ _ h => h) (Or.inl ⟨by rfl, ?_⟩) hHeld (fun hHeld2 => ?_)
  rotate_left
  · (intro wz hSw; have hq : wz = w1.drew := hSw.get _ (List.Mem.head _) 9 (by kernel_rfl); subst hq; go_simp; try with_reducible rfl)
  clear hHeld; have hHeld := hHeld2; clear hHeld2
  try simp only [List.getElem_toArray, List.getElem_cons_zero, List.getElem_cons_succ, Act.put, List.setIfInBounds_toArray, List.set_cons_zero, List.set_cons_succ]
  refine wpAnyL_take (i := 8) (v := ?_) rfl (by kernel_rfl) (by kernel_rfl) (by kernel_rfl) (by rfl) (fun _ _ _ h => h) (Or.inl ⟨by rfl, ?_⟩) hHeld (fun hHeld2 => ?_)
  rotate_left
  · (intro wz hSw; go_simp; try with_reducible rfl)
  clear hHeld; have hHeld := hHeld2; clear hHeld2
  try simp only [List.getElem_toArray, List.getElem_cons_zero, List.getElem_cons_succ, Act.put, List.setIfInBounds_toArray, List.set_cons_zero, List.set_cons_succ]
  refine wpAnyL_take (i := 9) (v := ?_) rfl (by kernel_rfl) (by kernel_rfl) (by kernel_rfl) (by rfl) (fun _ _ _ h => h) (Or.inl ⟨by rfl, ?_⟩) hHeld (fun hHeld2 => ?_)
  rotate_left
  · (intro wz hSw; go_simp; try with_reducible rfl)
  clear hHeld; have hHeld := hHeld2; clear hHeld2
  try simp only [List.getElem_toArray, List.getElem_cons_zero, List.getElem_cons_succ, Act.put, List.setIfInBounds_toArray, List.set_cons_zero, List.set_cons_succ]
  refine wpAnyL_take (i := 10) (v := ?_) rfl (by kernel_rfl) (by kernel_rfl) (by kernel_rfl) (by rfl) (fun _ _ _ h => h) (Or.inl ⟨by rfl, ?_⟩) hHeld (fun hHeld2 => ?_)
  rotate_left
  · (intro wz hSw; have hq : wz = w1.drew := hSw.get _ (List.Mem.head _) 9 (by kernel_rfl); subst hq; go_simp; try with_reducible rfl)
  clear hHeld; have hHeld := hHeld2; clear hHeld2
  try simp only [List.getElem_toArray, List.getElem_cons_zero, List.getElem_cons_succ, Act.put, List.setIfInBounds_toArray, List.set_cons_zero, List.set_cons_succ]
  refine wpAnyL_take (i := 11) (v := ?_) rfl (by kernel_rfl) (by kernel_rfl) (by kernel_rfl) (by rfl) (fun _ _ _ h => h) (Or.inl ⟨by rfl, ?_⟩) hHeld (fun hHeld2 => ?_)
  rotate_left
  · (intro wz hSw; go_simp; try with_reducible rfl)
  clear hHeld; have hHeld := hHeld2; clear hHeld2
  try simp only [List.getElem_toArray, List.getElem_cons_zero, List.getElem_cons_succ, Act.put, List.setIfInBounds_toArray, List.set_cons_zero, List.set_cons_succ]
  refine wpAnyL_one (i := 12) (by kernel_rfl) rfl rfl hHeld (fun K hK => ?_)
  refine wp_foot (.tmp 50) (.tmp 51) 22 rfl (t + 1) 5 Tryd.underlying22 info_u8 (.slice A0 n c0) n bs rfl ((TX.out.drewN 1).row' HN.out) A m c ys rfl HA.out HL.out (HX.out 1) (by rw [HQ.out]; exact HM.out) (Nat.succ_le_of_lt TX.out.lt) ?_
  intro v' w2 hown hgr hat
  rw [HQ.out] at hown
  have E := Lib.hid (HE.out w2 v' hown ⟨hgr.os, hgr.tape, hgr.output, hgr.size, hgr.block⟩ hat)
  have GT := Lib.hid TX.out.gt
  obtain ⟨g0, g0', g1, ⟨x, g3⟩, g4, g5⟩ := TX.out.grown (w2 := w2) ⟨hgr.os, hgr.tape, hgr.output, hgr.size, hgr.block⟩
  obtain ⟨A2, k2, rfl, hk2⟩ := owns_slice hown
  refine hK.out _ _ (by intro p hp hl; simp only [List.mem_cons, List.not_mem_nil, or_false] at hp; rcases hp with rfl | rfl; exact Bool.noConfusion (hl.symm.trans (show _ = true by kernel_rfl)); exact g1) (fun hHeld2 => ?_)
  clear hHeld hK K hown hgr hat hk2 HE HX TX d1 d3 c1 c3
  have hHeld := hHeld2
  clear hHeld2
  try simp only [List.getElem_toArray, List.getElem_cons_zero, List.getElem_cons_succ, Act.put, List.setIfInBounds_toArray, List.set_cons_zero, List.set_cons_succ]
  refine wpAnyL_one (i := 13) (by kernel_rfl) rfl rfl hHeld (fun K hK => ?_)
  go_simp
  refine hK.out _ _ (by intro p hp hl; simp only [List.mem_cons, List.not_mem_nil, or_false] at hp; rcases hp with rfl | rfl <;> exact Bool.noConfusion (hl.symm.trans (show _ = true by kernel_rfl))) (fun hHeld2 => ?_)
  clear hHeld hK K; have hHeld := hHeld2; clear hHeld2
  try simp only [List.getElem_toArray, List.getElem_cons_zero, List.getElem_cons_succ, Act.put, List.setIfInBounds_toArray, List.set_cons_zero, List.set_cons_succ]
  refine wpAnyL_one (i := 14) (by kernel_rfl) rfl rfl hHeld (fun K hK => ?_)
  go_simp
  refine hK.out _ _ (by intro p hp hl; simp only [List.mem_cons, List.not_mem_nil, or_false] at hp; rcases hp with rfl | rfl <;> exact Bool.noConfusion (hl.symm.trans (show _ = true by kernel_rfl))) (fun hHeld2 => ?_)
  clear hHeld hK K; have hHeld := hHeld2; clear hHeld2
  try simp only [List.getElem_toArray, List.getElem_cons_zero, List.getElem_cons_succ, Act.put, List.setIfInBounds_toArray, List.set_cons_zero, List.set_cons_succ]
  refine wpAnyL_one (i := 15) (by kernel_rfl) rfl rfl hHeld (fun K hK => ?_)
  go_simp
  refine hK.out _ _ (by intro p hp hl; simp only [List.mem_cons, List.not_mem_nil, or_false] at hp; rcases hp with rfl | rfl <;> exact Bool.noConfusion (hl.symm.trans (show _ = true by kernel_rfl))) (fun hHeld2 => ?_)
  clear hHeld hK K hHeld2
  try simp only [List.getElem_toArray, List.getElem_cons_zero, List.getElem_cons_succ, Act.put]
  refine wpAnyL_done (by kernel_rfl) ?_ _
  have u1 : (w2.setCell ⟨t, 0, none⟩ (.slice A2 q k2)).cell? ⟨g, 1, none⟩ = some (.pointer (some ⟨t, 0, none⟩)) := (World.cell?_setCell_other _ _ _ _ (fun e => by have e2 : _ = _ := congrArg Addr.block e; simp only at e2; have := GT.out; omega)).trans g1
  have u2 : (w2.setCell ⟨t, 0, none⟩ (.slice A2 q k2)).cell? ⟨g, 2, none⟩ = some (.int .i64 (x : Int)) := (World.cell?_setCell_other _ _ _ _ (fun e => by have e2 : _ = _ := congrArg Addr.block e; simp only at e2; have := GT.out; omega)).trans g3
  have u3 : (w2.setCell ⟨t, 0, none⟩ (.slice A2 q k2)).cell? ⟨t, 0, none⟩ = some (.slice A2 q k2) := World.cell?_setCell_same _ _ _ g4
  have u4 : (w2.setCell ⟨t, 0, none⟩ (.slice A2 q k2)).frozen? ⟨g, 2, none⟩ = false := (World.frozen?_setCell ..).trans (g0' 2)
  generalize w2.setCell ⟨t, 0, none⟩ (.slice A2 q k2) = w3 at *
  clear g0 g0' g1 g3 g4 g5
  go_wp2
  go_end0
  exact E.out
set_option maxRecDepth 10000 in
set_option maxHeartbeats 2000000 in
theorem wfixed_first {w : World} {g m c q : Nat} {F : Nat → Prop} {A : Option Addr} {ys : List Nat} (h : Wtr w g F ([], 0)) (a1 : w.cell? ⟨g, 1, none⟩ = some (.pointer none)) (a2 : w.cell? ⟨g, 2, none⟩ = some (.int .i64 0))
    (hA : A = none → c = 0) (hl : ys.length = m) (hq : 0 + m = q) (hm : q ≤ 4294967296) (hx : BysX w F A ys) :
    Calls Tryd.prog 16 #[.pointer (some ⟨g, 0, none⟩), .slice A m c] w (WrtP g F ([] ++ ys, 0) w) := by
  have C := Lib.hid (failed_no h.err)
  have CW := Lib.hid (fun nq => written_nil (w := w.drewN nq) a1)
  have TB := Lib.hid (fun nq => (h.drewN nq).begin a1 a2)
  have hin := h.inside
  have HH := Lib.hid h
  have HA := Lib.hid hA
  have HL := Lib.hid hl
  have HQ := Lib.hid hq
  have HM := Lib.hid hm
  have HX0 := Lib.hid hx
  have FR := Lib.hid (fun (nq : Nat) => (below_alloc (w.drewN nq) (.cells #[.slice none 0 0] 61)).frozen (p := ⟨g, 1, none⟩) hin)
  have CE := Lib.hid (fun (nq : Nat) => (below_alloc (w.drewN nq) (.cells #[.slice none 0 0] 61)).cell (p := ⟨g, 1, none⟩) hin)
  have hf0 := h.free 1
  clear h hA hl hx hq hm
  go_enter Tryd.func16, Tryd.ntmps16
  go_wp2_with fail
  refine C.out.mono ?_
  rintro en w' ⟨rfl, rfl⟩
  go_wp2
  go_quiet (fail)
  go_wp2_with fail
  refine (CW.out nq).mono ?_
  rintro en w' ⟨rfl, rfl⟩
  go_wp2_with fail
  refine (clone_nil0 _).mono ?_
  rintro en w' ⟨rfl, rfl⟩
  have f1 := (FR.out nq).trans hf0
  have f2 := (CE.out nq).trans a1
  go_wp2
  have T1 : Txt (((w.drewN nq).alloc (.cells #[.slice none 0 0] 61)).setCell ⟨g, 1, none⟩ (.pointer (some ⟨w.heap.size, 0, none⟩))) g w.heap.size (.slice none 0 0) [] ∧ Touch F (w.drewN nq) (((w.drewN nq).alloc (.cells #[.slice none 0 0] 61)).setCell ⟨g, 1, none⟩ (.pointer (some ⟨w.heap.size, 0, none⟩))) := TB.out nq
  have TX := Lib.hid T1.1
  have hT := ((Touch.refl F w).drewN nq).trans T1.2 (fun x hx => .inl hx)
  have HX := Lib.hid (show ∀ k, Bys ((((w.drewN nq).alloc (.cells #[.slice none 0 0] 61)).setCell ⟨g, 1, none⟩ (.pointer (some ⟨w.heap.size, 0, none⟩))).drewN k) ((((w.drewN nq).alloc (.cells #[.slice none 0 0] 61)).setCell ⟨g, 1, none⟩ (.pointer (some ⟨w.heap.size, 0, none⟩))).drewN k).heap.size A ys from fun k => (HX0.out.touch hT (fun x hx => .inl hx)).bys)
  have HE := Lib.hid (show ∀ w2 v', w2.ownsRow (w.heap.size + 1) 5 1 v' q (vals .u8 ([] ++ ys)) → (((w.drewN nq).alloc (.cells #[.slice none 0 0] 61)).setCell ⟨g, 1, none⟩ (.pointer (some ⟨w.heap.size, 0, none⟩))).grownBy w2 (Value.slice none 0 0).ownBlock → (v'.ownBlock = (Value.slice none 0 0).ownBlock ∨ v'.ownBlock = some (((w.drewN nq).alloc (.cells #[.slice none 0 0] 61)).setCell ⟨g, 1, none⟩ (.pointer (some ⟨w.heap.size, 0, none⟩))).heap.size) → WrtP g F ([] ++ ys, 0) w (.returned (.tuple #[])) ((w2.setCell ⟨w.heap.size, 0, none⟩ v').setCell ⟨g, 2, none⟩ (.int .i64 (q : Int))) from fun w2 v' hown hgr hat => by
    have hql : ([] ++ ys).length = q := by rw [List.nil_append, HL.out, ← HQ.out, Nat.zero_add]
    rw [← hql] at hown ⊢
    exact T1.1.done hT HH.out.own HH.out.lt (.inr (Nat.le_refl _)) (fun b hb => by cases hb) (by rw [List.nil_append]; exact HX0.out.1) hgr hown hat _ rfl)
  have c1 := T1.1.c1
  have c3 := T1.1.c3
  clear T1 hT f1 f2 CE FR TB CW C hf0
  generalize ((w.drewN nq).alloc (.cells #[.slice none 0 0] 61)).setCell ⟨g, 1, none⟩ (.pointer (some ⟨w.heap.size, 0, none⟩)) = w1 at *
  generalize w.heap.size = t at *
  clear a1 a2 hin HH HX0
  refine wp_region_L [(12, (fun w' => w' = w1.drew)), (13, (fun w' => w'.cell? ⟨g, 1, none⟩ = some (.pointer (some ⟨t, 0, none⟩))))] 16 #[false, false, false, false, false, false, false, false, false, false, false, false, false, false, false, false] (by kernel_rfl) (by rfl) (by kernel_rfl) (by intro p hp; simp only [List.mem_cons, List.not_mem_nil, or_false] at hp; rcases hp with rfl | rfl; exact rfl; exact c1) (fun hHeld => ?_)
  have d1 : w1.drew.cell? ⟨g, 1, none⟩ = some (.pointer (some ⟨t, 0, none⟩)) := c1
  have d3 : w1.drew.cell? ⟨t, 0, none⟩ = some (.slice none 0 0) := c3
  refine wpAnyL_take (i := 0) (v := ?_) rfl (by kernel_rfl) (by kernel_rfl) (by kernel_rfl) (by rfl) (fun _ _ _ h => h) (Or.inl ⟨by rfl, ?_⟩) hHeld (fun hHeld2 => ?_)
  rotate_left
  · (intro wz hSw; go_simp; try with_reducible rfl)
  clear hHeld; have hHeld := hHeld2; clear hHeld2
  try simp only [List.getElem_toArray, List.getElem_cons_zero, List.getElem_cons_succ, Act.put, List.setIfInBounds_toArray, List.set_cons_zero, List.set_cons_succ]
  refine wpAnyL_take (i := 1) (v := ?_) rfl (by kernel_rfl) (by kernel_rfl) (by kernel_rfl) (by rfl) (fun _ _ _ h => h) (Or.inl ⟨by rfl, ?_⟩) hHeld (fun hHeld2 => ?_)
  rotate_left
  · (intro wz hSw; go_simp; try with_reducible rfl)
  clear hHeld; have hHeld := hHeld2; clear hHeld2
  try simp only [List.getElem_toArray, List.getElem_cons_zero, List.getElem_cons_succ, Act.put, List.setIfInBounds_toArray, List.set_cons_zero, List.set_cons_succ]
  refine wpAnyL_take (i := 2) (v := ?_) rfl (by kernel_rfl) (by kernel_rfl) (by kernel_rfl) (by rfl) (fun _ _ _ h => h) (Or.inl ⟨by rfl, ?_⟩) hHeld (fun hHeld2 => ?_)
  rotate_left
  · (intro wz hSw; go_simp; try with_reducible rfl)
  clear hHeld; have hHeld := hHeld2; clear hHeld2
  try simp only [List.getElem_toArray, List.getElem_cons_zero, List.getElem_cons_succ, Act.put, List.setIfInBounds_toArray, List.set_cons_zero, List.set_cons_succ]
  refine wpAnyL_take (i := 3) (v := ?_) rfl (by kernel_rfl) (by kernel_rfl) (by kernel_rfl) (by rfl) (fun _ _ _ h => h) (Or.inl ⟨by rfl, ?_⟩) hHeld (fun hHeld2 => ?_)
  rotate_left
  · (intro wz hSw; have hq : wz.cell? ⟨g, 1, none⟩ = some (.pointer (some ⟨t, 0, none⟩)) := hSw.get _ (List.Mem.tail _ (List.Mem.head _)) 1 (by kernel_rfl); go_simp; try with_reducible rfl)
  clear hHeld; have hHeld := hHeld2; clear hHeld2
  try simp only [List.getElem_toArray, List.getElem_cons_zero, List.getElem_cons_succ, Act.put, List.setIfInBounds_toArray, List.set_cons_zero, List.set_cons_succ]
  refine wpAnyL_take (i := 4) (v := ?_) rfl (by kernel_rfl) (by kernel_rfl) (by kernel_rfl) (by rfl) (fun _ _ _ h => h) (Or.inl ⟨by rfl, ?_⟩) hHeld (fun hHeld2 => ?_)
  rotate_left
  · (intro wz hSw; go_simp; try with_reducible rfl)
  clear hHeld; have hHeld := hHeld2; clear hHeld2
  try simp only [List.getElem_toArray, List.getElem_cons_zero, List.getElem_cons_succ, Act.put, List.setIfInBounds_toArray, List.set_cons_zero, List.set_cons_succ]
  refine wpAnyL_take (i := 5) (v := ?_) rfl (by kernel_rfl) (by kernel_rfl) (by kernel_rfl) (by rfl) (fun _ _ _ h => h) (Or.inl ⟨by rfl, ?_⟩) hHeld (fun hHeld2 => ?_)
  rotate_left
  · (intro wz hSw; go_simp; try with_reducible rfl)
  clear hHeld; have hHeld := hHeld2; clear hHeld2
  try simp only [List.getElem_toArray, List.getElem_cons_zero, List.getElem_cons_succ, Act.put, List.setIfInBounds_toArray, List.set_cons_zero, List.set_cons_succ]
  refine wpAnyL_take (i := 6) (v := ?_) rfl (by kernel_rfl) (by kernel_rfl) (by kernel_rfl) (by rfl) (fun _ _ _ h => h) (Or.inl ⟨by rfl, ?_⟩) hHeld (fun hHeld2 => ?_)
  rotate_left
  · (intro wz hSw; go_simp; try with_reducible rfl)
  clear hHeld; have hHeld := hHeld2; clear hHeld2
  try simp only [List.getElem_toArray, List.getElem_cons_zero, List.getElem_cons_succ, Act.put, List.setIfInBounds_toArray, List.set_cons_zero, List.set_cons_succ]
  refine wpAnyL_take (i := 7) (v := ?_) rfl (by kernel_rfl) (by kernel_rfl) (by kernel_rfl) (by rfl) (fun _ _ _ h => h) (Or.inl ⟨by rfl, ?_⟩) hHeld (fun hHeld2 => ?_)
  rotate_left
  · (intro wz hSw; have hq : wz = w1.drew := hSw.get _ (List.Mem.head _) 9 (by kernel_rfl); subst hq; go_simp; try with_reducible rfl)
  clear hHeld; have hHeld := hHeld2; clear hHeld2
  try simp only [List.getElem_toArray, List.getElem_cons_zero, List.getElem_cons_succ, Act.put, List.setIfInBounds_toArray, List.set_cons_zero, List.set_cons_succ]
  refine wpAnyL_take (i := 8) (v := ?_) rfl (by kernel_rfl) (by kernel_rfl) (by kernel_rfl) (by rfl) (fun _ _ _ h => h) (Or.inl ⟨by rfl, ?_⟩) hHeld (fun hHeld2 => ?_)
  rotate_left
  · (intro wz hSw; go_simp; try with_reducible rfl)
  clear hHeld; have hHeld := hHeld2; clear hHeld2
  try simp only [List.getElem_toArray, List.getElem_cons_zero, List.getElem_cons_succ, Act.put, List.setIfInBounds_toArray, List.set_cons_zero, List.set_cons_succ]
  refine wpAnyL_take (i := 9) (v := ?_) rfl (by kernel_rfl) (by kernel_rfl) (by kernel_rfl) (by rfl) (fun _ _ _ h => h) (Or.inl ⟨by rfl, ?_⟩) hHeld (fun hHeld2 => ?_)
  rotate_left
  · (intro wz hSw; go_simp; try with_reducible rfl)
  clear hHeld; have hHeld := hHeld2; clear hHeld2
  try simp only [List.getElem_toArray, List.getElem_cons_zero, List.getElem_cons_succ, Act.put, List.setIfInBounds_toArray, List.set_cons_zero, List.set_cons_succ]
  refine wpAnyL_take (i := 10) (v := ?_) rfl (by kernel_rfl) (by kernel_rfl) (by kernel_rfl) (by rfl) (fun _ _ _ h => h) (Or.inl ⟨by rfl, ?_⟩) hHeld (fun hHeld2 => ?_)
  rotate_left
  · (intro wz hSw; have hq : wz = w1.drew := hSw.get _ (List.Mem.head _) 9 (by kernel_rfl); subst hq; go_simp; try with_reducible rfl)
  clear hHeld; have hHeld := hHeld2; clear hHeld2
  try simp only [List.getElem_toArray, List.getElem_cons_zero, List.getElem_cons_succ, Act.put, List.setIfInBounds_toArray, List.set_cons_zero, List.set_cons_succ]
  refine wpAnyL_take (i := 11) (v := ?_) rfl (by kernel_rfl) (by kernel_rfl) (by kernel_rfl) (by rfl) (fun _ _ _ h => h) (Or.inl ⟨by rfl, ?_⟩) hHeld (fun hHeld2 => ?_)
  rotate_left
  · (intro wz hSw; go_simp; try with_reducible rfl)
  clear hHeld; have hHeld := hHeld2; clear hHeld2
  try simp only [List.getElem_toArray, List.getElem_cons_zero, List.getElem_cons_succ, Act.put, List.setIfInBounds_toArray, List.set_cons_zero, List.set_cons_succ]
  refine wpAnyL_one (i := 12) (by kernel_rfl) rfl rfl hHeld (fun K hK => ?_)
  refine wp_foot (.tmp 50) (.tmp 51) 22 rfl (t + 1) 5 Tryd.underlying22 info_u8 (.slice none 0 0) 0 [] rfl ((TX.out.drewN 1).row' rfl) A m c ys rfl HA.out HL.out (HX.out 1) (by rw [HQ.out]; exact HM.out) (Nat.succ_le_of_lt TX.out.lt) ?_
  intro v' w2 hown hgr hat
  rw [HQ.out] at hown
  have E := Lib.hid (HE.out w2 v' hown ⟨hgr.os, hgr.tape, hgr.output, hgr.size, hgr.block⟩ hat)
  have GT := Lib.hid TX.out.gt
  obtain ⟨g0, g0', g1, ⟨x, g3⟩, g4, g5⟩ := TX.out.grown (w2 := w2) ⟨hgr.os, hgr.tape, hgr.output, hgr.size, hgr.block⟩
  obtain ⟨A2, k2, rfl, hk2⟩ := owns_slice hown
  refine hK.out _ _ (by intro p hp hl; simp only [List.mem_cons, List.not_mem_nil, or_false] at hp; rcases hp with rfl | rfl; exact Bool.noConfusion (hl.symm.trans (show _ = true by kernel_rfl)); exact g1) (fun hHeld2 => ?_)
  clear hHeld hK K hown hgr hat hk2 HE HX TX d1 d3 c1 c3
  have hHeld := hHeld2
  clear hHeld2
  try simp only [List.getElem_toArray, List.getElem_cons_zero, List.getElem_cons_succ, Act.put, List.setIfInBounds_toArray, List.set_cons_zero, List.set_cons_succ]
  refine wpAnyL_one (i := 13) (by kernel_rfl) rfl rfl hHeld (fun K hK => ?_)
  go_simp
  refine hK.out _ _ (by intro p hp hl; simp only [List.mem_cons, List.not_mem_nil, or_false] at hp; rcases hp with rfl | rfl <;> exact Bool.noConfusion (hl.symm.trans (show _ = true by kernel_rfl))) (fun hHeld2 => ?_)
  clear hHeld hK K; have hHeld := hHeld2; clear hHeld2
  try simp only [List.getElem_toArray, List.getElem_cons_zero, List.getElem_cons_succ, Act.put, List.setIfInBounds_toArray, List.set_cons_zero, List.set_cons_succ]
  refine wpAnyL_one (i := 14) (by kernel_rfl) rfl rfl hHeld (fun K hK => ?_)
  go_simp
  refine hK.out _ _ (by intro p hp hl; simp only [List.mem_cons, List.not_mem_nil, or_false] at hp; rcases hp with rfl | rfl <;> exact Bool.noConfusion (hl.symm.trans (show _ = true by kernel_rfl))) (fun hHeld2 => ?_)
  clear hHeld hK K; have hHeld := hHeld2; clear hHeld2
  try simp only [List.getElem_toArray, List.getElem_cons_zero, List.getElem_cons_succ, Act.put, List.setIfInBounds_toArray, List.set_cons_zero, List.set_cons_succ]
  refine wpAnyL_one (i := 15) (by kernel_rfl) rfl rfl hHeld (fun K hK => ?_)
  go_simp
  refine hK.out _ _ (by intro p hp hl; simp only [List.mem_cons, List.not_mem_nil, or_false] at hp; rcases hp with rfl | rfl <;> exact Bool.noConfusion (hl.symm.trans (show _ = true by kernel_rfl))) (fun hHeld2 => ?_)
  clear hHeld hK K hHeld2
  try simp only [List.getElem_toArray, List.getElem_cons_zero, List.getElem_cons_succ, Act.put]
  refine wpAnyL_done (by kernel_rfl) ?_ _
  have u1 : (w2.setCell ⟨t, 0, none⟩ (.slice A2 q k2)).cell? ⟨g, 1, none⟩ = some (.pointer (some ⟨t, 0, none⟩)) := (World.cell?_setCell_other _ _ _ _ (fun e => by have e2 : _ = _ := congrArg Addr.block e; simp only at e2; have := GT.out; omega)).trans g1
  have u2 : (w2.setCell ⟨t, 0, none⟩ (.slice A2 q k2)).cell? ⟨g, 2, none⟩ = some (.int .i64 (x : Int)) := (World.cell?_setCell_other _ _ _ _ (fun e => by have e2 : _ = _ := congrArg Addr.block e; simp only at e2; have := GT.out; omega)).trans g3
  have u3 : (w2.setCell ⟨t, 0, none⟩ (.slice A2 q k2)).cell? ⟨t, 0, none⟩ = some (.slice A2 q k2) := World.cell?_setCell_same _ _ _ g4
  have u4 : (w2.setCell ⟨t, 0, none⟩ (.slice A2 q k2)).frozen? ⟨g, 2, none⟩ = false := (World.frozen?_setCell ..).trans (g0' 2)
  generalize w2.setCell ⟨t, 0, none⟩ (.slice A2 q k2) = w3 at *
  clear g0 g0' g1 g3 g4 g5
  go_wp2
  go_end0
  exact E.out
end Go.Proofs.YtoeboblkboillaaDoor
