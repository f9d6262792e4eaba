/-
  Contract of anchor's Bytes. Conditions: the slot lies in memory as a call made it (or is none); the table of widths stands in its variable.
-/
import Derived.Test.YtoeboblkboillaaDoorAnNum
import Derived.Test.YtoeboblkboillaaDoorAnFns
import Derived.Test.YtoeboblkboillaaDoorFdOut
import Derived.Test.YtoeboblkboillaaDoorArrStore
namespace Go.Proofs.YtoeboblkboillaaDoor
open Go.RowKit Arr Go.Sort Fld

set_option maxRecDepth 100000 in
theorem anbytes_nil (w : World) : Calls Tryd.prog 8 #[.pointer none] w fun en w' => en = .returned (.slice none 0 0) ∧ w = w' := by
  go_enter Tryd.func8, Tryd.ntmps8
  go_wp2_with fail
  refine (annone_nil w).mono ?_
  rintro en w' ⟨rfl, rfl⟩
  go_wp2
  go_ret
  exact ⟨rfl, rfl⟩
/-- The key and the sum of a root that lies in memory, as slices. -/
theorem HV.keyB {w : World} {g : Nat} {n : Int} {k s : List Nat} (h : HV w g (rc n k s)) (hk : ∀ x, x ∈ k → x < 256) : Bys w (g + 1) (some ⟨g, 1, none⟩) k :=
  ⟨hk, fun _ => ⟨g, 1, rfl, Nat.lt_succ_self g, fun i hi => h.cell (1 + i) _ (by
    unfold rc
    rw [Nat.add_comm, List.getElem?_cons_succ, List.getElem?_append_left (by rw [length_nv]; exact hi)]
    exact nv_get _ _ _ hi)⟩⟩
theorem HV.sumB {w : World} {g : Nat} {n : Int} {k s : List Nat} (h : HV w g (rc n k s)) (h2 : Two32 k s) (hs : ∀ x, x ∈ s → x < 256) : Bys w (g + 1) (some ⟨g, 33, none⟩) s :=
  ⟨hs, fun _ => ⟨g, 33, rfl, Nat.lt_succ_self g, fun i hi => h.cell (33 + i) _ (by
    unfold rc
    rw [show 33 + i = (32 + i) + 1 by omega, List.getElem?_cons_succ, List.getElem?_append_right (by rw [length_nv, h2.k]; omega), length_nv, h2.k, Nat.add_sub_cancel_left]
    exact nv_get _ _ _ hi)⟩⟩
/-- What Bytes leaves: bytes in a block of their own. -/
def BysP (bs : List Nat) (w : World) (en : Ending) (w' : World) : Prop := ∃ v, en = .returned v ∧ LiesF w' w.heap.size v bs ∧ Below w.heap.size w w'
theorem LiesF.low {w : World} {lo lo' : Nat} {v : Value} {bs : List Nat} (h : LiesF w lo v bs) (hl : lo' ≤ lo) : LiesF w lo' v bs := by
  obtain ⟨A, c, h1, h2, h3, h4, h5⟩ := h
  exact ⟨A, c, h1, h2, h3, h4, fun b hb => Nat.le_trans hl (h5 b hb)⟩
/-- A call that writes leaves the rest. -/
theorem WrtP.step {w w' : World} {g B : Nat} {F : Nat → Prop} {s : List Nat × Nat} {en : Ending} (h : WrtP g F s w en w') (hF : ∀ k, F k → B ≤ k) (hB : B ≤ w.heap.size) :
    en = .returned (.tuple #[]) ∧ ∃ F', Wtr w' g F' s ∧ Below B w w' ∧ ∀ k, F' k → B ≤ k := by
  obtain ⟨h1, F', h2, h3, h4⟩ := h
  exact ⟨h1, F', h2, h3.below hF hB, fun k hk => (h4 k hk).elim (hF k) (Nat.le_trans hB)⟩
set_option maxRecDepth 100000 in
set_option maxHeartbeats 4000000 in
theorem anbytes_any {w : World} {g n m : Nat} {k s : List Nat} (h : Slt w g n k s m) (hn : n ≤ 1099511627776) (hm : m ≤ 1099511627776) (hk : ∀ x, x ∈ k → x < 256) (hs : ∀ x, x ∈ s → x < 256) (ht : Tab w 0) :
    Calls Tryd.prog 8 #[.pointer (some ⟨g, 0, none⟩)] w (BysP (encB n m k s) w) := by
  have h2 := h.two
  have CN := Lib.hid (annone_made h)
  have CG := Lib.hid (anget_any h hn)
  have HS := Lib.hid h
  have HT := Lib.hid ht
  have HK := Lib.hid hk
  have HSB := Lib.hid hs
  have e1 := num8 hn
  have e2 := num8 hm
  have sl := fun (W : World) (gg : Nat) => sliceAll key32 W gg 1
  have sm := fun (W : World) (gg : Nat) => sliceAll key32 W gg 33
  clear h ht hk hs
  go_enter Tryd.func8, Tryd.ntmps8
  go_wp2_with fail
  refine CN.out.mono ?_
  rintro en w' ⟨rfl, rfl⟩
  go_wp2_with fail
  refine CG.out.mono ?_
  rintro en w1 ⟨rfl, hg1⟩
  obtain ⟨N, hN⟩ : ∃ N, N = w1.heap.size := ⟨_, rfl⟩
  obtain ⟨w2, hw2⟩ : ∃ w2, w2 = w1.alloc (.cells (ra 0 (zs 32) (zs 32)) 27) := ⟨_, rfl⟩
  have n2 : HV w2 N (rc 0 (zs 32) (zs 32)) := by rw [hw2, hN]; exact HV.new w1 27 (rc 0 (zs 32) (zs 32))
  have g2 : Gr w w2 := hw2 ▸ hg1.alloc _
  have s2 : w2.heap.size = N + 1 := by rw [hw2, hN]; simp
  obtain ⟨w3, hw3⟩ : ∃ w3, w3 = w2.setCells N 0 (rc (n : Int) k s) := ⟨_, rfl⟩
  have n3 : HV w3 N (rc (n : Int) k s) := by rw [hw3]; exact HV.putV n2 (by rw [length_rc h2, length_rc two_zs])
  have g3 : Gr w w3 := hw3 ▸ Gr.setCells (by rw [hN]; exact hg1.size) _ _ _ g2
  have s3 : w3.heap.size = N + 1 := by rw [hw3, size_setCells]; exact s2
  have T2 := Lib.hid (HV.there65 n2 two_zs)
  have HW2 := Lib.hid hw2.symm
  have HW3 := Lib.hid hw3.symm
  have HN := Lib.hid hN.symm
  have G3 := Lib.hid g3
  have N3 := Lib.hid n3
  have HS3 := Lib.hid s3
  have s3' := s3
  have HLE := Lib.hid (show w.heap.size ≤ N by rw [hN]; exact hg1.size)
  clear n2 g2 s2 n3 g3 s3 hw2 hw3 hN hg1 CN CG
  obtain ⟨w4, hw4⟩ : ∃ w4, w4 = w3.alloc (.cells #[.int .i64 0, .pointer none, .int .i64 0] 46) := ⟨_, rfl⟩
  have W4 : Wtr w4 (N + 1) (fun k => k = N + 1) ([], 0) := by have := Wtr.new w3; rwa [s3', ← hw4] at this
  have B4 : Below w.heap.size w w4 := by rw [hw4]; exact (G3.out.alloc _).below
  have S4 : w4.heap.size = N + 2 := by rw [hw4]; simp [s3']
  have N4 : HV w4 N (rc (n : Int) k s) := by rw [hw4]; exact N3.out.alloc _
  have X4 := Lib.hid (show ∀ W, Below (N + 1) w4 W → Tab W 0 ∧ HV W N (rc (n : Int) k s) ∧ Slt W g n k s m ∧ Below w.heap.size w W from fun W hW => by
    have hw := B4.trans (hW.mono (Nat.le_trans HLE.out (Nat.le_succ N)))
    exact ⟨HT.out.below hw HT.out.lt, N4.below hW (Nat.lt_succ_self N), HS.out.below hw, hw⟩)
  have c4 : (w3.alloc (.cells #[.int .i64 0, .pointer none, .int .i64 0] 46)).cell? ⟨N, 0, none⟩ = some (.int .i64 (n : Int)) := hw4 ▸ N4.cell 0 _ rfl
  have C4 := Lib.hid (wnumber_any W4 (n : Int) 8 (by simp) (X4.out w4 (Below.refl _ _)).1)
  have HW4 := Lib.hid hw4.symm
  have SZ4 := Lib.hid S4
  clear hw4 W4 B4 S4 N4 G3 N3 HS HT
  go_wp2_with (first | (with_reducible refine Arr.alloc (t := 27) _ zRoot ?_; rw [HW2.out, HN.out]) | (with_reducible refine storeR N _ _ _ h2 T2.out rfl rfl ?_; rw [HW3.out]) | fail)
  rw [HW4.out]
  refine C4.out.mono ?_
  rintro en w5 h5
  obtain ⟨rfl, F5, k5, b5, f5⟩ := h5.step (B := N + 1) (fun k hk => by subst hk; exact Nat.le_refl _) (by rw [SZ4.out]; omega)
  rw [e1, wput_some, List.nil_append] at k5
  obtain ⟨t5, v5, q5, _⟩ := X4.out w5 b5
  have c5 := q5.limit
  have HB5 := Lib.hid b5
  have F5H := Lib.hid f5
  have SZ5 := Lib.hid (show N + 1 ≤ w5.heap.size from Nat.le_trans (by rw [SZ4.out]; omega) b5.size)
  have C5 := Lib.hid (wnumber_any k5 (m : Int) 8 (by simp [length_bytesOf]) t5)
  clear h5 k5 b5 f5 t5 v5 q5 C4 c4
  go_wp2_with fail
  refine C5.out.mono ?_
  rintro en w6 h6
  obtain ⟨rfl, F6, k6, b6, f6⟩ := h6.step F5H.out SZ5.out
  rw [e2, wput_some] at k6
  have HB6 := Lib.hid (HB5.out.trans b6)
  obtain ⟨t6, v6, q6, _⟩ := X4.out w6 HB6.out
  have F6H := Lib.hid f6
  have SZ6 := Lib.hid (show N + 1 ≤ w6.heap.size from Nat.le_trans SZ5.out b6.size)
  have C6 := Lib.hid (wfixed_any k6 (some ⟨N, 1, none⟩) 32 32 k (fun e => by cases e) h2.k (BysX.of (HV.keyB v6 HK.out) f6 SZ6.out) (by simp [length_bytesOf]))
  clear h6 k6 b6 f6 t6 v6 q6 C5 c5 HB5 F5H SZ5
  go_wp2_with fail
  refine C6.out.mono ?_
  rintro en w7 h7
  obtain ⟨rfl, F7, k7, b7, f7⟩ := h7.step F6H.out SZ6.out
  rw [wput_some] at k7
  have HB7 := Lib.hid (HB6.out.trans b7)
  obtain ⟨t7, v7, q7, _⟩ := X4.out w7 HB7.out
  have F7H := Lib.hid f7
  have SZ7 := Lib.hid (show N + 1 ≤ w7.heap.size from Nat.le_trans SZ6.out b7.size)
  have C7 := Lib.hid (wfixed_any k7 (some ⟨N, 33, none⟩) 32 32 s (fun e => by cases e) h2.s (BysX.of (HV.sumB v7 h2 HSB.out) f7 SZ7.out) (by simp [length_bytesOf, h2.k]))
  clear h7 k7 b7 f7 t7 v7 q7 C6 HB6 F6H SZ6
  go_wp2_with fail
  refine C7.out.mono ?_
  rintro en w8 h8
  obtain ⟨rfl, F8, k8, b8, f8⟩ := h8.step F7H.out SZ7.out
  rw [wput_some] at k8
  have HB8 := Lib.hid (HB7.out.trans b8)
  have C8 := Lib.hid (wout_any k8 (by simp [length_bytesOf, h2.k, h2.s]))
  have B8 := Lib.hid (X4.out w8 HB8.out).2.2.2
  clear h8 k8 b8 f8 C7 HB7 F7H SZ7
  go_wp2_with fail
  refine C8.out.mono ?_
  rintro en w9 ⟨v, rfl, hv, hb⟩
  have HE := Lib.hid (show BysP (encB n m k s) w (.returned v) w9 from ⟨v, rfl, by
    have e : outB (((bytesOf n 8 ++ bytesOf m 8) ++ k) ++ s, 0) = encB n m k s := by simp [outB, encB]
    rw [e] at hv
    exact hv.low B8.out.size, B8.out.trans (hb.mono B8.out.size)⟩)
  clear hv hb C8 B8 HB8
  go_wp2
  go_ret
  exact HE.out
end Go.Proofs.YtoeboblkboillaaDoor
