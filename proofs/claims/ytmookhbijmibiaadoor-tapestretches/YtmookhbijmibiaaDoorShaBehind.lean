/-
  Contracts of word.Put64 and sha.behind, sha.Pad: what stands behind bytes. Conditions: the table of widths stands in its variable. (Written by tools/gen_behind.py.)
-/
import Derived.Test.YtmookhbijmibiaaDoorShaAdd
import Derived.Test.YtmookhbijmibiaaDoorLaidArr
import Derived.Deep.OwnRows
import Derived.Deep.RegionHeld3
namespace Go.Proofs.YtmookhbijmibiaaDoor
open Go.RowKit Arr Sh

theorem put64_any (x : Nat) (w : World) (ht : Tab w 1) : Calls Tryd.prog 13 #[.int .u64 (x : Int)] w (Spread x 8 w) := by
  have HS := Lib.hid (spread_any x 8 (by omega) (by omega) w ht)
  have HT := Lib.hid ht; clear ht
  go_enter Tryd.func13, Tryd.ntmps13
  go_wp2_with fail
  refine HS.out.mono ?_
  rintro e w' ⟨arr, hla, rfl, rfl⟩
  have HLA := Lib.hid hla; clear hla
  go_wp2
  go_ret
  exact ⟨arr, HLA.out, rfl, rfl⟩
theorem made_bytes (s : Nat) : madeCells #[.int .u8 0] s = na .u8 (zs s) := by
  apply Array.ext_getElem?
  intro i
  by_cases hi : i < s
  · rw [na_get _ _ _ (by rw [length_zs]; exact hi), zs_get]
    simp [madeCells, hi, Nat.mod_one]
  · rw [Array.getElem?_eq_none (by rw [size_madeCells]; omega), Array.getElem?_eq_none (by rw [size_na, length_zs]; omega)]
/-- The first of what stands behind, the others noughts. -/
def head (n : Nat) : List Nat := 128 :: zs (size n - 1)
theorem length_head (n : Nat) : (head n).length = size n := by have := size_ge n; simp [head, length_zs]; omega
theorem head_pad (n : Nat) : spl (head n) (size n - 8) (bytesOf (8 * n) 8) = pad n := by
  have := size_ge n
  have e : size n - 8 = (size n - 9) + 1 := by omega
  rw [spl, length_bytesOf, List.drop_of_length_le (by rw [length_head]; omega), List.append_nil, head, e, List.take_succ_cons, zs, List.take_replicate, Nat.min_eq_left (by omega), pad]
  rfl
theorem pad_pad (n : Nat) : spl (pad n) (size n - 8) (bytesOf (8 * n) 8) = pad n := by
  have := size_ge n
  have e : size n - 8 = (size n - 9) + 1 := by omega
  rw [spl, length_bytesOf, List.drop_of_length_le (by rw [length_pad]; omega), List.append_nil, pad, e, List.take_succ_cons, List.take_append_of_le_length (by simp), List.take_of_length_le (by simp)]
  rfl
/-- What holds while the number is laid behind. -/
def SB (w : World) (h n : Nat) (w' : World) : Prop := (∃ l, (l = head n ∨ l = pad n) ∧ HAt w' h 0 .u8 l) ∧ Below w.heap.size w w'
theorem SB.after {w w' w'' : World} {h n : Nat} (s : SB w h n w') (hb : Below w'.heap.size w' w'') : SB w h n w'' := by
  obtain ⟨⟨l, hl, hP⟩, hB⟩ := s
  have : 0 < l.length := by
    have := size_ge n
    rcases hl with rfl | rfl
    · rw [length_head]; omega
    · rw [length_pad]; omega
  exact ⟨⟨l, hl, hP.below hb (hP.lt this)⟩, hB.trans (hb.mono hB.size)⟩
theorem SB.put {w w' : World} {h n : Nat} (s : SB w h n w') (hh : w.heap.size ≤ h) : HAt (w'.setCells h (size n - 8) (nv .u8 (bytesOf (8 * n) 8))) h 0 .u8 (pad n) ∧ Below w.heap.size w (w'.setCells h (size n - 8) (nv .u8 (bytesOf (8 * n) 8))) := by
  obtain ⟨⟨l, hl, hP⟩, hB⟩ := s
  have := size_ge n
  refine ⟨?_, below_setCells hh _ _ _ hB⟩
  have hll : l.length = size n := by rcases hl with rfl | rfl
                                     · exact length_head n
                                     · exact length_pad n
  have h1 := hP.spliced (size n - 8) (bytesOf (8 * n) 8) (by rw [length_bytesOf, hll]; omega)
  rw [Nat.zero_add] at h1
  rcases hl with rfl | rfl
  · rwa [head_pad] at h1
  · rwa [pad_pad] at h1
/-- The new bytes are copied. -/
theorem copy_num (w w' : World) (h n : Nat) (ty : TypeId) (s : SB w h n (w'.alloc (.cells (na .u8 (bytesOf (8 * n) 8)) 5))) :
    (Builtin.copy_ #[22, 22] ty #[.slice (some ⟨h, size n - 8, none⟩) 8 8, .slice (some ⟨w'.heap.size, 0, none⟩) 8 8]).run Tryd.prog (w'.alloc (.cells (na .u8 (bytesOf (8 * n) 8)) 5)) = .ok (goInt 8) ((w'.alloc (.cells (na .u8 (bytesOf (8 * n) 8)) 5)).setCells h (size n - 8) (nv .u8 (bytesOf (8 * n) 8))) := by
  obtain ⟨⟨l, hl, hP⟩, hB⟩ := s
  have := size_ge n
  have hll : l.length = size n := by rcases hl with rfl | rfl
                                     · exact length_head n
                                     · exact length_pad n
  have h1 := hP.part (size n - 8) 8 (by rw [hll]; omega)
  rw [Nat.zero_add] at h1
  have h2 := Holds.new w' 5 .u8 (bytesOf (8 * n) 8)
  have := run_copy_bytes (P := Tryd.prog) _ 22 22 ty 5 Tryd.underlying22 size_byte h (size n - 8) 8 8 w'.heap.size 0 8 8 _ (bytesOf (8 * n) 8) h1 (by rw [length_bytesOf]; rfl) (by rw [length_bytesOf, List.length_take, List.length_drop, hll]; omega) (fun i hi => by rw [Nat.zero_add]; exact h2.cell i hi)
  rwa [length_bytesOf] at this

/-- What a call of behind leaves. -/
def Behind (n : Nat) (w : World) (e : Ending) (w' : World) : Prop := ∃ h, e = .returned (.slice (some ⟨h, 0, none⟩) (size n) (size n)) ∧ HAt w' h 0 .u8 (pad n) ∧ w.heap.size ≤ h ∧ Below w.heap.size w w'

set_option maxHeartbeats 2000000 in
set_option maxRecDepth 10000 in
theorem behind_any (n : Nat) (hn : n < 1152921504606846976) (w : World) (ht : Tab w 1) : Calls Tryd.prog 20 #[.int .u64 (n : Int)] w (Behind n w) := by
  have hsg := size_ge n
  obtain ⟨u, eu⟩ : ∃ u, u = n % 64 := ⟨_, rfl⟩
  have hu : u < 64 := by omega
  have e1 : (n : Int) % 64 = (u : Int) := by omega
  have hsz : size n = if u < 56 then 64 - u else 128 - u := by rw [size, ← eu]
  have hmk : ∀ W : World, (Instr.makeSlice 22 (.int .i64 (size n : Int)) (.int .i64 (size n : Int))).run Tryd.prog W = .ok (.slice (some ⟨W.heap.size, 0, none⟩) (size n) (size n)) (W.alloc (.cells (na .u8 (zs (size n))) 5)) := by
    rw [← made_bytes]
    exact run_make_row' (P := Tryd.prog) 22 5 (.int .u8 0) 1 Tryd.underlying22 info_u8 rfl .i64 .i64 (size n) (by omega) (by omega)
  have A1 := Holds.new w 5 .u8 (zs (size n))
  have A2 := below_alloc w (.cells (na .u8 (zs (size n))) 5)
  have htw := ht.lt
  have HT := Lib.hid ht
  have B1 := Lib.hid A1
  have B2 := Lib.hid A2
  have HEAD : Go.RowKit.Hid ((zs (size n)).set 0 128 = head n) := Lib.hid (by
    obtain ⟨d, hd⟩ : ∃ d, size n = d + 1 := ⟨size n - 1, by omega⟩
    rw [head, hd, zs, List.replicate_succ]; rfl)
  have LZ := length_zs (size n)
  clear ht A1 A2 eu
  go_enter Tryd.func20, Tryd.ntmps20
  obtain ⟨s, es⟩ : ∃ s, s = size n := ⟨_, rfl⟩
  rw [← es] at hsz hsg hmk LZ B1 B2 HEAD
  have ES := Lib.hid es
  clear es
  have ms : (8 : Int) * (n : Int) = ((8 * n : Nat) : Int) := by omega
  have mw : IntKind.u64.wrap ((8 * n : Nat) : Int) = ((8 * n : Nat) : Int) := by rw [IntKind.wrap_u64]; omega
  have tail : ∀ (w1 : World), Holds w1 w.heap.size .u8 (zs s) → Below w.heap.size w w1 → SB w w.heap.size n (w1.setCell ⟨w.heap.size, 0, none⟩ (.int .u8 128)) := fun w1 a1 a2 => by
    have x1 := a1.set 0 128 (by rw [LZ]; omega)
    rw [HEAD.out] at x1
    exact ⟨⟨_, .inl rfl, x1⟩, a2.setCell (p := ⟨w.heap.size, 0, none⟩) (Nat.le_refl _) _⟩
  have TL := Lib.hid tail
  have hcut : ∀ W : World, (Instr.slice 22 (.slice (some ⟨w.heap.size, 0, none⟩) s s) (some (.int .i64 ((s - 8 : Nat) : Int))) none none).run Tryd.prog W = .ok (.slice (some ⟨w.heap.size, s - 8, none⟩) 8 8) W := fun W => by
    have := cut_run w.heap.size 0 s s (s - 8) (by omega) W
    rwa [if_neg (by omega), Nat.zero_add, show s - (s - 8) = 8 by omega] at this
  have e8 : (s : Int) - 8 = ((s - 8 : Nat) : Int) := by omega
  have w8 := wrap_nat (s - 8) (by omega)
  have hs2 : 9 ≤ s := hsg.1
  clear tail HEAD
  by_cases hp : u < 56
  · have e2 : (64 : Int) - (u : Int) = (s : Int) := by rw [hsz, if_pos hp]; omega
    have tq : decide ((s : Int) < 9) = false := by simp; omega
    clear hsz
    generalize hs8 : s - 8 = s8 at *
    generalize h8n : 8 * n = n8 at *
    have HS8 := Lib.hid hs8
    have H8N := Lib.hid h8n
    clear hs8 h8n
    go_upto_region 6 with fail
    clear hmk
    generalize w.alloc (.cells (na .u8 (zs s)) 5) = w1 at *
    have cl := B1.out.cell 0 (by rw [LZ]; omega)
    have fr := B1.out.frozen 0 (by rw [LZ]; omega)
    have T1 := Lib.hid (TL.out w1 B1.out B2.out)
    clear TL B1 B2
    generalize (zs s).getD 0 0 = old at *
    have hsp : (0 : Int) < (s : Int) := by omega
    go_upto_region 7 with fail
    clear cl fr
    generalize w1.setCell ⟨w.heap.size, 0, none⟩ (.int .u8 128) = w2 at *
    have T2 : Go.RowKit.Hid (SB w w.heap.size n w2.drew) := Lib.hid (by obtain ⟨⟨l, hl, hP⟩, hB⟩ := T1.out; exact ⟨⟨l, hl, hP.drew⟩, below_drew hB⟩)
    clear T1
    refine wp_region_held_drew (S := SB w w.heap.size n) (by kernel_rfl) T2.out (fun hHeld => ?_)
    clear T2
    generalize w2.drew = wq at *
    refine wpAnyH_take (i := 0) (v := ?_) rfl (by kernel_rfl) (by kernel_rfl) (by kernel_rfl) (fun _ _ _ h => h) (Or.inl ⟨by rfl, ?_⟩) (by assumption) ?_
    rotate_left
    · (intro wz hSw; go_simp; try with_reducible rfl)
    try simp only [List.getElem_toArray, List.getElem_cons_zero, Act.put, List.setIfInBounds_toArray, List.set_cons_zero, List.set_cons_succ]
    refine wpAnyH_take (i := 1) (v := ?_) rfl (by kernel_rfl) (by kernel_rfl) (by kernel_rfl) (fun _ _ _ h => h) (Or.inl ⟨by rfl, ?_⟩) (by assumption) ?_
    rotate_left
    · (intro wz hSw; go_simp; try with_reducible rfl)
    try simp only [List.getElem_toArray, List.getElem_cons_zero, List.getElem_cons_succ, Act.put, List.setIfInBounds_toArray, List.set_cons_zero, List.set_cons_succ]
    refine wpAnyH_take (i := 2) (v := ?_) rfl (by kernel_rfl) (by kernel_rfl) (by kernel_rfl) (fun _ _ _ h => h) (Or.inl ⟨by rfl, ?_⟩) (by assumption) ?_
    rotate_left
    · (intro wz hSw; go_simp; try with_reducible rfl)
    try simp only [List.getElem_toArray, List.getElem_cons_zero, List.getElem_cons_succ, Act.put, List.setIfInBounds_toArray, List.set_cons_zero, List.set_cons_succ]
    refine wpAnyH_take (i := 3) (v := ?_) rfl (by kernel_rfl) (by kernel_rfl) (by kernel_rfl) (fun _ _ _ h => h) (Or.inl ⟨by rfl, ?_⟩) (by assumption) ?_
    rotate_left
    · (intro wz hSw; go_simp; try with_reducible rfl)
    try simp only [List.getElem_toArray, List.getElem_cons_zero, List.getElem_cons_succ, Act.put, List.setIfInBounds_toArray, List.set_cons_zero, List.set_cons_succ]
    refine wpAnyH_take (i := 4) (v := ?_) rfl (by kernel_rfl) (by kernel_rfl) (by kernel_rfl) (fun _ _ _ h => h) (Or.inl ⟨by rfl, ?_⟩) (by assumption) ?_
    rotate_left
    · (intro wz hSw; go_simp; try with_reducible rfl)
    try simp only [List.getElem_toArray, List.getElem_cons_zero, List.getElem_cons_succ, Act.put, List.setIfInBounds_toArray, List.set_cons_zero, List.set_cons_succ]
    refine wpAnyH_take (i := 5) (v := ?_) rfl (by kernel_rfl) (by kernel_rfl) (by kernel_rfl) (fun _ _ _ h => h) (Or.inl ⟨by rfl, ?_⟩) (by assumption) ?_
    rotate_left
    · (intro wz hSw; go_simp; try with_reducible rfl)
    try simp only [List.getElem_toArray, List.getElem_cons_zero, List.getElem_cons_succ, Act.put, List.setIfInBounds_toArray, List.set_cons_zero, List.set_cons_succ]
    refine wpAnyH_ready (rs := [6]) (by kernel_rfl) (by simp) (AllReadyH.cons rfl (fun K hK => ?_) AllReadyH.nil)
    go_simp
    refine (put64_any n8 _ (HT.out.below hHeld.2 htw)).mono ?_
    rintro e w5 ⟨arr, hla, rfl, rfl⟩
    rw [laid_all hla] at *
    clear hla
    rw [← H8N.out] at *
    refine hK.out _ _ (hHeld.after (below_alloc _ _)) (fun hHeld2 => ?_)
    clear hHeld hK K; have hHeld := hHeld2; clear hHeld2
    try simp only [List.getElem_toArray, List.getElem_cons_zero, List.getElem_cons_succ, Act.put, List.setIfInBounds_toArray, List.set_cons_zero, List.set_cons_succ]
    refine wpAnyH_ready (rs := [7]) (by kernel_rfl) (by simp) (AllReadyH.cons rfl (fun K hK => ?_) AllReadyH.nil)
    have CN := copy_num w wq w.heap.size n 3 hHeld
    have PT := hHeld.put (Nat.le_refl _)
    rw [← ES.out, HS8.out] at CN PT
    refine Arr.step_copy rfl (.tmp 22) (.tmp 25) 22 22 rfl (.slice (some ⟨w.heap.size, s8, none⟩) 8 8) (.slice (some ⟨wq.heap.size, 0, none⟩) 8 8) rfl rfl CN ?_
    refine hK.out _ _ ⟨⟨_, .inr rfl, PT.1⟩, PT.2⟩ (fun hHeld2 => ?_)
    clear hHeld hK K hHeld2 CN
    try simp only [List.getElem_toArray, List.getElem_cons_zero, List.getElem_cons_succ, Act.put, List.setIfInBounds_toArray, List.set_cons_zero, List.set_cons_succ]
    refine wpAnyH_done (by kernel_rfl) ?_ _
    have P1 := Lib.hid PT.1
    have P2 := Lib.hid PT.2
    clear PT
    go_wp2
    go_ret
    exact ⟨w.heap.size, by rw [ES.out]; rfl, P1.out, Nat.le_refl _, P2.out⟩
  · obtain ⟨v, ev⟩ : ∃ v, v = 64 - u := ⟨_, rfl⟩
    have e2 : (64 : Int) - (u : Int) = (v : Int) := by omega
    have tq : decide ((v : Int) < 9) = true := by simp; omega
    have e3 : (v : Int) + 64 = (s : Int) := by rw [hsz, if_neg hp]; omega
    have ws' := wrap_nat s (by omega)
    clear ev
    clear hsz
    generalize hs8 : s - 8 = s8 at *
    generalize h8n : 8 * n = n8 at *
    have HS8 := Lib.hid hs8
    have H8N := Lib.hid h8n
    clear hs8 h8n
    go_upto_region 6 with fail
    clear hmk
    generalize w.alloc (.cells (na .u8 (zs s)) 5) = w1 at *
    have cl := B1.out.cell 0 (by rw [LZ]; omega)
    have fr := B1.out.frozen 0 (by rw [LZ]; omega)
    have T1 := Lib.hid (TL.out w1 B1.out B2.out)
    clear TL B1 B2
    generalize (zs s).getD 0 0 = old at *
    have hsp : (0 : Int) < (s : Int) := by omega
    go_upto_region 7 with fail
    clear cl fr
    generalize w1.setCell ⟨w.heap.size, 0, none⟩ (.int .u8 128) = w2 at *
    have T2 : Go.RowKit.Hid (SB w w.heap.size n w2.drew) := Lib.hid (by obtain ⟨⟨l, hl, hP⟩, hB⟩ := T1.out; exact ⟨⟨l, hl, hP.drew⟩, below_drew hB⟩)
    clear T1
    refine wp_region_held_drew (S := SB w w.heap.size n) (by kernel_rfl) T2.out (fun hHeld => ?_)
    clear T2
    generalize w2.drew = wq at *
    refine wpAnyH_take (i := 0) (v := ?_) rfl (by kernel_rfl) (by kernel_rfl) (by kernel_rfl) (fun _ _ _ h => h) (Or.inl ⟨by rfl, ?_⟩) (by assumption) ?_
    rotate_left
    · (intro wz hSw; go_simp; try with_reducible rfl)
    try simp only [List.getElem_toArray, List.getElem_cons_zero, Act.put, List.setIfInBounds_toArray, List.set_cons_zero, List.set_cons_succ]
    refine wpAnyH_take (i := 1) (v := ?_) rfl (by kernel_rfl) (by kernel_rfl) (by kernel_rfl) (fun _ _ _ h => h) (Or.inl ⟨by rfl, ?_⟩) (by assumption) ?_
    rotate_left
    · (intro wz hSw; go_simp; try with_reducible rfl)
    try simp only [List.getElem_toArray, List.getElem_cons_zero, List.getElem_cons_succ, Act.put, List.setIfInBounds_toArray, List.set_cons_zero, List.set_cons_succ]
    refine wpAnyH_take (i := 2) (v := ?_) rfl (by kernel_rfl) (by kernel_rfl) (by kernel_rfl) (fun _ _ _ h => h) (Or.inl ⟨by rfl, ?_⟩) (by assumption) ?_
    rotate_left
    · (intro wz hSw; go_simp; try with_reducible rfl)
    try simp only [List.getElem_toArray, List.getElem_cons_zero, List.getElem_cons_succ, Act.put, List.setIfInBounds_toArray, List.set_cons_zero, List.set_cons_succ]
    refine wpAnyH_take (i := 3) (v := ?_) rfl (by kernel_rfl) (by kernel_rfl) (by kernel_rfl) (fun _ _ _ h => h) (Or.inl ⟨by rfl, ?_⟩) (by assumption) ?_
    rotate_left
    · (intro wz hSw; go_simp; try with_reducible rfl)
    try simp only [List.getElem_toArray, List.getElem_cons_zero, List.getElem_cons_succ, Act.put, List.setIfInBounds_toArray, List.set_cons_zero, List.set_cons_succ]
    refine wpAnyH_take (i := 4) (v := ?_) rfl (by kernel_rfl) (by kernel_rfl) (by kernel_rfl) (fun _ _ _ h => h) (Or.inl ⟨by rfl, ?_⟩) (by assumption) ?_
    rotate_left
    · (intro wz hSw; go_simp; try with_reducible rfl)
    try simp only [List.getElem_toArray, List.getElem_cons_zero, List.getElem_cons_succ, Act.put, List.setIfInBounds_toArray, List.set_cons_zero, List.set_cons_succ]
    refine wpAnyH_take (i := 5) (v := ?_) rfl (by kernel_rfl) (by kernel_rfl) (by kernel_rfl) (fun _ _ _ h => h) (Or.inl ⟨by rfl, ?_⟩) (by assumption) ?_
    rotate_left
    · (intro wz hSw; go_simp; try with_reducible rfl)
    try simp only [List.getElem_toArray, List.getElem_cons_zero, List.getElem_cons_succ, Act.put, List.setIfInBounds_toArray, List.set_cons_zero, List.set_cons_succ]
    refine wpAnyH_ready (rs := [6]) (by kernel_rfl) (by simp) (AllReadyH.cons rfl (fun K hK => ?_) AllReadyH.nil)
    go_simp
    refine (put64_any n8 _ (HT.out.below hHeld.2 htw)).mono ?_
    rintro e w5 ⟨arr, hla, rfl, rfl⟩
    rw [laid_all hla] at *
    clear hla
    rw [← H8N.out] at *
    refine hK.out _ _ (hHeld.after (below_alloc _ _)) (fun hHeld2 => ?_)
    clear hHeld hK K; have hHeld := hHeld2; clear hHeld2
    try simp only [List.getElem_toArray, List.getElem_cons_zero, List.getElem_cons_succ, Act.put, List.setIfInBounds_toArray, List.set_cons_zero, List.set_cons_succ]
    refine wpAnyH_ready (rs := [7]) (by kernel_rfl) (by simp) (AllReadyH.cons rfl (fun K hK => ?_) AllReadyH.nil)
    have CN := copy_num w wq w.heap.size n 3 hHeld
    have PT := hHeld.put (Nat.le_refl _)
    rw [← ES.out, HS8.out] at CN PT
    refine Arr.step_copy rfl (.tmp 22) (.tmp 25) 22 22 rfl (.slice (some ⟨w.heap.size, s8, none⟩) 8 8) (.slice (some ⟨wq.heap.size, 0, none⟩) 8 8) rfl rfl CN ?_
    refine hK.out _ _ ⟨⟨_, .inr rfl, PT.1⟩, PT.2⟩ (fun hHeld2 => ?_)
    clear hHeld hK K hHeld2 CN
    try simp only [List.getElem_toArray, List.getElem_cons_zero, List.getElem_cons_succ, Act.put, List.setIfInBounds_toArray, List.set_cons_zero, List.set_cons_succ]
    refine wpAnyH_done (by kernel_rfl) ?_ _
    have P1 := Lib.hid PT.1
    have P2 := Lib.hid PT.2
    clear PT
    go_wp2
    go_ret
    exact ⟨w.heap.size, by rw [ES.out]; rfl, P1.out, Nat.le_refl _, P2.out⟩

end Go.Proofs.YtmookhbijmibiaaDoor
