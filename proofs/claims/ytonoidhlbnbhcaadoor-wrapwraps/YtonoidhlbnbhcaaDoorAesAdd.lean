/-
  Contracts of the reference's sum and add. Condition: the reference's key lies in its block. (Written by tools/gen_add4.py.)
-/
import Derived.Test.YtonoidhlbnbhcaaDoorAesMakeHd
namespace Go.Proofs.YtonoidhlbnbhcaaDoor
open Go.RowKit Arr Gf Sb Ae
set_option linter.unusedSimpArgs false

theorem rsum_any (a b c d : Nat) (ha : a < 256) (hb : b < 256) (hc : c < 256) (hd : d < 256) (w : World) : Calls Tryd.prog 42 #[.int .i64 (a : Int), .int .i64 (b : Int), .int .i64 (c : Int), .int .i64 (d : Int)] w fun e w' => e = .returned (.int .i64 (((a ^^^ b) ^^^ (c ^^^ d) : Nat) : Int)) ∧ w' = w := by
  have C1 := Lib.hid (xor64' a b (by omega) (by omega) w)
  have C2 := Lib.hid (xor64' c d (by omega) (by omega) w)
  have h1 := xor_lt ha hb
  have h2 := xor_lt hc hd
  have C3 := Lib.hid (xor64' (a ^^^ b) (c ^^^ d) (by omega) (by omega) w)
  generalize (a ^^^ b) ^^^ (c ^^^ d) = z at *
  generalize a ^^^ b = x at *
  generalize c ^^^ d = y at *
  go_enter Tryd.func42, Tryd.ntmps42
  go_wp2_with fail
  refine C1.out.mono ?_
  rintro e w' ⟨rfl, rfl⟩
  go_wp2_with fail
  refine C2.out.mono ?_
  rintro e w' ⟨rfl, rfl⟩
  go_wp2_with fail
  refine C3.out.mono ?_
  rintro e w' ⟨rfl, rfl⟩
  go_wp2
  go_ret
  exact ⟨rfl, rfl⟩

/-- What a call leaves that makes a row of 16 numbers. -/
def Row16 (m : List Nat) (w : World) (e : Ending) (w' : World) : Prop := ∃ g c, e = .returned (.slice (some ⟨g, 0, none⟩) 16 c) ∧ 16 ≤ c ∧ Holds w' g .i64 m ∧ Below w.heap.size w w'

set_option maxHeartbeats 4000000 in
set_option maxRecDepth 10000 in
theorem radd_any (gk r gB cB gb cb : Nat) (al s : List Nat) (gs cs j : Nat) (w : World) (hk : RKey w gk r gB cB al gb cb) (hs : Holds w gs .i64 s) (ls : s.length = 16) (bs : ∀ i, s.getD i 0 < 256) (hal : ∀ i, al.getD i 0 < 256) (hj : 16 * j + 16 ≤ al.length) (hj' : j ≤ 14) :
    Calls Tryd.prog 41 #[.pointer (some ⟨gk, 0, none⟩), .slice (some ⟨gs, 0, none⟩) 16 cs, .int .i64 (j : Int)] w (Row16 ((List.range 16).map fun i => s.getD i 0 ^^^ al.getD (16 * j + i) 0) w) := by
  have hkl : gk < w.heap.size := block_lt_of_cell hk.c0
  have hBl := hk.bytes.lt (by omega)
  have hsl := hs.lt (by omega)
  have HK := Lib.hid hk
  have HS := Lib.hid hs
  obtain ⟨m, hm⟩ : ∃ m, m = (List.range 16).map fun i => s.getD i 0 ^^^ al.getD (16 * j + i) 0 := ⟨_, rfl⟩
  have lm : m.length = 16 := by rw [hm]; simp
  have gm : ∀ i, i < 16 → m.getD i 0 = s.getD i 0 ^^^ al.getD (16 * j + i) 0 := fun i hi => by rw [hm, map_get _ _ _ hi]
  rw [← hm]
  have GM := Lib.hid gm
  obtain ⟨ln, hln⟩ : ∃ ln, ln = al.length := ⟨_, rfl⟩
  have HC1 := hk.c1
  rw [← hln] at HC1 hj
  have HC := Lib.hid HC1
  have HLN := Lib.hid hln
  clear hk hs hm gm HC1 hln
  go_enter Tryd.func41, Tryd.ntmps41
  go_wp2_with fail
  go_loopw [7, 8] (fun v i wr => ∃ i0 : Nat, i0 ≤ 16 ∧ i = .int .i64 (i0 : Nat) ∧ wr.ownsRow w.heap.size 3 1 v i0 (vals .i64 (m.take i0)) ∧ Below w.heap.size w wr) (fun _ i _ => 16 - (intOf i).toNat)
  case atStart => exact ⟨0, by omega, rfl, World.ownsRow_nil _ _ _ _, Below.refl _ _⟩
  case round =>
    obtain ⟨i, hi, rfl, hown, hbel⟩ := hrel
    rename_i v _
    by_cases hlt : i < 16
    · have ti : decide ((i : Int) < 16) = true := by simp; omega
      have ii : (i : Int) < 16 := by omega
      obtain ⟨q, hq⟩ : ∃ q, q = 16 * j := ⟨_, rfl⟩
      obtain ⟨ee, hee⟩ : ∃ ee, ee = q + i := ⟨_, rfl⟩
      have e1 : 16 * (j : Int) = (q : Int) := by omega
      have e2 : (q : Int) + (i : Int) = (ee : Int) := by omega
      have n1 := wrap_nat q (by omega)
      have n2 := wrap_nat ee (by omega)
      have he : (ee : Int) < (ln : Int) := by omega
      have hel : ee < ln := by omega
      have hmi := GM.out i hlt
      rw [← hq, ← hee] at hmi
      have hx1 := bs i
      have hx2 := hal ee
      have XC := Lib.hid (fun w' => xor64' (s.getD i 0) (al.getD ee 0) (by omega) (by omega) w')
      rw [← hmi] at XC
      have cell1 := HS.out.cell i (by omega)
      have cell2 := HK.out.bytes.cell ee (by have := HLN.out; omega)
      have FS := Lib.hid (show ∀ w', Below w.heap.size w w' → w'.cell? ⟨gs, i, none⟩ = some (.int .i64 ((s.getD i 0 : Nat) : Int)) ∧ w'.cell? ⟨gk, 1, none⟩ = some (.slice (some ⟨gB, 0, none⟩) ln cB) ∧ w'.cell? ⟨gB, ee, none⟩ = some (.int .i64 ((al.getD ee 0 : Nat) : Int)) from fun w' h =>
        ⟨(h.cell (p := ⟨gs, i, none⟩) hsl).trans cell1, (h.cell (p := ⟨gk, 1, none⟩) hkl).trans HC.out, (h.cell (p := ⟨gB, ee, none⟩) hBl).trans cell2⟩)
      have htk := take_more' m i (by omega)
      have HTK := Lib.hid htk
      clear htk hmi cell1 cell2 hq hee
      generalize m.getD i 0 = mi at *
      generalize s.getD i 0 = sx at *
      generalize al.getD ee 0 = ax at *
      have OW := Lib.hid hown
      have BE := Lib.hid hbel
      clear hown hbel
      go_wp2_with fail
      have B1 := Lib.hid (below_drew BE.out)
      have O1 := Lib.hid (owns_drew OW.out)
      have hbz := BE.out.size
      have hdz : wr.drew.heap.size = wr.heap.size := rfl
      refine wp_region_L [(17, fun w' => w'.cell? ⟨gs, i, none⟩ = some (.int .i64 (sx : Int)) ∧ w'.cell? ⟨gk, 1, none⟩ = some (.slice (some ⟨gB, 0, none⟩) ln cB) ∧ w'.cell? ⟨gB, ee, none⟩ = some (.int .i64 (ax : Int)))] 19 #[false, false, false, false, false, false, false, false, false, false, false, false, false, false, false, false, false, false, false] (by kernel_rfl) (by rfl) (by kernel_rfl) (by intro p hp; simp only [List.mem_cons, List.not_mem_nil, or_false] at hp; rcases hp with rfl; exact FS.out _ B1.out) (fun hHeld => ?_)
      clear BE OW
      rw [← hdz] at hbz
      clear hdz
      generalize wr.drew = wq at *
      refine wpAnyL_take (i := 0) (v := ?_) rfl (by kernel_rfl) (by kernel_rfl) (by kernel_rfl) (by rfl) (fun _ _ _ h => h) (Or.inl ⟨by rfl, ?_⟩) hHeld (fun hHeld2 => ?_)
      rotate_left
      · (intro wz hSw; go_simp; try with_reducible rfl)
      clear hHeld; have hHeld := hHeld2; clear hHeld2
      try simp only [List.getElem_toArray, List.getElem_cons_zero, List.getElem_cons_succ, Act.put, List.setIfInBounds_toArray, List.set_cons_zero, List.set_cons_succ]
      refine wpAnyL_take (i := 1) (v := ?_) rfl (by kernel_rfl) (by kernel_rfl) (by kernel_rfl) (by rfl) (fun _ _ _ h => h) (Or.inl ⟨by rfl, ?_⟩) hHeld (fun hHeld2 => ?_)
      rotate_left
      · (intro wz hSw; go_simp; try with_reducible rfl)
      clear hHeld; have hHeld := hHeld2; clear hHeld2
      try simp only [List.getElem_toArray, List.getElem_cons_zero, List.getElem_cons_succ, Act.put, List.setIfInBounds_toArray, List.set_cons_zero, List.set_cons_succ]
      refine wpAnyL_take (i := 2) (v := ?_) rfl (by kernel_rfl) (by kernel_rfl) (by kernel_rfl) (by rfl) (fun _ _ _ h => h) (Or.inl ⟨by rfl, ?_⟩) hHeld (fun hHeld2 => ?_)
      rotate_left
      · (intro wz hSw; go_simp; try with_reducible rfl)
      clear hHeld; have hHeld := hHeld2; clear hHeld2
      try simp only [List.getElem_toArray, List.getElem_cons_zero, List.getElem_cons_succ, Act.put, List.setIfInBounds_toArray, List.set_cons_zero, List.set_cons_succ]
      refine wpAnyL_take (i := 3) (v := ?_) rfl (by kernel_rfl) (by kernel_rfl) (by kernel_rfl) (by rfl) (fun _ _ _ h => h) (Or.inl ⟨by rfl, ?_⟩) hHeld (fun hHeld2 => ?_)
      rotate_left
      · (intro wz hSw; go_simp; try with_reducible rfl)
      clear hHeld; have hHeld := hHeld2; clear hHeld2
      try simp only [List.getElem_toArray, List.getElem_cons_zero, List.getElem_cons_succ, Act.put, List.setIfInBounds_toArray, List.set_cons_zero, List.set_cons_succ]
      refine wpAnyL_take (i := 4) (v := ?_) rfl (by kernel_rfl) (by kernel_rfl) (by kernel_rfl) (by rfl) (fun _ _ _ h => h) (Or.inl ⟨by rfl, ?_⟩) hHeld (fun hHeld2 => ?_)
      rotate_left
      · (intro wz hSw; have k0 : wz.cell? ⟨gs, i, none⟩ = some (.int .i64 (sx : Int)) ∧ wz.cell? ⟨gk, 1, none⟩ = some (.slice (some ⟨gB, 0, none⟩) ln cB) ∧ wz.cell? ⟨gB, ee, none⟩ = some (.int .i64 (ax : Int)) := hSw.get _ (List.Mem.head _) 5 (by kernel_rfl); obtain ⟨k1, k2, k3⟩ := k0; go_simp; try with_reducible rfl)
      clear hHeld; have hHeld := hHeld2; clear hHeld2
      try simp only [List.getElem_toArray, List.getElem_cons_zero, List.getElem_cons_succ, Act.put, List.setIfInBounds_toArray, List.set_cons_zero, List.set_cons_succ]
      refine wpAnyL_take (i := 5) (v := ?_) rfl (by kernel_rfl) (by kernel_rfl) (by kernel_rfl) (by rfl) (fun _ _ _ h => h) (Or.inl ⟨by rfl, ?_⟩) hHeld (fun hHeld2 => ?_)
      rotate_left
      · (intro wz hSw; go_simp; try with_reducible rfl)
      clear hHeld; have hHeld := hHeld2; clear hHeld2
      try simp only [List.getElem_toArray, List.getElem_cons_zero, List.getElem_cons_succ, Act.put, List.setIfInBounds_toArray, List.set_cons_zero, List.set_cons_succ]
      refine wpAnyL_take (i := 6) (v := ?_) rfl (by kernel_rfl) (by kernel_rfl) (by kernel_rfl) (by rfl) (fun _ _ _ h => h) (Or.inl ⟨by rfl, ?_⟩) hHeld (fun hHeld2 => ?_)
      rotate_left
      · (intro wz hSw; go_simp; try with_reducible rfl)
      clear hHeld; have hHeld := hHeld2; clear hHeld2
      try simp only [List.getElem_toArray, List.getElem_cons_zero, List.getElem_cons_succ, Act.put, List.setIfInBounds_toArray, List.set_cons_zero, List.set_cons_succ]
      refine wpAnyL_take (i := 7) (v := ?_) rfl (by kernel_rfl) (by kernel_rfl) (by kernel_rfl) (by rfl) (fun _ _ _ h => h) (Or.inl ⟨by rfl, ?_⟩) hHeld (fun hHeld2 => ?_)
      rotate_left
      · (intro wz hSw; go_simp; try with_reducible rfl)
      clear hHeld; have hHeld := hHeld2; clear hHeld2
      try simp only [List.getElem_toArray, List.getElem_cons_zero, List.getElem_cons_succ, Act.put, List.setIfInBounds_toArray, List.set_cons_zero, List.set_cons_succ]
      refine wpAnyL_take (i := 8) (v := ?_) rfl (by kernel_rfl) (by kernel_rfl) (by kernel_rfl) (by rfl) (fun _ _ _ h => h) (Or.inl ⟨by rfl, ?_⟩) hHeld (fun hHeld2 => ?_)
      rotate_left
      · (intro wz hSw; have k0 : wz.cell? ⟨gs, i, none⟩ = some (.int .i64 (sx : Int)) ∧ wz.cell? ⟨gk, 1, none⟩ = some (.slice (some ⟨gB, 0, none⟩) ln cB) ∧ wz.cell? ⟨gB, ee, none⟩ = some (.int .i64 (ax : Int)) := hSw.get _ (List.Mem.head _) 5 (by kernel_rfl); obtain ⟨k1, k2, k3⟩ := k0; go_simp; try with_reducible rfl)
      clear hHeld; have hHeld := hHeld2; clear hHeld2
      try simp only [List.getElem_toArray, List.getElem_cons_zero, List.getElem_cons_succ, Act.put, List.setIfInBounds_toArray, List.set_cons_zero, List.set_cons_succ]
      refine wpAnyL_take (i := 9) (v := ?_) rfl (by kernel_rfl) (by kernel_rfl) (by kernel_rfl) (by rfl) (fun _ _ _ h => h) (Or.inl ⟨by rfl, ?_⟩) hHeld (fun hHeld2 => ?_)
      rotate_left
      · (intro wz hSw; go_simp; try with_reducible rfl)
      clear hHeld; have hHeld := hHeld2; clear hHeld2
      try simp only [List.getElem_toArray, List.getElem_cons_zero, List.getElem_cons_succ, Act.put, List.setIfInBounds_toArray, List.set_cons_zero, List.set_cons_succ]
      refine wpAnyL_take (i := 10) (v := ?_) rfl (by kernel_rfl) (by kernel_rfl) (by kernel_rfl) (by rfl) (fun _ _ _ h => h) (Or.inl ⟨by rfl, ?_⟩) hHeld (fun hHeld2 => ?_)
      rotate_left
      · (intro wz hSw; go_simp; try with_reducible rfl)
      clear hHeld; have hHeld := hHeld2; clear hHeld2
      try simp only [List.getElem_toArray, List.getElem_cons_zero, List.getElem_cons_succ, Act.put, List.setIfInBounds_toArray, List.set_cons_zero, List.set_cons_succ]
      refine wpAnyL_take (i := 11) (v := ?_) rfl (by kernel_rfl) (by kernel_rfl) (by kernel_rfl) (by rfl) (fun _ _ _ h => h) (Or.inl ⟨by rfl, ?_⟩) hHeld (fun hHeld2 => ?_)
      rotate_left
      · (intro wz hSw; go_simp; try with_reducible rfl)
      clear hHeld; have hHeld := hHeld2; clear hHeld2
      try simp only [List.getElem_toArray, List.getElem_cons_zero, List.getElem_cons_succ, Act.put, List.setIfInBounds_toArray, List.set_cons_zero, List.set_cons_succ]
      refine wpAnyL_take (i := 12) (v := ?_) rfl (by kernel_rfl) (by kernel_rfl) (by kernel_rfl) (by rfl) (fun _ _ _ h => h) (Or.inl ⟨by rfl, ?_⟩) hHeld (fun hHeld2 => ?_)
      rotate_left
      · (intro wz hSw; go_simp; try with_reducible rfl)
      clear hHeld; have hHeld := hHeld2; clear hHeld2
      try simp only [List.getElem_toArray, List.getElem_cons_zero, List.getElem_cons_succ, Act.put, List.setIfInBounds_toArray, List.set_cons_zero, List.set_cons_succ]
      refine wpAnyL_take (i := 13) (v := ?_) rfl (by kernel_rfl) (by kernel_rfl) (by kernel_rfl) (by rfl) (fun _ _ _ h => h) (Or.inl ⟨by rfl, ?_⟩) hHeld (fun hHeld2 => ?_)
      rotate_left
      · (intro wz hSw; go_simp; try with_reducible rfl)
      clear hHeld; have hHeld := hHeld2; clear hHeld2
      try simp only [List.getElem_toArray, List.getElem_cons_zero, List.getElem_cons_succ, Act.put, List.setIfInBounds_toArray, List.set_cons_zero, List.set_cons_succ]
      refine wpAnyL_take (i := 14) (v := ?_) rfl (by kernel_rfl) (by kernel_rfl) (by kernel_rfl) (by rfl) (fun _ _ _ h => h) (Or.inl ⟨by rfl, ?_⟩) hHeld (fun hHeld2 => ?_)
      rotate_left
      · (intro wz hSw; have k0 : wz.cell? ⟨gs, i, none⟩ = some (.int .i64 (sx : Int)) ∧ wz.cell? ⟨gk, 1, none⟩ = some (.slice (some ⟨gB, 0, none⟩) ln cB) ∧ wz.cell? ⟨gB, ee, none⟩ = some (.int .i64 (ax : Int)) := hSw.get _ (List.Mem.head _) 5 (by kernel_rfl); obtain ⟨k1, k2, k3⟩ := k0; go_simp; try with_reducible rfl)
      clear hHeld; have hHeld := hHeld2; clear hHeld2
      try simp only [List.getElem_toArray, List.getElem_cons_zero, List.getElem_cons_succ, Act.put, List.setIfInBounds_toArray, List.set_cons_zero, List.set_cons_succ]
      refine wpAnyL_one (i := 15) (by kernel_rfl) rfl rfl hHeld (fun K hK => ?_)
      go_simp
      refine (XC.out _).mono ?_
      rintro e w' ⟨rfl, rfl⟩
      refine hK.out _ _ (by intro p hp hl; simp only [List.mem_cons, List.not_mem_nil, or_false] at hp; rcases hp with rfl; exact FS.out _ B1.out) (fun hHeld2 => ?_)
      clear hHeld hK K ; have hHeld := hHeld2; clear hHeld2
      try simp only [List.getElem_toArray, List.getElem_cons_zero, List.getElem_cons_succ, Act.put, List.setIfInBounds_toArray, List.set_cons_zero, List.set_cons_succ]
      refine wpAnyL_one (i := 16) (by kernel_rfl) rfl rfl hHeld (fun K hK => ?_)
      go_simp
      refine hK.out _ _ (by intro p hp hl; simp only [List.mem_cons, List.not_mem_nil, or_false] at hp; rcases hp with rfl; exact FS.out _ (B1.out.alloc hbz _)) (fun hHeld2 => ?_)
      clear hHeld hK K ; have hHeld := hHeld2; clear hHeld2
      try simp only [List.getElem_toArray, List.getElem_cons_zero, List.getElem_cons_succ, Act.put, List.setIfInBounds_toArray, List.set_cons_zero, List.set_cons_succ]
      refine wpAnyL_one (i := 17) (by kernel_rfl) rfl rfl hHeld (fun K hK => ?_)
      refine wp_append_row (.tmp 13) (.tmp 29) 70 rfl w.heap.size 3 (.int .i64 0) 8 Tryd.underlying70 info_int rfl _ i (vals .i64 (m.take i)) (.int .i64 (mi : Int)) rfl O1.out rfl rfl (by omega) (by omega) hbz ?_
      intro gD cD w3 hown3 hbel3 hoth3
      have O3 := Lib.hid hown3
      have B3 := Lib.hid (B1.out.trans hbel3)
      clear hown3 hbel3 hoth3
      refine hK.out _ _ (by intro p hp hl; simp only [List.mem_cons, List.not_mem_nil, or_false] at hp; rcases hp with rfl; exact Bool.noConfusion (hl.symm.trans (show _ = true by kernel_rfl))) (fun hHeld2 => ?_)
      clear hHeld hK K ; have hHeld := hHeld2; clear hHeld2
      try simp only [List.getElem_toArray, List.getElem_cons_zero, List.getElem_cons_succ, Act.put, List.setIfInBounds_toArray, List.set_cons_zero, List.set_cons_succ]
      refine wpAnyL_one (i := 18) (by kernel_rfl) rfl rfl hHeld (fun K hK => ?_)
      go_simp
      refine hK.out _ _ (by intro p hp hl; simp only [List.mem_cons, List.not_mem_nil, or_false] at hp; rcases hp with rfl; exact Bool.noConfusion (hl.symm.trans (show _ = true by kernel_rfl))) (fun hHeld2 => ?_)
      clear hHeld hK K ; have hHeld := hHeld2; clear hHeld2
      try simp only [List.getElem_toArray, List.getElem_cons_zero, List.getElem_cons_succ, Act.put, List.setIfInBounds_toArray, List.set_cons_zero, List.set_cons_succ]
      refine wpAnyL_done (by kernel_rfl) ?_ _
      clear hHeld O1 B1
      rw [← vals_snoc] at O3
      go_wp2
      go_roundw
      case rel => exact ⟨i + 1, by omega, by go_num, by rw [HTK.out]; exact O3.out, B3.out⟩
      case measure => simp [intOf]; omega
    · obtain rfl : i = 16 := by omega
      obtain ⟨g, c, rfl, hg, hcc, -, hH⟩ := holds_of_owns hown (by omega)
      rw [List.take_of_length_le (by omega)] at hH
      have HH := Lib.hid hH
      have BE := Lib.hid hbel
      clear hH hown hbel
      go_wp2
      go_ret
      exact ⟨g, c, rfl, hcc, HH.out, BE.out⟩
end Go.Proofs.YtonoidhlbnbhcaaDoor
