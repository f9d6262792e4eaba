/-
  Contracts of the reference's sum and add. Condition: the reference's key lies in its block. (Written by tools/gen_add4.py.)
  The reference's round over numbers is the cipher's. Plain mathematics: no program is named here, no conditions.
  The contract of the reference's Encrypt. Condition: the reference's key lies in its block, its bytes those of the cipher's keys. (Written by tools/gen_renc4.py.)
-/
import Derived.Test.YtdjknmnmacppdaaDoorAesMakeHd
import Derived.Test.YtdjknmnmacppdaaDoorAesRefNum
import Derived.Test.YtdjknmnmacppdaaDoorTogAll
namespace Go.Proofs.YtdjknmnmacppdaaDoor
open Go.RowKit Arr Gf Sb Ae
set_option linter.unusedSimpArgs false

theorem rsum_any (a b c d : Nat) (ha : a < 256) (hb : b < 256) (hc : c < 256) (hd : d < 256) (w : World) : Calls Tryd.prog 45 #[.int .i64 (a : Int), .int .i64 (b : Int), .int .i64 (c : Int), .int .i64 (d : Int)] w fun e w' => e = .returned (.int .i64 (((a ^^^ b) ^^^ (c ^^^ d) : Nat) : Int)) ∧ w' = w := by
  have C1 := Lib.hid (xor64' a b (by omega) (by omega) w)
  have C2 := Lib.hid (xor64' c d (by omega) (by omega) w)
  have h1 := xor_lt ha hb
  have h2 := xor_lt hc hd
  have C3 := Lib.hid (xor64' (a ^^^ b) (c ^^^ d) (by omega) (by omega) w)
  generalize (a ^^^ b) ^^^ (c ^^^ d) = z at *
  generalize a ^^^ b = x at *
  generalize c ^^^ d = y at *
  go_enter Tryd.func45, Tryd.ntmps45
  go_wp2_with fail
  refine C1.out.mono ?_
  rintro e w' ⟨rfl, rfl⟩
  go_wp2_with fail
  refine C2.out.mono ?_
  rintro e w' ⟨rfl, rfl⟩
  go_wp2_with fail
  refine C3.out.mono ?_
  rintro e w' ⟨rfl, rfl⟩
  go_wp2
  go_ret
  exact ⟨rfl, rfl⟩

/-- What a call leaves that makes a row of 16 numbers. -/
def Row16 (m : List Nat) (w : World) (e : Ending) (w' : World) : Prop := ∃ g c, e = .returned (.slice (some ⟨g, 0, none⟩) 16 c) ∧ 16 ≤ c ∧ Holds w' g .i64 m ∧ Below w.heap.size w w'

set_option maxHeartbeats 4000000 in
set_option maxRecDepth 10000 in
theorem radd_any (gk r gB cB gb cb : Nat) (al s : List Nat) (gs cs j : Nat) (w : World) (hk : RKey w gk r gB cB al gb cb) (hs : Holds w gs .i64 s) (ls : s.length = 16) (bs : ∀ i, s.getD i 0 < 256) (hal : ∀ i, al.getD i 0 < 256) (hj : 16 * j + 16 ≤ al.length) (hj' : j ≤ 14) :
    Calls Tryd.prog 44 #[.pointer (some ⟨gk, 0, none⟩), .slice (some ⟨gs, 0, none⟩) 16 cs, .int .i64 (j : Int)] w (Row16 ((List.range 16).map fun i => s.getD i 0 ^^^ al.getD (16 * j + i) 0) w) := by
  have hkl : gk < w.heap.size := block_lt_of_cell hk.c0
  have hBl := hk.bytes.lt (by omega)
  have hsl := hs.lt (by omega)
  have HK := Lib.hid hk
  have HS := Lib.hid hs
  obtain ⟨m, hm⟩ : ∃ m, m = (List.range 16).map fun i => s.getD i 0 ^^^ al.getD (16 * j + i) 0 := ⟨_, rfl⟩
  have lm : m.length = 16 := by rw [hm]; simp
  have gm : ∀ i, i < 16 → m.getD i 0 = s.getD i 0 ^^^ al.getD (16 * j + i) 0 := fun i hi => by rw [hm, map_get _ _ _ hi]
  rw [← hm]
  have GM := Lib.hid gm
  obtain ⟨ln, hln⟩ : ∃ ln, ln = al.length := ⟨_, rfl⟩
  have HC1 := hk.c1
  rw [← hln] at HC1 hj
  have HC := Lib.hid HC1
  have HLN := Lib.hid hln
  clear hk hs hm gm HC1 hln
  go_enter Tryd.func44, Tryd.ntmps44
  go_wp2_with fail
  go_loopw [7, 8] (fun v i wr => ∃ i0 : Nat, i0 ≤ 16 ∧ i = .int .i64 (i0 : Nat) ∧ wr.ownsRow w.heap.size 3 1 v i0 (vals .i64 (m.take i0)) ∧ Below w.heap.size w wr) (fun _ i _ => 16 - (intOf i).toNat)
  case atStart => exact ⟨0, by omega, rfl, World.ownsRow_nil _ _ _ _, Below.refl _ _⟩
  case round =>
    obtain ⟨i, hi, rfl, hown, hbel⟩ := hrel
    rename_i v _
    by_cases hlt : i < 16
    · have ti : decide ((i : Int) < 16) = true := by simp; omega
      have ii : (i : Int) < 16 := by omega
      obtain ⟨q, hq⟩ : ∃ q, q = 16 * j := ⟨_, rfl⟩
      obtain ⟨ee, hee⟩ : ∃ ee, ee = q + i := ⟨_, rfl⟩
      have e1 : 16 * (j : Int) = (q : Int) := by omega
      have e2 : (q : Int) + (i : Int) = (ee : Int) := by omega
      have n1 := wrap_nat q (by omega)
      have n2 := wrap_nat ee (by omega)
      have he : (ee : Int) < (ln : Int) := by omega
      have hel : ee < ln := by omega
      have hmi := GM.out i hlt
      rw [← hq, ← hee] at hmi
      have hx1 := bs i
      have hx2 := hal ee
      have XC := Lib.hid (fun w' => xor64' (s.getD i 0) (al.getD ee 0) (by omega) (by omega) w')
      rw [← hmi] at XC
      have cell1 := HS.out.cell i (by omega)
      have cell2 := HK.out.bytes.cell ee (by have := HLN.out; omega)
      have FS := Lib.hid (show ∀ w', Below w.heap.size w w' → w'.cell? ⟨gs, i, none⟩ = some (.int .i64 ((s.getD i 0 : Nat) : Int)) ∧ w'.cell? ⟨gk, 1, none⟩ = some (.slice (some ⟨gB, 0, none⟩) ln cB) ∧ w'.cell? ⟨gB, ee, none⟩ = some (.int .i64 ((al.getD ee 0 : Nat) : Int)) from fun w' h =>
        ⟨(h.cell (p := ⟨gs, i, none⟩) hsl).trans cell1, (h.cell (p := ⟨gk, 1, none⟩) hkl).trans HC.out, (h.cell (p := ⟨gB, ee, none⟩) hBl).trans cell2⟩)
      have htk := take_more' m i (by omega)
      have HTK := Lib.hid htk
      clear htk hmi cell1 cell2 hq hee
      generalize m.getD i 0 = mi at *
      generalize s.getD i 0 = sx at *
      generalize al.getD ee 0 = ax at *
      have OW := Lib.hid hown
      have BE := Lib.hid hbel
      clear hown hbel
      go_wp2_with fail
      have B1 := Lib.hid (below_drew BE.out)
      have O1 := Lib.hid (owns_drew OW.out)
      have hbz := BE.out.size
      have hdz : wr.drew.heap.size = wr.heap.size := rfl
      refine wp_region_L [(17, fun w' => w'.cell? ⟨gs, i, none⟩ = some (.int .i64 (sx : Int)) ∧ w'.cell? ⟨gk, 1, none⟩ = some (.slice (some ⟨gB, 0, none⟩) ln cB) ∧ w'.cell? ⟨gB, ee, none⟩ = some (.int .i64 (ax : Int)))] 19 #[false, false, false, false, false, false, false, false, false, false, false, false, false, false, false, false, false, false, false] (by kernel_rfl) (by rfl) (by kernel_rfl) (by intro p hp; simp only [List.mem_cons, List.not_mem_nil, or_false] at hp; rcases hp with rfl; exact FS.out _ B1.out) (fun hHeld => ?_)
      clear BE OW
      rw [← hdz] at hbz
      clear hdz
      generalize wr.drew = wq at *
      refine wpAnyL_take (i := 0) (v := ?_) rfl (by kernel_rfl) (by kernel_rfl) (by kernel_rfl) (by rfl) (fun _ _ _ h => h) (Or.inl ⟨by rfl, ?_⟩) hHeld (fun hHeld2 => ?_)
      rotate_left
      · (intro wz hSw; go_simp; try with_reducible rfl)
      clear hHeld; have hHeld := hHeld2; clear hHeld2
      try simp only [List.getElem_toArray, List.getElem_cons_zero, List.getElem_cons_succ, Act.put, List.setIfInBounds_toArray, List.set_cons_zero, List.set_cons_succ]
      refine wpAnyL_take (i := 1) (v := ?_) rfl (by kernel_rfl) (by kernel_rfl) (by kernel_rfl) (by rfl) (fun _ _ _ h => h) (Or.inl ⟨by rfl, ?_⟩) hHeld (fun hHeld2 => ?_)
      rotate_left
      · (intro wz hSw; go_simp; try with_reducible rfl)
      clear hHeld; have hHeld := hHeld2; clear hHeld2
      try simp only [List.getElem_toArray, List.getElem_cons_zero, List.getElem_cons_succ, Act.put, List.setIfInBounds_toArray, List.set_cons_zero, List.set_cons_succ]
      refine wpAnyL_take (i := 2) (v := ?_) rfl (by kernel_rfl) (by kernel_rfl) (by kernel_rfl) (by rfl) (fun _ _ _ h => h) (Or.inl ⟨by rfl, ?_⟩) hHeld (fun hHeld2 => ?_)
      rotate_left
      · (intro wz hSw; go_simp; try with_reducible rfl)
      clear hHeld; have hHeld := hHeld2; clear hHeld2
      try simp only [List.getElem_toArray, List.getElem_cons_zero, List.getElem_cons_succ, Act.put, List.setIfInBounds_toArray, List.set_cons_zero, List.set_cons_succ]
      refine wpAnyL_take (i := 3) (v := ?_) rfl (by kernel_rfl) (by kernel_rfl) (by kernel_rfl) (by rfl) (fun _ _ _ h => h) (Or.inl ⟨by rfl, ?_⟩) hHeld (fun hHeld2 => ?_)
      rotate_left
      · (intro wz hSw; go_simp; try with_reducible rfl)
      clear hHeld; have hHeld := hHeld2; clear hHeld2
      try simp only [List.getElem_toArray, List.getElem_cons_zero, List.getElem_cons_succ, Act.put, List.setIfInBounds_toArray, List.set_cons_zero, List.set_cons_succ]
      refine wpAnyL_take (i := 4) (v := ?_) rfl (by kernel_rfl) (by kernel_rfl) (by kernel_rfl) (by rfl) (fun _ _ _ h => h) (Or.inl ⟨by rfl, ?_⟩) hHeld (fun hHeld2 => ?_)
      rotate_left
      · (intro wz hSw; have k0 : wz.cell? ⟨gs, i, none⟩ = some (.int .i64 (sx : Int)) ∧ wz.cell? ⟨gk, 1, none⟩ = some (.slice (some ⟨gB, 0, none⟩) ln cB) ∧ wz.cell? ⟨gB, ee, none⟩ = some (.int .i64 (ax : Int)) := hSw.get _ (List.Mem.head _) 5 (by kernel_rfl); obtain ⟨k1, k2, k3⟩ := k0; go_simp; try with_reducible rfl)
      clear hHeld; have hHeld := hHeld2; clear hHeld2
      try simp only [List.getElem_toArray, List.getElem_cons_zero, List.getElem_cons_succ, Act.put, List.setIfInBounds_toArray, List.set_cons_zero, List.set_cons_succ]
      refine wpAnyL_take (i := 5) (v := ?_) rfl (by kernel_rfl) (by kernel_rfl) (by kernel_rfl) (by rfl) (fun _ _ _ h => h) (Or.inl ⟨by rfl, ?_⟩) hHeld (fun hHeld2 => ?_)
      rotate_left
      · (intro wz hSw; go_simp; try with_reducible rfl)
      clear hHeld; have hHeld := hHeld2; clear hHeld2
      try simp only [List.getElem_toArray, List.getElem_cons_zero, List.getElem_cons_succ, Act.put, List.setIfInBounds_toArray, List.set_cons_zero, List.set_cons_succ]
      refine wpAnyL_take (i := 6) (v := ?_) rfl (by kernel_rfl) (by kernel_rfl) (by kernel_rfl) (by rfl) (fun _ _ _ h => h) (Or.inl ⟨by rfl, ?_⟩) hHeld (fun hHeld2 => ?_)
      rotate_left
      · (intro wz hSw; go_simp; try with_reducible rfl)
      clear hHeld; have hHeld := hHeld2; clear hHeld2
      try simp only [List.getElem_toArray, List.getElem_cons_zero, List.getElem_cons_succ, Act.put, List.setIfInBounds_toArray, List.set_cons_zero, List.set_cons_succ]
      refine wpAnyL_take (i := 7) (v := ?_) rfl (by kernel_rfl) (by kernel_rfl) (by kernel_rfl) (by rfl) (fun _ _ _ h => h) (Or.inl ⟨by rfl, ?_⟩) hHeld (fun hHeld2 => ?_)
      rotate_left
      · (intro wz hSw; go_simp; try with_reducible rfl)
      clear hHeld; have hHeld := hHeld2; clear hHeld2
      try simp only [List.getElem_toArray, List.getElem_cons_zero, List.getElem_cons_succ, Act.put, List.setIfInBounds_toArray, List.set_cons_zero, List.set_cons_succ]
      refine wpAnyL_take (i := 8) (v := ?_) rfl (by kernel_rfl) (by kernel_rfl) (by kernel_rfl) (by rfl) (fun _ _ _ h => h) (Or.inl ⟨by rfl, ?_⟩) hHeld (fun hHeld2 => ?_)
      rotate_left
      · (intro wz hSw; have k0 : wz.cell? ⟨gs, i, none⟩ = some (.int .i64 (sx : Int)) ∧ wz.cell? ⟨gk, 1, none⟩ = some (.slice (some ⟨gB, 0, none⟩) ln cB) ∧ wz.cell? ⟨gB, ee, none⟩ = some (.int .i64 (ax : Int)) := hSw.get _ (List.Mem.head _) 5 (by kernel_rfl); obtain ⟨k1, k2, k3⟩ := k0; go_simp; try with_reducible rfl)
      clear hHeld; have hHeld := hHeld2; clear hHeld2
      try simp only [List.getElem_toArray, List.getElem_cons_zero, List.getElem_cons_succ, Act.put, List.setIfInBounds_toArray, List.set_cons_zero, List.set_cons_succ]
      refine wpAnyL_take (i := 9) (v := ?_) rfl (by kernel_rfl) (by kernel_rfl) (by kernel_rfl) (by rfl) (fun _ _ _ h => h) (Or.inl ⟨by rfl, ?_⟩) hHeld (fun hHeld2 => ?_)
      rotate_left
      · (intro wz hSw; go_simp; try with_reducible rfl)
      clear hHeld; have hHeld := hHeld2; clear hHeld2
      try simp only [List.getElem_toArray, List.getElem_cons_zero, List.getElem_cons_succ, Act.put, List.setIfInBounds_toArray, List.set_cons_zero, List.set_cons_succ]
      refine wpAnyL_take (i := 10) (v := ?_) rfl (by kernel_rfl) (by kernel_rfl) (by kernel_rfl) (by rfl) (fun _ _ _ h => h) (Or.inl ⟨by rfl, ?_⟩) hHeld (fun hHeld2 => ?_)
      rotate_left
      · (intro wz hSw; go_simp; try with_reducible rfl)
      clear hHeld; have hHeld := hHeld2; clear hHeld2
      try simp only [List.getElem_toArray, List.getElem_cons_zero, List.getElem_cons_succ, Act.put, List.setIfInBounds_toArray, List.set_cons_zero, List.set_cons_succ]
      refine wpAnyL_take (i := 11) (v := ?_) rfl (by kernel_rfl) (by kernel_rfl) (by kernel_rfl) (by rfl) (fun _ _ _ h => h) (Or.inl ⟨by rfl, ?_⟩) hHeld (fun hHeld2 => ?_)
      rotate_left
      · (intro wz hSw; go_simp; try with_reducible rfl)
      clear hHeld; have hHeld := hHeld2; clear hHeld2
      try simp only [List.getElem_toArray, List.getElem_cons_zero, List.getElem_cons_succ, Act.put, List.setIfInBounds_toArray, List.set_cons_zero, List.set_cons_succ]
      refine wpAnyL_take (i := 12) (v := ?_) rfl (by kernel_rfl) (by kernel_rfl) (by kernel_rfl) (by rfl) (fun _ _ _ h => h) (Or.inl ⟨by rfl, ?_⟩) hHeld (fun hHeld2 => ?_)
      rotate_left
      · (intro wz hSw; go_simp; try with_reducible rfl)
      clear hHeld; have hHeld := hHeld2; clear hHeld2
      try simp only [List.getElem_toArray, List.getElem_cons_zero, List.getElem_cons_succ, Act.put, List.setIfInBounds_toArray, List.set_cons_zero, List.set_cons_succ]
      refine wpAnyL_take (i := 13) (v := ?_) rfl (by kernel_rfl) (by kernel_rfl) (by kernel_rfl) (by rfl) (fun _ _ _ h => h) (Or.inl ⟨by rfl, ?_⟩) hHeld (fun hHeld2 => ?_)
      rotate_left
      · (intro wz hSw; go_simp; try with_reducible rfl)
      clear hHeld; have hHeld := hHeld2; clear hHeld2
      try simp only [List.getElem_toArray, List.getElem_cons_zero, List.getElem_cons_succ, Act.put, List.setIfInBounds_toArray, List.set_cons_zero, List.set_cons_succ]
      refine wpAnyL_take (i := 14) (v := ?_) rfl (by kernel_rfl) (by kernel_rfl) (by kernel_rfl) (by rfl) (fun _ _ _ h => h) (Or.inl ⟨by rfl, ?_⟩) hHeld (fun hHeld2 => ?_)
      rotate_left
      · (intro wz hSw; have k0 : wz.cell? ⟨gs, i, none⟩ = some (.int .i64 (sx : Int)) ∧ wz.cell? ⟨gk, 1, none⟩ = some (.slice (some ⟨gB, 0, none⟩) ln cB) ∧ wz.cell? ⟨gB, ee, none⟩ = some (.int .i64 (ax : Int)) := hSw.get _ (List.Mem.head _) 5 (by kernel_rfl); obtain ⟨k1, k2, k3⟩ := k0; go_simp; try with_reducible rfl)
      clear hHeld; have hHeld := hHeld2; clear hHeld2
      try simp only [List.getElem_toArray, List.getElem_cons_zero, List.getElem_cons_succ, Act.put, List.setIfInBounds_toArray, List.set_cons_zero, List.set_cons_succ]
      refine wpAnyL_one (i := 15) (by kernel_rfl) rfl rfl hHeld (fun K hK => ?_)
      go_simp
      refine (XC.out _).mono ?_
      rintro e w' ⟨rfl, rfl⟩
      refine hK.out _ _ (by intro p hp hl; simp only [List.mem_cons, List.not_mem_nil, or_false] at hp; rcases hp with rfl; exact FS.out _ B1.out) (fun hHeld2 => ?_)
      clear hHeld hK K ; have hHeld := hHeld2; clear hHeld2
      try simp only [List.getElem_toArray, List.getElem_cons_zero, List.getElem_cons_succ, Act.put, List.setIfInBounds_toArray, List.set_cons_zero, List.set_cons_succ]
      refine wpAnyL_one (i := 16) (by kernel_rfl) rfl rfl hHeld (fun K hK => ?_)
      go_simp
      refine hK.out _ _ (by intro p hp hl; simp only [List.mem_cons, List.not_mem_nil, or_false] at hp; rcases hp with rfl; exact FS.out _ (B1.out.alloc hbz _)) (fun hHeld2 => ?_)
      clear hHeld hK K ; have hHeld := hHeld2; clear hHeld2
      try simp only [List.getElem_toArray, List.getElem_cons_zero, List.getElem_cons_succ, Act.put, List.setIfInBounds_toArray, List.set_cons_zero, List.set_cons_succ]
      refine wpAnyL_one (i := 17) (by kernel_rfl) rfl rfl hHeld (fun K hK => ?_)
      refine wp_append_row (.tmp 13) (.tmp 29) 71 rfl w.heap.size 3 (.int .i64 0) 8 Tryd.underlying71 info_int rfl _ i (vals .i64 (m.take i)) (.int .i64 (mi : Int)) rfl O1.out rfl rfl (by omega) (by omega) hbz ?_
      intro gD cD w3 hown3 hbel3 hoth3
      have O3 := Lib.hid hown3
      have B3 := Lib.hid (B1.out.trans hbel3)
      clear hown3 hbel3 hoth3
      refine hK.out _ _ (by intro p hp hl; simp only [List.mem_cons, List.not_mem_nil, or_false] at hp; rcases hp with rfl; exact Bool.noConfusion (hl.symm.trans (show _ = true by kernel_rfl))) (fun hHeld2 => ?_)
      clear hHeld hK K ; have hHeld := hHeld2; clear hHeld2
      try simp only [List.getElem_toArray, List.getElem_cons_zero, List.getElem_cons_succ, Act.put, List.setIfInBounds_toArray, List.set_cons_zero, List.set_cons_succ]
      refine wpAnyL_one (i := 18) (by kernel_rfl) rfl rfl hHeld (fun K hK => ?_)
      go_simp
      refine hK.out _ _ (by intro p hp hl; simp only [List.mem_cons, List.not_mem_nil, or_false] at hp; rcases hp with rfl; exact Bool.noConfusion (hl.symm.trans (show _ = true by kernel_rfl))) (fun hHeld2 => ?_)
      clear hHeld hK K ; have hHeld := hHeld2; clear hHeld2
      try simp only [List.getElem_toArray, List.getElem_cons_zero, List.getElem_cons_succ, Act.put, List.setIfInBounds_toArray, List.set_cons_zero, List.set_cons_succ]
      refine wpAnyL_done (by kernel_rfl) ?_ _
      clear hHeld O1 B1
      rw [← vals_snoc] at O3
      go_wp2
      go_roundw
      case rel => exact ⟨i + 1, by omega, by go_num, by rw [HTK.out]; exact O3.out, B3.out⟩
      case measure => simp [intOf]; omega
    · obtain rfl : i = 16 := by omega
      obtain ⟨g, c, rfl, hg, hcc, -, hH⟩ := holds_of_owns hown (by omega)
      rw [List.take_of_length_le (by omega)] at hH
      have HH := Lib.hid hH
      have BE := Lib.hid hbel
      clear hH hown hbel
      go_wp2
      go_ret
      exact ⟨g, c, rfl, hcc, HH.out, BE.out⟩
end Go.Proofs.YtdjknmnmacppdaaDoor
namespace Go.Proofs.YtdjknmnmacppdaaDoor.Ae
open Gf Sb
theorem T_three (x : Nat) (hx : x < 256) : T x 3 = D x ^^^ x := by
  rw [show (3 : Nat) = 2 ^^^ 1 from rfl, T_right, T_one x hx, D_eq x hx]
/-- The four of a column, as the reference has them. -/
theorem rmix (t : List Nat) (ht : ∀ i, t.getD i 0 < 256) (c q : Nat) (hq : q = 4 * c) :
    (T (t.getD q 0) 2 ^^^ T (t.getD (q + 1) 0) 3) ^^^ (t.getD (q + 2) 0 ^^^ t.getD (q + 3) 0) = mixAt t q ∧
    (t.getD q 0 ^^^ T (t.getD (q + 1) 0) 2) ^^^ (T (t.getD (q + 2) 0) 3 ^^^ t.getD (q + 3) 0) = mixAt t (q + 1) ∧
    (t.getD q 0 ^^^ t.getD (q + 1) 0) ^^^ (T (t.getD (q + 2) 0) 2 ^^^ T (t.getD (q + 3) 0) 3) = mixAt t (q + 2) ∧
    (T (t.getD q 0) 3 ^^^ t.getD (q + 1) 0) ^^^ (t.getD (q + 2) 0 ^^^ T (t.getD (q + 3) 0) 2) = mixAt t (q + 3) := by
  subst hq
  have m0 := mixAt_col t c 0 (by omega)
  have m1 := mixAt_col t c 1 (by omega)
  have m2 := mixAt_col t c 2 (by omega)
  have m3 := mixAt_col t c 3 (by omega)
  simp only [Nat.add_zero, Nat.zero_add, Nat.reduceAdd, Nat.reduceMod] at m0 m1 m2 m3
  rw [m0, m1, m2, m3]
  have h0 := ht (4 * c)
  have h1 := ht (4 * c + 1)
  have h2 := ht (4 * c + 2)
  have h3 := ht (4 * c + 3)
  rw [T_three _ h0, T_three _ h1, T_three _ h2, T_three _ h3, D_eq _ h0, D_eq _ h1, D_eq _ h2, D_eq _ h3]
  generalize t.getD (4 * c) 0 = a
  generalize t.getD (4 * c + 1) 0 = b
  generalize t.getD (4 * c + 2) 0 = d
  generalize t.getD (4 * c + 3) 0 = e
  refine ⟨?_, ?_, ?_, ?_⟩
  all_goals
    simp only [D_xor]
    simp only [Nat.xor_assoc, xor_left, Nat.xor_comm, Nat.xor_self, Nat.xor_zero, xor_can]
theorem from_1 (i : Nat) (hi : i < 16) : i % 4 + 4 * ((i / 4 + i % 4) % 4) = from' 1 i := by
  have : ∀ i, i < 16 → i % 4 + 4 * ((i / 4 + i % 4) % 4) = from' 1 i := by decide
  exact this i hi
theorem turn_sub_get (x : List Nat) (i : Nat) (hi : i < 16) : (turnL 1 (subL boxL x)).getD i 0 = boxL.getD (x.getD (from' 1 i) 0) 0 := by
  rw [turnL, map_get _ _ _ hi, subL, map_get _ _ _ (from_lt 1 i)]
/-- The reference's bytes are the keys'. -/
theorem allB_ek (ws : List Nat) (n j i : Nat) (hn : 4 * n ≤ 240) (hj : 16 * j + 16 ≤ 4 * n) (hi : i < 16) : (allB ws n).getD (16 * j + i) 0 = (ek (flat ws n) j).getD i 0 := by
  rw [allB_get _ _ _ (by omega)]
  have e : (ek (flat ws n) j).getD i 0 = (flat ws n).getD (16 * j + i) 0 := by simp [ek, hi]
  rw [e, flat, upto_get _ _ _ _ _ (by omega), if_pos (by omega)]
theorem xor_map (s l k : List Nat) (j : Nat) (h : ∀ i, i < 16 → l.getD (16 * j + i) 0 = k.getD i 0) : ((List.range 16).map fun i => s.getD i 0 ^^^ l.getD (16 * j + i) 0) = xorL s k := by
  refine list_ext (n := 16) (by simp) (by simp [xorL]) fun i hi => ?_
  rw [map_get _ _ _ hi, xorL, map_get _ _ _ hi, h i hi]
theorem wb_lt (ws : List Nat) (j : Nat) : wb ws j < 256 := Nat.mod_lt _ (by omega)
theorem allB_lt (ws : List Nat) (n i : Nat) : (allB ws n).getD i 0 < 256 := by
  by_cases h : i < 4 * n
  · rw [allB_get _ _ _ h]; exact wb_lt _ _
  · rw [getD_out _ _ (by rw [length_allB]; omega)]; omega
end Go.Proofs.YtdjknmnmacppdaaDoor.Ae
namespace Go.Proofs.YtdjknmnmacppdaaDoor
open Go.RowKit Arr Gf Sb Ae
set_option linter.unusedSimpArgs false

/-- What stands while the reference enciphers: its key, the place of the answer; nothing that was there is changed. -/
structure RE (w w' : World) (gk r gB cB : Nat) (al : List Nat) (gb cb : Nat) : Prop where
  key : RKey w' gk r gB cB al gb cb
  answer : Holds w' (w.heap.size + 1) .u8 (zs 16)
  bel : Below w.heap.size w w'
theorem RE.after {w w' w'' : World} {gk r gB cB : Nat} {al : List Nat} {gb cb : Nat} (h : RE w w' gk r gB cB al gb cb) (hl : 0 < al.length) (hb : Below w'.heap.size w' w'') : RE w w'' gk r gB cB al gb cb :=
  ⟨h.key.after hl hb, h.answer.below hb (h.answer.lt (by rw [length_zs]; omega)), h.bel.trans (hb.mono h.bel.size)⟩
theorem take_all16 {l : List Nat} (h : l.length = 16) : l.take 16 = l := List.take_of_length_le (by omega)

set_option maxHeartbeats 8000000 in
set_option maxRecDepth 10000 in
theorem renc_any (gk r gB cB gb cb : Nat) (al K b : List Nat) (hr : 1 ≤ r) (hr' : r ≤ 14) (hK : Keys r K) (hb : St b) (hal : ∀ i, al.getD i 0 < 256) (hlen : 16 * r + 16 ≤ al.length) (hsame : ∀ j i, j ≤ r → i < 16 → al.getD (16 * j + i) 0 = (ek K j).getD i 0) (w : World) (hk : RKey w gk r gB cB al gb cb) :
    Calls Tryd.prog 21 #[.pointer (some ⟨gk, 0, none⟩), .agg (na .u8 b)] w (GivesA (enc r K b) w) := by
  obtain ⟨A1, A2, A3⟩ := two_new w b 34
  have lb := hb.1
  have R0 := Lib.hid (show RE w _ gk r gB cB al gb cb from ⟨hk.after (by omega) A3, A2, A3⟩)
  have B1 := Lib.hid A1
  have HB := Lib.hid hb
  have HK := Lib.hid hK
  have HAL := Lib.hid hal
  have HLE := Lib.hid hlen
  have HSA := Lib.hid hsame
  have HE := Lib.hid (show enc r K b = encS r K r (xorL b (ek K 0)) from rfl)
  have sz2 : ((w.alloc (.cells (na .u8 b) 34)).alloc (.cells (na .u8 (zs 16)) 34)).heap.size = w.heap.size + 1 + 1 := by rw [World.size_alloc, World.size_alloc]
  have SZ2 := Lib.hid sz2
  clear A1 A2 A3 hk hb hK hal hlen hsame sz2
  go_enter Tryd.func21, Tryd.ntmps21
  go_wp2_with (first | (with_reducible refine Arr.alloc (t := 34) _ z16 ?_) | fail)
  generalize (w.alloc (.cells (na .u8 b) 34)).alloc (.cells (na .u8 (zs 16)) 34) = w0 at *
  go_loopw [5, 6] (fun v i wr => ∃ i0 : Nat, i0 ≤ 16 ∧ i = .int .i64 (i0 : Nat) ∧ wr.ownsRow w0.heap.size 3 1 v i0 (vals .i64 (b.take i0)) ∧ Below w0.heap.size w0 wr) (fun _ i _ => 16 - (intOf i).toNat)
  case atStart => exact ⟨0, by omega, rfl, World.ownsRow_nil _ _ _ _, Below.refl _ _⟩
  case round =>
    obtain ⟨i, hi, rfl, hown, hbel⟩ := hrel
    by_cases hlt : i < 16
    · have ti : decide ((i : Int) < 16) = true := by simp; omega
      have ii : (i : Int) < 16 := by omega
      have hx := HB.out.2 i
      have cx := (B1.out.below hbel (B1.out.lt (by omega))).cell i (by omega)
      have HTK := Lib.hid (take_more' b i (by omega))
      generalize b.getD i 0 = x at *
      have OW := Lib.hid hown
      have BE := Lib.hid hbel
      have hsz := hbel.size
      clear hown hbel
      go_wp2_with (at_builtin; refine append_one rfl (.tmp 24) (.tmp 29) 71 rfl w0.heap.size 3 (.int .i64 0) 8 Tryd.underlying71 info_int rfl _ i _ (.int .i64 (x : Int)) rfl OW.out rfl rfl (by omega) (by omega) hsz ?_; intro v' w1 hown1 hbel1)
      have O1 := Lib.hid hown1
      have B2 := Lib.hid (BE.out.trans hbel1)
      clear hown1 hbel1 OW BE
      rw [← vals_snoc] at O1
      go_wp2
      go_roundw
      case rel => exact ⟨i + 1, by omega, by go_num, by rw [HTK.out]; exact O1.out, B2.out⟩
      case measure => simp [intOf]; omega
    · have ei : (i : Int) = 16 := by omega
      rw [ei]
      obtain rfl : i = 16 := by omega
      clear ei
      obtain ⟨gs, cs, rfl, -, -, -, hH⟩ := holds_of_owns hown (by omega)
      rw [take_all16 lb] at hH
      have R1 := R0.out.after (by have := HLE.out; omega) hbel
      have CA := radd_any gk r gB cB gb cb al b gs cs 0 wr R1.key hH lb HB.out.2 HAL.out (by have := HLE.out; omega) (by omega)
      rw [xor_map b al (ek K 0) 0 (fun i hi => HSA.out 0 i (by omega) hi)] at CA
      have CA := Lib.hid CA
      have R1 := Lib.hid R1
      have hx := st_xor HB.out (HK.out 0 (by omega))
      clear R0 B1 hown hbel hH SZ2
      generalize xorL b (ek K 0) = x0 at *
      go_wp2_with fail
      refine CA.out.mono ?_
      rintro e w1 ⟨g1, c1, rfl, hc1, hH, hbel⟩
      have R2 := Lib.hid (R1.out.after (by have := HLE.out; omega) hbel)
      have H2 := Lib.hid hH
      have HX := Lib.hid hx
      clear hbel hH CA R1 hx
      go_wp2_with fail
      go_loopw [5, 7] (fun sv jv wr => ∃ kk j gs cs : Nat, kk ≤ r ∧ Go.RowKit.Hid (j = kk + 1) ∧ jv = .int .i64 (j : Nat) ∧ sv = .slice (some ⟨gs, 0, none⟩) 16 cs ∧ Holds wr gs .i64 (encS r K kk x0) ∧ RE w wr gk r gB cB al gb cb) (fun _ jv _ => r + 1 - (intOf jv).toNat)
      case atStart => exact ⟨0, 1, g1, c1, by omega, Lib.hid rfl, rfl, rfl, H2.out, R2.out⟩
      case round =>
        clear H2 R2
        obtain ⟨kk, j, gs, cs, hkk, HJ, rfl, rfl, hS, hR⟩ := hrel
        generalize wr = wo at *
        have hx := st_encS HK.out HX.out kk hkk
        have hrd := hR.key.c0
        by_cases hlt : kk < r
        · as_aux_lemma =>
          have hj : j ≤ r := by have := HJ.out; omega
          have tj : decide ((j : Int) ≤ (r : Int)) = true := by simp; omega
          have tj' : decide (j ≤ r) = true := by simp; omega
          have kj := HK.out j hj
          have HSA1 := Lib.hid (show j < r → encS r K (kk + 1) x0 = xorL (mixL (turnL 1 (subL boxL (encS r K kk x0)))) (ek K j) from fun h => by rw [encS, E, ← HJ.out, if_pos h])
          have HSB1 := Lib.hid (show ¬ j < r → encS r K (kk + 1) x0 = xorL (turnL 1 (subL boxL (encS r K kk x0))) (ek K j) from fun h => by rw [encS, E, ← HJ.out, if_neg h])
          generalize encS r K kk x0 = x at *
          have TG := Lib.hid (turn_sub_get x)
          have ht : St (turnL 1 (subL boxL x)) := st_turn (st_sub boxL_by)
          generalize turnL 1 (subL boxL x) = t at *
          have HS := Lib.hid hS
          have HR := Lib.hid hR
          have lx := hx.1
          have lt' := ht.1
          have hgsl := hS.lt (by omega)
          have hgkl : gk < wo.heap.size := block_lt_of_cell hR.key.c0
          have hgbl := hR.key.box.lt (by rw [boxL_len]; omega)
          clear hS hR
          go_wp2_with fail
          go_loopw [8, 9] (fun v i wt => ∃ i0 : Nat, i0 ≤ 16 ∧ i = .int .i64 (i0 : Nat) ∧ wt.ownsRow wo.heap.size 3 1 v i0 (vals .i64 (t.take i0)) ∧ Below wo.heap.size wo wt) (fun _ i _ => 16 - (intOf i).toNat)
          case atStart => exact ⟨0, by omega, rfl, World.ownsRow_nil _ _ _ _, Below.refl _ _⟩
          case round =>
            obtain ⟨i, hi, rfl, hown, hbel⟩ := hrel
            by_cases hit : i < 16
            · as_aux_lemma =>
              have ti : decide ((i : Int) < 16) = true := by simp; omega
              have ii : (i : Int) < 16 := by omega
              obtain ⟨row, hrow⟩ : ∃ row, row = i % 4 := ⟨_, rfl⟩
              obtain ⟨col, hcol⟩ : ∃ col, col = i / 4 := ⟨_, rfl⟩
              obtain ⟨c4, hc4⟩ : ∃ c4, c4 = (col + row) % 4 := ⟨_, rfl⟩
              obtain ⟨m4, hm4⟩ : ∃ m4, m4 = 4 * c4 := ⟨_, rfl⟩
              obtain ⟨f, hf⟩ : ∃ f, f = row + m4 := ⟨_, rfl⟩
              have hff : f = from' 1 i := by rw [hf, hm4, hc4, hcol, hrow]; exact from_1 i hit
              have e1 : (i : Int) % 4 = (row : Int) := by omega
              have e1' : Int.tmod (i : Int) 4 = (row : Int) := by rw [Int.tmod_eq_emod_of_nonneg (by omega)]; omega
              have e2 : (i : Int) / 4 = (col : Int) := by omega
              have e2' : Int.tdiv (i : Int) 4 = (col : Int) := by rw [Int.tdiv_eq_ediv_of_nonneg (by omega)]; omega
              have e3 : IntKind.i64.wrap ((col : Int) + (row : Int)) = (col : Int) + (row : Int) := by rw [IntKind.wrap_i64]; omega
              have e4 : Int.tmod ((col : Int) + (row : Int)) 4 = (c4 : Int) := by rw [Int.tmod_eq_emod_of_nonneg (by omega)]; omega
              have e4' : ((col : Int) + (row : Int)) % 4 = (c4 : Int) := by omega
              have e5 : 4 * (c4 : Int) = (m4 : Int) := by omega
              have e6 : (row : Int) + (m4 : Int) = (f : Int) := by omega
              have n1 := wrap_nat m4 (by omega)
              have n2 := wrap_nat f (by omega)
              have n3 := wrap_nat col (by omega)
              have hfl : f < 16 := by rw [hff]; exact from_lt 1 i
              have hfi : (f : Int) < 16 := by omega
              have hti := TG.out i hit
              rw [← hff] at hti
              have hxf := hx.2 f
              have hxi : ((x.getD f 0 : Nat) : Int) < 256 := by omega
              have cell1 := HS.out.cell f (by omega)
              have cell2 := HR.out.key.box.cell (x.getD f 0) (by rw [boxL_len]; exact hxf)
              rw [← hti] at cell2
              have cell3 := HR.out.key.c2
              have FS := Lib.hid (show ∀ w', Below wo.heap.size wo w' → w'.cell? ⟨gs, f, none⟩ = some (.int .i64 ((x.getD f 0 : Nat) : Int)) ∧ w'.cell? ⟨gk, 2, none⟩ = some (.slice (some ⟨gb, 0, none⟩) 256 cb) ∧ w'.cell? ⟨gb, x.getD f 0, none⟩ = some (.int .i64 ((t.getD i 0 : Nat) : Int)) from fun w' h =>
                ⟨(h.cell (p := ⟨gs, f, none⟩) hgsl).trans cell1, (h.cell (p := ⟨gk, 2, none⟩) hgkl).trans cell3, (h.cell (p := ⟨gb, x.getD f 0, none⟩) hgbl).trans cell2⟩)
              have HTK := Lib.hid (take_more' t i (by omega))
              clear hti cell1 cell2 cell3 hrow hcol hc4 hm4 hf hff
              generalize t.getD i 0 = tv at *
              generalize x.getD f 0 = xv at *
              have OW := Lib.hid hown
              have BE := Lib.hid hbel
              clear hown hbel
              go_wp2_with fail
              have B1 := Lib.hid (below_drew BE.out)
              have O1 := Lib.hid (owns_drew OW.out)
              have hbz : wo.heap.size ≤ _ := (below_drew BE.out).size
              refine wp_region_L [(18, fun w' => w'.cell? ⟨gs, f, none⟩ = some (.int .i64 (xv : Int)) ∧ w'.cell? ⟨gk, 2, none⟩ = some (.slice (some ⟨gb, 0, none⟩) 256 cb) ∧ w'.cell? ⟨gb, xv, none⟩ = some (.int .i64 (tv : Int)))] 20 #[false, false, false, false, false, false, false, false, false, false, false, false, false, false, false, false, false, false, false, false] (by kernel_rfl) (by rfl) (by kernel_rfl) (by intro p hp; simp only [List.mem_cons, List.not_mem_nil, or_false] at hp; rcases hp with rfl; exact FS.out _ B1.out) (fun hHeld => ?_)
              clear BE OW
              generalize World.drew _ = wq at *
              refine wpAnyL_take (i := 0) (v := ?_) rfl (by kernel_rfl) (by kernel_rfl) (by kernel_rfl) (by rfl) (fun _ _ _ h => h) (Or.inl ⟨by rfl, ?_⟩) hHeld (fun hHeld2 => ?_)
              rotate_left
              · (intro wz hSw; go_simp; try with_reducible rfl)
              clear hHeld; have hHeld := hHeld2; clear hHeld2
              try simp only [List.getElem_toArray, List.getElem_cons_zero, List.getElem_cons_succ, Act.put, List.setIfInBounds_toArray, List.set_cons_zero, List.set_cons_succ]
              refine wpAnyL_take (i := 1) (v := ?_) rfl (by kernel_rfl) (by kernel_rfl) (by kernel_rfl) (by rfl) (fun _ _ _ h => h) (Or.inl ⟨by rfl, ?_⟩) hHeld (fun hHeld2 => ?_)
              rotate_left
              · (intro wz hSw; go_simp; try with_reducible rfl)
              clear hHeld; have hHeld := hHeld2; clear hHeld2
              try simp only [List.getElem_toArray, List.getElem_cons_zero, List.getElem_cons_succ, Act.put, List.setIfInBounds_toArray, List.set_cons_zero, List.set_cons_succ]
              refine wpAnyL_take (i := 2) (v := ?_) rfl (by kernel_rfl) (by kernel_rfl) (by kernel_rfl) (by rfl) (fun _ _ _ h => h) (Or.inl ⟨by rfl, ?_⟩) hHeld (fun hHeld2 => ?_)
              rotate_left
              · (intro wz hSw; go_simp; try with_reducible rfl)
              clear hHeld; have hHeld := hHeld2; clear hHeld2
              try simp only [List.getElem_toArray, List.getElem_cons_zero, List.getElem_cons_succ, Act.put, List.setIfInBounds_toArray, List.set_cons_zero, List.set_cons_succ]
              refine wpAnyL_take (i := 3) (v := ?_) rfl (by kernel_rfl) (by kernel_rfl) (by kernel_rfl) (by rfl) (fun _ _ _ h => h) (Or.inl ⟨by rfl, ?_⟩) hHeld (fun hHeld2 => ?_)
              rotate_left
              · (intro wz hSw; go_simp; try with_reducible rfl)
              clear hHeld; have hHeld := hHeld2; clear hHeld2
              try simp only [List.getElem_toArray, List.getElem_cons_zero, List.getElem_cons_succ, Act.put, List.setIfInBounds_toArray, List.set_cons_zero, List.set_cons_succ]
              refine wpAnyL_take (i := 4) (v := ?_) rfl (by kernel_rfl) (by kernel_rfl) (by kernel_rfl) (by rfl) (fun _ _ _ h => h) (Or.inl ⟨by rfl, ?_⟩) hHeld (fun hHeld2 => ?_)
              rotate_left
              · (intro wz hSw; have k0 : wz.cell? ⟨gs, f, none⟩ = some (.int .i64 (xv : Int)) ∧ wz.cell? ⟨gk, 2, none⟩ = some (.slice (some ⟨gb, 0, none⟩) 256 cb) ∧ wz.cell? ⟨gb, xv, none⟩ = some (.int .i64 (tv : Int)) := hSw.get _ (List.Mem.head _) 5 (by kernel_rfl); obtain ⟨k1, k2, k3⟩ := k0; go_simp; try with_reducible rfl)
              clear hHeld; have hHeld := hHeld2; clear hHeld2
              try simp only [List.getElem_toArray, List.getElem_cons_zero, List.getElem_cons_succ, Act.put, List.setIfInBounds_toArray, List.set_cons_zero, List.set_cons_succ]
              refine wpAnyL_take (i := 5) (v := ?_) rfl (by kernel_rfl) (by kernel_rfl) (by kernel_rfl) (by rfl) (fun _ _ _ h => h) (Or.inl ⟨by rfl, ?_⟩) hHeld (fun hHeld2 => ?_)
              rotate_left
              · (intro wz hSw; go_simp; try with_reducible rfl)
              clear hHeld; have hHeld := hHeld2; clear hHeld2
              try simp only [List.getElem_toArray, List.getElem_cons_zero, List.getElem_cons_succ, Act.put, List.setIfInBounds_toArray, List.set_cons_zero, List.set_cons_succ]
              refine wpAnyL_take (i := 6) (v := ?_) rfl (by kernel_rfl) (by kernel_rfl) (by kernel_rfl) (by rfl) (fun _ _ _ h => h) (Or.inl ⟨by rfl, ?_⟩) hHeld (fun hHeld2 => ?_)
              rotate_left
              · (intro wz hSw; go_simp; try with_reducible rfl)
              clear hHeld; have hHeld := hHeld2; clear hHeld2
              try simp only [List.getElem_toArray, List.getElem_cons_zero, List.getElem_cons_succ, Act.put, List.setIfInBounds_toArray, List.set_cons_zero, List.set_cons_succ]
              refine wpAnyL_take (i := 7) (v := ?_) rfl (by kernel_rfl) (by kernel_rfl) (by kernel_rfl) (by rfl) (fun _ _ _ h => h) (Or.inl ⟨by rfl, ?_⟩) hHeld (fun hHeld2 => ?_)
              rotate_left
              · (intro wz hSw; go_simp; try with_reducible rfl)
              clear hHeld; have hHeld := hHeld2; clear hHeld2
              try simp only [List.getElem_toArray, List.getElem_cons_zero, List.getElem_cons_succ, Act.put, List.setIfInBounds_toArray, List.set_cons_zero, List.set_cons_succ]
              refine wpAnyL_take (i := 8) (v := ?_) rfl (by kernel_rfl) (by kernel_rfl) (by kernel_rfl) (by rfl) (fun _ _ _ h => h) (Or.inl ⟨by rfl, ?_⟩) hHeld (fun hHeld2 => ?_)
              rotate_left
              · (intro wz hSw; go_simp; try with_reducible rfl)
              clear hHeld; have hHeld := hHeld2; clear hHeld2
              try simp only [List.getElem_toArray, List.getElem_cons_zero, List.getElem_cons_succ, Act.put, List.setIfInBounds_toArray, List.set_cons_zero, List.set_cons_succ]
              refine wpAnyL_take (i := 9) (v := ?_) rfl (by kernel_rfl) (by kernel_rfl) (by kernel_rfl) (by rfl) (fun _ _ _ h => h) (Or.inl ⟨by rfl, ?_⟩) hHeld (fun hHeld2 => ?_)
              rotate_left
              · (intro wz hSw; go_simp; try with_reducible rfl)
              clear hHeld; have hHeld := hHeld2; clear hHeld2
              try simp only [List.getElem_toArray, List.getElem_cons_zero, List.getElem_cons_succ, Act.put, List.setIfInBounds_toArray, List.set_cons_zero, List.set_cons_succ]
              refine wpAnyL_take (i := 10) (v := ?_) rfl (by kernel_rfl) (by kernel_rfl) (by kernel_rfl) (by rfl) (fun _ _ _ h => h) (Or.inl ⟨by rfl, ?_⟩) hHeld (fun hHeld2 => ?_)
              rotate_left
              · (intro wz hSw; go_simp; try with_reducible rfl)
              clear hHeld; have hHeld := hHeld2; clear hHeld2
              try simp only [List.getElem_toArray, List.getElem_cons_zero, List.getElem_cons_succ, Act.put, List.setIfInBounds_toArray, List.set_cons_zero, List.set_cons_succ]
              refine wpAnyL_take (i := 11) (v := ?_) rfl (by kernel_rfl) (by kernel_rfl) (by kernel_rfl) (by rfl) (fun _ _ _ h => h) (Or.inl ⟨by rfl, ?_⟩) hHeld (fun hHeld2 => ?_)
              rotate_left
              · (intro wz hSw; go_simp; try with_reducible rfl)
              clear hHeld; have hHeld := hHeld2; clear hHeld2
              try simp only [List.getElem_toArray, List.getElem_cons_zero, List.getElem_cons_succ, Act.put, List.setIfInBounds_toArray, List.set_cons_zero, List.set_cons_succ]
              refine wpAnyL_take (i := 12) (v := ?_) rfl (by kernel_rfl) (by kernel_rfl) (by kernel_rfl) (by rfl) (fun _ _ _ h => h) (Or.inl ⟨by rfl, ?_⟩) hHeld (fun hHeld2 => ?_)
              rotate_left
              · (intro wz hSw; go_simp; try with_reducible rfl)
              clear hHeld; have hHeld := hHeld2; clear hHeld2
              try simp only [List.getElem_toArray, List.getElem_cons_zero, List.getElem_cons_succ, Act.put, List.setIfInBounds_toArray, List.set_cons_zero, List.set_cons_succ]
              refine wpAnyL_take (i := 13) (v := ?_) rfl (by kernel_rfl) (by kernel_rfl) (by kernel_rfl) (by rfl) (fun _ _ _ h => h) (Or.inl ⟨by rfl, ?_⟩) hHeld (fun hHeld2 => ?_)
              rotate_left
              · (intro wz hSw; go_simp; try with_reducible rfl)
              clear hHeld; have hHeld := hHeld2; clear hHeld2
              try simp only [List.getElem_toArray, List.getElem_cons_zero, List.getElem_cons_succ, Act.put, List.setIfInBounds_toArray, List.set_cons_zero, List.set_cons_succ]
              refine wpAnyL_take (i := 14) (v := ?_) rfl (by kernel_rfl) (by kernel_rfl) (by kernel_rfl) (by rfl) (fun _ _ _ h => h) (Or.inl ⟨by rfl, ?_⟩) hHeld (fun hHeld2 => ?_)
              rotate_left
              · (intro wz hSw; have k0 : wz.cell? ⟨gs, f, none⟩ = some (.int .i64 (xv : Int)) ∧ wz.cell? ⟨gk, 2, none⟩ = some (.slice (some ⟨gb, 0, none⟩) 256 cb) ∧ wz.cell? ⟨gb, xv, none⟩ = some (.int .i64 (tv : Int)) := hSw.get _ (List.Mem.head _) 5 (by kernel_rfl); obtain ⟨k1, k2, k3⟩ := k0; go_simp; try with_reducible rfl)
              clear hHeld; have hHeld := hHeld2; clear hHeld2
              try simp only [List.getElem_toArray, List.getElem_cons_zero, List.getElem_cons_succ, Act.put, List.setIfInBounds_toArray, List.set_cons_zero, List.set_cons_succ]
              refine wpAnyL_take (i := 15) (v := ?_) rfl (by kernel_rfl) (by kernel_rfl) (by kernel_rfl) (by rfl) (fun _ _ _ h => h) (Or.inl ⟨by rfl, ?_⟩) hHeld (fun hHeld2 => ?_)
              rotate_left
              · (intro wz hSw; go_simp; try with_reducible rfl)
              clear hHeld; have hHeld := hHeld2; clear hHeld2
              try simp only [List.getElem_toArray, List.getElem_cons_zero, List.getElem_cons_succ, Act.put, List.setIfInBounds_toArray, List.set_cons_zero, List.set_cons_succ]
              refine wpAnyL_take (i := 16) (v := ?_) rfl (by kernel_rfl) (by kernel_rfl) (by kernel_rfl) (by rfl) (fun _ _ _ h => h) (Or.inl ⟨by rfl, ?_⟩) hHeld (fun hHeld2 => ?_)
              rotate_left
              · (intro wz hSw; have k0 : wz.cell? ⟨gs, f, none⟩ = some (.int .i64 (xv : Int)) ∧ wz.cell? ⟨gk, 2, none⟩ = some (.slice (some ⟨gb, 0, none⟩) 256 cb) ∧ wz.cell? ⟨gb, xv, none⟩ = some (.int .i64 (tv : Int)) := hSw.get _ (List.Mem.head _) 5 (by kernel_rfl); obtain ⟨k1, k2, k3⟩ := k0; go_simp; try with_reducible rfl)
              clear hHeld; have hHeld := hHeld2; clear hHeld2
              try simp only [List.getElem_toArray, List.getElem_cons_zero, List.getElem_cons_succ, Act.put, List.setIfInBounds_toArray, List.set_cons_zero, List.set_cons_succ]
              refine wpAnyL_one (i := 17) (by kernel_rfl) rfl rfl hHeld (fun K hK => ?_)
              go_simp
              refine hK.out _ _ (by intro p hp hl; simp only [List.mem_cons, List.not_mem_nil, or_false] at hp; rcases hp with rfl; exact FS.out _ (B1.out.alloc hbz _)) (fun hHeld2 => ?_)
              clear hHeld hK K ; have hHeld := hHeld2; clear hHeld2
              try simp only [List.getElem_toArray, List.getElem_cons_zero, List.getElem_cons_succ, Act.put, List.setIfInBounds_toArray, List.set_cons_zero, List.set_cons_succ]
              refine wpAnyL_one (i := 18) (by kernel_rfl) rfl rfl hHeld (fun K hK => ?_)
              refine wp_append_row (.tmp 50) (.tmp 67) 71 rfl wo.heap.size 3 (.int .i64 0) 8 Tryd.underlying71 info_int rfl _ i (vals .i64 (t.take i)) (.int .i64 (tv : Int)) rfl O1.out rfl rfl (by omega) (by omega) hbz ?_
              intro gD cD w3 hown3 hbel3 hoth3
              have O3 := Lib.hid hown3
              have B3 := Lib.hid (B1.out.trans hbel3)
              clear hown3 hbel3 hoth3
              refine hK.out _ _ (by intro p hp hl; simp only [List.mem_cons, List.not_mem_nil, or_false] at hp; rcases hp with rfl; exact Bool.noConfusion (hl.symm.trans (show _ = true by kernel_rfl))) (fun hHeld2 => ?_)
              clear hHeld hK K ; have hHeld := hHeld2; clear hHeld2
              try simp only [List.getElem_toArray, List.getElem_cons_zero, List.getElem_cons_succ, Act.put, List.setIfInBounds_toArray, List.set_cons_zero, List.set_cons_succ]
              refine wpAnyL_one (i := 19) (by kernel_rfl) rfl rfl hHeld (fun K hK => ?_)
              go_simp
              refine hK.out _ _ (by intro p hp hl; simp only [List.mem_cons, List.not_mem_nil, or_false] at hp; rcases hp with rfl; exact Bool.noConfusion (hl.symm.trans (show _ = true by kernel_rfl))) (fun hHeld2 => ?_)
              clear hHeld hK K ; have hHeld := hHeld2; clear hHeld2
              try simp only [List.getElem_toArray, List.getElem_cons_zero, List.getElem_cons_succ, Act.put, List.setIfInBounds_toArray, List.set_cons_zero, List.set_cons_succ]
              refine wpAnyL_done (by kernel_rfl) ?_ _
              clear hHeld O1 B1
              rw [← vals_snoc] at O3
              go_wp2
              go_roundw
              case rel => exact ⟨i + 1, by omega, by go_num, by rw [HTK.out]; exact O3.out, B3.out⟩
              case measure => simp [intOf]; omega
            · have ei : (i : Int) = 16 := by omega
              rw [ei]
              obtain rfl : i = 16 := by omega
              clear ei
              obtain ⟨gt, ct, rfl, hgt, -, -, hH⟩ := holds_of_owns hown (by omega)
              rw [take_all16 lt'] at hH
              have R3 := Lib.hid (HR.out.after (by have := HLE.out; omega) hbel)
              have HT := Lib.hid hH
              clear hown hbel hH HS HR TG
              generalize wr = wt at *
              have hrd3 := R3.out.key.c0
              by_cases hjr : j < r
              · as_aux_lemma =>
                have tr : decide ((j : Int) < (r : Int)) = true := by simp; omega
                have tr' : decide (j < r) = true := by simp; omega
                have hm := st_mix ht
                have lm := hm.1
                have hgtl := HT.out.lt (by omega)
                have RM := Lib.hid (fun c q h => rmix t ht.2 c q h)
                have MG := Lib.hid (mixL_get t)
                have htb := Lib.hid ht.2
                generalize mixL t = mx at *
                go_wp2_with fail
                go_loopw [12, 13] (fun v i wm => ∃ c q : Nat, c ≤ 4 ∧ Go.RowKit.Hid (q = 4 * c) ∧ i = .int .i64 (q : Nat) ∧ wm.ownsRow wt.heap.size 3 1 v q (vals .i64 (mx.take q)) ∧ Below wt.heap.size wt wm) (fun _ i _ => 16 - (intOf i).toNat)
                case atStart => exact ⟨0, 0, by omega, Lib.hid rfl, rfl, World.ownsRow_nil _ _ _ _, Below.refl _ _⟩
                case round =>
                  obtain ⟨c, q, hc, HQ, rfl, hown, hbel⟩ := hrel
                  by_cases hct : c < 4
                  · as_aux_lemma =>
                    have hq := HQ.out
                    have hqi : (q : Int) < 16 := by omega
                    have tq : decide ((q : Int) < 16) = true := by simp; omega
                    obtain ⟨M0, M1, M2, M3⟩ := RM.out c q hq
                    rw [← MG.out q (by omega)] at M0
                    rw [← MG.out (q + 1) (by omega)] at M1
                    rw [← MG.out (q + 2) (by omega)] at M2
                    rw [← MG.out (q + 3) (by omega)] at M3
                    have K0 := take_more' mx q (by omega)
                    have K1 := take_more' mx (q + 1) (by omega)
                    have K2 := take_more' mx (q + 2) (by omega)
                    have K3 := take_more' mx (q + 3) (by omega)
                    have KK := Lib.hid (show mx.take (q + 4) = (((mx.take q ++ [mx.getD q 0]) ++ [mx.getD (q + 1) 0]) ++ [mx.getD (q + 2) 0]) ++ [mx.getD (q + 3) 0] by rw [show q + 4 = q + 3 + 1 from rfl, K3, show q + 3 = q + 2 + 1 from rfl, K2, show q + 2 = q + 1 + 1 from rfl, K1, K0])
                    clear K0 K1 K2 K3
                    have HTw := HT.out.below hbel hgtl
                    obtain ⟨q1, hq1⟩ : ∃ q1, q1 = q + 1 := ⟨_, rfl⟩
                    obtain ⟨q2, hq2⟩ : ∃ q2, q2 = q + 2 := ⟨_, rfl⟩
                    obtain ⟨q3, hq3⟩ : ∃ q3, q3 = q + 3 := ⟨_, rfl⟩
                    have e1 : (q : Int) + 1 = (q1 : Int) := by omega
                    have e2 : (q : Int) + 2 = (q2 : Int) := by omega
                    have e3 : (q : Int) + 3 = (q3 : Int) := by omega
                    have i1 : (q1 : Int) < 16 := by omega
                    have i2 : (q2 : Int) < 16 := by omega
                    have i3 : (q3 : Int) < 16 := by omega
                    rw [← hq1, ← hq2, ← hq3] at M0 M1 M2 M3 KK
                    have c0 := HTw.cell q (by omega)
                    have c1 := HTw.cell q1 (by omega)
                    have c2 := HTw.cell q2 (by omega)
                    have c3 := HTw.cell q3 (by omega)
                    have b0 := htb.out q
                    have b1 := htb.out q1
                    have b2 := htb.out q2
                    have b3 := htb.out q3
                    have hl16 : q + 4 ≤ 16 := by omega
                    clear hq hq1 hq2 hq3 HTw
                    generalize t.getD q 0 = p at *
                    generalize t.getD q1 0 = qq at *
                    generalize t.getD q2 0 = rr at *
                    generalize t.getD q3 0 = uu at *
                    have P2 := Lib.hid (fun w' => rtimes_any p 2 b0 (by omega) w')
                    have P3 := Lib.hid (fun w' => rtimes_any p 3 b0 (by omega) w')
                    have Q2 := Lib.hid (fun w' => rtimes_any qq 2 b1 (by omega) w')
                    have Q3 := Lib.hid (fun w' => rtimes_any qq 3 b1 (by omega) w')
                    have R2 := Lib.hid (fun w' => rtimes_any rr 2 b2 (by omega) w')
                    have R3' := Lib.hid (fun w' => rtimes_any rr 3 b2 (by omega) w')
                    have U2 := Lib.hid (fun w' => rtimes_any uu 2 b3 (by omega) w')
                    have U3 := Lib.hid (fun w' => rtimes_any uu 3 b3 (by omega) w')
                    have S0 := fun w' => rsum_any (T p 2) (T qq 3) rr uu (T_lt _ _ b0) (T_lt _ _ b1) b2 b3 w'
                    have S1 := fun w' => rsum_any p (T qq 2) (T rr 3) uu b0 (T_lt _ _ b1) (T_lt _ _ b2) b3 w'
                    have S2 := fun w' => rsum_any p qq (T rr 2) (T uu 3) b0 b1 (T_lt _ _ b2) (T_lt _ _ b3) w'
                    have S3 := fun w' => rsum_any (T p 3) qq rr (T uu 2) (T_lt _ _ b0) b1 b2 (T_lt _ _ b3) w'
                    rw [M0] at S0
                    rw [M1] at S1
                    rw [M2] at S2
                    rw [M3] at S3
                    have S0 := Lib.hid S0
                    have S1 := Lib.hid S1
                    have S2 := Lib.hid S2
                    have S3 := Lib.hid S3
                    clear M0 M1 M2 M3
                    generalize T p 2 = tp2 at *
                    generalize T p 3 = tp3 at *
                    generalize T qq 2 = tq2 at *
                    generalize T qq 3 = tq3 at *
                    generalize T rr 2 = tr2 at *
                    generalize T rr 3 = tr3 at *
                    generalize T uu 2 = tu2 at *
                    generalize T uu 3 = tu3 at *
                    generalize mx.getD q 0 = m0 at *
                    generalize mx.getD q1 0 = m1 at *
                    generalize mx.getD q2 0 = m2 at *
                    generalize mx.getD q3 0 = m3 at *
                    have O0 := Lib.hid hown
                    have E0 := Lib.hid hbel
                    have z0 := hbel.size
                    clear hown hbel
                    go_wp2_with fail
                    refine (P2.out _).mono ?_
                    rintro e w' ⟨rfl, rfl⟩
                    go_wp2_with fail
                    refine (Q3.out _).mono ?_
                    rintro e w' ⟨rfl, rfl⟩
                    go_wp2_with fail
                    refine (S0.out _).mono ?_
                    rintro e w' ⟨rfl, rfl⟩
                    go_wp2_with (at_builtin; refine append_one rfl (.tmp 98) (.tmp 106) 71 rfl wt.heap.size 3 (.int .i64 0) 8 Tryd.underlying71 info_int rfl _ q _ (.int .i64 (m0 : Int)) rfl O0.out rfl rfl (by omega) (by omega) z0 ?_; intro v1 x1 hown1 hbel1)
                    have O1 := Lib.hid hown1
                    have E1 := Lib.hid (E0.out.trans hbel1)
                    have z1 := E1.out.size
                    clear hown1 hbel1 O0
                    rw [← vals_snoc] at O1
                    go_wp2_with fail
                    refine (Q2.out _).mono ?_
                    rintro e w' ⟨rfl, rfl⟩
                    go_wp2_with fail
                    refine (R3'.out _).mono ?_
                    rintro e w' ⟨rfl, rfl⟩
                    go_wp2_with fail
                    refine (S1.out _).mono ?_
                    rintro e w' ⟨rfl, rfl⟩
                    go_wp2_with (at_builtin; refine append_one rfl (.tmp 108) (.tmp 116) 71 rfl wt.heap.size 3 (.int .i64 0) 8 Tryd.underlying71 info_int rfl _ (q + 1) _ (.int .i64 (m1 : Int)) rfl O1.out rfl rfl (by omega) (by omega) z1 ?_; intro v2 x2 hown2 hbel2)
                    have O2 := Lib.hid hown2
                    have E2 := Lib.hid (E1.out.trans hbel2)
                    have z2 := E2.out.size
                    clear hown2 hbel2 O1
                    rw [← vals_snoc] at O2
                    go_wp2_with fail
                    refine (R2.out _).mono ?_
                    rintro e w' ⟨rfl, rfl⟩
                    go_wp2_with fail
                    refine (U3.out _).mono ?_
                    rintro e w' ⟨rfl, rfl⟩
                    go_wp2_with fail
                    refine (S2.out _).mono ?_
                    rintro e w' ⟨rfl, rfl⟩
                    go_wp2_with (at_builtin; refine append_one rfl (.tmp 118) (.tmp 126) 71 rfl wt.heap.size 3 (.int .i64 0) 8 Tryd.underlying71 info_int rfl _ (q + 2) _ (.int .i64 (m2 : Int)) rfl O2.out rfl rfl (by omega) (by omega) z2 ?_; intro v3 x3 hown3 hbel3)
                    have O3 := Lib.hid hown3
                    have E3 := Lib.hid (E2.out.trans hbel3)
                    have z3 := E3.out.size
                    clear hown3 hbel3 O2
                    rw [← vals_snoc] at O3
                    go_wp2_with fail
                    refine (P3.out _).mono ?_
                    rintro e w' ⟨rfl, rfl⟩
                    go_wp2_with fail
                    refine (U2.out _).mono ?_
                    rintro e w' ⟨rfl, rfl⟩
                    go_wp2_with fail
                    refine (S3.out _).mono ?_
                    rintro e w' ⟨rfl, rfl⟩
                    go_wp2_with (at_builtin; refine append_one rfl (.tmp 128) (.tmp 136) 71 rfl wt.heap.size 3 (.int .i64 0) 8 Tryd.underlying71 info_int rfl _ (q + 3) _ (.int .i64 (m3 : Int)) rfl O3.out rfl rfl (by omega) (by omega) z3 ?_; intro v4 x4 hown4 hbel4)
                    have O4 := Lib.hid hown4
                    have E4 := Lib.hid (E3.out.trans hbel4)
                    have z4 := E4.out.size
                    clear hown4 hbel4 O3
                    rw [← vals_snoc] at O4
                    clear c0 c1 c2 c3
                    go_wp2
                    go_roundw
                    case rel => exact ⟨c + 1, q + 4, by omega, Lib.hid (by have := HQ.out; omega), by go_num, by rw [KK.out]; exact O4.out, E4.out⟩
                    case measure => simp [intOf]; omega
                  · obtain rfl : c = 4 := by omega
                    obtain rfl : q = 16 := HQ.out
                    obtain ⟨gm, cm, rfl, -, -, -, hH⟩ := holds_of_owns hown (by omega)
                    rw [take_all16 lm] at hH
                    have R4 := R3.out.after (by have := HLE.out; omega) hbel
                    have CA := radd_any gk r gB cB gb cb al mx gm cm j _ R4.key hH lm hm.2 HAL.out (by have := HLE.out; omega) (by omega)
                    rw [xor_map mx al (ek K j) j (fun i hi => HSA.out j i hj hi), ← HSA1.out hjr] at CA
                    have CA := Lib.hid CA
                    have R4 := Lib.hid R4
                    clear hown hbel hH R3 HT
                    go_wp2_with fail
                    refine CA.out.mono ?_
                    rintro e w1 ⟨g1, c1, rfl, hc1, hH, hbel⟩
                    have R5 := Lib.hid (R4.out.after (by have := HLE.out; omega) hbel)
                    have H5 := Lib.hid hH
                    clear hbel hH CA R4
                    go_wp2
                    go_roundw
                    case rel => exact ⟨kk + 1, j + 1, g1, c1, by omega, Lib.hid (by have := HJ.out; omega), by go_num, rfl, H5.out, R5.out⟩
                    case measure => simp [intOf]; omega
              · as_aux_lemma =>
                have tr : decide ((j : Int) < (r : Int)) = false := by simp; omega
                have tr' : decide (j < r) = false := by simp; omega
                have CA := radd_any gk r gB cB gb cb al t gt ct j wt R3.out.key HT.out lt' ht.2 HAL.out (by have := HLE.out; omega) (by omega)
                rw [xor_map t al (ek K j) j (fun i hi => HSA.out j i hj hi), ← HSB1.out hjr] at CA
                have CA := Lib.hid CA
                go_wp2_with fail
                refine CA.out.mono ?_
                rintro e w1 ⟨g1, c1, rfl, hc1, hH, hbel⟩
                have R5 := Lib.hid (R3.out.after (by have := HLE.out; omega) hbel)
                have H5 := Lib.hid hH
                clear hbel hH CA R3 HT hrd3
                go_wp2
                go_roundw
                case rel => exact ⟨kk + 1, j + 1, g1, c1, by omega, Lib.hid (by have := HJ.out; omega), by go_num, rfl, H5.out, R5.out⟩
                case measure => simp [intOf]; omega
        · as_aux_lemma =>
          obtain rfl : kk = r := by omega
          have tj : decide (j ≤ kk) = false := by have := HJ.out; simp; omega
          rw [← HE.out] at hx hS
          generalize enc kk K b = x at *
          have lx := hx.1
          have N0 := Holds.new wo 34 .u8 (zs 16)
          have N1 := Lib.hid N0
          have N2 := Lib.hid (hS.alloc (.cells (na .u8 (zs 16)) 34))
          have N3 := Lib.hid (hR.answer.alloc (.cells (na .u8 (zs 16)) 34))
          have N4 := Lib.hid (hR.bel.alloc hR.bel.size (.cells (na .u8 (zs 16)) 34))
          have hgs := hS.lt (by omega)
          have hga := hR.answer.lt (by rw [length_zs]; omega)
          have hwz := hR.bel.size
          clear N0 hS hR
          go_wp2_with (first | (with_reducible refine Arr.alloc (t := 34) _ z16 ?_) | fail)
          generalize wo.alloc (.cells (na .u8 (zs 16)) 34) = wa at *
          generalize wo.heap.size = go' at *
          go_loopw [19] (fun i wf => ∃ i0 : Nat, i0 ≤ 16 ∧ i = .int .i64 (i0 : Nat) ∧ Holds wf go' .u8 (upto (fun i => x.getD i 0) (fun _ => 0) 16 i0) ∧ Holds wf gs .i64 x ∧ Holds wf (w.heap.size + 1) .u8 (zs 16) ∧ Below w.heap.size w wf) (fun i _ => 16 - (intOf i).toNat)
          case atStart => exact ⟨0, by omega, rfl, by rw [upto_noughts]; exact N1.out, N2.out, N3.out, N4.out⟩
          case round =>
            clear N1 N2 N3 N4
            obtain ⟨i, hi, rfl, h1, h2, h3, h4⟩ := hrel
            have H1 := Lib.hid h1
            have H2 := Lib.hid h2
            have H3 := Lib.hid h3
            have H4 := Lib.hid h4
            clear h1 h2 h3 h4
            by_cases hit : i < 16
            · have ti : decide ((i : Int) < 16) = true := by simp; omega
              have ii : (i : Int) < 16 := by omega
              have HSu := upto_succ (fun i => x.getD i 0) (fun _ => 0) 16 i hit
              have lu := length_upto (fun i => x.getD i 0) (fun _ => 0) 16 i
              have hxv := hx.2 i
              have cx := H2.out.cell i (by omega)
              generalize upto (fun i => x.getD i 0) (fun _ => 0) 16 i = u at *
              have co := H1.out.cell i (by omega)
              have fo := H1.out.frozen i (by omega)
              have X1 := H1.out.set i (x.getD i 0) (by omega)
              rw [← HSu] at X1
              have X2 := H2.out.beside ⟨go', i, none⟩ (.int .u8 ((x.getD i 0 : Nat) : Int)) (show go' ≠ gs by omega)
              have X3 := H3.out.beside ⟨go', i, none⟩ (.int .u8 ((x.getD i 0 : Nat) : Int)) (show go' ≠ w.heap.size + 1 by omega)
              have X4 := H4.out.setCell (p := ⟨go', i, none⟩) hwz (.int .u8 ((x.getD i 0 : Nat) : Int))
              have X1 := Lib.hid X1
              have X2 := Lib.hid X2
              have X3 := Lib.hid X3
              have X4 := Lib.hid X4
              clear HSu
              generalize x.getD i 0 = xv at *
              generalize u.getD i 0 = old at *
              have w1 : (xv : Int) % 256 = (xv : Int) := by omega
              go_wp2
              go_roundw
              case rel => exact ⟨i + 1, by omega, by go_num, X1.out, X2.out, X3.out, X4.out⟩
              case measure => simp [intOf]; omega
            · obtain rfl : i = 16 := by omega
              have ex : upto (fun i => x.getD i 0) (fun _ => 0) 16 16 = x := by
                refine list_ext (length_upto ..) lx fun i hi => ?_
                rw [upto_get _ _ _ _ _ hi, if_pos hi]
              rw [ex] at H1
              clear ex
              go_wp2_with (first | (with_reducible refine Arr.load o16 go' x lx H1.out rfl ?_) | (with_reducible refine Arr.store o16 (w.heap.size + 1) (zs 16) x (length_zs _) H3.out lx rfl rfl ?_))
              exact bodyPost_ret (v := .agg (na .u8 x)) (results_arr o16 rfl _ _ (w.heap.size + 1) x lx (H3.out.put _ (by rw [lx, length_zs])) rfl) rfl ⟨rfl, below_setCells (by omega) _ _ _ H4.out⟩
end Go.Proofs.YtdjknmnmacppdaaDoor
