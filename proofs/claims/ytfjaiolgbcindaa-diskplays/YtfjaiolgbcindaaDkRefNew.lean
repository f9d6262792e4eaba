/-
  Contract of the reference's New. Conditions: the numbers are those of a disk that may be. (Written by tools/gen_dkrefnew.py.)
-/
import Derived.Test.YtfjaiolgbcindaaDkRefO2
import Derived.Test.YtfjaiolgbcindaaDkAwake
namespace Go.Proofs.Ytfjaiolgbcindaa
open Go.RowKit Arr Dsk
set_option linter.unusedSimpArgs false

/-- A slice of bytes that was made. -/
def mkd (z b : Nat) : Sl := ⟨some ⟨b, 0, none⟩, z, zs z⟩
theorem mkd_v (z b : Nat) : (mkd z b).v = .slice (some ⟨b, 0, none⟩) z z := by show Value.slice _ (zs z).length z = _; rw [length_zs]; rfl
/-- A disk of the reference as New makes it: k of its sectors are there. -/
structure Mk (w wr : World) (g n z k : Nat) (v : Value) (bl : List Nat) : Prop where
  g0 : g = w.heap.size
  gl : g < wr.heap.size
  c0 : wr.cell? ⟨g, 0, none⟩ = some v
  c1 : wr.cell? ⟨g, 1, none⟩ = some (.int .i64 (z : Int))
  c2 : wr.cell? ⟨g, 2, none⟩ = some (.slice none 0 0)
  c3 : wr.cell? ⟨g, 3, none⟩ = some (.slice none 0 0)
  c4 : wr.cell? ⟨g, 4, none⟩ = some (.bool false)
  c5 : wr.cell? ⟨g, 5, none⟩ = some (.int .i64 (-1))
  c6 : wr.cell? ⟨g, 6, none⟩ = some (.slice none 0 0)
  c7 : wr.cell? ⟨g, 7, none⟩ = some (.int .i64 0)
  free : ∀ j, wr.frozen? ⟨g, j, none⟩ = false
  len : bl.length = k
  row : wr.ownsRow 0 32 1 v k (bl.map fun b => Value.slice (some ⟨b, 0, none⟩) z z)
  vk : ∀ b, v.ownBlock = some b → g < b
  bs : ∀ b, b ∈ bl → g < b ∧ b < wr.heap.size ∧ v.ownBlock ≠ some b ∧ Holds wr b .u8 (zs z)
  bel : Below w.heap.size w wr
section
variable {w wr : World} {g n z k : Nat} {v : Value} {bl : List Nat}
theorem Mk.new (w : World) (n z : Nat) : Mk w (w.alloc (.cells #[.slice none 0 0, .int .i64 (z : Int), .slice none 0 0, .slice none 0 0, .bool false, .int .i64 (-1), .slice none 0 0, .int .i64 0] 40)) w.heap.size n z 0 (.slice none 0 0) [] := by
  have hlast := heap_alloc_last w (.cells #[.slice none 0 0, .int .i64 (z : Int), .slice none 0 0, .slice none 0 0, .bool false, .int .i64 (-1), .slice none 0 0, .int .i64 0] 40)
  refine ⟨rfl, by simp, ?_, ?_, ?_, ?_, ?_, ?_, ?_, ?_, fun j => frozen_of_row _ _ _ _ _ hlast, rfl, World.ownsRow_nil _ _ _ _, fun b hb => (by cases hb), fun b hb => (by cases hb), below_alloc w _⟩ <;> (rw [cell_of_row _ _ _ _ _ _ hlast]; rfl)
theorem below_draw {B : Nat} {a w : World} (h : Below B a w) (n : Nat) : Below B a (w.drewN n) := h.trans ⟨rfl, rfl, rfl, Nat.le_refl _, fun _ _ => rfl⟩
theorem Mk.drew (h : Mk w wr g n z k v bl) (m : Nat) : Mk w (wr.drewN m) g n z k v bl :=
  ⟨h.g0, h.gl, h.c0, h.c1, h.c2, h.c3, h.c4, h.c5, h.c6, h.c7, h.free, h.len, owns_touchN (F := fun _ => False) h.row (touch_none _ wr m) (fun _ _ e => e), h.vk, fun b hb => by
    obtain ⟨h1, h2, h3, h4⟩ := h.bs b hb
    exact ⟨h1, h2, h3, h4.touchX (F := fun _ => False) (touch_none _ wr m) h2 (fun e => e)⟩, below_draw (B := w.heap.size) h.bel m⟩
/-- One sector more. -/
theorem Mk.more (h : Mk w wr g n z k v bl) {w4 : World} {o : Obj} (hgr : ((wr.alloc (.cells (na .u8 (zs z)) 5)).alloc o).grownBy w4 v.ownBlock) {v' : Value}
    (hown : w4.ownsRow 0 32 1 v' (k + 1) ((bl.map fun b => Value.slice (some ⟨b, 0, none⟩) z z) ++ [.slice (some ⟨wr.heap.size, 0, none⟩) z z])) (hat : v'.ownBlock = v.ownBlock ∨ v'.ownBlock = some ((wr.alloc (.cells (na .u8 (zs z)) 5)).alloc o).heap.size) :
    w4.cell? ⟨g, 0, none⟩ = some v ∧ w4.frozen? ⟨g, 0, none⟩ = false ∧ Mk w (w4.setCell ⟨g, 0, none⟩ v') g n z (k + 1) v' (bl ++ [wr.heap.size]) := by
  have hgl := h.gl
  have hg0 := h.g0
  have T2 : Touch (fun b => v.ownBlock = some b) wr w4 := (Touch.of (fun b => v.ownBlock = some b) (((Below.refl _ wr).alloc (Nat.le_refl _) _).alloc (by simp) o)).grown hgr (fun b hb => .inl hb)
  have ng : ¬ v.ownBlock = some g := fun e => by have := h.vk g e; omega
  have hs4 := hgr.size
  have hs1 : ((wr.alloc (.cells (na .u8 (zs z)) 5)).alloc o).heap.size = wr.heap.size + 2 := by simp
  have c : ∀ j, w4.cell? ⟨g, j, none⟩ = wr.cell? ⟨g, j, none⟩ := fun j => T2.cell (p := ⟨g, j, none⟩) hgl ng
  have c' : ∀ j, j ≠ 0 → (w4.setCell ⟨g, 0, none⟩ v').cell? ⟨g, j, none⟩ = wr.cell? ⟨g, j, none⟩ := fun j hj => (World.cell?_setCell_other _ _ _ _ (fun e => hj (by simpa using (Addr.mk.inj e).2.1.symm))).trans (c j)
  have f : ∀ j, w4.frozen? ⟨g, j, none⟩ = false := fun j => (T2.frozen (p := ⟨g, j, none⟩) hgl ng).trans (h.free j)
  have nv : v.ownBlock ≠ some wr.heap.size := fun e => by have := (h.row.lt _ e).2; omega
  have vk' : ∀ b, v'.ownBlock = some b → g < b ∧ (v.ownBlock = some b ∨ wr.heap.size + 2 ≤ b) := fun b hb => by
    rcases hat with h1 | h1
    · rw [h1] at hb; exact ⟨h.vk b hb, .inl hb⟩
    · rw [h1] at hb; simp only [Option.some.injEq] at hb; omega
  have nv' : v'.ownBlock ≠ some g := fun e => by have := (vk' g e).1; omega
  have Tg : Touch (fun b => b = g) w4 (w4.setCell ⟨g, 0, none⟩ v') := (Touch.refl (fun b => b = g) w4).setCell (b := g) (.inl rfl) 0 v'
  have hN : Holds w4 wr.heap.size .u8 (zs z) := by
    have h0 := (Holds.new wr 5 .u8 (zs z)).alloc o
    refine h0.touchX (F := fun b => v.ownBlock = some b) ((Touch.refl _ _).grown hgr (fun b hb => .inl hb)) (by simp; omega) nv
  refine ⟨(c 0).trans h.c0, f 0, hg0, by simp; omega, World.cell?_setCell_same _ _ _ ((c 0).trans h.c0), (c' 1 (by omega)).trans h.c1, (c' 2 (by omega)).trans h.c2, (c' 3 (by omega)).trans h.c3, (c' 4 (by omega)).trans h.c4, (c' 5 (by omega)).trans h.c5, (c' 6 (by omega)).trans h.c6, (c' 7 (by omega)).trans h.c7, fun j => (World.frozen?_setCell ..).trans (f j), by rw [List.length_append, h.len]; rfl, ?_, fun b hb => (vk' b hb).1, fun b hb => ?_, ?_⟩
  · rw [List.map_append]
    exact owns_touchN hown Tg (fun b hb e => nv' (e ▸ hb))
  · simp only [World.size_setCell]
    rcases List.mem_append.1 hb with hb | hb
    · obtain ⟨h1, h2, h3, h4⟩ := h.bs b hb
      refine ⟨h1, by omega, fun e => ?_, (h4.touchX T2 h2 h3).touchX Tg (by omega) (by omega)⟩
      rcases (vk' b e).2 with h5 | h5
      · exact h3 h5
      · omega
    · rw [List.mem_singleton] at hb
      subst hb
      refine ⟨hgl, by omega, fun e => ?_, hN.touchX Tg (by omega) (by omega)⟩
      rcases (vk' _ e).2 with h5 | h5
      · exact nv h5
      · omega
  · have hbz := h.bel.size
    exact ((((h.bel.alloc hbz _).alloc (by simp; omega) o).grown hgr (by omega) (fun b hb => by have := h.vk b hb; omega))).setCell (p := ⟨g, 0, none⟩) (by show w.heap.size ≤ g; omega) v'
theorem Mk.rdk (h : Mk w wr g n z n v bl) (h0 : 0 < n) (h1 : n ≤ 1048576) (h2 : 32 ≤ z) (h3 : z ≤ 256) (B : Nat) (hB : B ≤ w.heap.size) : ∃ ρ, Rdk wr g B ρ (St.new n z) ∧ ∀ k, ρ k ≠ 0 → w.heap.size ≤ k := by
  have hgl := h.gl
  have hg0 := h.g0
  obtain ⟨ρ, hρ⟩ : ∃ ρ : Nat → Nat, ρ = fun k => if k = g then 1 else if v.ownBlock = some k then 2 else if k ∈ bl then 5 else 0 := ⟨_, rfl⟩
  have hk : ∀ k, ρ k ≠ 0 → g ≤ k ∧ k < wr.heap.size := fun k hk => by
    rw [hρ] at hk
    simp only at hk
    split at hk
    · omega
    · split at hk
      · rename_i e; have := h.vk k e; have := (h.row.lt k e).2; omega
      · split at hk
        · rename_i e; have := h.bs k e; omega
        · omega
  have e1 : (bl.map (mkd z)).length = n := by rw [List.length_map, h.len]
  have e2 : (bl.map (mkd z)).map Sl.v = bl.map fun b => Value.slice (some ⟨b, 0, none⟩) z z := by rw [List.map_map]; exact List.map_congr_left (fun b _ => mkd_v z b)
  refine ⟨ρ, ⟨v, .slice none 0 0, .slice none 0 0, bl.map (mkd z), [], none, 0, ?_, fun k hk => ?_, fun k hk' => (hk k hk').2, fun k hk' => by have := (hk k hk').1; omega, h.c0, h.c1, h.c2, h.c3, h.c4, h.c5, h.c6, h.c7, h.free, by rw [e1, e2]; exact h.row, World.ownsRow_nil _ _ _ _, World.ownsRow_nil _ _ _ _, fun b hb => ?_, fun b hb => (by cases hb), fun b hb => (by cases hb), ?_, rfl, fun x hx => ?_, fun x hx => (by cases hx), Bls.nil _ _ _, Wf.new n z h0 h1 h2 h3⟩, fun k hk' => by have := (hk k hk').1; omega⟩
  · rw [hρ]; simp
  · rw [hρ] at hk
    simp only at hk
    split at hk
    · assumption
    · split at hk
      · omega
      · split at hk <;> omega
  · have := h.vk b hb
    rw [hρ]; simp only [if_neg (by omega : ¬ b = g), if_pos hb]
  · rw [List.map_map]
    show bl.map (fun _ => zs z) = List.replicate n (List.replicate z 0)
    rw [List.map_const', h.len]; rfl
  · obtain ⟨b, hb, rfl⟩ := List.mem_map.1 hx
    obtain ⟨b1, b2, b3, b4⟩ := h.bs b hb
    refine ⟨by show (zs z).length ≤ z; rw [length_zs]; exact Nat.le_refl _, fun e => (by cases e), byl_holds b4 (zs_bytes z) (.inr ?_)⟩
    rw [hρ]; simp only [if_neg (by omega : ¬ b = g), if_neg b3, if_pos hb]
/-- What the reference's New leaves. -/
def RNewP (n z B : Nat) (w : World) (en : Ending) (w' : World) : Prop := ∃ g ρ, en = .returned (.pointer (some ⟨g, 0, none⟩)) ∧ Rdk w' g B ρ (St.new n z) ∧ (∀ k, ρ k ≠ 0 → w.heap.size ≤ k) ∧ Below w.heap.size w w'
set_option maxRecDepth 10000 in
set_option maxHeartbeats 2000000 in
theorem rnew_any (w : World) (n z B : Nat) (hB : B ≤ w.heap.size) (h0 : 0 < n) (h1 : n ≤ 1048576) (h2 : 32 ≤ z) (h3 : z ≤ 256) : Calls Try.prog 8 #[.int .i64 (n : Int), .int .i64 (z : Int)] w (RNewP n z B w) := by
  have FX := Lib.hid (fun (wr : World) (v : Value) (bl : List Nat) (h : Mk w wr w.heap.size n z n v bl) => (h.rdk h0 h1 h2 h3 B hB))
  have M0 := Lib.hid (Mk.new w n z)
  have hz : z ≤ 1099511627776 := by omega
  have hn : n ≤ 4294967295 := by omega
  clear h0 h1 h2 h3 hB
  obtain ⟨g, hg⟩ : ∃ g, g = w.heap.size := ⟨_, rfl⟩
  have HG := Lib.hid hg
  rw [← hg] at M0 FX
  go_enter Try.func8, Try.ntmps8
  go_wp2
  rw [← hg]
  clear hg
  go_loopw [6] (fun iv wr => ∃ (k : Nat) (v : Value) (bl : List Nat), k ≤ n ∧ iv = .int .i64 k ∧ Mk w wr g n z k v bl) (fun iv _ => n - (intOf iv).toNat)
  case atStart => exact ⟨0, _, [], Nat.zero_le _, rfl, M0.out⟩
  case round =>
    obtain ⟨k, v, bl, hk, rfl, hm⟩ := hrel
    have HM := Lib.hid hm
    have a0 := hm.c0
    have wk : IntKind.i64.wrap ((k : Int) + 1) = (k : Int) + 1 := by rw [IntKind.wrap_i64]; omega
    clear hm
    by_cases hlt : k < n
    · have t1 : decide ((k : Int) < (n : Int)) = true := by simp; omega
      go_wp2
      refine wp_region_L [(8, (fun w' => w'.cell? ⟨g, 0, none⟩ = some v))] 12 #[false, false, false, false, false, false, false, false, false, false, false, false] (by kernel_rfl) (by rfl) (by kernel_rfl) (by intro p hp; simp only [List.mem_cons, List.not_mem_nil, or_false] at hp; rcases hp with rfl; exact a0) (fun hHeld => ?_)
      refine wpAnyL_take (i := 0) (v := ?_) rfl (by kernel_rfl) (by kernel_rfl) (by kernel_rfl) (by rfl) (fun _ _ _ h => h) (Or.inl ⟨by rfl, ?_⟩) hHeld (fun hHeld2 => ?_)
      rotate_left
      · (intro wz hSw; go_simp; try with_reducible rfl)
      clear hHeld; have hHeld := hHeld2; clear hHeld2
      try simp only [List.getElem_toArray, List.getElem_cons_zero, List.getElem_cons_succ, Act.put, List.setIfInBounds_toArray, List.set_cons_zero, List.set_cons_succ]
      refine wpAnyL_take (i := 1) (v := ?_) rfl (by kernel_rfl) (by kernel_rfl) (by kernel_rfl) (by rfl) (fun _ _ _ h => h) (Or.inl ⟨by rfl, ?_⟩) hHeld (fun hHeld2 => ?_)
      rotate_left
      · (intro wz hSw; go_simp; try with_reducible rfl)
      clear hHeld; have hHeld := hHeld2; clear hHeld2
      try simp only [List.getElem_toArray, List.getElem_cons_zero, List.getElem_cons_succ, Act.put, List.setIfInBounds_toArray, List.set_cons_zero, List.set_cons_succ]
      refine wpAnyL_take (i := 2) (v := ?_) rfl (by kernel_rfl) (by kernel_rfl) (by kernel_rfl) (by rfl) (fun _ _ _ h => h) (Or.inl ⟨by rfl, ?_⟩) hHeld (fun hHeld2 => ?_)
      rotate_left
      · (intro wz hSw; go_simp; try with_reducible rfl)
      clear hHeld; have hHeld := hHeld2; clear hHeld2
      try simp only [List.getElem_toArray, List.getElem_cons_zero, List.getElem_cons_succ, Act.put, List.setIfInBounds_toArray, List.set_cons_zero, List.set_cons_succ]
      refine wpAnyL_take (i := 3) (v := ?_) rfl (by kernel_rfl) (by kernel_rfl) (by kernel_rfl) (by rfl) (fun _ _ _ h => h) (Or.inl ⟨by rfl, ?_⟩) hHeld (fun hHeld2 => ?_)
      rotate_left
      · (intro wz hSw; go_simp; try with_reducible rfl)
      clear hHeld; have hHeld := hHeld2; clear hHeld2
      try simp only [List.getElem_toArray, List.getElem_cons_zero, List.getElem_cons_succ, Act.put, List.setIfInBounds_toArray, List.set_cons_zero, List.set_cons_succ]
      refine wpAnyL_take (i := 4) (v := ?_) rfl (by kernel_rfl) (by kernel_rfl) (by kernel_rfl) (by rfl) (fun _ _ _ h => h) (Or.inl ⟨by rfl, ?_⟩) hHeld (fun hHeld2 => ?_)
      rotate_left
      · (intro wz hSw; have hq : wz.cell? ⟨g, 0, none⟩ = some v := hSw.get _ (List.Mem.head _) 3 (by kernel_rfl); go_simp; try with_reducible rfl)
      clear hHeld; have hHeld := hHeld2; clear hHeld2
      try simp only [List.getElem_toArray, List.getElem_cons_zero, List.getElem_cons_succ, Act.put, List.setIfInBounds_toArray, List.set_cons_zero, List.set_cons_succ]
      refine wpAnyL_take (i := 5) (v := ?_) rfl (by kernel_rfl) (by kernel_rfl) (by kernel_rfl) (by rfl) (fun _ _ _ h => h) (Or.inl ⟨by rfl, ?_⟩) hHeld (fun hHeld2 => ?_)
      rotate_left
      · (intro wz hSw; go_simp; try with_reducible rfl)
      clear hHeld; have hHeld := hHeld2; clear hHeld2
      try simp only [List.getElem_toArray, List.getElem_cons_zero, List.getElem_cons_succ, Act.put, List.setIfInBounds_toArray, List.set_cons_zero, List.set_cons_succ]
      have MD := Lib.hid (HM.out.drew 1)
      have a1 : (wr.drewN 1).cell? ⟨g, 0, none⟩ = some v := MD.out.c0
      have mk := mk_bytes z hz (wr.drewN 1)
      refine wpAnyL_one (i := 6) (by kernel_rfl) rfl rfl hHeld (fun K hK => ?_)
      go_simp
      generalize hwd : wr.drewN 1 = wd at *
      try rw [show wr.drew = wd from hwd]
      rw [mk]
      go_simp
      have b1 : (wd.alloc (.cells (na .u8 (zs z)) 5)).cell? ⟨g, 0, none⟩ = some v := ((below_alloc wd _).cell (p := ⟨g, 0, none⟩) MD.out.gl).trans a1
      refine hK.out _ _ (by intro p hp hl; simp only [List.mem_cons, List.not_mem_nil, or_false] at hp; rcases hp with rfl; exact b1) (fun hHeld2 => ?_)
      clear hHeld hK K ; have hHeld := hHeld2; clear hHeld2
      try simp only [List.getElem_toArray, List.getElem_cons_zero, List.getElem_cons_succ, Act.put, List.setIfInBounds_toArray, List.set_cons_zero, List.set_cons_succ]
      refine wpAnyL_one (i := 7) (by kernel_rfl) rfl rfl hHeld (fun K hK => ?_)
      go_simp
      have b2 : ((wd.alloc (.cells (na .u8 (zs z)) 5)).alloc (.cells #[.slice (some ⟨wd.heap.size, 0, none⟩) z z] 32)).cell? ⟨g, 0, none⟩ = some v := ((below_alloc (wd.alloc (.cells (na .u8 (zs z)) 5)) _).cell (p := ⟨g, 0, none⟩) (lt_of_cell b1)).trans b1
      refine hK.out _ _ (by intro p hp hl; simp only [List.mem_cons, List.not_mem_nil, or_false] at hp; rcases hp with rfl; exact b2) (fun hHeld2 => ?_)
      clear hHeld hK K ; have hHeld := hHeld2; clear hHeld2
      try simp only [List.getElem_toArray, List.getElem_cons_zero, List.getElem_cons_succ, Act.put, List.setIfInBounds_toArray, List.set_cons_zero, List.set_cons_succ]
      obtain ⟨v', w4, hr, hown, hgr, hat⟩ := app1_run (w := wd.alloc (.cells (na .u8 (zs z)) 5)) (ty := 37) Try.underlying37 info_slb rfl (by decide) (MD.out.row.alloc _) (by omega) (.slice (some ⟨wd.heap.size, 0, none⟩) z z) rfl
      obtain ⟨A7, c7, rfl, _⟩ := own_form hown
      have FM := MD.out.more hgr hown (by rw [World.size_alloc]; exact hat)
      have b3 := FM.1
      have b4 := FM.2.1
      have MM := Lib.hid FM.2.2
      clear FM
      refine wpAnyL_one (i := 8) (by kernel_rfl) rfl rfl hHeld (fun K hK => ?_)
      refine wp_app (.tmp 19) (.tmp 22) 37 rfl v _ rfl (by show Value.slice (some ⟨wd.heap.size + 1, 0, none⟩) 1 1 = _; rw [World.size_alloc]) hr ?_
      refine hK.out _ _ (by intro p hp hl; simp only [List.mem_cons, List.not_mem_nil, or_false] at hp; rcases hp with rfl; exact Bool.noConfusion (hl.symm.trans (show _ = true by kernel_rfl))) (fun hHeld2 => ?_)
      clear hHeld hK K hr hown hgr hat; have hHeld := hHeld2; clear hHeld2
      try simp only [List.getElem_toArray, List.getElem_cons_zero, List.getElem_cons_succ, Act.put, List.setIfInBounds_toArray, List.set_cons_zero, List.set_cons_succ]
      refine wpAnyL_one (i := 9) (by kernel_rfl) rfl rfl hHeld (fun K hK => ?_)
      go_simp
      refine hK.out _ _ (by intro p hp hl; simp only [List.mem_cons, List.not_mem_nil, or_false] at hp; rcases hp with rfl; exact Bool.noConfusion (hl.symm.trans (show _ = true by kernel_rfl))) (fun hHeld2 => ?_)
      clear hHeld hK K ; have hHeld := hHeld2; clear hHeld2
      try simp only [List.getElem_toArray, List.getElem_cons_zero, List.getElem_cons_succ, Act.put, List.setIfInBounds_toArray, List.set_cons_zero, List.set_cons_succ]
      refine wpAnyL_one (i := 10) (by kernel_rfl) rfl rfl hHeld (fun K hK => ?_)
      go_simp
      refine hK.out _ _ (by intro p hp hl; simp only [List.mem_cons, List.not_mem_nil, or_false] at hp; rcases hp with rfl; exact Bool.noConfusion (hl.symm.trans (show _ = true by kernel_rfl))) (fun hHeld2 => ?_)
      clear hHeld hK K ; have hHeld := hHeld2; clear hHeld2
      try simp only [List.getElem_toArray, List.getElem_cons_zero, List.getElem_cons_succ, Act.put, List.setIfInBounds_toArray, List.set_cons_zero, List.set_cons_succ]
      refine wpAnyL_one (i := 11) (by kernel_rfl) rfl rfl hHeld (fun K hK => ?_)
      go_simp
      refine hK.out _ _ (by intro p hp hl; simp only [List.mem_cons, List.not_mem_nil, or_false] at hp; rcases hp with rfl; exact Bool.noConfusion (hl.symm.trans (show _ = true by kernel_rfl))) (fun hHeld2 => ?_)
      clear hHeld hK K hHeld2
      try simp only [List.getElem_toArray, List.getElem_cons_zero, List.getElem_cons_succ, Act.put]
      refine wpAnyL_done (by kernel_rfl) ?_ _
      clear b1 b2 b3 b4 a0 a1
      go_wp2
      go_roundw
      case rel => exact ⟨k + 1, _, _, by omega, by go_num, MM.out⟩
      case measure => simp [intOf]; omega
    · obtain rfl : k = n := by omega
      have t1 : decide ((k : Int) < (k : Int)) = false := by simp
      clear a0
      go_wp2
      go_ret
      have HM2 := HM.out
      rw [HG.out] at HM2
      have FX2 := FX.out
      rw [HG.out] at FX2
      obtain ⟨ρ, hd, hl⟩ := FX2 _ _ _ HM2
      exact ⟨g, ρ, rfl, by rw [HG.out]; exact hd, hl, HM.out.bel⟩
end
end Go.Proofs.Ytfjaiolgbcindaa
