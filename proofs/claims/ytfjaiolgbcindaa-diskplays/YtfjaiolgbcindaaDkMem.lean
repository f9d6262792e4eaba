/-
  Disks in memory: the blocks of a disk by their kinds, and what changes leave of it. No conditions.
-/
import Derived.Test.YtfjaiolgbcindaaDkNum
import Derived.Test.YtfjaiolgbcindaaAppFoot
import Derived.Test.YtfjaiolgbcindaaArrMore
import Derived.Laws.OwnMore
namespace Go.Proofs.Ytfjaiolgbcindaa
open Go.RowKit Arr Dsk

/-- A slice of bytes that lies in blocks of one kind. -/
def ByL (w : World) (ok : Nat → Prop) (A : Option Addr) (bs : List Nat) : Prop :=
  (∀ x, x ∈ bs → x < 256) ∧ (0 < bs.length → ∃ b off, A = some ⟨b, off, none⟩ ∧ b < w.heap.size ∧ ok b ∧ ∀ i, i < bs.length → w.cell? ⟨b, off + i, none⟩ = some (.int .u8 ((bs.getD i 0 : Nat) : Int)))
/-- The same of bools. -/
def Bls (w : World) (ok : Nat → Prop) (A : Option Addr) (l : List Bool) : Prop :=
  0 < l.length → ∃ b off, A = some ⟨b, off, none⟩ ∧ b < w.heap.size ∧ ok b ∧ ∀ i, i < l.length → w.cell? ⟨b, off + i, none⟩ = some (.bool (l.getD i false))
section
variable {ok ok' F : Nat → Prop} {w w' : World} {A : Option Addr} {bs : List Nat} {l : List Bool}
theorem ByL.touch (h : ByL w ok A bs) (ht : Touch F w w') (hd : ∀ b, ok b → ¬ F b) (hk : ∀ b, b < w.heap.size → ok b → ok' b) : ByL w' ok' A bs :=
  ⟨h.1, fun hl => by
    obtain ⟨b, off, e, h1, h2, hc⟩ := h.2 hl
    exact ⟨b, off, e, Nat.lt_of_lt_of_le h1 ht.size, hk b h1 h2, fun i hi => (ht.cell (p := ⟨b, off + i, none⟩) h1 (hd b h2)).trans (hc i hi)⟩⟩
theorem Bls.touch (h : Bls w ok A l) (ht : Touch F w w') (hd : ∀ b, ok b → ¬ F b) (hk : ∀ b, b < w.heap.size → ok b → ok' b) : Bls w' ok' A l := fun hl => by
    obtain ⟨b, off, e, h1, h2, hc⟩ := h hl
    exact ⟨b, off, e, Nat.lt_of_lt_of_le h1 ht.size, hk b h1 h2, fun i hi => (ht.cell (p := ⟨b, off + i, none⟩) h1 (hd b h2)).trans (hc i hi)⟩
theorem ByL.nil (w : World) (ok : Nat → Prop) (A : Option Addr) : ByL w ok A [] := ⟨by simp, by simp⟩
theorem Bls.nil (w : World) (ok : Nat → Prop) (A : Option Addr) : Bls w ok A [] := by simp [Bls]
theorem ByL.bys (h : ByL w ok A bs) : Bys w w.heap.size A bs := ⟨h.1, fun hl => by obtain ⟨b, off, e, h1, _, hc⟩ := h.2 hl; exact ⟨b, off, e, h1, hc⟩⟩
theorem ByL.of {B : Nat} (h : Bys w B A bs) (hB : ∀ b, b < B → ok b) (hw : B ≤ w.heap.size) : ByL w ok A bs :=
  ⟨h.1, fun hl => by obtain ⟨b, off, e, hb, hc⟩ := h.2 hl; exact ⟨b, off, e, by omega, hB b hb, hc⟩⟩
theorem Arr.Holds.touchX {kb : Nat} {k : IntKind} {l : List Nat} (h : Holds w kb k l) (ht : Touch F w w') (h1 : kb < w.heap.size) (h2 : ¬ F kb) : Holds w' kb k l :=
  ⟨fun j v hv => (ht.cell (p := ⟨kb, 0 + j, none⟩) h1 h2).trans (h.1 j v hv), fun j hj => by
    rw [ht.cell (p := ⟨kb, 0 + j, none⟩) h1 h2, ht.frozen (p := ⟨kb, 0 + j, none⟩) h1 h2]; exact h.2 j hj⟩
theorem owns_touchN {base e n z : Nat} {v : Value} {xs : List Value} (h : w.ownsRow base e z v n xs) (ht : Touch F w w') (hd : ∀ b, v.ownBlock = some b → ¬ F b) : w'.ownsRow base e z v n xs := by
  obtain ⟨hl, hor⟩ := h
  refine ⟨hl, ?_⟩
  rcases hor with h | ⟨g', cap, cur, e, h1, h2, h3⟩
  · exact .inl h
  · refine .inr ⟨g', cap, cur, e, h1, ?_, h3⟩
    rw [ht.block g' (Array.getElem?_eq_some_iff.1 h2).1 (hd g' (by rw [e]; rfl))]; exact h2
theorem Touch.setCells (h : Touch F w w') {b : Nat} (hb : F b) (vs : List Value) (o : Nat) : Touch F w (w'.setCells b o vs) :=
  h.trans (F' := F) (Touch.only ((Only.refl b w').setCells vs o) hb) (fun _ h => .inl h)
theorem touch_none (F : Nat → Prop) (w : World) (n : Nat) : Touch F w (w.drewN n) := (Touch.refl F w).drewN n
end

/-- A write that waits: where its bytes lie. -/
structure Wt where
  A : Option Addr
  c : Nat
  i : Nat
  bs : List Nat
def Wt.pr (x : Wt) : Nat × List Nat := (x.i, x.bs)
def Wt.cs (x : Wt) : List Value := [.int .i64 (x.i : Int), .slice x.A x.bs.length x.c]
def hds (ws : List Wt) : List Value := ws.flatMap Wt.cs
theorem hds_len : ∀ (ws : List Wt), (hds ws).length = ws.length * 2
  | [] => rfl
  | x :: ws => by have := hds_len ws; simp only [hds] at this ⊢; rw [List.flatMap_cons, List.length_append, this, List.length_cons, Nat.succ_mul]; simp [Wt.cs]; omega
theorem hds_snoc (ws : List Wt) (x : Wt) : hds (ws ++ [x]) = hds ws ++ x.cs := by simp [hds]
theorem hds_get : ∀ (ws : List Wt) (k : Nat) (h : k < ws.length), (hds ws)[k * 2]? = some (.int .i64 (ws[k].i : Int)) ∧ (hds ws)[k * 2 + 1]? = some (.slice ws[k].A ws[k].bs.length ws[k].c)
  | [], k, h => by simp at h
  | x :: ws, 0, _ => by simp [hds, Wt.cs]
  | x :: ws, k + 1, h => by
    have := hds_get ws k (by simpa using h)
    simp only [hds] at this ⊢
    simp only [List.flatMap_cons, Wt.cs, List.getElem_cons_succ]
    have e1 : (k + 1) * 2 = k * 2 + 2 := by omega
    rw [e1]
    exact this

/-- Block g is a disk; κ tells the kinds of its blocks: 1 itself, 2 what is kept, 3 the row of what waits, 4 the bytes of what waits, 5 the fuse's list; 0: none of its. -/
structure DskV (w : World) (g : Nat) (κ : Nat → Nat) (s : St) (kb kc : Nat) (v : Value) (ws : List Wt) (A5 : Option Addr) (c5 : Nat) : Prop where
  own : κ g = 1
  one : ∀ k, κ k = 1 → k = g
  lt : ∀ k, κ k ≠ 0 → k < w.heap.size
  k2 : κ kb = 2
  c0 : w.cell? ⟨g, 0, none⟩ = some (.int .i64 (s.sz : Int))
  c1 : w.cell? ⟨g, 1, none⟩ = some (.slice (some ⟨kb, 0, none⟩) (s.n * s.sz) kc)
  c2 : w.cell? ⟨g, 2, none⟩ = some v
  c3 : w.cell? ⟨g, 3, none⟩ = some (.bool s.on)
  c4 : w.cell? ⟨g, 4, none⟩ = some (.int .i64 s.left)
  c5 : w.cell? ⟨g, 5, none⟩ = some (.slice A5 s.keep.length c5)
  c6 : w.cell? ⟨g, 6, none⟩ = some (.int .i64 (s.steps : Int))
  free : ∀ j, w.frozen? ⟨g, j, none⟩ = false
  room : s.n * s.sz ≤ kc
  kept : Holds w kb .u8 s.kept.flatten
  row : w.ownsRow 0 66 2 v ws.length (hds ws)
  vk : ∀ b, v.ownBlock = some b → κ b = 3
  wsE : ws.map Wt.pr = s.waits
  wsB : ∀ x, x ∈ ws → x.bs.length ≤ x.c ∧ (x.A = none → x.c = 0) ∧ ByL w (fun b => κ b = 4) x.A x.bs
  keep : Bls w (fun b => κ b = 5) A5 s.keep
  wf : Wf s
def Dsk (w : World) (g : Nat) (κ : Nat → Nat) (s : St) : Prop := ∃ kb kc v ws A5 c5, DskV w g κ s kb kc v ws A5 c5
/-- What a call leaves. -/
def DskP (g : Nat) (κ : Nat → Nat) (s : St) (v : Value) (w : World) (en : Ending) (w' : World) : Prop :=
  en = .returned v ∧ ∃ κ', Dsk w' g κ' s ∧ Touch (fun k => κ k ≠ 0) w w' ∧ ∀ k, k < w.heap.size → κ' k = κ k
section
variable {w w' : World} {g : Nat} {κ : Nat → Nat} {s : St} {kb kc : Nat} {v : Value} {ws : List Wt} {A5 : Option Addr} {c5 : Nat} {F : Nat → Prop}
theorem DskV.gl (h : DskV w g κ s kb kc v ws A5 c5) : g < w.heap.size := lt_of_cell h.c0
theorem DskV.kl (h : DskV w g κ s kb kc v ws A5 c5) : kb < w.heap.size := h.lt kb (by rw [h.k2]; omega)
theorem DskV.ne (h : DskV w g κ s kb kc v ws A5 c5) {b m : Nat} (hb : κ b = m) (hm : m ≠ 1) : b ≠ g := fun e => by rw [e, h.own] at hb; exact hm hb.symm
theorem DskV.rowT (h : DskV w g κ s kb kc v ws A5 c5) (ht : Touch F w w') (hd : ∀ k, κ k = 3 → ¬ F k) : w'.ownsRow 0 66 2 v ws.length (hds ws) := owns_touchN h.row ht (fun b hb => hd b (h.vk b hb))
theorem DskV.keptT (h : DskV w g κ s kb kc v ws A5 c5) (ht : Touch F w w') (hd : ∀ k, κ k = 2 → ¬ F k) : Holds w' kb .u8 s.kept.flatten := h.kept.touchX ht h.kl (hd kb h.k2)
theorem DskV.wsT (h : DskV w g κ s kb kc v ws A5 c5) (ht : Touch F w w') (hd : ∀ k, κ k = 4 → ¬ F k) {κ' : Nat → Nat} (hk : ∀ k, k < w.heap.size → κ' k = κ k) : ∀ x, x ∈ ws → x.bs.length ≤ x.c ∧ (x.A = none → x.c = 0) ∧ ByL w' (fun b => κ' b = 4) x.A x.bs :=
  fun x hx => ⟨(h.wsB x hx).1, (h.wsB x hx).2.1, (h.wsB x hx).2.2.touch ht hd (fun b hb e => (hk b hb).trans e)⟩
theorem DskV.keepT (h : DskV w g κ s kb kc v ws A5 c5) (ht : Touch F w w') (hd : ∀ k, κ k = 5 → ¬ F k) {κ' : Nat → Nat} (hk : ∀ k, k < w.heap.size → κ' k = κ k) : Bls w' (fun b => κ' b = 5) A5 s.keep := h.keep.touch ht hd (fun b hb e => (hk b hb).trans e)
theorem DskV.touch (h : DskV w g κ s kb kc v ws A5 c5) (ht : Touch F w w') (hd : ∀ k, κ k ≠ 0 → ¬ F k) : DskV w' g κ s kb kc v ws A5 c5 := by
  have ng : ¬ F g := hd g (by rw [h.own]; omega)
  have hgl := h.gl
  have c : ∀ j, w'.cell? ⟨g, j, none⟩ = w.cell? ⟨g, j, none⟩ := fun j => ht.cell (p := ⟨g, j, none⟩) hgl ng
  have q : ∀ m, m ≠ 0 → ∀ k, κ k = m → ¬ F k := fun m hm k e => hd k (by rw [e]; exact hm)
  exact ⟨h.own, h.one, fun k hk => Nat.lt_of_lt_of_le (h.lt k hk) ht.size, h.k2, (c 0).trans h.c0, (c 1).trans h.c1, (c 2).trans h.c2, (c 3).trans h.c3, (c 4).trans h.c4, (c 5).trans h.c5, (c 6).trans h.c6,
    fun j => (ht.frozen (p := ⟨g, j, none⟩) hgl ng).trans (h.free j), h.room, h.keptT ht (q 2 (by omega)), h.rowT ht (q 3 (by omega)), h.vk, h.wsE, h.wsT ht (q 4 (by omega)) (fun _ _ => rfl), h.keepT ht (q 5 (by omega)) (fun _ _ => rfl), h.wf⟩
theorem Dsk.touch (h : Dsk w g κ s) (ht : Touch F w w') (hd : ∀ k, κ k ≠ 0 → ¬ F k) : Dsk w' g κ s := by
  obtain ⟨kb, kc, v, ws, A5, c5, h⟩ := h
  exact ⟨kb, kc, v, ws, A5, c5, h.touch ht hd⟩
theorem Dsk.below (h : Dsk w g κ s) (hb : Below w.heap.size w w') : Dsk w' g κ s := h.touch (F := fun _ => False) (Touch.of _ hb) (fun _ _ h => h)
theorem Dsk.lt (h : Dsk w g κ s) : ∀ k, κ k ≠ 0 → k < w.heap.size := by obtain ⟨kb, kc, v, ws, A5, c5, h⟩ := h; exact h.lt
theorem Dsk.own (h : Dsk w g κ s) : κ g = 1 := by obtain ⟨kb, kc, v, ws, A5, c5, h⟩ := h; exact h.own
theorem Dsk.wf (h : Dsk w g κ s) : Wf s := by obtain ⟨kb, kc, v, ws, A5, c5, h⟩ := h; exact h.wf
theorem Dsk.gl (h : Dsk w g κ s) : g < w.heap.size := by obtain ⟨kb, kc, v, ws, A5, c5, h⟩ := h; exact h.gl
theorem DskP.stay (h : Dsk w g κ s) (u : Value) (n : Nat) : DskP g κ s u w (.returned u) (w.drewN n) := ⟨rfl, κ, h.touch (touch_none (fun _ => False) w n) (fun _ _ h => h), touch_none _ w n, fun _ _ => rfl⟩
theorem DskP.same (h : Dsk w g κ s) (u : Value) : DskP g κ s u w (.returned u) w := ⟨rfl, κ, h, Touch.refl _ _, fun _ _ => rfl⟩
/-- One cell of the disk's own is written: the others stand. -/
theorem DskV.cellsAt (_h : DskV w g κ s kb kc v ws A5 c5) (j : Nat) (u : Value) (i : Nat) (hi : i ≠ j) : (w.setCell ⟨g, j, none⟩ u).cell? ⟨g, i, none⟩ = w.cell? ⟨g, i, none⟩ := World.cell?_setCell_other _ _ _ _ (fun e => hi (by simpa using (Addr.mk.inj e).2.1.symm))
theorem DskV.touch1 (h : DskV w g κ s kb kc v ws A5 c5) (j : Nat) (u : Value) : Touch (fun k => κ k = 1) w (w.setCell ⟨g, j, none⟩ u) := (Touch.refl _ w).setCell (b := g) (.inl h.own) j u
theorem k_ne {κ : Nat → Nat} {m m' : Nat} (h : m ≠ m') : ∀ k, κ k = m → ¬ κ k = m' := fun _ e e' => h (e.symm.trans e')
/-- The power. -/
theorem DskV.setOn (h : DskV w g κ s kb kc v ws A5 c5) (b : Bool) (hw : Wf { s with on := b }) : DskV (w.setCell ⟨g, 3, none⟩ (.bool b)) g κ { s with on := b } kb kc v ws A5 c5 := by
  have ht := h.touch1 3 (.bool b)
  have c := h.cellsAt 3 (.bool b)
  exact ⟨h.own, h.one, fun k hk => by simpa using h.lt k hk, h.k2, (c 0 (by omega)).trans h.c0, (c 1 (by omega)).trans h.c1, (c 2 (by omega)).trans h.c2, World.cell?_setCell_same _ _ _ h.c3, (c 4 (by omega)).trans h.c4, (c 5 (by omega)).trans h.c5, (c 6 (by omega)).trans h.c6,
    fun j => (World.frozen?_setCell ..).trans (h.free j), h.room, h.keptT ht (k_ne (by omega)), h.rowT ht (k_ne (by omega)), h.vk, h.wsE, h.wsT ht (k_ne (by omega)) (fun _ _ => rfl), h.keepT ht (k_ne (by omega)) (fun _ _ => rfl), hw⟩
/-- The fuse's count. -/
theorem DskV.setLeft (h : DskV w g κ s kb kc v ws A5 c5) (b : Int) (hw : Wf { s with left := b }) : DskV (w.setCell ⟨g, 4, none⟩ (.int .i64 b)) g κ { s with left := b } kb kc v ws A5 c5 := by
  have ht := h.touch1 4 (.int .i64 b)
  have c := h.cellsAt 4 (.int .i64 b)
  exact ⟨h.own, h.one, fun k hk => by simpa using h.lt k hk, h.k2, (c 0 (by omega)).trans h.c0, (c 1 (by omega)).trans h.c1, (c 2 (by omega)).trans h.c2, (c 3 (by omega)).trans h.c3, World.cell?_setCell_same _ _ _ h.c4, (c 5 (by omega)).trans h.c5, (c 6 (by omega)).trans h.c6,
    fun j => (World.frozen?_setCell ..).trans (h.free j), h.room, h.keptT ht (k_ne (by omega)), h.rowT ht (k_ne (by omega)), h.vk, h.wsE, h.wsT ht (k_ne (by omega)) (fun _ _ => rfl), h.keepT ht (k_ne (by omega)) (fun _ _ => rfl), hw⟩
/-- The steps. -/
theorem DskV.setSteps (h : DskV w g κ s kb kc v ws A5 c5) (b : Nat) (hw : Wf { s with steps := b }) : DskV (w.setCell ⟨g, 6, none⟩ (.int .i64 (b : Int))) g κ { s with steps := b } kb kc v ws A5 c5 := by
  have ht := h.touch1 6 (.int .i64 (b : Int))
  have c := h.cellsAt 6 (.int .i64 (b : Int))
  exact ⟨h.own, h.one, fun k hk => by simpa using h.lt k hk, h.k2, (c 0 (by omega)).trans h.c0, (c 1 (by omega)).trans h.c1, (c 2 (by omega)).trans h.c2, (c 3 (by omega)).trans h.c3, (c 4 (by omega)).trans h.c4, (c 5 (by omega)).trans h.c5, World.cell?_setCell_same _ _ _ h.c6,
    fun j => (World.frozen?_setCell ..).trans (h.free j), h.room, h.keptT ht (k_ne (by omega)), h.rowT ht (k_ne (by omega)), h.vk, h.wsE, h.wsT ht (k_ne (by omega)) (fun _ _ => rfl), h.keepT ht (k_ne (by omega)) (fun _ _ => rfl), hw⟩
/-- Nothing waits. -/
theorem DskV.setNone (h : DskV w g κ s kb kc v ws A5 c5) (hw : Wf { s with waits := [] }) : DskV (w.setCell ⟨g, 2, none⟩ (.slice none 0 0)) g κ { s with waits := [] } kb kc (.slice none 0 0) [] A5 c5 := by
  have ht := h.touch1 2 (.slice none 0 0)
  have c := h.cellsAt 2 (.slice none 0 0)
  exact ⟨h.own, h.one, fun k hk => by simpa using h.lt k hk, h.k2, (c 0 (by omega)).trans h.c0, (c 1 (by omega)).trans h.c1, World.cell?_setCell_same _ _ _ h.c2, (c 3 (by omega)).trans h.c3, (c 4 (by omega)).trans h.c4, (c 5 (by omega)).trans h.c5, (c 6 (by omega)).trans h.c6,
    fun j => (World.frozen?_setCell ..).trans (h.free j), h.room, h.keptT ht (k_ne (by omega)), World.ownsRow_nil _ _ _ _, fun b hb => (by cases hb), rfl, fun x hx => (by cases hx), h.keepT ht (k_ne (by omega)) (fun _ _ => rfl), hw⟩
/-- The fuse, set. -/
theorem DskV.setFuse (h : DskV w g κ s kb kc v ws A5 c5) (b : Int) (A' : Option Addr) (c' : Nat) (l : List Bool) (hl : Bls w (fun b => κ b = 5) A' l) (hw : Wf (s.fuse b l)) :
    DskV ((w.setCell ⟨g, 4, none⟩ (.int .i64 b)).setCell ⟨g, 5, none⟩ (.slice A' l.length c')) g κ (s.fuse b l) kb kc v ws A' c' := by
  have ht := ((Touch.refl (fun k => κ k = 1) w).setCell (b := g) (.inl h.own) 4 (.int .i64 b)).setCell (b := g) (.inl h.own) 5 (.slice A' l.length c')
  have c : ∀ i, i ≠ 4 → i ≠ 5 → ((w.setCell ⟨g, 4, none⟩ (.int .i64 b)).setCell ⟨g, 5, none⟩ (.slice A' l.length c')).cell? ⟨g, i, none⟩ = w.cell? ⟨g, i, none⟩ := fun i h4 h5 =>
    (World.cell?_setCell_other _ _ _ _ (fun e => h5 (by simpa using (Addr.mk.inj e).2.1.symm))).trans (World.cell?_setCell_other _ _ _ _ (fun e => h4 (by simpa using (Addr.mk.inj e).2.1.symm)))
  refine ⟨h.own, h.one, fun k hk => by simpa using h.lt k hk, h.k2, (c 0 (by omega) (by omega)).trans h.c0, (c 1 (by omega) (by omega)).trans h.c1, (c 2 (by omega) (by omega)).trans h.c2, (c 3 (by omega) (by omega)).trans h.c3, ?_, ?_, (c 6 (by omega) (by omega)).trans h.c6,
    fun j => by rw [World.frozen?_setCell, World.frozen?_setCell]; exact h.free j, h.room, h.keptT ht (k_ne (by omega)), h.rowT ht (k_ne (by omega)), h.vk, h.wsE, h.wsT ht (k_ne (by omega)) (fun _ _ => rfl), hl.touch ht (k_ne (by omega)) (fun _ _ e => e), hw⟩
  · rw [World.cell?_setCell_other _ _ _ _ (by simp)]; exact World.cell?_setCell_same _ _ _ h.c4
  · exact World.cell?_setCell_same _ _ _ ((World.cell?_setCell_other _ _ _ _ (by simp)).trans h.c5)
/-- A sector is kept. -/
theorem DskV.setKept (h : DskV w g κ s kb kc v ws A5 c5) (i : Nat) (b : List Nat) (hi : i < s.n) (hb : b.length = s.sz) (hw : Wf { s with kept := s.kept.set i b }) :
    DskV (w.setCells kb (i * s.sz) (nv .u8 b)) g κ { s with kept := s.kept.set i b } kb kc v ws A5 c5 := by
  have ht : Touch (fun k => κ k = 2) w (w.setCells kb (i * s.sz) (nv .u8 b)) := Touch.setCells (F := fun k => κ k = 2) (Touch.refl _ w) h.k2 _ _
  have hgl := h.gl
  have ng : ¬ κ g = 2 := by rw [h.own]; omega
  have c : ∀ j, (w.setCells kb (i * s.sz) (nv .u8 b)).cell? ⟨g, j, none⟩ = w.cell? ⟨g, j, none⟩ := fun j => ht.cell (p := ⟨g, j, none⟩) hgl ng
  have kl := h.wf.kl
  have kz : ∀ c, c ∈ s.kept → c.length = s.sz := fun c hc => (h.wf.kb c hc).1
  have fl := flat_len s.kept kz
  have e1 : i * s.sz + b.length ≤ s.kept.flatten.length := by
    rw [fl, kl, hb, ← Nat.succ_mul]; exact Nat.mul_le_mul_right _ hi
  refine ⟨h.own, h.one, fun k hk => by rw [size_setCells]; exact h.lt k hk, h.k2, (c 0).trans h.c0, (c 1).trans h.c1, (c 2).trans h.c2, (c 3).trans h.c3, (c 4).trans h.c4, (c 5).trans h.c5, (c 6).trans h.c6,
    fun j => (ht.frozen (p := ⟨g, j, none⟩) hgl ng).trans (h.free j), h.room, ?_, h.rowT ht (k_ne (by omega)), h.vk, h.wsE, h.wsT ht (k_ne (by omega)) (fun _ _ => rfl), h.keepT ht (k_ne (by omega)) (fun _ _ => rfl), hw⟩
  have := (Holds.at0 h.kept).spliced (i * s.sz) b e1
  rw [Nat.zero_add] at this
  show Holds _ kb .u8 (s.kept.set i b).flatten
  rw [flat_set s.kept i b kz (by rw [kl]; exact hi) hb]
  exact this
end
end Go.Proofs.Ytfjaiolgbcindaa
