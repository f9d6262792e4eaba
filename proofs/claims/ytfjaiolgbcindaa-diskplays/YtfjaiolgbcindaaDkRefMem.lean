/-
  The reference's disks in memory: the blocks of one by their kinds, and what changes leave of it. No conditions.
-/
import Derived.Test.YtfjaiolgbcindaaDkOver
import Derived.Test.YtfjaiolgbcindaaDkMay
namespace Go.Proofs.Ytfjaiolgbcindaa
open Go.RowKit Arr Dsk

/-- Block g is a disk of the reference; ρ tells the kinds of its blocks: 1 itself, 2 the row of what is kept, 3 the row of sectors that wait, 4 the row of their bytes, 5 bytes that were made; 0: none of its. What is handed in lies below B. -/
structure RdkV (w : World) (g B : Nat) (ρ : Nat → Nat) (r : St) (vk va vb : Value) (ps qs : List Sl) (KA : Option Addr) (kc : Nat) : Prop where
  own : ρ g = 1
  one : ∀ k, ρ k = 1 → k = g
  lt : ∀ k, ρ k ≠ 0 → k < w.heap.size
  lo : ∀ k, ρ k ≠ 0 → B ≤ k
  c0 : w.cell? ⟨g, 0, none⟩ = some vk
  c1 : w.cell? ⟨g, 1, none⟩ = some (.int .i64 (r.sz : Int))
  c2 : w.cell? ⟨g, 2, none⟩ = some va
  c3 : w.cell? ⟨g, 3, none⟩ = some vb
  c4 : w.cell? ⟨g, 4, none⟩ = some (.bool (!r.on))
  c5 : w.cell? ⟨g, 5, none⟩ = some (.int .i64 r.left)
  c6 : w.cell? ⟨g, 6, none⟩ = some (.slice KA r.keep.length kc)
  c7 : w.cell? ⟨g, 7, none⟩ = some (.int .i64 (r.steps : Int))
  free : ∀ j, w.frozen? ⟨g, j, none⟩ = false
  rowK : w.ownsRow 0 32 1 vk ps.length (ps.map Sl.v)
  rowA : w.ownsRow 0 3 1 va r.waits.length (r.waits.map fun p => Value.int .i64 (p.1 : Int))
  rowB : w.ownsRow 0 32 1 vb qs.length (qs.map Sl.v)
  kK : ∀ b, vk.ownBlock = some b → ρ b = 2
  kA : ∀ b, va.ownBlock = some b → ρ b = 3
  kB : ∀ b, vb.ownBlock = some b → ρ b = 4
  eK : ps.map Sl.bs = r.kept
  eB : qs.map Sl.bs = r.waits.map Prod.snd
  bK : ∀ x, x ∈ ps → x.bs.length ≤ x.c ∧ (x.A = none → x.c = 0) ∧ ByL w (fun k => k < B ∨ ρ k = 5) x.A x.bs
  bB : ∀ x, x ∈ qs → x.bs.length ≤ x.c ∧ (x.A = none → x.c = 0) ∧ ByL w (fun k => k < B ∨ ρ k = 5) x.A x.bs
  keep : Bls w (fun k => k < B) KA r.keep
  wf : Wf r
def Rdk (w : World) (g B : Nat) (ρ : Nat → Nat) (r : St) : Prop := ∃ vk va vb ps qs KA kc, RdkV w g B ρ r vk va vb ps qs KA kc
/-- The blocks that calls write. -/
def wr4 (ρ : Nat → Nat) (k : Nat) : Prop := ρ k = 1 ∨ ρ k = 2 ∨ ρ k = 3 ∨ ρ k = 4
/-- What a call leaves. -/
def RdkP (g B : Nat) (ρ : Nat → Nat) (r : St) (v : Value) (w : World) (en : Ending) (w' : World) : Prop :=
  en = .returned v ∧ ∃ ρ', Rdk w' g B ρ' r ∧ Touch (wr4 ρ) w w' ∧ ∀ k, k < w.heap.size → ρ' k = ρ k
section
variable {w w' : World} {g B : Nat} {ρ ρ' : Nat → Nat} {r : St} {vk va vb : Value} {ps qs : List Sl} {KA : Option Addr} {kc : Nat} {F : Nat → Prop}
theorem RdkV.gl (h : RdkV w g B ρ r vk va vb ps qs KA kc) : g < w.heap.size := lt_of_cell h.c1
theorem slB_touch {xs : List Sl} (h : ∀ x, x ∈ xs → x.bs.length ≤ x.c ∧ (x.A = none → x.c = 0) ∧ ByL w (fun k => k < B ∨ ρ k = 5) x.A x.bs) (ht : Touch F w w') (hd : ∀ k, k < B ∨ ρ k = 5 → ¬ F k) (hk : ∀ k, k < w.heap.size → ρ' k = ρ k) : ∀ x, x ∈ xs → x.bs.length ≤ x.c ∧ (x.A = none → x.c = 0) ∧ ByL w' (fun k => k < B ∨ ρ' k = 5) x.A x.bs :=
  fun x hx => ⟨(h x hx).1, (h x hx).2.1, (h x hx).2.2.touch ht hd (fun k hkw e => e.imp id (fun e => (hk k hkw).trans e))⟩
/-- Old blocks that hold what is read are as they were: the parts stand. -/
theorem RdkV.parts (h : RdkV w g B ρ r vk va vb ps qs KA kc) (ht : Touch F w w') (hF : ∀ k, F k → ρ k = 1 ∨ ρ k = 0 ∧ B ≤ k) (hk : ∀ k, k < w.heap.size → ρ' k = ρ k) :
    w'.ownsRow 0 32 1 vk ps.length (ps.map Sl.v) ∧ w'.ownsRow 0 3 1 va r.waits.length (r.waits.map fun p => Value.int .i64 (p.1 : Int)) ∧ w'.ownsRow 0 32 1 vb qs.length (qs.map Sl.v) ∧
      (∀ x, x ∈ ps → x.bs.length ≤ x.c ∧ (x.A = none → x.c = 0) ∧ ByL w' (fun k => k < B ∨ ρ' k = 5) x.A x.bs) ∧ (∀ x, x ∈ qs → x.bs.length ≤ x.c ∧ (x.A = none → x.c = 0) ∧ ByL w' (fun k => k < B ∨ ρ' k = 5) x.A x.bs) ∧ Bls w' (fun k => k < B) KA r.keep := by
  have n5 : ∀ k, k < B ∨ ρ k = 5 → ¬ F k := fun k e hf => by
    rcases hF k hf with h1 | h1
    · have := h.lo k (by omega)
      omega
    · omega
  refine ⟨owns_touchN h.rowK ht (fun b hb hf => ?_), owns_touchN h.rowA ht (fun b hb hf => ?_), owns_touchN h.rowB ht (fun b hb hf => ?_), slB_touch h.bK ht n5 hk, slB_touch h.bB ht n5 hk, h.keep.touch ht (fun k e => n5 k (.inl e)) (fun _ _ e => e)⟩
  · have := h.kK b hb; have := hF b hf; omega
  · have := h.kA b hb; have := hF b hf; omega
  · have := h.kB b hb; have := hF b hf; omega
theorem RdkV.touch (h : RdkV w g B ρ r vk va vb ps qs KA kc) (ht : Touch F w w') (hF : ∀ k, F k → ρ k = 0 ∧ B ≤ k) : RdkV w' g B ρ r vk va vb ps qs KA kc := by
  have ng : ¬ F g := fun hf => by have := hF g hf; have := h.own; omega
  have hgl := h.gl
  have c : ∀ j, w'.cell? ⟨g, j, none⟩ = w.cell? ⟨g, j, none⟩ := fun j => ht.cell (p := ⟨g, j, none⟩) hgl ng
  obtain ⟨p1, p2, p3, p4, p5, p6⟩ := h.parts (ρ' := ρ) ht (fun k hf => .inr (hF k hf)) (fun _ _ => rfl)
  exact ⟨h.own, h.one, fun k hk => Nat.lt_of_lt_of_le (h.lt k hk) ht.size, h.lo, (c 0).trans h.c0, (c 1).trans h.c1, (c 2).trans h.c2, (c 3).trans h.c3, (c 4).trans h.c4, (c 5).trans h.c5, (c 6).trans h.c6, (c 7).trans h.c7,
    fun j => (ht.frozen (p := ⟨g, j, none⟩) hgl ng).trans (h.free j), p1, p2, p3, h.kK, h.kA, h.kB, h.eK, h.eB, p4, p5, p6, h.wf⟩
theorem Rdk.touch (h : Rdk w g B ρ r) (ht : Touch F w w') (hF : ∀ k, F k → ρ k = 0 ∧ B ≤ k) : Rdk w' g B ρ r := by
  obtain ⟨vk, va, vb, ps, qs, KA, kc, h⟩ := h
  exact ⟨vk, va, vb, ps, qs, KA, kc, h.touch ht hF⟩
theorem Rdk.below (h : Rdk w g B ρ r) (hb : Below w.heap.size w w') : Rdk w' g B ρ r := h.touch (F := fun _ => False) (Touch.of _ hb) (fun _ h => h.elim)
theorem Rdk.lt (h : Rdk w g B ρ r) : ∀ k, ρ k ≠ 0 → k < w.heap.size := by obtain ⟨vk, va, vb, ps, qs, KA, kc, h⟩ := h; exact h.lt
theorem Rdk.wf (h : Rdk w g B ρ r) : Wf r := by obtain ⟨vk, va, vb, ps, qs, KA, kc, h⟩ := h; exact h.wf
theorem RdkP.same (h : Rdk w g B ρ r) (u : Value) : RdkP g B ρ r u w (.returned u) w := ⟨rfl, ρ, h, Touch.refl _ _, fun _ _ => rfl⟩
theorem RdkV.cellsAt (_h : RdkV w g B ρ r vk va vb ps qs KA kc) (j : Nat) (u : Value) (i : Nat) (hi : i ≠ j) : (w.setCell ⟨g, j, none⟩ u).cell? ⟨g, i, none⟩ = w.cell? ⟨g, i, none⟩ := World.cell?_setCell_other _ _ _ _ (fun e => hi (by simpa using (Addr.mk.inj e).2.1.symm))
theorem RdkV.touch1 (h : RdkV w g B ρ r vk va vb ps qs KA kc) (j : Nat) (u : Value) : Touch (fun k => ρ k = 1) w (w.setCell ⟨g, j, none⟩ u) := (Touch.refl _ w).setCell (b := g) (.inl h.own) j u
/-- The fuse's count. -/
theorem RdkV.setLeft (h : RdkV w g B ρ r vk va vb ps qs KA kc) (b : Int) (hw : Wf { r with left := b }) : RdkV (w.setCell ⟨g, 5, none⟩ (.int .i64 b)) g B ρ { r with left := b } vk va vb ps qs KA kc := by
  have c := h.cellsAt 5 (.int .i64 b)
  obtain ⟨p1, p2, p3, p4, p5, p6⟩ := h.parts (ρ' := ρ) (h.touch1 5 (.int .i64 b)) (fun k hf => .inl hf) (fun _ _ => rfl)
  exact ⟨h.own, h.one, fun k hk => by rw [World.size_setCell]; exact h.lt k hk, h.lo, (c 0 (by omega)).trans h.c0, (c 1 (by omega)).trans h.c1, (c 2 (by omega)).trans h.c2, (c 3 (by omega)).trans h.c3, (c 4 (by omega)).trans h.c4, World.cell?_setCell_same _ _ _ h.c5, (c 6 (by omega)).trans h.c6, (c 7 (by omega)).trans h.c7,
    fun j => (World.frozen?_setCell ..).trans (h.free j), p1, p2, p3, h.kK, h.kA, h.kB, h.eK, h.eB, p4, p5, p6, hw⟩
/-- The steps. -/
theorem RdkV.setSteps (h : RdkV w g B ρ r vk va vb ps qs KA kc) (b : Nat) (hw : Wf { r with steps := b }) : RdkV (w.setCell ⟨g, 7, none⟩ (.int .i64 (b : Int))) g B ρ { r with steps := b } vk va vb ps qs KA kc := by
  have c := h.cellsAt 7 (.int .i64 (b : Int))
  obtain ⟨p1, p2, p3, p4, p5, p6⟩ := h.parts (ρ' := ρ) (h.touch1 7 (.int .i64 (b : Int))) (fun k hf => .inl hf) (fun _ _ => rfl)
  exact ⟨h.own, h.one, fun k hk => by rw [World.size_setCell]; exact h.lt k hk, h.lo, (c 0 (by omega)).trans h.c0, (c 1 (by omega)).trans h.c1, (c 2 (by omega)).trans h.c2, (c 3 (by omega)).trans h.c3, (c 4 (by omega)).trans h.c4, (c 5 (by omega)).trans h.c5, (c 6 (by omega)).trans h.c6, World.cell?_setCell_same _ _ _ h.c7,
    fun j => (World.frozen?_setCell ..).trans (h.free j), p1, p2, p3, h.kK, h.kA, h.kB, h.eK, h.eB, p4, p5, p6, hw⟩
/-- The power. -/
theorem RdkV.setOn (h : RdkV w g B ρ r vk va vb ps qs KA kc) (b : Bool) (hw : Wf { r with on := !b }) : RdkV (w.setCell ⟨g, 4, none⟩ (.bool b)) g B ρ { r with on := !b } vk va vb ps qs KA kc := by
  have c := h.cellsAt 4 (.bool b)
  obtain ⟨p1, p2, p3, p4, p5, p6⟩ := h.parts (ρ' := ρ) (h.touch1 4 (.bool b)) (fun k hf => .inl hf) (fun _ _ => rfl)
  exact ⟨h.own, h.one, fun k hk => by rw [World.size_setCell]; exact h.lt k hk, h.lo, (c 0 (by omega)).trans h.c0, (c 1 (by omega)).trans h.c1, (c 2 (by omega)).trans h.c2, (c 3 (by omega)).trans h.c3, by rw [World.cell?_setCell_same _ _ _ h.c4]; simp, (c 5 (by omega)).trans h.c5, (c 6 (by omega)).trans h.c6, (c 7 (by omega)).trans h.c7,
    fun j => (World.frozen?_setCell ..).trans (h.free j), p1, p2, p3, h.kK, h.kA, h.kB, h.eK, h.eB, p4, p5, p6, hw⟩
/-- The fuse's list. -/
theorem RdkV.setKeep (h : RdkV w g B ρ r vk va vb ps qs KA kc) (A' : Option Addr) (l : List Bool) (c' : Nat) (hl : Bls w (fun k => k < B) A' l) (hw : Wf { r with keep := l }) : RdkV (w.setCell ⟨g, 6, none⟩ (.slice A' l.length c')) g B ρ { r with keep := l } vk va vb ps qs A' c' := by
  have c := h.cellsAt 6 (.slice A' l.length c')
  have ht := h.touch1 6 (.slice A' l.length c')
  obtain ⟨p1, p2, p3, p4, p5, _⟩ := h.parts (ρ' := ρ) ht (fun k hf => .inl hf) (fun _ _ => rfl)
  exact ⟨h.own, h.one, fun k hk => by rw [World.size_setCell]; exact h.lt k hk, h.lo, (c 0 (by omega)).trans h.c0, (c 1 (by omega)).trans h.c1, (c 2 (by omega)).trans h.c2, (c 3 (by omega)).trans h.c3, (c 4 (by omega)).trans h.c4, (c 5 (by omega)).trans h.c5, World.cell?_setCell_same _ _ _ h.c6, (c 7 (by omega)).trans h.c7,
    fun j => (World.frozen?_setCell ..).trans (h.free j), p1, p2, p3, h.kK, h.kA, h.kB, h.eK, h.eB, p4, p5, hl.touch ht (fun k e e' => by have := h.lo k (by have e2 : ρ k = 1 := e'; omega); omega) (fun _ _ e => e), hw⟩
/-- Nothing waits. -/
theorem RdkV.setNone (h : RdkV w g B ρ r vk va vb ps qs KA kc) (hw : Wf { r with waits := [] }) : RdkV ((w.setCell ⟨g, 2, none⟩ (.slice none 0 0)).setCell ⟨g, 3, none⟩ (.slice none 0 0)) g B ρ { r with waits := [] } vk (.slice none 0 0) (.slice none 0 0) ps [] KA kc := by
  have ht : Touch (fun k => ρ k = 1) w ((w.setCell ⟨g, 2, none⟩ (.slice none 0 0)).setCell ⟨g, 3, none⟩ (.slice none 0 0)) := (h.touch1 2 _).setCell (b := g) (.inl h.own) 3 _
  have c : ∀ i, i ≠ 2 → i ≠ 3 → ((w.setCell ⟨g, 2, none⟩ (.slice none 0 0)).setCell ⟨g, 3, none⟩ (.slice none 0 0)).cell? ⟨g, i, none⟩ = w.cell? ⟨g, i, none⟩ := fun i h2 h3 =>
    (World.cell?_setCell_other _ _ _ _ (fun e => h3 (by simpa using (Addr.mk.inj e).2.1.symm))).trans (World.cell?_setCell_other _ _ _ _ (fun e => h2 (by simpa using (Addr.mk.inj e).2.1.symm)))
  obtain ⟨p1, _, _, p4, _, p6⟩ := h.parts (ρ' := ρ) ht (fun k hf => .inl hf) (fun _ _ => rfl)
  refine ⟨h.own, h.one, fun k hk => by simpa using h.lt k hk, h.lo, (c 0 (by omega) (by omega)).trans h.c0, (c 1 (by omega) (by omega)).trans h.c1, ?_, ?_, (c 4 (by omega) (by omega)).trans h.c4, (c 5 (by omega) (by omega)).trans h.c5, (c 6 (by omega) (by omega)).trans h.c6, (c 7 (by omega) (by omega)).trans h.c7,
    fun j => by rw [World.frozen?_setCell, World.frozen?_setCell]; exact h.free j, p1, World.ownsRow_nil _ _ _ _, World.ownsRow_nil _ _ _ _, h.kK, fun b hb => (by cases hb), fun b hb => (by cases hb), h.eK, rfl, p4, fun x hx => (by cases hx), p6, hw⟩
  · rw [World.cell?_setCell_other _ _ _ _ (by simp)]; exact World.cell?_setCell_same _ _ _ h.c2
  · exact World.cell?_setCell_same _ _ _ ((World.cell?_setCell_other _ _ _ _ (by simp)).trans h.c3)
theorem map_set_v (ps : List Sl) (i : Nat) (x : Sl) : (ps.map Sl.v).set i x.v = (ps.set i x).map Sl.v := by rw [List.map_set]
/-- A sector is kept. -/
theorem RdkV.setKept {b cap : Nat} (h : RdkV w g B ρ r (.slice (some ⟨b, 0, none⟩) ps.length cap) va vb ps qs KA kc) (i : Nat) (x : Sl) (hx : x.bs.length ≤ x.c ∧ (x.A = none → x.c = 0) ∧ ByL w (fun k => k < B ∨ ρ k = 5) x.A x.bs) (hw : Wf { r with kept := r.kept.set i x.bs }) :
    RdkV (w.setCell ⟨b, i, none⟩ x.v) g B ρ { r with kept := r.kept.set i x.bs } (.slice (some ⟨b, 0, none⟩) (ps.set i x).length cap) va vb (ps.set i x) qs KA kc := by
  have kb : ρ b = 2 := h.kK b rfl
  have ht : Touch (fun k => ρ k = 2) w (w.setCell ⟨b, i, none⟩ x.v) := (Touch.refl (fun k => ρ k = 2) w).setCell (b := b) (.inl kb) i _
  have ng : ¬ ρ g = 2 := by rw [h.own]; omega
  have c : ∀ j, (w.setCell ⟨b, i, none⟩ x.v).cell? ⟨g, j, none⟩ = w.cell? ⟨g, j, none⟩ := fun j => ht.cell (p := ⟨g, j, none⟩) h.gl ng
  have n5 : ∀ k, k < B ∨ ρ k = 5 → ¬ ρ k = 2 := fun k e e2 => by have := h.lo k (by omega); omega
  have hl : (ps.set i x).length = ps.length := List.length_set ..
  have hr := (h.rowK.stored i x.v).1
  rw [map_set_v] at hr
  rw [hl]
  refine ⟨h.own, h.one, fun k hk => by rw [World.size_setCell]; exact h.lt k hk, h.lo, (c 0).trans h.c0, (c 1).trans h.c1, (c 2).trans h.c2, (c 3).trans h.c3, (c 4).trans h.c4, (c 5).trans h.c5, (c 6).trans h.c6, (c 7).trans h.c7,
    fun j => (World.frozen?_setCell ..).trans (h.free j), by rw [hl]; exact hr, owns_touchN h.rowA ht (fun k hk e => by have := h.kA k hk; omega), owns_touchN h.rowB ht (fun k hk e => by have := h.kB k hk; omega), h.kK, h.kA, h.kB, ?_, h.eB, ?_, slB_touch h.bB ht n5 (fun _ _ => rfl), h.keep.touch ht (fun k e => n5 k (.inl e)) (fun _ _ e => e), hw⟩
  · show (ps.set i x).map Sl.bs = r.kept.set i x.bs
    rw [List.map_set, h.eK]
  · refine slB_touch (fun y hy => ?_) ht n5 (fun _ _ => rfl)
    rcases List.mem_or_eq_of_mem_set hy with h1 | h1
    · exact h.bK y h1
    · rw [h1]; exact hx
/-- The rows' entries. -/
theorem sl_at {W : World} {A : Option Addr} {n c : Nat} {xs : List Sl} (h : W.ownsRow 0 32 1 (.slice A n c) n (xs.map Sl.v)) (hn : xs.length = n) (k : Nat) (hk : k < xs.length) : ∃ b, A = some ⟨b, 0, none⟩ ∧ W.cell? ⟨b, k, none⟩ = some xs[k].v ∧ W.frozen? ⟨b, k, none⟩ = false := by
  rcases h.2 with ⟨h1, h0⟩ | ⟨b, cap, cur, h1, _⟩
  · omega
  · simp only [Value.slice.injEq] at h1
    obtain ⟨rfl, _, rfl⟩ := h1
    exact ⟨b, rfl, by rw [h.cellAt k (by omega), List.getElem?_map, List.getElem?_eq_getElem hk]; rfl, h.frozenAt _⟩
theorem int_at {W : World} {A : Option Addr} {n c : Nat} {xs : List (Nat × List Nat)} (h : W.ownsRow 0 3 1 (.slice A n c) n (xs.map fun p => Value.int .i64 (p.1 : Int))) (hn : xs.length = n) (k : Nat) (hk : k < xs.length) : ∃ b, A = some ⟨b, 0, none⟩ ∧ W.cell? ⟨b, k, none⟩ = some (.int .i64 (xs[k].1 : Int)) := by
  rcases h.2 with ⟨h1, h0⟩ | ⟨b, cap, cur, h1, _⟩
  · omega
  · simp only [Value.slice.injEq] at h1
    obtain ⟨rfl, _, rfl⟩ := h1
    exact ⟨b, rfl, by rw [h.cellAt k (by omega), List.getElem?_map, List.getElem?_eq_getElem hk]; rfl⟩
theorem own_form {W : World} {e : TypeId} {u : Value} {n : Nat} {xs : List Value} (h : W.ownsRow 0 e 1 u n xs) : ∃ A c, u = .slice A n c ∧ n ≤ c := by
  rcases h.2 with ⟨rfl, rfl⟩ | ⟨b, cap, cur, rfl, _, _, h4, _⟩
  · exact ⟨none, 0, rfl, Nat.le_refl _⟩
  · exact ⟨_, _, rfl, h4⟩
end
end Go.Proofs.Ytfjaiolgbcindaa
