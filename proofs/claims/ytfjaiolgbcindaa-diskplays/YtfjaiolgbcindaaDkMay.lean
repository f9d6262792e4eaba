/-
  Rows of bytes that an array holds, in memory: one grows, one is cut to its last. No conditions.
-/
import Derived.Test.YtfjaiolgbcindaaDkWrite
import Derived.ArgAppend
namespace Go.Proofs.Ytfjaiolgbcindaa
open Go.RowKit Arr Dsk

/-- A slice of bytes: where it lies. -/
structure Sl where
  A : Option Addr
  c : Nat
  bs : List Nat
def Sl.v (x : Sl) : Value := .slice x.A x.bs.length x.c
/-- Slices from a place on, and room behind them. -/
structure RowAt (w : World) (rb o n c : Nat) (ps : List Sl) : Prop where
  len : ps.length = n
  le : n ≤ c
  cells : ∀ j (h : j < ps.length), w.cell? ⟨rb, o + j, none⟩ = some ps[j].v
  spare : ∀ j, j < c → (w.cell? ⟨rb, o + j, none⟩).isSome = true ∧ w.frozen? ⟨rb, o + j, none⟩ = false
/-- The value of row i, and what it holds. -/
def RowV (w : World) (κ μ : Nat → Nat) (i : Nat) (v : Value) (L : List (List Nat)) : Prop :=
  ∃ rb o c ps, v = .slice (some ⟨rb, o, none⟩) L.length c ∧ 0 < L.length ∧ rb < w.heap.size ∧ μ rb = i + 1 ∧ RowAt w rb o L.length c ps ∧ ps.map Sl.bs = L ∧ ∀ x, x ∈ ps → x.bs.length ≤ x.c ∧ (x.A = none → x.c = 0) ∧ ByL w (fun k => κ k = 0 ∧ μ k = 0) x.A x.bs
section
variable {w w' : World} {κ κ' μ μ' : Nat → Nat} {i : Nat} {v : Value} {L : List (List Nat)} {F : Nat → Prop}
theorem RowV.touch (h : RowV w κ μ i v L) (ht : Touch F w w') (h1 : ∀ k, μ k = i + 1 → ¬ F k) (h2 : ∀ k, κ k = 0 → μ k = 0 → ¬ F k) (hκ : ∀ k, k < w.heap.size → κ' k = κ k) (hμ : ∀ k, k < w.heap.size → μ' k = μ k) : RowV w' κ' μ' i v L := by
  obtain ⟨rb, o, c, ps, e, hp, hl, hm, hr, hL, hx⟩ := h
  have nF := h1 rb hm
  have cl : ∀ j, w'.cell? ⟨rb, j, none⟩ = w.cell? ⟨rb, j, none⟩ := fun j => ht.cell (p := ⟨rb, j, none⟩) hl nF
  have fr : ∀ j, w'.frozen? ⟨rb, j, none⟩ = w.frozen? ⟨rb, j, none⟩ := fun j => ht.frozen (p := ⟨rb, j, none⟩) hl nF
  exact ⟨rb, o, c, ps, e, hp, Nat.lt_of_lt_of_le hl ht.size, (hμ rb hl).trans hm, ⟨hr.len, hr.le, fun j hj => (cl _).trans (hr.cells j hj), fun j hj => by rw [cl, fr]; exact hr.spare j hj⟩, hL, fun x hxm =>
    ⟨(hx x hxm).1, (hx x hxm).2.1, (hx x hxm).2.2.touch ht (fun k e => h2 k e.1 e.2) (fun k hk e => ⟨(hκ k hk).trans e.1, (hμ k hk).trans e.2⟩)⟩⟩
/-- The entries' places. -/
theorem RowV.entry (h : RowV w κ μ i v L) : ∃ rb o c, v = .slice (some ⟨rb, o, none⟩) L.length c ∧ L.length ≤ c ∧ ∀ j (hj : j < L.length), ∃ A cc, w.cell? ⟨rb, o + j, none⟩ = some (.slice A L[j].length cc) ∧ L[j].length ≤ cc ∧ ByL w (fun k => κ k = 0 ∧ μ k = 0) A L[j] := by
  obtain ⟨rb, o, c, ps, e, hp, hl, hm, hr, hL, hx⟩ := h
  refine ⟨rb, o, c, e, hr.le, fun j hj => ?_⟩
  have hjp : j < ps.length := by rw [hr.len]; exact hj
  have ej : L[j] = ps[j].bs := by
    have := List.getElem_map Sl.bs (l := ps) (i := j) (h := by rw [List.length_map]; exact hjp)
    rw [← this]; simp only [hL]
  rw [ej]
  exact ⟨ps[j].A, ps[j].c, hr.cells j hjp, (hx _ (List.getElem_mem hjp)).1, (hx _ (List.getElem_mem hjp)).2.2⟩
/-- It is cut to its last. -/
theorem RowV.cut (h : RowV w κ μ i v L) : ∃ rb o c, v = .slice (some ⟨rb, o, none⟩) L.length c ∧ L.length ≤ c ∧ ∀ b, L.getLast? = some b → RowV w κ μ i (.slice (some ⟨rb, o + (L.length - 1), none⟩) 1 (c - (L.length - 1))) [b] := by
  obtain ⟨rb, o, c, ps, e, hp, hl, hm, hr, hL, hx⟩ := h
  refine ⟨rb, o, c, e, hr.le, fun b hb => ?_⟩
  have hn := hr.len
  have hle := hr.le
  have hj : L.length - 1 < ps.length := by omega
  have ej : ps[L.length - 1].bs = b := by
    rw [List.getLast?_eq_getElem?, ← hL, List.getElem?_map, List.length_map, List.getElem?_eq_getElem (by omega)] at hb
    simp only [Option.map_some, Option.some.injEq] at hb
    rw [← hb]; congr 2; rw [← hn]
  refine ⟨rb, o + (L.length - 1), c - (L.length - 1), [ps[L.length - 1]], rfl, by simp, hl, hm, ⟨rfl, by simp; omega, fun j hj' => ?_, fun j hj' => ?_⟩, by simp [ej], fun x hxm => ?_⟩
  · have : j = 0 := by simpa using hj'
    subst this
    rw [Nat.add_zero]
    exact hr.cells _ hj
  · rw [Nat.add_assoc]; exact hr.spare _ (by omega)
  · rw [List.mem_singleton] at hxm; subst hxm; exact hx _ (List.getElem_mem hj)
end
/-- Four rows in the array in block mb, of which the first q stand. -/
structure MayV (w : World) (mb : Nat) (κ μ : Nat → Nat) (q : Nat) (V : Nat → Value) (M : Nat → List (List Nat)) : Prop where
  m5 : μ mb = 5
  q4 : q ≤ 4
  lt : ∀ k, μ k ≠ 0 → k < w.heap.size
  dis : ∀ k, μ k ≠ 0 → κ k = 0
  cell : ∀ i, i < 4 → w.cell? ⟨mb, i, none⟩ = some (V i)
  free : ∀ i, w.frozen? ⟨mb, i, none⟩ = false
  rows : ∀ i, i < q → RowV w κ μ i (V i) (M i)
def upd {α : Type} (f : Nat → α) (i : Nat) (x : α) : Nat → α := fun j => if j = i then x else f j
theorem upd_at {α : Type} (f : Nat → α) (i : Nat) (x : α) : upd f i x i = x := by simp [upd]
theorem upd_ne {α : Type} (f : Nat → α) {i j : Nat} (x : α) (h : j ≠ i) : upd f i x j = f j := by simp [upd, h]
section
variable {w w' : World} {mb : Nat} {κ κ' μ μ' : Nat → Nat} {q : Nat} {V : Nat → Value} {M : Nat → List (List Nat)} {F : Nat → Prop}
theorem MayV.ml (h : MayV w mb κ μ q V M) : mb < w.heap.size := h.lt mb (by rw [h.m5]; omega)
theorem MayV.touch (h : MayV w mb κ μ q V M) (ht : Touch F w w') (hF : ∀ k, F k → κ k ≠ 0) (hκ : ∀ k, k < w.heap.size → κ' k = κ k) : MayV w' mb κ' μ q V M := by
  have nF : ∀ k, μ k ≠ 0 → ¬ F k := fun k e hf => hF k hf (h.dis k e)
  have n5 := nF mb (by rw [h.m5]; omega)
  exact ⟨h.m5, h.q4, fun k hk => Nat.lt_of_lt_of_le (h.lt k hk) ht.size, fun k hk => (hκ k (h.lt k hk)).trans (h.dis k hk), fun i hi => (ht.cell (p := ⟨mb, i, none⟩) h.ml n5).trans (h.cell i hi), fun i => (ht.frozen (p := ⟨mb, i, none⟩) h.ml n5).trans (h.free i),
    fun i hi => (h.rows i hi).touch ht (fun k e => nF k (by rw [e]; omega)) (fun k e _ hf => hF k hf e) hκ (fun _ _ => rfl)⟩
theorem MayV.below (h : MayV w mb κ μ q V M) (hb : Below w.heap.size w w') : MayV w' mb κ μ q V M := h.touch (F := fun _ => False) (Touch.of _ hb) (fun _ h => h.elim) (fun _ _ => rfl)
/-- A row is put, whose value lies in the world. -/
theorem MayV.put (h : MayV w mb κ μ q V M) {w2 : World} {q' : Nat} (i : Nat) (hi : i < 4) (v' : Value) (L : List (List Nat)) (ht : Touch (fun k => μ k = i + 1) w w2) (hμ : ∀ k, k < w.heap.size → μ' k = μ k) (hl : ∀ k, w.heap.size ≤ k → μ' k ≠ 0 → μ' k = i + 1 ∧ k < w2.heap.size ∧ κ k = 0) (hr : RowV w2 κ μ' i v' L) (hq : ∀ j, j < q' → j = i ∨ j < q) (hq4 : q' ≤ 4) :
    MayV (w2.setCell ⟨mb, i, none⟩ v') mb κ μ' q' (upd V i v') (upd M i L) ∧ Touch (fun k => μ k ≠ 0) w (w2.setCell ⟨mb, i, none⟩ v') := by
  have hml := h.ml
  have m5' : μ' mb = 5 := (hμ mb hml).trans h.m5
  have n5 : ¬ μ mb = i + 1 := by rw [h.m5]; omega
  have t2 : Touch (fun k => k = mb) w2 (w2.setCell ⟨mb, i, none⟩ v') := (Touch.refl (fun k => k = mb) w2).setCell (b := mb) (.inl rfl) i v'
  have T : Touch (fun k => μ k ≠ 0) w (w2.setCell ⟨mb, i, none⟩ v') := (ht.more (F' := fun k => μ k ≠ 0) (fun k e => by omega)).setCell (b := mb) (.inl (by rw [h.m5]; omega)) i v'
  have c2 : ∀ j, w2.cell? ⟨mb, j, none⟩ = w.cell? ⟨mb, j, none⟩ := fun j => ht.cell (p := ⟨mb, j, none⟩) hml n5
  have q4 := h.q4
  refine ⟨⟨m5', hq4, fun k hk => ?_, fun k hk => ?_, fun j hj => ?_, fun j => ?_, fun j hj => ?_⟩, T⟩
  · rw [World.size_setCell]
    by_cases hkw : k < w.heap.size
    · exact Nat.lt_of_lt_of_le hkw ht.size
    · exact (hl k (by omega) hk).2.1
  · by_cases hkw : k < w.heap.size
    · rw [hμ k hkw] at hk; exact h.dis k hk
    · exact (hl k (by omega) hk).2.2
  · by_cases e : j = i
    · subst e
      rw [upd_at]
      exact World.cell?_setCell_same _ _ _ ((c2 j).trans (h.cell j hj))
    · rw [upd_ne V v' e, World.cell?_setCell_other _ _ _ _ (fun x => e (by simpa using (Addr.mk.inj x).2.1.symm)), c2]
      exact h.cell j hj
  · rw [World.frozen?_setCell]; exact (ht.frozen (p := ⟨mb, j, none⟩) hml n5).trans (h.free j)
  · by_cases e : j = i
    · subst e
      rw [upd_at, upd_at]
      exact hr.touch t2 (fun k e1 e2 => by rw [e2, m5'] at e1; omega) (fun k _ e1 e2 => by rw [e2, m5'] at e1; omega) (fun _ _ => rfl) (fun _ _ => rfl)
    · rw [upd_ne V v' e, upd_ne M L e]
      have hjq : j < q := (hq j hj).resolve_left e
      have h1 := (h.rows j hjq).touch (κ' := κ) (μ' := μ') ht (fun k e1 e2 => by have e2' : μ k = i + 1 := e2; omega) (fun k _ e1 e2 => by have e2' : μ k = i + 1 := e2; omega) (fun _ _ => rfl) hμ
      exact h1.touch t2 (fun k e1 e2 => by rw [e2, m5'] at e1; omega) (fun k _ e1 e2 => by rw [e2, m5'] at e1; omega) (fun _ _ => rfl) (fun _ _ => rfl)
theorem info_slb : (Try.prog.info? 32).map (fun i => (i.zero, i.size, i.bytes)) = some (some (.slice none 0 0), 1, 24) := by kernel_rfl
/-- A row grows by one. -/
theorem MayV.append (h : MayV w mb κ μ 4 V M) (hκ : ∀ k, κ k ≠ 0 → k < w.heap.size) (i : Nat) (hi : i < 4) (A : Option Addr) (c : Nat) (bs : List Nat) (hc : bs.length ≤ c) (hA : A = none → c = 0) (hB : ByL w (fun k => κ k = 0 ∧ μ k = 0) A bs) (hn : (M i).length ≤ 4294967295) :
    ∃ v' w4, (Builtin.append_ #[37, 37] 37 #[V i, .slice (some ⟨w.heap.size, 0, none⟩) 1 1]).run Try.prog (w.alloc (.cells #[.slice A bs.length c] 32)) = .ok v' w4 ∧ w4.cell? ⟨mb, i, none⟩ = some (V i) ∧ w4.frozen? ⟨mb, i, none⟩ = false ∧ (∃ A' n' c', v' = .slice A' n' c') ∧
      ∃ μ', MayV (w4.setCell ⟨mb, i, none⟩ v') mb κ μ' 4 (upd V i v') (upd M i (M i ++ [bs])) ∧ Touch (fun k => μ k ≠ 0) w (w4.setCell ⟨mb, i, none⟩ v') ∧ ∀ k, k < w.heap.size → μ' k = μ k := by
  obtain ⟨i0, hi0, hz0, hz1, hz2⟩ := info_parts info_slb
  obtain ⟨rb, o, cap, ps, hV, hpos, hrl, hrm, hrow, hM, hx⟩ := h.rows i hi
  have hml := h.ml
  have hba := below_alloc w (.cells #[.slice A bs.length c] 32)
  have hlast := heap_alloc_last w (.cells #[.slice A bs.length c] 32)
  have n5 : ¬ μ mb = i + 1 := by rw [h.m5]; omega
  have hrow1 : RowAt (w.alloc (.cells #[.slice A bs.length c] 32)) rb o (M i).length cap ps := ⟨hrow.len, hrow.le, fun j hj => (hba.cell (p := ⟨rb, o + j, none⟩) hrl).trans (hrow.cells j hj), fun j hj => by
    rw [hba.cell (p := ⟨rb, o + j, none⟩) hrl, hba.frozen (p := ⟨rb, o + j, none⟩) hrl]; exact hrow.spare j hj⟩
  have hnew : ∀ j u, [(Sl.mk A c bs).v][j]? = some u → (w.alloc (.cells #[.slice A bs.length c] 32)).cell? ((⟨w.heap.size, 0, none⟩ : Addr).add j) = some u := fun j u hu => by
    match j, hu with
    | 0, hu => simp only [List.getElem?_cons_zero, Option.some.injEq] at hu; subst hu; rw [add_nat, cell_of_row _ _ _ _ _ _ hlast]; rfl
    | j + 1, hu => simp at hu
  have hone : ∀ u ∈ [(Sl.mk A c bs).v], u.oneCell' = true := fun u hu => by rw [List.mem_singleton] at hu; subst hu; rfl
  have hmn : (M i).length + 1 ≤ 4294967296 := by omega
  rw [hV]
  by_cases hroom : (M i).length + 1 ≤ cap
  · -- there is room
    have hrun := run_append_room_cells (P := Try.prog) (w := w.alloc (.cells #[.slice A bs.length c] 32)) 37 37 32 i0 Try.underlying37 hi0 rb o (M i).length cap ⟨w.heap.size, 0, none⟩ 1 1 [(Sl.mk A c bs).v] (by rw [hz1]; rfl) hnew hone hroom
      (fun j hj => by
        have : j = 0 := by simpa using hj
        subst this
        rw [hz1, Nat.mul_one, Nat.add_zero]; exact (hrow1.spare _ (by omega)).1)
      (fun j hj => by
        have : j = 0 := by simpa using hj
        subst this
        rw [hz1, Nat.mul_one, Nat.add_zero]; exact (hrow1.spare _ (by omega)).2)
    rw [hz1, Nat.mul_one] at hrun
    have ht : Touch (fun k => μ k = i + 1) w ((w.alloc (.cells #[.slice A bs.length c] 32)).setCells rb (o + (M i).length) [(Sl.mk A c bs).v]) := Touch.setCells (F := fun k => μ k = i + 1) (Touch.of _ hba) hrm _ _
    have hcell : ∀ j, ((w.alloc (.cells #[.slice A bs.length c] 32)).setCells rb (o + (M i).length) [(Sl.mk A c bs).v]).cell? ⟨rb, o + j, none⟩ = if j = (M i).length then some (Sl.mk A c bs).v else (w.alloc (.cells #[.slice A bs.length c] 32)).cell? ⟨rb, o + j, none⟩ := fun j => by
      show ((w.alloc (.cells #[.slice A bs.length c] 32)).setCell ⟨rb, o + (M i).length, none⟩ (Sl.mk A c bs).v).cell? _ = _
      by_cases e : j = (M i).length
      · rw [if_pos e, e]
        obtain ⟨x, hx'⟩ := Option.isSome_iff_exists.1 (hrow1.spare (M i).length (by omega)).1
        exact World.cell?_setCell_same _ _ _ hx'
      · rw [if_neg e]
        exact World.cell?_setCell_other _ _ _ _ (fun x => e (by have := (Addr.mk.inj x).2.1; omega))
    have hR : RowV ((w.alloc (.cells #[.slice A bs.length c] 32)).setCells rb (o + (M i).length) [(Sl.mk A c bs).v]) κ μ i (.slice (some ⟨rb, o, none⟩) ((M i).length + 1) cap) (M i ++ [bs]) := by
      refine ⟨rb, o, cap, ps ++ [Sl.mk A c bs], by simp, by simp, by rw [size_setCells]; exact Nat.lt_of_lt_of_le hrl hba.size, hrm, ⟨by simp [hrow.len], by simp; omega, fun j hj => ?_, fun j hj => ?_⟩, by simp [hM], fun x hxm => ?_⟩
      · rw [hcell]
        by_cases e : j = (M i).length
        · rw [if_pos e]
          congr 1
          simp only [e, ← hrow.len, List.getElem_append_right (Nat.le_refl _), Nat.sub_self, List.getElem_cons_zero]
        · have hj' : j < ps.length := by rw [List.length_append, List.length_singleton, hrow.len] at hj; rw [hrow.len]; omega
          rw [if_neg e, hrow1.cells j hj', List.getElem_append_left hj']
      · rw [hcell, World.frozen?_setCells]
        refine ⟨?_, (hrow1.spare j hj).2⟩
        by_cases e : j = (M i).length
        · rw [if_pos e]; rfl
        · rw [if_neg e]; exact (hrow1.spare j hj).1
      · rcases List.mem_append.1 hxm with hxm | hxm
        · exact ⟨(hx x hxm).1, (hx x hxm).2.1, (hx x hxm).2.2.touch ht (fun k e e' => by have e2 : μ k = i + 1 := e'; omega) (fun _ _ e => e)⟩
        · rw [List.mem_singleton] at hxm; subst hxm
          exact ⟨hc, hA, hB.touch ht (fun k e e' => by have e2 : μ k = i + 1 := e'; omega) (fun _ _ e => e)⟩
    obtain ⟨p1, p2⟩ := h.put (μ' := μ) (q' := 4) i hi (.slice (some ⟨rb, o, none⟩) ((M i).length + 1) cap) (M i ++ [bs]) ht (fun _ _ => rfl) (fun k hk hm => by have := h.lt k hm; omega) hR (fun j hj => .inr hj) (Nat.le_refl _)
    exact ⟨_, _, hrun, by rw [ht.cell (p := ⟨mb, i, none⟩) hml n5, ← hV]; exact h.cell i hi, (ht.frozen (p := ⟨mb, i, none⟩) hml n5).trans (h.free i), ⟨_, _, _, rfl⟩, μ, p1, p2, fun _ _ => rfl⟩
  · -- it grows
    obtain ⟨v', w4, hrun, hown, hgr⟩ := run_append_arg_grows (P := Try.prog) (w := w.alloc (.cells #[.slice A bs.length c] 32)) 37 37 32 i0 (.slice none 0 0) 1 24 Try.underlying37 hi0 hz0 hz1 hz2 rfl (by decide) ⟨rb, o, none⟩ (M i).length cap (ps.map Sl.v) (by rw [List.length_map, hrow.len, Nat.mul_one])
      (fun j u hu => by
        rw [List.getElem?_map] at hu
        obtain ⟨x, hx1, rfl⟩ := Option.map_eq_some_iff.1 hu
        obtain ⟨hj, rfl⟩ := List.getElem?_eq_some_iff.1 hx1
        rw [add_nat]; exact hrow1.cells j hj)
      ⟨w.heap.size, 0, none⟩ 1 1 [(Sl.mk A c bs).v] rfl hnew (by omega) (by unfold maxLen; omega) (by omega)
    have hs4 := hgr.size
    have hsz : (w.alloc (.cells #[.slice A bs.length c] 32)).heap.size = w.heap.size + 1 := by simp
    have ht : Touch (fun k => μ k = i + 1) w w4 := (Touch.of (fun k => μ k = i + 1) hba).grown hgr (fun k hk => by cases hk)
    rcases hown.2 with ⟨_, h0⟩ | ⟨gb, cap', cur, hv', hgb, hheap, hle', hmax, hcs, htk⟩
    · omega
    rw [Nat.mul_one] at hcs htk
    obtain ⟨μ', hμ'⟩ : ∃ μ' : Nat → Nat, μ' = fun k => if k < w.heap.size then μ k else if k = gb then i + 1 else 0 := ⟨_, rfl⟩
    have hold : ∀ k, k < w.heap.size → μ' k = μ k := fun k hk => by rw [hμ']; simp only [if_pos hk]
    have hgbl : gb < w4.heap.size := (Array.getElem?_eq_some_iff.1 hheap).1
    have hgm : μ' gb = i + 1 := by rw [hμ']; simp only [if_neg (by omega : ¬ gb < w.heap.size), if_true]
    have hlen2 : (ps.map Sl.v ++ [(Sl.mk A c bs).v]).length = (M i).length + 1 := by simp [hrow.len]
    have hgc : ∀ j, j < (M i).length + 1 → w4.cell? ⟨gb, 0 + j, none⟩ = (ps.map Sl.v ++ [(Sl.mk A c bs).v])[j]? := fun j hj => by
      rw [Nat.zero_add, cell_of_row _ _ _ _ _ _ hheap, ← htk, List.getElem?_take, if_pos hj, Array.getElem?_toList]
    have hR : RowV w4 κ μ' i v' (M i ++ [bs]) := by
      refine ⟨gb, 0, cap', ps ++ [Sl.mk A c bs], by rw [hv']; simp, by simp, hgbl, hgm, ⟨by simp [hrow.len], by simpa using hle', fun j hj => ?_, fun j hj => ?_⟩, by simp [hM], fun x hxm => ?_⟩
      · have hj2 : j < (M i).length + 1 := by rw [List.length_append, List.length_singleton, hrow.len] at hj; exact hj
        rw [hgc j hj2]
        have : (ps.map Sl.v ++ [(Sl.mk A c bs).v]) = (ps ++ [Sl.mk A c bs]).map Sl.v := by simp
        rw [this, List.getElem?_map, List.getElem?_eq_getElem hj]; rfl
      · rw [Nat.zero_add]
        refine ⟨?_, frozen_of_row _ _ _ _ _ hheap⟩
        rw [cell_of_row _ _ _ _ _ _ hheap, Array.getElem?_eq_getElem (by omega)]; rfl
      · rcases List.mem_append.1 hxm with hxm | hxm
        · exact ⟨(hx x hxm).1, (hx x hxm).2.1, (hx x hxm).2.2.touch ht (fun k e e' => by have e2 : μ k = i + 1 := e'; omega) (fun k hk e => ⟨e.1, (hold k hk).trans e.2⟩)⟩
        · rw [List.mem_singleton] at hxm; subst hxm
          exact ⟨hc, hA, hB.touch ht (fun k e e' => by have e2 : μ k = i + 1 := e'; omega) (fun k hk e => ⟨e.1, (hold k hk).trans e.2⟩)⟩
    obtain ⟨p1, p2⟩ := h.put (μ' := μ') (q' := 4) i hi v' (M i ++ [bs]) ht hold (fun k hk hm => by
      rw [hμ'] at hm ⊢
      simp only [if_neg (by omega : ¬ k < w.heap.size)] at hm ⊢
      by_cases e : k = gb
      · subst e
        simp only [if_true, true_and]
        refine ⟨hgbl, ?_⟩
        by_cases h0 : κ k = 0
        · exact h0
        · have := hκ k h0; omega
      · rw [if_neg e] at hm; exact absurd rfl hm) hR (fun j hj => .inr hj) (Nat.le_refl _)
    exact ⟨v', w4, hrun, by rw [ht.cell (p := ⟨mb, i, none⟩) hml n5, ← hV]; exact h.cell i hi, (ht.frozen (p := ⟨mb, i, none⟩) hml n5).trans (h.free i), ⟨_, _, _, hv'⟩, μ', p1, p2, hold⟩
end
end Go.Proofs.Ytfjaiolgbcindaa
