/-
  The reference's key while it is made: its block, its row of bytes, the box. Own lemmas; no conditions.
-/
import Derived.Test.YtdjknmnmacppdaaDoorRefBox
import Derived.Test.YtdjknmnmacppdaaDoorAesRefNum
import Derived.Test.YtdjknmnmacppdaaDoorAesStill
import Derived.Test.YtdjknmnmacppdaaDoorHeldList
import Derived.Deep.AppendLies
import Derived.Deep.Heap
namespace Go.Proofs.YtdjknmnmacppdaaDoor
open Go.RowKit Arr Gf Sb Ae

/-- Another block is written: the row stands. -/
theorem owns_set {w : World} {base e n : Nat} {v : Value} {xs : List Value} (h : w.ownsRow base e 1 v n xs) (a : Addr) (u : Value) (ha : a.block < base) : (w.setCell a u).ownsRow base e 1 v n xs := by
  refine ⟨h.1, ?_⟩
  rcases h.2 with h0 | ⟨g, cap, cur, e1, e2, e3, e4⟩
  · exact .inl h0
  · exact .inr ⟨g, cap, cur, e1, e2, by rw [Go.Deep.blk_setCell_other _ _ _ _ (by omega)]; exact e3, e4⟩
theorem owns_drew {w : World} {base e n : Nat} {v : Value} {xs : List Value} (h : w.ownsRow base e 1 v n xs) : w.drew.ownsRow base e 1 v n xs := h
/-- One element more, as one operation: the new row, what is below it, and all other blocks as they were. -/
theorem wp_append_row {P : Program} {w : World} {o : Oper} {a : Act} {K : Act → World → Prop} {Q : Exit → Act → World → Prop} (s x : Operand) (t : TypeId)
    (ho : o.op = .call { callee := .builtin .append, args := #[s, x], argTypes := #[t, t] })
    (base : Nat) (e : TypeId) (z : Value) (bytes : Nat) (ht : P.underlying t = some (.slice e)) (hinfo : (P.info? e).map (fun i => (i.zero, i.size, i.bytes)) = some (some z, 1, bytes)) (hzs : z.cells.size = 1)
    (v : Value) (n : Nat) (xs : List Value) (u : Value) (hs : a.eval s = v) (hown : w.ownsRow base e 1 v n xs) (hx : a.eval x = .slice (some ⟨w.heap.size, 0, none⟩) 1 1)
    (hu : u.oneCell' = true) (hn : n ≤ 4294967296) (hby : bytes ≤ 64) (hbase : base ≤ w.heap.size)
    (h : ∀ g' cap' w', w'.ownsRow base e 1 (.slice (some ⟨g', 0, none⟩) (n + 1) cap') (n + 1) (xs ++ [u]) → Below base w w' → (∀ k l, Holds w k .i64 l → 0 < l.length → v.ownBlock ≠ some k → Holds w' k .i64 l ∧ g' ≠ k) → K (a.put o.dst (.slice (some ⟨g', 0, none⟩) (n + 1) cap')) w') : o.wp P a (w.alloc (.cells #[u] e)) K Q := by
  obtain ⟨i0, hi, hz0, hz1, hz2⟩ := info_parts hinfo
  have hmul : (n + 1) * bytes ≤ 4294967297 * 64 := Nat.mul_le_mul (by omega) hby
  refine wp_append_lies _ s x t ho base e i0 z 1 bytes ht hi hz0 hz1 hz2 hzs (by decide) v n xs hs (hown.alloc _) ⟨w.heap.size, 0, none⟩ 1 1 [u] hx rfl ?_ ?_ (by decide) ?_ ?_ ?_ _ rfl ?_
  · intro j y hj
    match j, hj with
    | 0, hj => simp at hj; subst hj; simp [Addr.add]
    | j + 1, hj => simp at hj
  · intro y hy; simp at hy; subst hy; exact hu
  · unfold maxLen; omega
  · omega
  · simp; omega
  · intro g' cap' w' h1 h2 hat _
    refine h g' cap' w' h1 (((Below.refl base w).alloc hbase _).grown h2 (by simp; omega) (fun k hk => (hown.lt k hk).1)) (fun k l hk hl hne => ⟨?_, fun e => ?_⟩)
    rotate_left
    · subst e
      rcases hat with hat | hat
      · exact hne hat
      · have := hk.lt hl
        rw [World.size_alloc] at hat
        omega
    have hk' := hk.alloc (.cells #[u] e)
    have hlt : k < (w.alloc (.cells #[u] e)).heap.size := hk'.lt hl
    refine ⟨fun j y hy => ?_, fun j hj => ?_⟩
    · rw [h2.cell_far ⟨k, 0 + j, none⟩ hlt (fun e => hne e.symm)]; exact hk'.1 j y hy
    · rw [h2.cell_far ⟨k, 0 + j, none⟩ hlt (fun e => hne e.symm), h2.frozen_far ⟨k, 0 + j, none⟩ hlt (fun e => hne e.symm)]; exact hk'.2 j hj

/-- The reference's key in the making: block g; its row is the call's own, from block 'base' on. -/
structure RK (w w' : World) (g gb cb r base : Nat) (v : Value) (l : List Nat) : Prop where
  c0 : w'.cell? ⟨g, 0, none⟩ = some (.int .i64 (r : Int))
  c1 : w'.cell? ⟨g, 1, none⟩ = some v
  f1 : w'.frozen? ⟨g, 1, none⟩ = false
  c2 : w'.cell? ⟨g, 2, none⟩ = some (.slice (some ⟨gb, 0, none⟩) 256 cb)
  box : Holds w' gb .i64 boxL
  own : w'.ownsRow base 3 1 v l.length (vals .i64 l)
  bel : Below w.heap.size w w'
  hg : g < base
  hgb : gb < base
  hw : w.heap.size ≤ g
  hbase : base ≤ w'.heap.size
section
variable {w w' : World} {g gb cb r base : Nat} {v : Value} {l : List Nat}
theorem RK.drew (h : RK w w' g gb cb r base v l) : RK w w'.drew g gb cb r base v l := ⟨h.c0, h.c1, h.f1, h.c2, h.box.drew, h.own, below_drew h.bel, h.hg, h.hgb, h.hw, h.hbase⟩
theorem RK.alloc (h : RK w w' g gb cb r base v l) (o : Obj) : RK w (w'.alloc o) g gb cb r base v l := by
  have hb : Below base w' (w'.alloc o) := (below_alloc w' o).mono h.hbase
  exact ⟨(hb.cell (p := ⟨g, 0, none⟩) h.hg).trans h.c0, (hb.cell (p := ⟨g, 1, none⟩) h.hg).trans h.c1, (hb.frozen (p := ⟨g, 1, none⟩) h.hg).trans h.f1, (hb.cell (p := ⟨g, 2, none⟩) h.hg).trans h.c2, h.box.below hb h.hgb, h.own.alloc o, h.bel.trans (hb.mono (by have := h.hg; have := h.hw; omega)), h.hg, h.hgb, h.hw, by rw [World.size_alloc]; have := h.hbase; omega⟩
/-- One byte more: the row has grown, and its new head is stored. -/
theorem RK.more (h : RK w w' g gb cb r base v l) {w'' : World} {v' : Value} {c : Nat} (hown : w''.ownsRow base 3 1 v' (l.length + 1) (vals .i64 l ++ [.int .i64 (c : Int)])) (hb : Below base w' w'') :
    w''.cell? ⟨g, 1, none⟩ = some v ∧ w''.frozen? ⟨g, 1, none⟩ = false ∧ RK w (w''.setCell ⟨g, 1, none⟩ v') g gb cb r base v' (l ++ [c]) := by
  have k1 := (hb.cell (p := ⟨g, 1, none⟩) h.hg).trans h.c1
  have kf := (hb.frozen (p := ⟨g, 1, none⟩) h.hg).trans h.f1
  have hgw := h.hg
  have hww := h.hw
  have hgne : gb ≠ g := fun e => by
    have h1 := h.box.cell 2 (by rw [boxL_len]; omega)
    have h2 := h.c2
    rw [e] at h1
    rw [h1] at h2
    cases h2
  refine ⟨k1, kf, ?_⟩
  refine ⟨?_, World.cell?_setCell_same _ _ _ k1, by rw [World.frozen?_setCell]; exact kf, ?_, (h.box.below hb h.hgb).beside _ _ (fun e => hgne e.symm), ?_, ?_, h.hg, h.hgb, h.hw, ?_⟩
  · rw [World.cell?_setCell_other _ _ _ _ (fun e => by have := (Addr.mk.inj e).2.1; omega)]; exact (hb.cell (p := ⟨g, 0, none⟩) h.hg).trans h.c0
  · rw [World.cell?_setCell_other _ _ _ _ (fun e => by have := (Addr.mk.inj e).2.1; omega)]; exact (hb.cell (p := ⟨g, 2, none⟩) h.hg).trans h.c2
  · rw [List.length_append, List.length_singleton, vals_snoc]; exact owns_set hown _ _ h.hg
  · exact (h.bel.trans (hb.mono (by omega))).setCell (p := ⟨g, 1, none⟩) h.hw v'
  · rw [Go.Deep.nblk_setCell]; exact Nat.le_trans h.hbase hb.size
end
/-- The reference's key, made. -/
structure RKey (w' : World) (g r gB cB : Nat) (l : List Nat) (gb cb : Nat) : Prop where
  c0 : w'.cell? ⟨g, 0, none⟩ = some (.int .i64 (r : Int))
  c1 : w'.cell? ⟨g, 1, none⟩ = some (.slice (some ⟨gB, 0, none⟩) l.length cB)
  c2 : w'.cell? ⟨g, 2, none⟩ = some (.slice (some ⟨gb, 0, none⟩) 256 cb)
  le : l.length ≤ cB
  bytes : Holds w' gB .i64 l
  box : Holds w' gb .i64 boxL
theorem RK.key {w w' : World} {g gb cb r base : Nat} {v : Value} {l : List Nat} (h : RK w w' g gb cb r base v l) (hl : 0 < l.length) : ∃ gB cB, v = .slice (some ⟨gB, 0, none⟩) l.length cB ∧ base ≤ gB ∧ RKey w' g r gB cB l gb cb := by
  obtain ⟨gB, cB, rfl, hb, hc, _, hH⟩ := holds_of_owns h.own hl
  exact ⟨gB, cB, rfl, hb, h.c0, h.c1, h.c2, hc, hH, h.box⟩
theorem RKey.below {w' w'' : World} {g r gB cB : Nat} {l : List Nat} {gb cb B : Nat} (h : RKey w' g r gB cB l gb cb) (hb : Below B w' w'') (hg : g < B) (hgB : gB < B) (hgb : gb < B) : RKey w'' g r gB cB l gb cb :=
  ⟨(hb.cell (p := ⟨g, 0, none⟩) hg).trans h.c0, (hb.cell (p := ⟨g, 1, none⟩) hg).trans h.c1, (hb.cell (p := ⟨g, 2, none⟩) hg).trans h.c2, h.le, h.bytes.below hb hgB, h.box.below hb hgb⟩
theorem RKey.after {w' w'' : World} {g r gB cB : Nat} {l : List Nat} {gb cb : Nat} (h : RKey w' g r gB cB l gb cb) (hl : 0 < l.length) (hb : Below w'.heap.size w' w'') : RKey w'' g r gB cB l gb cb :=
  h.below hb (block_lt_of_cell h.c0) (h.bytes.lt hl) (h.box.lt (by rw [boxL_len]; omega))

theorem xor64' (a b : Nat) (ha : a < 32768) (hb : b < 32768) (w : World) : Calls Tryd.prog 42 #[.int .i64 (a : Int), .int .i64 (b : Int)] w fun e w' => e = .returned (.int .i64 ((a ^^^ b : Nat) : Int)) ∧ w' = w := by
  have hx := xor64 a b ha hb
  go_enter Tryd.func42, Tryd.ntmps42
  go_wp2
  go_ret
  exact ⟨rfl, rfl⟩
end Go.Proofs.YtdjknmnmacppdaaDoor
