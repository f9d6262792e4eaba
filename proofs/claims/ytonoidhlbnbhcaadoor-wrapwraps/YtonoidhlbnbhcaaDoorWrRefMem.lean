/-
  The reference's A and pieces in memory: rows that the call owns, and slices of bytes. No conditions.
-/
import Derived.Test.YtonoidhlbnbhcaaDoorWrRefNum
import Derived.Test.YtonoidhlbnbhcaaDoorOwnAll
import Derived.Test.YtonoidhlbnbhcaaDoorAesStill
import Derived.Deep.Onto
import Derived.Laws.OwnMore
import Derived.Deep.AppendLies
namespace Go.Proofs.YtonoidhlbnbhcaaDoor
open Go.RowKit Arr Gf Sb Ae Wr

theorem info_row : (Tryd.prog.info? 22).map (fun i => (i.zero, i.size, i.bytes)) = some (some (.slice none 0 0), 1, 24) := by kernel_rfl

/-- One element more, and which block it lies in: 'v = append(v, u)'. -/
theorem append_lie {P : Program} {w : World} {ops : Array Oper} {rest : List Oper} {o : Oper} {a : Act} {Q : Exit → Act → World → Prop} (hgd : o.guard = none) (s x : Operand) (t : TypeId)
    (ho : o.op = .call { callee := .builtin .append, args := #[s, x], argTypes := #[t, t] })
    (base : Nat) (e : TypeId) (z : Value) (bytes : Nat) (ht : P.underlying t = some (.slice e)) (hinfo : (P.info? e).map (fun i => (i.zero, i.size, i.bytes)) = some (some z, 1, bytes)) (hzs : z.cells.size = 1)
    (v : Value) (n : Nat) (xs : List Value) (u : Value) (hs : a.eval s = v) (hown : w.ownsRow base e 1 v n xs) (hx : a.eval x = .slice (some ⟨w.heap.size, 0, none⟩) 1 1)
    (hu : u.oneCell' = true) (hn : n ≤ 4294967296) (hby : bytes ≤ 64) (hbase : base ≤ w.heap.size)
    (h : ∀ g cap w', w'.ownsRow base e 1 (.slice (some ⟨g, 0, none⟩) (n + 1) cap) (n + 1) (xs ++ [u]) → w.grownBy w' v.ownBlock → (v.ownBlock = some g ∨ w.heap.size < g) → g < w'.heap.size → wpList P ops Q rest (a.put o.dst (.slice (some ⟨g, 0, none⟩) (n + 1) cap)) w') : wpList P ops Q (o :: rest) a (w.alloc (.cells #[u] e)) := by
  obtain ⟨i0, hi, hz0, hz1, hz2⟩ := info_parts hinfo
  have hmul : (n + 1) * bytes ≤ 4294967297 * 64 := Nat.mul_le_mul (by omega) hby
  refine wpList_append_lies _ hgd s x t ho base e i0 z 1 bytes ht hi hz0 hz1 hz2 hzs (by decide) v n xs hs (hown.alloc _) ⟨w.heap.size, 0, none⟩ 1 1 [u] hx rfl ?_ ?_ (by omega) ?_ ?_ ?_ (w.heap.size + 1) (World.size_alloc ..) ?_
  · intro j y hj
    match j, hj with
    | 0, hj => simp at hj; subst hj; simp [Addr.add]
    | j + 1, hj => simp at hj
  · intro y hy; simp at hy; subst hy; exact hu
  · unfold maxLen; omega
  · omega
  · simp; omega
  · intro g cap w' h1 h2 h3 h4
    refine h g cap w' h1 ⟨h2.os, h2.tape, h2.output, ?_, fun k hk hne => ?_⟩ (h3.imp id (fun e => by omega)) h4
    · have := h2.size; rw [World.size_alloc] at this; omega
    · rw [h2.block k (by rw [World.size_alloc]; omega) hne]; exact heap_alloc_old w _ hk

/-- Two rows of bytes of the call's own, in two blocks: the first kp of P, the first kq of Q. -/
structure TwoRows (B : Nat) (w0 : World) (vp vq : Value) (kp kq : Nat) (P Q : List Nat) (w : World) : Prop where
  p : w.ownsRow B 5 1 vp kp (vals .u8 (P.take kp))
  q : w.ownsRow B 5 1 vq kq (vals .u8 (Q.take kq))
  dis : ∀ g, vp.ownBlock = some g → vq.ownBlock = some g → False
  bel : Below B w0 w
theorem TwoRows.drew {B : Nat} {w0 w : World} {vp vq : Value} {kp kq : Nat} {P Q : List Nat} (h : TwoRows B w0 vp vq kp kq P Q w) : TwoRows B w0 vp vq kp kq P Q w.drew := ⟨h.p, h.q, h.dis, below_drew h.bel⟩
theorem TwoRows.drewN {B : Nat} {w0 w : World} {vp vq : Value} {kp kq : Nat} {P Q : List Nat} (h : TwoRows B w0 vp vq kp kq P Q w) (n : Nat) : TwoRows B w0 vp vq kp kq P Q (w.drewN n) := ⟨h.p, h.q, h.dis, below_drewN h.bel n⟩
theorem TwoRows.begin (w : World) (P Q : List Nat) : TwoRows w.heap.size w (.slice none 0 0) (.slice none 0 0) 0 0 P Q w :=
  ⟨World.ownsRow_nil _ _ _ _, World.ownsRow_nil _ _ _ _, (fun g h => by cases h), Below.refl _ _⟩
theorem TwoRows.moreP {B : Nat} {w0 w : World} {vp vq : Value} {kp kq : Nat} {P Q : List Nat} (h : TwoRows B w0 vp vq kp kq P Q w) (hB : B ≤ w.heap.size) (hk : kp < P.length) {g cap : Nat} {w' : World}
    (hown : w'.ownsRow B 5 1 (.slice (some ⟨g, 0, none⟩) (kp + 1) cap) (kp + 1) (vals .u8 (P.take kp) ++ [.int .u8 ((P.getD kp 0 : Nat) : Int)])) (hgr : w.grownBy w' vp.ownBlock) (hat : vp.ownBlock = some g ∨ w.heap.size < g) :
    TwoRows B w0 (.slice (some ⟨g, 0, none⟩) (kp + 1) cap) vq (kp + 1) kq P Q w' := by
  refine ⟨by rw [take_snoc P kp hk, vals_snoc]; exact hown, h.q.kept hgr ?_, fun g' hp hq => ?_, h.bel.grown hgr hB (fun k hk => (h.p.lt k hk).1)⟩
  · cases hq : vq.ownBlock with
    | none => exact .inl rfl
    | some g' => exact .inr fun e => h.dis g' e.symm hq
  · have e : g = g' := Option.some.inj hp
    subst e
    rcases hat with h1 | h1
    · exact h.dis g h1 hq
    · have := (h.q.lt g hq).2; omega
theorem TwoRows.moreQ {B : Nat} {w0 w : World} {vp vq : Value} {kp kq : Nat} {P Q : List Nat} (h : TwoRows B w0 vp vq kp kq P Q w) (hB : B ≤ w.heap.size) (hk : kq < Q.length) {g cap : Nat} {w' : World}
    (hown : w'.ownsRow B 5 1 (.slice (some ⟨g, 0, none⟩) (kq + 1) cap) (kq + 1) (vals .u8 (Q.take kq) ++ [.int .u8 ((Q.getD kq 0 : Nat) : Int)])) (hgr : w.grownBy w' vq.ownBlock) (hat : vq.ownBlock = some g ∨ w.heap.size < g) :
    TwoRows B w0 vp (.slice (some ⟨g, 0, none⟩) (kq + 1) cap) kp (kq + 1) P Q w' := by
  refine ⟨h.p.kept hgr ?_, by rw [take_snoc Q kq hk, vals_snoc]; exact hown, fun g' hp hq => ?_, h.bel.grown hgr hB (fun k hk => (h.q.lt k hk).1)⟩
  · cases hp : vp.ownBlock with
    | none => exact .inl rfl
    | some g' => exact .inr fun e => h.dis g' hp e.symm
  · have e : g = g' := Option.some.inj hq
    subst e
    rcases hat with h1 | h1
    · exact h.dis g hp h1
    · have := (h.p.lt g hp).2; omega

/-- What stands while the reference wraps: A (and, at the end, what is behind it) in a row of the call's own, the pieces' heads in another, the pieces' bytes wherever. -/
structure Rw (w1 : World) (gr n cr ga m ca : Nat) (L : List Nat) (hs : List Value) (w : World) : Prop where
  a : w.ownsRow w1.heap.size 5 1 (.slice (some ⟨ga, 0, none⟩) m ca) m (vals .u8 (L.take m))
  r : w.ownsRow w1.heap.size 22 1 (.slice (some ⟨gr, 0, none⟩) n cr) n hs
  ne : ga ≠ gr
  ps : ∀ i, i < n → ∃ b o c, hs[i]? = some (.slice (some ⟨b, o, none⟩) 8 c) ∧ b < w.heap.size ∧ b ≠ gr ∧ b ≠ ga ∧ ∀ k, k < 8 → w.cell? ⟨b, o + k, none⟩ = some (.int .u8 ((L.getD (8 * (i + 1) + k) 0 : Nat) : Int))
  bel : Below w1.heap.size w1 w
section
variable {w1 w w' : World} {gr n cr ga m ca : Nat} {L : List Nat} {hs : List Value}
theorem Rw.gaB (h : Rw w1 gr n cr ga m ca L hs w) : w1.heap.size ≤ ga ∧ ga < w.heap.size := h.a.lt ga rfl
theorem Rw.grB (h : Rw w1 gr n cr ga m ca L hs w) : w1.heap.size ≤ gr ∧ gr < w.heap.size := h.r.lt gr rfl
theorem Rw.later (h : Rw w1 gr n cr ga m ca L hs w) (hb : Below w.heap.size w w') : Rw w1 gr n cr ga m ca L hs w' := by
  refine ⟨h.a.kept (row := none) ⟨hb.os, hb.tape, hb.output, hb.size, fun k hk _ => hb.block k hk⟩ (.inr (by simp [Value.ownBlock])), h.r.kept (row := none) ⟨hb.os, hb.tape, hb.output, hb.size, fun k hk _ => hb.block k hk⟩ (.inr (by simp [Value.ownBlock])), h.ne, fun i hi => ?_, h.bel.trans (hb.mono h.bel.size)⟩
  obtain ⟨b, o, c, e, h1, h2, h3, h4⟩ := h.ps i hi
  exact ⟨b, o, c, e, Nat.lt_of_lt_of_le h1 hb.size, h2, h3, fun k hk => (hb.cell (p := ⟨b, o + k, none⟩) h1).trans (h4 k hk)⟩
theorem Rw.aCell (h : Rw w1 gr n cr ga m ca L hs w) (k : Nat) (hk : k < m) (hm : m ≤ L.length) : w.cell? ⟨ga, k, none⟩ = some (.int .u8 ((L.getD k 0 : Nat) : Int)) := by
  rw [h.a.cellAt k (by omega), vals_get .u8 _ k (by simp; omega)]
  congr 3
  simp [List.getD_eq_getElem?_getD, hk]
theorem Rw.rCell (h : Rw w1 gr n cr ga m ca L hs w) (i : Nat) (hi : i < n) : w.cell? ⟨gr, i, none⟩ = hs[i]? := h.r.cellAt i (by omega)
/-- The next A, and the next piece i. -/
theorem Rw.step (h : Rw w1 gr n cr ga m ca L hs w) {w5 : World} (hb : Below w.heap.size w w5) {S3 gp cp gq cq : Nat} {X : List Nat} {i : Nat} (hi : i < n) (hS : w.heap.size ≤ S3) (hX : X.length = 16) (hl : Tx n L)
    (hp : w5.ownsRow S3 5 1 (.slice (some ⟨gp, 0, none⟩) 8 cp) 8 (vals .u8 (X.take 8))) (hq : w5.ownsRow S3 5 1 (.slice (some ⟨gq, 0, none⟩) 8 cq) 8 (vals .u8 (X.drop 8))) (hne : gp ≠ gq) :
    Rw w1 gr n cr gp 8 cp (ly L (8 * (i + 1)) X) (hs.set i (.slice (some ⟨gq, 0, none⟩) 8 cq)) (w5.setCell ⟨gr, i, none⟩ (.slice (some ⟨gq, 0, none⟩) 8 cq)) := by
  have h5 := h.later hb
  obtain ⟨s1, s2⟩ := h5.r.stored i (.slice (some ⟨gq, 0, none⟩) 8 cq)
  have hgr := h.grB
  have hgp := hp.lt gp rfl
  have hgq := hq.lt gq rfl
  have hB : w1.heap.size ≤ S3 := by have := h.bel.size; omega
  refine ⟨?_, s1, by omega, fun j hj => ?_, h5.bel.grown s2 h5.bel.size (fun k hk => by cases hk; exact hgr.1)⟩
  · rw [ly_take8 hl (by omega) (by omega) hX]
    exact (World.ownsRow.mono hp hB).kept s2 (.inr (fun e => by have e' : gp = gr := Option.some.inj e; omega))
  · have hsz : (w5.setCell ⟨gr, i, none⟩ (.slice (some ⟨gq, 0, none⟩) 8 cq)).heap.size = w5.heap.size := by simp
    by_cases hji : j = i
    · subst hji
      refine ⟨gq, 0, cq, ?_, by rw [hsz]; exact hgq.2, by omega, fun e => hne e.symm, fun k hk => ?_⟩
      · rw [List.getElem?_set_self]
        have := h5.r.1; omega
      · rw [World.cell?_setCell_other _ _ _ _ (fun e => by have e' := congrArg Addr.block e; simp only at e'; omega), Nat.zero_add, hq.cellAt k (by omega), vals_get .u8 _ k (by simp; omega), drop8_get, ly_piece hl hi hX j k hk, if_pos rfl]
    · obtain ⟨b, o, c, e, h1, h2, h3, h4⟩ := h.ps j hj
      refine ⟨b, o, c, by rw [List.getElem?_set_ne (fun x => hji x.symm)]; exact e, by rw [hsz]; exact Nat.lt_of_lt_of_le h1 hb.size, h2, by omega, fun k hk => ?_⟩
      rw [World.cell?_setCell_other _ _ _ _ (fun e => by have e' := congrArg Addr.block e; simp only at e'; omega), ly_piece hl hi hX j k hk, if_neg hji]
      exact (hb.cell (p := ⟨b, o + k, none⟩) h1).trans (h4 k hk)
/-- One piece more behind A. -/
theorem Rw.more (h : Rw w1 gr n cr ga m ca L hs w) {g cap : Nat} (hown : w'.ownsRow w1.heap.size 5 1 (.slice (some ⟨g, 0, none⟩) (m + 8) cap) (m + 8) (vals .u8 (L.take m) ++ vals .u8 ((L.drop m).take 8)))
    (hgr : w.grownBy w' (some ga)) (hat : some ga = some g ∨ g = w.heap.size) : Rw w1 gr n cr g (m + 8) cap L hs w' := by
  have hgrB := h.grB
  have hv : vals .u8 (L.take (m + 8)) = vals .u8 (L.take m) ++ vals .u8 ((L.drop m).take 8) := by rw [take_piece L m]; simp [vals]
  have hg : g = ga ∨ g = w.heap.size := hat.imp (fun e => (Option.some.inj e).symm) id
  refine ⟨by rw [hv]; exact hown, h.r.kept hgr (.inr (fun e => h.ne (Option.some.inj e).symm)), ?_, fun i hi => ?_, h.bel.grown hgr h.bel.size (fun k hk => by cases hk; exact h.gaB.1)⟩
  · rcases hg with rfl | rfl
    · exact h.ne
    · omega
  · obtain ⟨b, o, c, e, h1, h2, h3, h4⟩ := h.ps i hi
    refine ⟨b, o, c, e, Nat.lt_of_lt_of_le h1 hgr.size, h2, ?_, fun k hk => ?_⟩
    · rcases hg with rfl | rfl
      · exact h3
      · omega
    · rw [hgr.cell_far ⟨b, o + k, none⟩ h1 (fun e => h3 (Option.some.inj e))]; exact h4 k hk
end
end Go.Proofs.YtonoidhlbnbhcaaDoor
