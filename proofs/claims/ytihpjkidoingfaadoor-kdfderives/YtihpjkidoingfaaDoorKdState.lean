/-
  What lies in memory while kdf.derived makes a key: its place, its parts, the bytes that are made; and '[]byte(label)'. No conditions.
-/
import Derived.Test.YtihpjkidoingfaaDoorKdFramed
import Derived.Test.YtihpjkidoingfaaDoorCutBys
import Derived.Laws.IdiomStrings
import Derived.Laws.OwnMore
namespace Go.Proofs.YtihpjkidoingfaaDoor.Arr
open Go.ChangeShapes Go.WideShapes Go.ChangeAt Go.RowKit
variable {P : Program}
/-- A conversion, told. -/
theorem list_convert {ops : Array Oper} {rest : List Oper} {dst : Option Tmp} {s t ty : TypeId} {pos : String} {after : Array Edge} {a : Act} {w : World} {Q : Exit → Act → World → Prop} {x : Operand} (vx v : Value) (w' : World) (hx : a.eval x = vx)
    (hr : (Go.convert s t vx).run P w = .ok v w') (h : wpList P ops Q rest (a.put dst v) w') : wpList P ops Q ({ dst := dst, op := .convert s t x, type := ty, pos := pos, after := after, guard := none } :: rest) a w := by
  refine wpList_plain rfl fun K hK => ?_
  unfold Oper.wp execOp
  simp only [hx, hr, Sem.run_bind, Sem.run_pure, Result.andThen_ok]
  exact hK _ _ h
end Go.Proofs.YtihpjkidoingfaaDoor.Arr
namespace Go.Proofs.YtihpjkidoingfaaDoor
open Go.RowKit Arr Sh Hm Kd

/-- A label's bytes. -/
def labOf (s : ByteArray) : List Nat := s.data.toList.map UInt8.toNat
theorem length_labOf (s : ByteArray) : (labOf s).length = s.size := by rw [labOf, List.length_map, Array.length_toList]; rfl
theorem labOf_lt (s : ByteArray) : ∀ x, x ∈ labOf s → x < 256 := by
  intro x hx
  simp only [labOf, List.mem_map] at hx
  obtain ⟨b, _, rfl⟩ := hx
  exact b.toNat_lt
theorem below_undrew' {B : Nat} {w w' : World} (h : Below B w.drew w') : Below B w w' := ⟨h.os, h.tape, h.output, h.size, h.block⟩
/-- '[]byte(label)': a new block with the label's bytes. -/
theorem run_label (s : ByteArray) (W : World) : ∃ cp W', (Go.convert 9 22 (.string s)).run Tryd.prog W = .ok (.slice (some ⟨W.heap.size, 0, none⟩) s.size cp) W' ∧ s.size ≤ cp ∧ Bys W' W'.heap.size (some ⟨W.heap.size, 0, none⟩) (labOf s) ∧ W'.heap.size = W.heap.size + 1 ∧ Below W.heap.size W W' := by
  have hr := run_bytes_of_string (P := Tryd.prog) W 9 22 5 s Tryd.underlying9 Tryd.underlying22 Tryd.underlying5
  refine ⟨_, _, hr, grownCap_ge W s.size 0 5, ⟨labOf_lt s, fun _ => ⟨W.heap.size, 0, rfl, ?_, fun i hi => ?_⟩⟩, ?_, ?_⟩
  · rw [World.size_alloc]; exact Nat.lt_succ_self _
  · rw [length_labOf] at hi
    have hi' : i < s.data.size := hi
    rw [Nat.zero_add]
    refine (cell_of_row _ _ _ _ _ _ (heap_alloc_last W.drew _)).trans ?_
    rw [bytesRow_at s _ i hi']
    simp only [labOf, List.getD_eq_getElem?_getD, List.getElem?_map, Array.getElem?_toList]
    rw [Array.getElem?_eq_getElem hi']
    rfl
  · rw [World.size_alloc]; rfl
  · exact below_undrew' (below_alloc W.drew _)
/-- Parts beside the block that changes. -/
theorem Bys.onlyOff {w w' : World} {g : Nat} (q : Pt) (h : Bys w w.heap.size q.A q.bs) (hb : Only g w w') (ho : Off q (· = g)) : Bys w' w'.heap.size q.A q.bs :=
  ⟨h.1, fun hl => by
    obtain ⟨b, off, e, hlt, hc⟩ := h.2 hl
    exact ⟨b, off, e, Nat.lt_of_lt_of_le hlt hb.size, fun i hi => (hb.cell (p := ⟨b, off + i, none⟩) hlt (ho hl b off none e)).trans (hc i hi)⟩⟩
theorem Parts.only {w w' : World} {g : Nat} {AP : Option Addr} {q q' : Pt} {qs : List Pt} (h : Parts w w.heap.size AP (q :: qs)) (hb : Only g w w') (hh : ∀ b off s, AP = some ⟨b, off, s⟩ → b ≠ g) (h1 : q'.A = q.A) (h2 : q'.bs.length = q.bs.length) (h3 : q'.c = q.c)
    (hY : Bys w' w'.heap.size q'.A q'.bs) (ho : ∀ q ∈ qs, Off q (· = g)) : Parts w' w'.heap.size AP (q' :: qs) := by
  refine ⟨fun _ => ?_, fun j hj => ?_⟩
  · obtain ⟨b, off, e, hlt, hc⟩ := h.heads (by simp)
    refine ⟨b, off, e, Nat.lt_of_lt_of_le hlt hb.size, fun j hj => ?_⟩
    rw [hb.cell (p := ⟨b, off + j, none⟩) hlt (hh b off none e)]
    match j, hj with
    | 0, _ => rw [hc 0 (by simp)]; simp only [List.getElem_cons_zero]; rw [h1, h2, h3]
    | j + 1, hj => exact hc (j + 1) (by simpa using hj)
  · match j, hj with
    | 0, _ => exact ⟨by have := (h.each 0 (by simp)).1; simp only [List.getElem_cons_zero] at this ⊢; omega, hY⟩
    | j + 1, hj =>
      have hj' : j < qs.length := by simpa using hj
      have he := h.each (j + 1) (by simpa using hj)
      simp only [List.getElem_cons_succ] at he ⊢
      exact ⟨he.1, Bys.onlyOff qs[j] he.2 hb (ho _ (List.getElem_mem hj'))⟩
/-- The place. -/
def pl (gp i : Nat) : Pt := ⟨some ⟨gp, 0, none⟩, 1, [i]⟩
structure Dv (w : World) (gp gm : Nat) (AP : Option Addr) (qs : List Pt) (i : Nat) (m : List Nat) (wr : World) : Prop where
  parts : Parts wr wr.heap.size AP (pl gp i :: qs)
  hds : ∀ b off s, AP = some ⟨b, off, s⟩ → b ≠ gp ∧ b ≠ gm
  off : ∀ q ∈ qs, Off q (fun b => b = gp ∨ b = gm)
  place : Holds wr gp .u8 [i]
  made : Holds wr gm .u8 m
  bel : Below w.heap.size w wr
section
variable {w wr w2 : World} {gp gm : Nat} {AP : Option Addr} {qs : List Pt} {i : Nat} {m : List Nat}
theorem Dv.next (h : Dv w gp gm AP qs i m wr) (hm : 0 < m.length) (hb : Below wr.heap.size wr w2) : Dv w gp gm AP qs i m w2 :=
  ⟨h.parts.later hb, h.hds, h.off, h.place.below hb (h.place.lt (by simp)), h.made.below hb (h.made.lt hm), h.bel.trans (hb.mono h.bel.size)⟩
theorem Dv.drew (h : Dv w gp gm AP qs i m wr) : Dv w gp gm AP qs i m wr.drew := ⟨⟨h.parts.1, h.parts.2⟩, h.hds, h.off, h.place.drew, h.made.drew, below_drew h.bel⟩
theorem Dv.put (h : Dv w gp gm AP qs i m wr) (hg : w.heap.size ≤ gp) (hgm : gp ≠ gm) (j : Nat) (hj : j < 256) : Dv w gp gm AP qs j m (wr.setCell ⟨gp, 0, none⟩ (.int .u8 (j : Int))) := by
  have hp : Holds (wr.setCell ⟨gp, 0, none⟩ (.int .u8 (j : Int))) gp .u8 [j] := h.place.set 0 j (by simp)
  have hy : ∀ x, x ∈ [j] → x < 256 := fun x hx => by rw [List.mem_singleton.1 hx]; exact hj
  refine ⟨h.parts.only (q' := pl gp j) ((Only.refl gp wr).setCell 0 _) (fun b off s e => (h.hds b off s e).1) rfl rfl rfl (bys_of_holds hp hy) (fun q hq hl b off s e hb => h.off q hq hl b off s e (.inl hb)), h.hds, h.off, hp, h.made.beside _ _ hgm, h.bel.setCell (p := ⟨gp, 0, none⟩) hg _⟩
theorem Dv.lay (h : Dv w gp gm AP qs i m wr) (hg : w.heap.size ≤ gm) (hgm : gp ≠ gm) (o : Nat) (x : List Nat) (ho : o + x.length ≤ m.length) : Dv w gp gm AP qs i (spl m o x) (wr.setCells gm o (nv .u8 x)) := by
  have hp := h.place.apart gm o (nv .u8 x) hgm
  have hb : i < 256 := (h.parts.each 0 (by simp)).2.1 i (by simp [pl])
  have hy : ∀ x, x ∈ [i] → x < 256 := fun x hx => by rw [List.mem_singleton.1 hx]; exact hb
  refine ⟨h.parts.only (q' := pl gp i) ((Only.refl gm wr).setCells _ o) (fun b off s e => (h.hds b off s e).2) rfl rfl rfl (bys_of_holds hp hy) (fun q hq hl b off s e hb => h.off q hq hl b off s e (.inr hb)), h.hds, h.off, hp, ?_, below_setCells hg _ _ _ h.bel⟩
  have := (Holds.at0 h.made).spliced o x ho
  rwa [Nat.zero_add] at this
end
/-- A row of parts that is written down. -/
theorem PRow.lit (w : World) (base : Nat) (hb : base ≤ w.heap.size) (qs : List Pt) (n : Nat) (hn : qs.length = n) (h1 : n ≤ 1000) (arr : Array Value) (harr : arr = (hdsV qs).toArray) (he : ∀ q ∈ qs, q.bs.length ≤ q.c ∧ Bys w w.heap.size q.A q.bs) :
    PRow (w.alloc (.cells arr 22)) base (.slice (some ⟨w.heap.size, 0, none⟩) n n) qs := by
  subst hn harr
  refine ⟨?_, fun q hq => ⟨(he q hq).1, (he q hq).2.later (below_alloc w _), off_below (he q hq).2 (fun b hb h => ?_)⟩⟩
  · have := World.ownsRow_lit (base := base) (e := 22) (size := 1) w (hdsV qs).toArray qs.length hb (by unfold maxLen; omega) (by simp [length_hdsV])
    simpa using this
  · have : w.heap.size = b := by simpa [Value.ownBlock] using h
    omega
/-- What derived leaves. -/
def Drvd (l : List Nat) (n : Nat) (w : World) (e : Ending) (w' : World) : Prop := ∃ g, e = .returned (.slice (some ⟨g, 0, none⟩) n n) ∧ w.heap.size ≤ g ∧ Holds w' g .u8 l ∧ Below w.heap.size w w'
end Go.Proofs.YtihpjkidoingfaaDoor
