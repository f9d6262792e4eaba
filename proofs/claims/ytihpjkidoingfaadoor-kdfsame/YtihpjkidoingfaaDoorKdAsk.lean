/-
  What a law over a key, a label, a number and contexts holds in memory: the struct that came in, in its block; few contexts have few bytes. No conditions.
-/
import Derived.Test.YtihpjkidoingfaaDoorKdFew
import Derived.Test.YtihpjkidoingfaaDoorKdNumbersWalk
import Derived.Test.YtihpjkidoingfaaDoorWCut
namespace Go.Proofs.YtihpjkidoingfaaDoor.Arr
open Go.ChangeShapes Go.WideShapes Go.ChangeAt Go.RowKit
/-- A whole struct is read. -/
theorem load_hv {P : Program} {t : TypeId} {ops : Array Oper} {rest : List Oper} {dst : Option Tmp} {ty : TypeId} {pos : String} {after : Array Edge} {x : Operand} {a : Act} {w : World} {Q : Exit → Act → World → Prop} {d : TypeDesc} (hu : P.underlying t = some d) (hd : d.isRow = true) (g : Nat) (vs : List Value) (hi : (P.info? t).map (·.size) = some vs.length) (hb : HV w g vs)
    (hx : a.eval x = .pointer (some ⟨g, 0, none⟩)) (h : wpList P ops Q rest (a.put dst (.agg vs.toArray)) w) : wpList P ops Q ({ dst := dst, op := .load t x, type := ty, pos := pos, after := after, guard := none } :: rest) a w :=
  wpList_load_mid rfl _ x rfl g 0 hx vs _ hb.1 hu hd hi h
end Go.Proofs.YtihpjkidoingfaaDoor.Arr
namespace Go.Proofs.YtihpjkidoingfaaDoor
open Go.RowKit Arr Sh Hm Kd

theorem infoAsk : (Tryd.prog.info? 25).map (·.size) = some 4 := by kernel_rfl
theorem length_ctx_le : ∀ cs : List (List Nat), (∀ i (h : i < cs.length), cs[i].length ≤ 100) → (ctx cs).length ≤ 108 * cs.length
  | [], _ => by simp [ctx]
  | c :: cs, h => by
    have ih := length_ctx_le cs (fun i hi => by have := h (i + 1) (by simp; omega); simpa using this)
    have h0 := h 0 (by simp)
    simp only [List.getElem_cons_zero] at h0
    have e : ctx (c :: cs) = (bytesOf c.length 8 ++ c) ++ ctx cs := by simp [ctx]
    rw [e, List.length_append, List.length_append, length_bytesOf, List.length_cons]
    omega
theorem BysN.bys {w : World} {g : Nat} {A : Option Addr} {bs : List Nat} (h : BysN w g A bs) : Bys w w.heap.size A bs :=
  ⟨h.1, fun hl => by obtain ⟨b, off, e, h1, _, hc⟩ := h.2 hl; exact ⟨b, off, e, h1, hc⟩⟩
/-- A row that the call owns lies beside what was there. -/
theorem own_beside {w : World} {base e n g : Nat} {v : Value} {bs : List Nat} (h : w.ownsRow base e 1 v n (vals .u8 bs)) (hb : ∀ x, x ∈ bs → x < 256) (hg : g < base) :
    ∃ A c, v = .slice A n c ∧ BysN w g A bs := by
  have hl : bs.length = n := by have := h.1; simpa [vals] using this
  rcases Nat.eq_zero_or_pos n with h0 | h0
  · subst h0
    obtain rfl : bs = [] := List.eq_nil_of_length_eq_zero hl
    rcases h.2 with ⟨rfl, _⟩ | ⟨g', cap, cur, rfl, _⟩
    · exact ⟨_, _, rfl, hb, fun hp => by simp at hp⟩
    · exact ⟨_, _, rfl, hb, fun hp => by simp at hp⟩
  · obtain ⟨g', cap, rfl, hbg, hlt⟩ := h.form h0
    refine ⟨_, _, rfl, hb, fun _ => ⟨g', 0, rfl, hlt, by omega, fun i hi => ?_⟩⟩
    rw [Nat.zero_add, h.cellAt i (by omega), vals_get .u8 bs i hi]
end Go.Proofs.YtihpjkidoingfaaDoor
