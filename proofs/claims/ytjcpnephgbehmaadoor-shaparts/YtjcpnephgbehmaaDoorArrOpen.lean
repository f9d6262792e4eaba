/-
  Arrays of numbers of one kind that come in, and how they are read again. No program is named here; no conditions.
-/
import Derived.Test.YtjcpnephgbehmaaDoorArr
namespace Go.Proofs.YtjcpnephgbehmaaDoor.Arr
open Go.ChangeShapes Go.WideShapes Go.ChangeAt Go.RowKit
section
variable {H : Type} {enc : TypeId × Value → H} {P : Program} {w : World} {base : Nat} {spare : Nat → Bool} {held : Bool}
/-- Numbers of one kind as data. -/
def kdat (H : Type) (k : IntKind) (l : List Nat) : DataW H := .agg (l.map fun (z : Nat) => .lit (.int k (z : Int)))
/-- Which numbers the kind has: those below N. -/
structure Kind (k : IntKind) (N : Nat) : Prop where
  out : ∀ z : Int, (Lit.int k z).wf = true → 0 ≤ z ∧ z < (N : Int)
  inn : ∀ z : Nat, z < N → (Lit.int k (z : Int)).wf = true

theorem open_arrK {k : IntKind} {N : Nat} (K : Kind k N) (hN : 0 < N) {r : Reach} {b0 n : Nat} {t e : TypeId} {v : Value} {d : DataW H} {p : List MemPlace} (ht : P.underlying t = some (.array n e)) (he : P.underlying e = some (.int k)) (hce : P.cellsOf e = 1) (hct : P.cellsOf t = n)
    (hv : Value.okWide P w r b0 t v) (h : DataW.Trod enc P w base spare held t v d p) :
    ∃ l : List Nat, l.length = n ∧ (∀ i, l.getD i 0 < N) ∧ v = .agg (na k l) ∧ d = kdat H k l ∧ p = [] := by
  obtain ⟨cs, rfl, hsz⟩ : ∃ cs, v = .agg cs ∧ cs.size = P.cellsOf t := by
    simp only [Value.okWide, ht] at hv
    obtain ⟨cs, h1, h2, _⟩ := hv
    exact ⟨cs, h1, h2⟩
  rw [hct] at hsz
  obtain ⟨fuel, hf⟩ := h
  obtain ⟨ys, m, _, hx, _, hyl, hg⟩ := DataW.trod_array ht hf
  have hcs : (Value.agg cs).cells.toList = cs.toList := rfl
  rw [hcs] at hg
  have key : ∀ i, ∃ z : Nat, i < n → z < N ∧ cs[i]? = some (.int k (z : Int)) ∧ ys[i]? = some (.lit (.int k (z : Int)), []) := by
    intro i
    by_cases hi : i < n
    · have h1 := hg i hi
      rw [hce, Nat.mul_one] at h1
      have hyi : ys[i]? = some (ys[i]'(by omega)) := List.getElem?_eq_getElem (by omega)
      rw [hyi] at h1
      obtain ⟨z, e1, e2, e3⟩ := DataW.trod_int he h1
      have hb := K.out _ e3
      have hci : cs.toList[i]? = some (.int k z) := by
        have : (cs.toList.drop i)[0]? = some (.int k z) := by
          have := congrArg (fun l => l[0]?) e1
          simpa using this
        simpa using this
      refine ⟨z.toNat, fun _ => ⟨by omega, ?_, ?_⟩⟩
      · rw [Int.toNat_of_nonneg (by omega)]; simpa using hci
      · rw [hyi, e2, Int.toNat_of_nonneg (by omega)]
    · exact ⟨0, fun h => absurd h hi⟩
  obtain ⟨f, hf'⟩ := Classical.axiomOfChoice key
  have hl : ((List.range n).map f).length = n := by simp
  have hgl : ∀ i, i < n → ((List.range n).map f)[i]? = some (f i) := fun i hi => by simp [hi]
  refine ⟨(List.range n).map f, hl, fun i => ?_, ?_, ?_, ?_⟩
  · by_cases hi : i < n
    · rw [List.getD_eq_getElem?_getD, hgl i hi]; exact (hf' i hi).1
    · rw [List.getD_eq_getElem?_getD, List.getElem?_eq_none (by omega)]; simpa using hN
  · congr 1
    apply Array.ext_getElem?
    intro i
    by_cases hi : i < n
    · rw [(hf' i hi).2.1]
      simp [na, nv, hi]
    · rw [Array.getElem?_eq_none (by omega), Array.getElem?_eq_none (by simp [na, nv]; omega)]
  · simp only [Prod.mk.injEq] at hx
    rw [hx.1]
    unfold kdat
    congr 1
    apply List.ext_getElem?
    intro i
    by_cases hi : i < n
    · rw [List.getElem?_map, (hf' i hi).2.2]
      simp [hi]
    · rw [List.getElem?_eq_none (by simp; omega), List.getElem?_eq_none (by simp; omega)]
  · simp only [Prod.mk.injEq] at hx
    rw [hx.2]
    rw [List.flatMap_eq_nil_iff]
    intro y hy
    obtain ⟨i, hi⟩ := List.getElem?_of_mem hy
    have hin : i < n := by
      have := (List.getElem?_eq_some_iff.1 hi).1
      omega
    rw [(hf' i hin).2.2] at hi
    cases hi
    rfl

theorem shut_arrK {k : IntKind} {N : Nat} (K : Kind k N) {n : Nat} {t e : TypeId} {l : List Nat} (ht : P.underlying t = some (.array n e)) (he : P.underlying e = some (.int k)) (hce : P.cellsOf e = 1) (hct : P.cellsOf t = n)
    (hl : l.length = n) (hb : ∀ i, l.getD i 0 < N) : DataW.Trod enc P w base spare held t (.agg (na k l)) (kdat H k l) [] := by
  refine ⟨2, ?_⟩
  have hcs : (Value.agg (na k l)).cells.toList = nv k l := by simp [Value.cells, na]
  rw [hcs]
  have hmap : (List.range n).mapM (fun i => DataW.trod enc P w base spare held 1 e (((nv k l).drop (i * P.cellsOf e)).take (P.cellsOf e))) = some ((List.range n).map fun i => ((.lit (.int k ((l.getD i 0 : Nat) : Int)), []) : DataW H × List MemPlace)) := by
    refine mapM_some_of_forall _ (fun i hi => ?_)
    have hin := List.mem_range.1 hi
    have h1 : ((nv k l).drop (i * P.cellsOf e)).take (P.cellsOf e) = [.int k ((l.getD i 0 : Nat) : Int)] := by
      rw [hce, Nat.mul_one]
      have hlt : i < (nv k l).length := by rw [length_nv]; omega
      rw [List.drop_eq_getElem_cons hlt]
      have := nv_get k l i (by omega)
      rw [List.getElem?_eq_getElem hlt] at this
      simp only [Option.some.injEq] at this
      rw [this]
      rfl
    rw [h1]
    have hw := K.inn _ (hb i)
    unfold DataW.trod
    rw [he]
    simp only [true_and, hw, if_true]
  have e2 : (List.range n).map (fun i => ((.lit (.int k ((l.getD i 0 : Nat) : Int)), []) : DataW H × List MemPlace)) = l.map fun (z : Nat) => ((.lit (.int k (z : Int)), []) : DataW H × List MemPlace) := by
    apply List.ext_getElem (by simp [hl])
    intro i h1 h2
    have : i < l.length := by simpa using h2
    simp [this]
  unfold DataW.trod
  rw [ht]
  simp only [length_nv, hl, hct, if_true, hmap, e2, Option.map_some]
  simp [kdat, List.flatMap, List.map_map, Function.comp_def]
end
theorem kind_u16 : Kind .u16 65536 := ⟨fun z h => by have := bounds_u16 h; omega, fun z h => by simp [Lit.wf, IntKind.min, IntKind.max, IntKind.signed, IntKind.bits]; omega⟩
end Go.Proofs.YtjcpnephgbehmaaDoor.Arr
