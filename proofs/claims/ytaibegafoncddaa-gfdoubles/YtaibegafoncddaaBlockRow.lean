/-
  Arrays of bytes that come in by value: opened to their bytes, and shut again. No conditions.
-/
import Derived.Test.YtaibegafoncddaaBlock
import Derived.DataBytes
namespace Go.Proofs.Ytaibegafoncddaa
open Go.ChangeShapes Go.WideShapes Go.ChangeAt Go.RowKit

section
variable {H : Type} {enc : TypeId × Value → H} {P : Program} {w : World} {base : Nat} {spare : Nat → Bool} {held : Bool}

/-- Bytes as data. -/
def bdat (H : Type) (l : List Nat) : DataW H := .agg (l.map fun (z : Nat) => .lit (.int .u8 (z : Int)))

theorem wf_u8 (z : Nat) (h : z < 256) : (Lit.int .u8 (z : Int)).wf = true := by
  have : ∀ z : Nat, z < 256 → (Lit.int .u8 (z : Int)).wf = true := by decide +kernel
  exact this z h

theorem open_bytes {r : Reach} {b0 n : Nat} {t e : TypeId} {v : Value} {d : DataW H} {p : List MemPlace} (ht : P.underlying t = some (.array n e)) (he : P.underlying e = some (.int .u8)) (hce : P.cellsOf e = 1) (hct : P.cellsOf t = n)
    (hv : Value.okWide P w r b0 t v) (h : DataW.Trod enc P w base spare held t v d p) :
    ∃ l : List Nat, l.length = n ∧ (∀ i, l.getD i 0 < 256) ∧ v = .agg (blk l) ∧ d = bdat H l ∧ p = [] := by
  obtain ⟨cs, rfl, hsz⟩ : ∃ cs, v = .agg cs ∧ cs.size = P.cellsOf t := by
    simp only [Value.okWide, ht] at hv
    obtain ⟨cs, h1, h2, _⟩ := hv
    exact ⟨cs, h1, h2⟩
  rw [hct] at hsz
  obtain ⟨fuel, hf⟩ := h
  obtain ⟨ys, m, _, hx, _, hyl, hg⟩ := DataW.trod_array ht hf
  have hcs : (Value.agg cs).cells.toList = cs.toList := rfl
  rw [hcs] at hg
  have key : ∀ i, ∃ z : Nat, i < n → z < 256 ∧ cs[i]? = some (.int .u8 (z : Int)) ∧ ys[i]? = some (.lit (.int .u8 (z : Int)), []) := by
    intro i
    by_cases hi : i < n
    · have h1 := hg i hi
      rw [hce, Nat.mul_one] at h1
      have hyi : ys[i]? = some (ys[i]'(by omega)) := List.getElem?_eq_getElem (by omega)
      rw [hyi] at h1
      obtain ⟨z, e1, e2, e3⟩ := DataW.trod_int he h1
      have hb := bounds_u8 e3
      have hci : cs.toList[i]? = some (.int .u8 z) := by
        have : (cs.toList.drop i)[0]? = some (.int .u8 z) := by
          have := congrArg (fun l => l[0]?) e1
          simpa using this
        simpa using this
      refine ⟨z.toNat, fun _ => ⟨by omega, ?_, ?_⟩⟩
      · rw [Int.toNat_of_nonneg (by omega)]; simpa using hci
      · rw [hyi, e2, Int.toNat_of_nonneg (by omega)]
    · exact ⟨0, fun h => absurd h hi⟩
  obtain ⟨f, hf'⟩ := Classical.axiomOfChoice key
  have hl : ((List.range n).map f).length = n := by simp
  have hgl : ∀ i, i < n → ((List.range n).map f)[i]? = some (f i) := fun i hi => by simp [hi]
  refine ⟨(List.range n).map f, hl, fun i => ?_, ?_, ?_, ?_⟩
  · by_cases hi : i < n
    · rw [List.getD_eq_getElem?_getD, hgl i hi]; exact (hf' i hi).1
    · rw [List.getD_eq_getElem?_getD, List.getElem?_eq_none (by omega)]; simp
  · congr 1
    apply Array.ext_getElem?
    intro i
    by_cases hi : i < n
    · rw [(hf' i hi).2.1]
      simp [blk, bv, hi]
    · rw [Array.getElem?_eq_none (by omega), Array.getElem?_eq_none (by simp [blk, bv]; omega)]
  · simp only [Prod.mk.injEq] at hx
    rw [hx.1]
    unfold bdat
    congr 1
    apply List.ext_getElem?
    intro i
    by_cases hi : i < n
    · rw [List.getElem?_map, (hf' i hi).2.2]
      simp [hi]
    · rw [List.getElem?_eq_none (by simp; omega), List.getElem?_eq_none (by simp; omega)]
  · simp only [Prod.mk.injEq] at hx
    rw [hx.2]
    rw [List.flatMap_eq_nil_iff]
    intro y hy
    obtain ⟨i, hi⟩ := List.getElem?_of_mem hy
    have hin : i < n := by
      have := (List.getElem?_eq_some_iff.1 hi).1
      omega
    rw [(hf' i hin).2.2] at hi
    cases hi
    rfl

theorem shut_bytes {n : Nat} {t e : TypeId} {l : List Nat} (ht : P.underlying t = some (.array n e)) (he : P.underlying e = some (.int .u8)) (hce : P.cellsOf e = 1) (hct : P.cellsOf t = n)
    (hl : l.length = n) (hb : ∀ i, l.getD i 0 < 256) : DataW.Trod enc P w base spare held t (.agg (blk l)) (bdat H l) [] := by
  refine ⟨2, ?_⟩
  have hcs : (Value.agg (blk l)).cells.toList = bv l := by simp [Value.cells, blk]
  rw [hcs]
  have hmap : (List.range n).mapM (fun i => DataW.trod enc P w base spare held 1 e (((bv l).drop (i * P.cellsOf e)).take (P.cellsOf e))) = some ((List.range n).map fun i => ((.lit (.int .u8 ((l.getD i 0 : Nat) : Int)), []) : DataW H × List MemPlace)) := by
    refine mapM_some_of_forall _ (fun i hi => ?_)
    have hin := List.mem_range.1 hi
    have h1 : ((bv l).drop (i * P.cellsOf e)).take (P.cellsOf e) = [.int .u8 ((l.getD i 0 : Nat) : Int)] := by
      rw [hce, Nat.mul_one]
      have hlt : i < (bv l).length := by rw [length_bv]; omega
      rw [List.drop_eq_getElem_cons hlt]
      have := bv_get l i (by omega)
      rw [List.getElem?_eq_getElem hlt] at this
      simp only [Option.some.injEq] at this
      rw [this]
      rfl
    rw [h1]
    have hw := wf_u8 _ (hb i)
    unfold DataW.trod
    rw [he]
    simp only [true_and, hw, if_true]
  have e2 : (List.range n).map (fun i => ((.lit (.int .u8 ((l.getD i 0 : Nat) : Int)), []) : DataW H × List MemPlace)) = l.map fun (z : Nat) => ((.lit (.int .u8 (z : Int)), []) : DataW H × List MemPlace) := by
    apply List.ext_getElem (by simp [hl])
    intro i h1 h2
    have : i < l.length := by simpa using h2
    simp [this]
  unfold DataW.trod
  rw [ht]
  simp only [length_bv, hl, hct, if_true, hmap, e2, Option.map_some]
  simp [bdat, List.flatMap, List.map_map, Function.comp_def]
end

theorem open_block {H : Type} {enc : TypeId × Value → H} {W : World} {r : Reach} {b0 base : Nat} {spare : Nat → Bool} {held : Bool} {v : Value} {d : DataW H} {p : List MemPlace}
    (hv : Value.okWide Try.prog W r b0 29 v) (h : DataW.Trod enc Try.prog W base spare held 29 v d p) : ∃ l : List Nat, l.length = 16 ∧ (∀ i, l.getD i 0 < 256) ∧ v = .agg (blk l) ∧ d = bdat H l ∧ p = [] :=
  open_bytes Try.underlying29 Try.underlying5 cells_byte cells_blk hv h
theorem shut_block {H : Type} {enc : TypeId × Value → H} {W : World} {base : Nat} {spare : Nat → Bool} {held : Bool} {l : List Nat} (hl : l.length = 16) (hb : ∀ i, l.getD i 0 < 256) :
    DataW.Trod enc Try.prog W base spare held 29 (.agg (blk l)) (bdat H l) [] :=
  shut_bytes Try.underlying29 Try.underlying5 cells_byte cells_blk hl hb
/-- Nothing that was there has turned. -/
theorem below_frozen {W w' : World} (h : Below W.heap.size W w') (a : Addr) (ha : a.block < W.heap.size) : w'.frozen? a = W.frozen? a := h.frozen ha
end Go.Proofs.Ytaibegafoncddaa
