/-
  A cipher's block while it is made: which parts of it hold what. Own lemmas; no conditions.
-/
import Derived.Test.YtdjknmnmacppdaaDoorAesExp
import Derived.Test.YtdjknmnmacppdaaDoorArrAll
namespace Go.Proofs.YtdjknmnmacppdaaDoor
open Go.RowKit Arr Gf Sb Ae

/-- Block g holds a cipher in the making. -/
structure Part (w : World) (g r : Nat) (K bb tw : List Nat) : Prop where
  rounds : w.cell? ⟨g, 0, none⟩ = some (.int .i64 (r : Int))
  lk : K.length = 240
  lb : bb.length = 256
  lt' : tw.length = 256
  keys : HAt w g 1 .u8 K
  box : HAt w g 241 .u8 boxL
  back : HAt w g 497 .u8 bb
  twice : HAt w g 753 .u8 tw
section
variable {w w' : World} {g r B : Nat} {K bb tw : List Nat}
theorem Part.lt (h : Part w g r K bb tw) : g < w.heap.size := block_lt_of_cell h.rounds
theorem Part.below (h : Part w g r K bb tw) (hb : Below B w w') (hg : g < B) : Part w' g r K bb tw :=
  ⟨(hb.cell (p := ⟨g, 0, none⟩) hg).trans h.rounds, h.lk, h.lb, h.lt', h.keys.below hb hg, h.box.below hb hg, h.back.below hb hg, h.twice.below hb hg⟩
theorem Part.drew (h : Part w g r K bb tw) : Part w.drew g r K bb tw := h.below (B := w.heap.size) (below_drew (Below.refl _ _)) h.lt
theorem cell_apart (c : Nat) (v : Value) (b o : Nat) (vs : List Value) (h : w.cell? ⟨g, c, none⟩ = some v) (hne : g ≠ b ∨ c < o ∨ o + vs.length ≤ c) : (w.setCells b o vs).cell? ⟨g, c, none⟩ = some v := by
  rw [World.cell?_setCells_out b vs o w ⟨g, c, none⟩ (fun h1 _ => by
    rcases hne with h2 | h2 | h2
    · exact absurd h1 h2
    · exact .inl h2
    · exact .inr h2)]
  exact h
theorem Part.putBack (h : Part w g r K bb tw) (m : List Nat) (hm : m.length = 256) : Part (w.setCells g 497 (nv .u8 m)) g r K m tw :=
  ⟨cell_apart 0 _ _ _ _ h.rounds (by omega), h.lk, hm, h.lt', h.keys.apart _ _ _ (by have := h.lk; omega), h.box.apart _ _ _ (by rw [boxL_len]; omega), h.back.put m (by rw [hm, h.lb]), h.twice.apart _ _ _ (by rw [length_nv, hm]; omega)⟩
theorem Part.setTwice (h : Part w g r K bb tw) (i c : Nat) (hi : i < 256) : Part (w.setCell ⟨g, 753 + i, none⟩ (.int .u8 (c : Int))) g r K bb (tw.set i c) :=
  ⟨by rw [World.cell?_setCell_other _ _ _ _ (fun x => by have := (Addr.mk.inj x).2.1; omega)]; exact h.rounds, h.lk, h.lb, by rw [List.length_set, h.lt'],
    h.keys.beside _ _ (.inr (.inr (by have := h.lk; show 1 + K.length ≤ 753 + i; omega))), h.box.beside _ _ (.inr (.inr (by show 241 + boxL.length ≤ 753 + i; rw [boxL_len]; omega))), h.back.beside _ _ (.inr (.inr (by have := h.lb; show 497 + bb.length ≤ 753 + i; omega))), h.twice.set i c (by rw [h.lt']; exact hi)⟩
theorem Part.putKeys (h : Part w g r K bb tw) (i : Nat) (m L : List Nat) (hm : m.length = 4) (hi : i + 4 ≤ 240) (hL : L.length = 240)
    (hv : ∀ j, j < 240 → L.getD j 0 = if i ≤ j ∧ j < i + 4 then m.getD (j - i) 0 else K.getD j 0) : Part (w.setCells g (1 + i) (nv .u8 m)) g r L bb tw :=
  ⟨cell_apart 0 _ _ _ _ h.rounds (by omega), hL, h.lb, h.lt', h.keys.splice i m L (by rw [hm, h.lk]; exact hi) (by rw [hL, h.lk]) (by rw [hm, h.lk]; exact hv), h.box.apart _ _ _ (by rw [length_nv, hm]; omega), h.back.apart _ _ _ (by rw [length_nv, hm]; omega), h.twice.apart _ _ _ (by rw [length_nv, hm]; omega)⟩
end
theorem Part.ciph {w : World} {g r : Nat} {K : List Nat} (h : Part w g r K bk twL) : Ciph w g r K := ⟨h.rounds, h.lk, h.keys, h.box, h.back, h.twice⟩

/-- The cells of a cipher that has rounds and the box alone. -/
def newC (r : Nat) : List Value := [.int .i64 (r : Int)] ++ (nv .u8 (zs 240) ++ (nv .u8 boxL ++ (nv .u8 (zs 256) ++ (nv .u8 (zs 256) ++ []))))
theorem Part.new (w : World) (t : TypeId) (r : Nat) : Part (w.alloc (.cells (newC r).toArray t)) w.heap.size r (zs 240) (zs 256) (zs 256) := by
  have h := HV.new w t (newC r)
  have h0 : (w.alloc (.cells (newC r).toArray t)).cell? ⟨w.heap.size, 0, none⟩ = some (.int .i64 (r : Int)) := h.cell 0 _ rfl
  have h1 := HV.seg [.int .i64 (r : Int)] .u8 (zs 240) _ h
  have h2 := HV.seg ([.int .i64 (r : Int)] ++ nv .u8 (zs 240)) .u8 boxL (nv .u8 (zs 256) ++ (nv .u8 (zs 256) ++ [])) (by rw [List.append_assoc]; exact h)
  have h3 := HV.seg ([.int .i64 (r : Int)] ++ nv .u8 (zs 240) ++ nv .u8 boxL) .u8 (zs 256) (nv .u8 (zs 256) ++ []) (by rw [List.append_assoc, List.append_assoc]; exact h)
  have h4 := HV.seg ([.int .i64 (r : Int)] ++ nv .u8 (zs 240) ++ nv .u8 boxL ++ nv .u8 (zs 256)) .u8 (zs 256) [] (by rw [List.append_assoc, List.append_assoc, List.append_assoc]; exact h)
  simp only [List.length_append, length_nv, length_zs, boxL_len, List.length_cons, List.length_nil] at h1 h2 h3 h4
  exact ⟨h0, length_zs _, length_zs _, length_zs _, h1, h2, h3, h4⟩
theorem built10 : Tryd.prog.built 59 [(0, .int .i64 10), (2, .agg (na .u8 boxL))] = some (newC 10).toArray := by kernel_rfl
theorem built14 : Tryd.prog.built 59 [(0, .int .i64 14), (2, .agg (na .u8 boxL))] = some (newC 14).toArray := by kernel_rfl
/-- Word i's bytes join those ahead. -/
theorem flat_more (ws : List Nat) (i j : Nat) (hj : j < 240) :
    (flat ws (i + 1)).getD j 0 = if 4 * i ≤ j ∧ j < 4 * i + 4 then (bytesOf (ws.getD i 0) 4).getD (j - 4 * i) 0 else (flat ws i).getD j 0 := by
  rw [flat, flat, upto_get _ _ _ _ _ hj, upto_get _ _ _ _ _ hj]
  by_cases h : 4 * i ≤ j ∧ j < 4 * i + 4
  · rw [if_pos h, if_pos (by omega), getD_bytesOf _ _ _ (by omega), wb, show j / 4 = i by omega, show j % 4 = j - 4 * i by omega]
  · rw [if_neg h]
    by_cases h2 : j < 4 * i
    · rw [if_pos h2, if_pos (by omega)]
    · rw [if_neg h2, if_neg (by omega)]
end Go.Proofs.YtdjknmnmacppdaaDoor
