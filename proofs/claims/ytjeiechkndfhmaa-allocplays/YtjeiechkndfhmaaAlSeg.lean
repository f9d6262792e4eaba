/-
  Own lemmas: a row of the call's own that may begin behind its block's first cell ('all = all[1:]', 'all = append(all, x)'), elements of one cell. Condition: the row is the call's own.
-/
import Derived.Test.YtjeiechkndfhmaaExMem
import Derived.Test.YtjeiechkndfhmaaAppFoot
namespace Go.Proofs.Ytjeiechkndfhmaa
open Go.RowKit Arr

/-- The slice value's elements, cell by cell; its spare places are the call's own, too. -/
def Seg (w : World) (base : Nat) (e : TypeId) (v : Value) (xs : List Value) : Prop :=
  (v = .slice none 0 0 ∧ xs = []) ∨ ∃ g off cap cur, v = .slice (some ⟨g, off, none⟩) xs.length cap ∧ base ≤ g ∧ w.heap[g]? = some (.cells cur e (0, 0)) ∧ xs.length ≤ cap ∧ off + cap ≤ cur.size ∧ cap ≤ maxLen ∧ (cur.toList.drop off).take xs.length = xs
section
variable {P : Program} {w w' : World} {base : Nat} {e : TypeId} {v : Value} {xs : List Value}
theorem Seg.nil (w : World) (base : Nat) (e : TypeId) : Seg w base e (.slice none 0 0) [] := .inl ⟨rfl, rfl⟩
theorem Seg.of_owns {n : Nat} (h : w.ownsRow base e 1 v n xs) : Seg w base e v xs := by
  have hl := h.1
  rw [Nat.mul_one] at hl
  rcases h.2 with ⟨rfl, h0⟩ | ⟨g, cap, cur, rfl, hb, hg, hnc, hcm, hcs, htake⟩
  · exact .inl ⟨rfl, List.eq_nil_of_length_eq_zero (by omega)⟩
  · refine .inr ⟨g, 0, cap, cur, by rw [hl], hb, hg, by omega, by omega, hcm, ?_⟩
    rw [List.drop_zero, hl]
    rw [Nat.mul_one] at htake
    exact htake
theorem Seg.lt (h : Seg w base e v xs) : ∀ k, v.ownBlock = some k → base ≤ k ∧ k < w.heap.size := by
  intro k hk
  rcases h with ⟨rfl, _⟩ | ⟨g, off, cap, cur, rfl, hb, hg, _⟩
  · cases hk
  · simp only [Value.ownBlock, Option.some.injEq] at hk
    subst hk
    exact ⟨hb, (Array.getElem?_eq_some_iff.1 hg).1⟩
theorem Seg.kept (h : Seg w base e v xs) (hk : ∀ k, v.ownBlock = some k → w'.heap[k]? = w.heap[k]?) : Seg w' base e v xs := by
  rcases h with h | ⟨g, off, cap, cur, rfl, hb, hg, rest⟩
  · exact .inl h
  · exact .inr ⟨g, off, cap, cur, rfl, hb, (hk g rfl).trans hg, rest⟩
theorem Seg.below (h : Seg w base e v xs) (hb : Below w.heap.size w w') : Seg w' base e v xs := h.kept fun k hk => hb.block k (h.lt k hk).2
/-- Its elements, read. -/
theorem Seg.shape (h : Seg w base e v xs) : ∃ A c, v = .slice A xs.length c ∧ xs.length ≤ c := by
  rcases h with ⟨rfl, rfl⟩ | ⟨g, off, cap, cur, rfl, _, _, hc, _⟩
  · exact ⟨none, 0, rfl, Nat.le_refl _⟩
  · exact ⟨_, _, rfl, hc⟩
theorem Seg.head {x : Value} (h : Seg w base e v (x :: xs)) : ∃ g off cap, v = .slice (some ⟨g, off, none⟩) (xs.length + 1) cap ∧ xs.length + 1 ≤ cap ∧ w.cell? ⟨g, off, none⟩ = some x := by
  rcases h with ⟨_, h0⟩ | ⟨g, off, cap, cur, rfl, _, hg, hc, hs, _, ht⟩
  · cases h0
  · refine ⟨g, off, cap, rfl, hc, ?_⟩
    have e0 : ((cur.toList.drop off).take (x :: xs).length)[0]? = some x := by rw [ht]; rfl
    rw [List.getElem?_take, if_pos (by simp), List.getElem?_drop, Nat.add_zero, Array.getElem?_toList] at e0
    simp only [World.cell?, hg]
    simpa using e0
/-- 'all[1:]'. -/
theorem Seg.tail {x : Value} {g off cap : Nat} (h : Seg w base e (.slice (some ⟨g, off, none⟩) (xs.length + 1) cap) (x :: xs)) : Seg w base e (.slice (if cap = 1 then some ⟨g, off, none⟩ else some ⟨g, off + 1, none⟩) xs.length (cap - 1)) xs := by
  rcases h with ⟨h0, _⟩ | ⟨g', off', cap', cur, h1, hb, hg, hc, hs, hm, ht⟩
  · cases h0
  · simp only [Value.slice.injEq, Option.some.injEq, Addr.mk.injEq, and_true] at h1
    obtain ⟨⟨rfl, rfl⟩, _, rfl⟩ := h1
    rw [List.length_cons] at hc
    have ht' : (cur.toList.drop (off + 1)).take xs.length = xs := by
      have e1 := congrArg List.tail ht
      rw [List.length_cons, List.tail_cons] at e1
      rw [← e1]
      cases hd : cur.toList.drop off with
      | nil =>
        rw [hd] at ht
        simp at ht
      | cons y r =>
        have : cur.toList.drop (off + 1) = r := by rw [← List.drop_drop, hd]; rfl
        rw [this]; simp
    by_cases h1 : cap = 1
    · rw [if_pos h1]
      have h0 : xs = [] := List.eq_nil_of_length_eq_zero (by omega)
      subst h0
      exact .inr ⟨g, off, cap - 1, cur, rfl, hb, hg, by simp, by omega, by unfold maxLen at *; omega, by simp⟩
    · rw [if_neg h1]
      exact .inr ⟨g, off + 1, cap - 1, cur, rfl, hb, hg, by omega, by omega, by unfold maxLen at *; omega, ht'⟩
theorem run_append_room_at (t ty e : TypeId) (i : TypeInfo) (ht : P.underlying t = some (.slice e)) (hi : P.info? e = some i) (h1s : i.size = 1)
    (g off n cap : Nat) (cur : Array Value) (hg : w.heap[g]? = some (.cells cur e (0, 0)))
    (B : Nat) (u : Value) (hu : w.cell? ⟨B, 0, none⟩ = some u) (h1 : u.oneCell' = true) (hroom : n + 1 ≤ cap) (hfit : off + n + 1 ≤ cur.size) :
    (Builtin.append_ #[t, t] ty #[.slice (some ⟨g, off, none⟩) n cap, .slice (some ⟨B, 0, none⟩) 1 1]).run P w =
      .ok (.slice (some ⟨g, off, none⟩) (n + 1) cap) (w.setRow g (cur.toList.take (off + n) ++ [u] ++ cur.toList.drop (off + n + 1)).toArray) := by
  have hf := run_firstCells_some (P := P) w i.size 1 ⟨B, 0, none⟩ 1 1 [u] (by rw [h1s]; rfl) (fun j x hx => by
    match j with
    | 0 => simp at hx; subst hx; rw [add_nat2]; exact hu
    | j + 1 => simp at hx)
  have hst := run_storeCells_at P g (off + n) e [u] 0 cur w hg (by simpa using hfit) (fun x hx => by rw [List.mem_singleton] at hx; subst hx; exact h1)
  simp only [Nat.add_zero] at hst
  rw [h1s] at hf
  simp [Builtin.append_, run_underlying ht, sizeOf, typeInfo, hi, h1s, Builtin.lenOf, hroom, hf, Addr.add_lit, hst]
/-- 'append(all, x)'. -/
theorem Seg.append (h : Seg w base e v xs) (t ty : TypeId) (ht : P.underlying t = some (.slice e)) (i : TypeInfo) (z : Value) (bytes : Nat) (hi : P.info? e = some i) (hz : i.zero = some z) (h1s : i.size = 1) (hby : i.bytes = bytes) (hbb : bytes ≤ 64) (hzs : z.cells.size = 1)
    (B : Nat) (u : Value) (hu : w.cell? ⟨B, 0, none⟩ = some u) (h1 : u.oneCell' = true) (hlen : xs.length ≤ 100000) (hbase : base ≤ w.heap.size) :
    ∃ v' w', (Builtin.append_ #[t, t] ty #[v, .slice (some ⟨B, 0, none⟩) 1 1]).run P w = .ok v' w' ∧ Seg w' base e v' (xs ++ [u]) ∧ w.grownBy w' v.ownBlock ∧ (v'.ownBlock = v.ownBlock ∨ v'.ownBlock = some w.heap.size) := by
  have hmul : (xs.length + 1) * bytes ≤ 140737488355328 := Nat.le_trans (Nat.mul_le_mul (show xs.length + 1 ≤ 100001 by omega) hbb) (by decide)
  have hnews : ∀ (j : Nat) (x : Value), [u][j]? = some x → w.cell? ((⟨B, 0, none⟩ : Addr).add j) = some x := fun j x hx => by
    match j with
    | 0 => simp at hx; subst hx; rw [add_nat2]; exact hu
    | j + 1 => simp at hx
  have hone : ∀ x, x ∈ [u] → x.oneCell' = true := fun x hx => by rw [List.mem_singleton] at hx; subst hx; exact h1
  rcases h with ⟨rfl, rfl⟩ | ⟨g, off, cap, cur, rfl, hb, hg, hc, hs, hm, hta⟩
  · obtain ⟨v', w', hr, h2, h3, _, h5⟩ := run_append_own_at (P := P) w base t ty e i z 1 bytes ht hi hz h1s hby hzs (by decide) (.slice none 0 0) 0 [] (World.ownsRow_nil w base e 1) ⟨B, 0, none⟩ 1 1 [u] rfl hnews hone (by unfold maxLen; omega) (by simpa using hmul) hbase
    exact ⟨v', w', hr, Seg.of_owns h2, h3, h5⟩
  · by_cases hroom : xs.length + 1 ≤ cap
    · have hr := run_append_room_at (P := P) (w := w) t ty e i ht hi h1s g off xs.length cap cur hg B u hu h1 hroom (by omega)
      refine ⟨_, _, hr, .inr ⟨g, off, cap, _, by rw [List.length_append]; rfl, hb, setRow_heap w g cur _ e _ hg, by simpa using hroom, ?_, hm, ?_⟩, ⟨rfl, rfl, rfl, by simp [World.setRow], fun k _ hk => setRow_other w g k _ (fun e => hk (by simp [Value.ownBlock, e]))⟩, .inl rfl⟩
      · simp only [List.size_toArray, List.length_append, List.length_take, List.length_drop, Array.length_toList, List.length_singleton]
        omega
      · have e1 : (List.take (off + xs.length) cur.toList).drop off = xs := by
          rw [List.drop_take, Nat.add_sub_cancel_left]; exact hta
        have hle : off ≤ (cur.toList.take (off + xs.length)).length := by rw [List.length_take, Array.length_toList]; exact Nat.le_min.2 ⟨Nat.le_add_right _ _, Nat.le_trans (Nat.le_add_right off cap) hs⟩
        show (List.drop off (cur.toList.take (off + xs.length) ++ [u] ++ cur.toList.drop (off + xs.length + 1))).take (xs ++ [u]).length = xs ++ [u]
        rw [List.append_assoc, List.drop_append_of_le_length hle, e1, List.length_append, List.length_singleton]
        rw [← List.append_assoc]
        exact List.take_left' (by simp)
    · have holds : ∀ j x, xs[j]? = some x → w.cell? ((⟨g, off, none⟩ : Addr).add j) = some x := fun j x hx => by
        have hj : j < xs.length := (List.getElem?_eq_some_iff.1 hx).1
        rw [add_nat2]
        simp only [World.cell?, hg]
        have e0 : ((cur.toList.drop off).take xs.length)[j]? = some x := by rw [hta]; exact hx
        rw [List.getElem?_take, if_pos hj, List.getElem?_drop, Array.getElem?_toList] at e0
        simpa using e0
      have hr := run_append_grow (P := P) w t ty e i z ht hi hz ⟨g, off, none⟩ xs.length cap xs (by rw [h1s, Nat.mul_one]) holds ⟨B, 0, none⟩ 1 1 [u] (by rw [h1s]; rfl) hnews (by omega) (by omega) (growslice_fits (by omega) (by rw [hby]; exact hmul))
      have hge := grownCap_ge w (xs.length + 1) cap e
      have hcm : grownCap w (xs.length + 1) cap e ≤ maxLen := grownCap_le_maxLen w (xs.length + 1) cap e (by unfold maxLen; omega)
      refine ⟨_, _, hr, .inr ⟨w.heap.size, 0, _, _, by rw [List.length_append]; rfl, hbase, heap_alloc_new w.drew _, by simpa using hge, ?_, hcm, ?_⟩, ⟨rfl, rfl, rfl, by simp, fun k hk _ => heap_alloc_old w.drew _ hk⟩, .inr rfl⟩
      · simp only [Array.size_append, List.size_toArray, size_zeroCells, hzs, List.length_singleton]
        omega
      · simp only [Array.toList_append, List.drop_zero, List.append_assoc]
        rw [← List.append_assoc]
        exact List.take_left' (by simp)
end
end Go.Proofs.Ytjeiechkndfhmaa
