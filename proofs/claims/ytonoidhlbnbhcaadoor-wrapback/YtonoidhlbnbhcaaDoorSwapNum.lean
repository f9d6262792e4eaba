/-
  Own plain lemmas on lists of 256 bytes, turned the other way. No program is named here.
-/
namespace Go.Proofs.YtonoidhlbnbhcaaDoor.Sw

/-- All are bytes. -/
def Bytes (l : List Nat) : Prop := ∀ i, l.getD i 0 < 256

theorem rep_get {α : Type} (n i : Nat) (c : α) (h : i < n) : (List.replicate n c)[i]? = some c := by simp [h]
theorem rep_len {α : Type} (n : Nat) (c : α) : (List.replicate n c).length = n := by simp
theorem rep_getD (n i : Nat) : (List.replicate n 0).getD i 0 = 0 := by
  by_cases h : i < n <;> simp [h]

/-- The places of those among the first k. -/
def pl (l : List Nat) (k : Nat) : List Nat := (List.range 256).map fun b => if b ∈ l.take k then l.idxOf b else 0
/-- The first k are met. -/
def met (l : List Nat) (k : Nat) : List Bool := (List.range 256).map fun b => decide (b ∈ l.take k)

theorem length_pl (l : List Nat) (k : Nat) : (pl l k).length = 256 := by simp [pl]
theorem length_met (l : List Nat) (k : Nat) : (met l k).length = 256 := by simp [met]
theorem pl_get (l : List Nat) (k b : Nat) (hb : b < 256) : (pl l k)[b]? = some (if b ∈ l.take k then l.idxOf b else 0) := by simp [pl, hb]
theorem pl_getD (l : List Nat) (k b : Nat) (hb : b < 256) : (pl l k).getD b 0 = if b ∈ l.take k then l.idxOf b else 0 := by
  rw [List.getD_eq_getElem?_getD, pl_get l k b hb]; rfl
theorem met_get (l : List Nat) (k b : Nat) (hb : b < 256) : (met l k)[b]? = some (decide (b ∈ l.take k)) := by simp [met, hb]
theorem pl_none (l : List Nat) : pl l 0 = List.replicate 256 0 := by
  apply List.ext_getElem?
  intro i
  by_cases hi : i < 256
  · rw [pl_get l 0 i hi, rep_get _ _ _ hi]; simp only [List.take_zero, List.not_mem_nil, if_false]
  · rw [List.getElem?_eq_none (by rw [length_pl]; omega), List.getElem?_eq_none (by rw [rep_len]; omega)]
theorem met_none (l : List Nat) : met l 0 = List.replicate 256 false := by
  apply List.ext_getElem?
  intro i
  by_cases hi : i < 256
  · rw [met_get l 0 i hi, rep_get _ _ _ hi]; simp only [List.take_zero, List.not_mem_nil, decide_false]
  · rw [List.getElem?_eq_none (by rw [length_met]; omega), List.getElem?_eq_none (by rw [rep_len]; omega)]

theorem take_more (l : List Nat) (k : Nat) (hk : k < l.length) : l.take (k + 1) = l.take k ++ [l.getD k 0] := by
  rw [List.take_add_one, List.getElem?_eq_getElem hk, List.getD_eq_getElem?_getD, List.getElem?_eq_getElem hk]; rfl
theorem mem_more (l : List Nat) (k b : Nat) (hk : k < l.length) : b ∈ l.take (k + 1) ↔ b ∈ l.take k ∨ b = l.getD k 0 := by
  rw [take_more l k hk]; simp
theorem idx_first (l : List Nat) (k : Nat) (hk : k < l.length) (h : l.getD k 0 ∉ l.take k) : l.idxOf (l.getD k 0) = k := by
  have e : l = l.take k ++ l.getD k 0 :: l.drop (k + 1) := by
    rw [List.getD_eq_getElem?_getD, List.getElem?_eq_getElem hk]
    simp
  generalize l.getD k 0 = c at *
  rw [e, List.idxOf_append, if_neg h]
  simp
  omega
theorem met_more (l : List Nat) (k : Nat) (hk : k < l.length) : met l (k + 1) = (met l k).set (l.getD k 0) true := by
  apply List.ext_getElem?
  intro i
  by_cases hi : i < 256
  · by_cases e : i = l.getD k 0
    · subst e
      rw [met_get l _ _ hi, List.getElem?_set_self (by rw [length_met]; exact hi)]
      simp only [mem_more l k _ hk, or_true, decide_true]
    · rw [met_get l _ _ hi, List.getElem?_set_ne (fun x => e x.symm), met_get l _ _ hi]
      simp only [mem_more l k _ hk, e, or_false]
  · rw [List.getElem?_eq_none (by rw [length_met]; omega), List.getElem?_eq_none (by rw [List.length_set, length_met]; omega)]
theorem pl_more (l : List Nat) (k : Nat) (hk : k < l.length) (h : l.getD k 0 ∉ l.take k) : pl l (k + 1) = (pl l k).set (l.getD k 0) k := by
  apply List.ext_getElem?
  intro i
  by_cases hi : i < 256
  · by_cases e : i = l.getD k 0
    · subst e
      rw [pl_get l _ _ hi, List.getElem?_set_self (by rw [length_pl]; exact hi), if_pos ((mem_more l k _ hk).2 (.inr rfl)), idx_first l k hk h]
    · rw [pl_get l _ _ hi, List.getElem?_set_ne (fun x => e x.symm), pl_get l _ _ hi]
      simp only [mem_more l k _ hk, e, or_false]
  · rw [List.getElem?_eq_none (by rw [length_pl]; omega), List.getElem?_eq_none (by rw [List.length_set, length_pl]; omega)]
theorem nodup_more (l : List Nat) (k : Nat) (hk : k < l.length) (hn : (l.take k).Nodup) (h : l.getD k 0 ∉ l.take k) : (l.take (k + 1)).Nodup := by
  rw [take_more l k hk, List.nodup_append]
  refine ⟨hn, by simp, ?_⟩
  intro a ha b hb
  simp only [List.mem_singleton] at hb
  subst hb
  exact fun e => h (e ▸ ha)
theorem not_nodup (l : List Nat) (k : Nat) (hk : k < l.length) (h : l.getD k 0 ∈ l.take k) : ¬ l.Nodup := by
  intro hn
  have : (l.take (k + 1)).Nodup := hn.sublist (List.take_sublist _ _)
  rw [take_more l k hk, List.nodup_append] at this
  exact this.2.2 _ h _ (by simp) rfl

/-- Bytes that differ are no more than there are. -/
theorem nodup_len : ∀ (n : Nat) (l : List Nat), l.Nodup → (∀ x ∈ l, x < n) → l.length ≤ n
  | 0, l, _, h => by
    cases l with
    | nil => simp
    | cons a l => exact absurd (h a (by simp)) (by omega)
  | n + 1, l, hn, h => by
    have h1 := nodup_len n (l.erase n) (hn.erase n) (fun x hx => by
      have h2 := (hn.mem_erase_iff).1 hx
      have := h x h2.2
      have := h2.1
      omega)
    have h3 : l.length - 1 ≤ (l.erase n).length := by rw [List.length_erase]; split <;> omega
    omega
theorem bytes_mem {l : List Nat} (hb : Bytes l) : ∀ x ∈ l, x < 256 := by
  intro x hx
  obtain ⟨i, hi, rfl⟩ := List.getElem_of_mem hx
  have := hb i
  rw [List.getD_eq_getElem?_getD, List.getElem?_eq_getElem hi] at this
  exact this
theorem all_in {l : List Nat} (hl : l.length = 256) (hb : Bytes l) (hn : l.Nodup) (b : Nat) (hb' : b < 256) : b ∈ l := by
  apply Classical.byContradiction
  intro h
  have := nodup_len 256 (b :: l) (List.nodup_cons.2 ⟨h, hn⟩) (by
    intro x hx
    rcases List.mem_cons.1 hx with rfl | hx
    · exact hb'
    · exact bytes_mem hb x hx)
  rw [List.length_cons, hl] at this
  omega

/-- The list turned the other way. -/
def sw (l : List Nat) : List Nat := pl l 256
theorem length_sw (l : List Nat) : (sw l).length = 256 := length_pl l 256
theorem sw_get {l : List Nat} (hl : l.length = 256) (hb : Bytes l) (hn : l.Nodup) (b : Nat) (hb' : b < 256) : (sw l).getD b 0 = l.idxOf b := by
  unfold sw
  rw [pl_getD l _ b hb', List.take_of_length_le (by omega), if_pos (all_in hl hb hn b hb')]
theorem idx_lt {l : List Nat} (hl : l.length = 256) (hb : Bytes l) (hn : l.Nodup) (b : Nat) (hb' : b < 256) : l.idxOf b < 256 := by
  rw [← hl]; exact List.idxOf_lt_length_iff.2 (all_in hl hb hn b hb')
theorem sw_bytes {l : List Nat} (hl : l.length = 256) (hb : Bytes l) (hn : l.Nodup) : Bytes (sw l) := by
  intro i
  by_cases hi : i < 256
  · rw [sw_get hl hb hn i hi]; exact idx_lt hl hb hn i hi
  · rw [List.getD_eq_getElem?_getD, List.getElem?_eq_none (by rw [length_sw]; omega)]; decide
theorem at_idx {l : List Nat} (hl : l.length = 256) (hb : Bytes l) (hn : l.Nodup) (b : Nat) (hb' : b < 256) : l.getD (l.idxOf b) 0 = b := by
  have h := List.idxOf_lt_length_iff.2 (all_in hl hb hn b hb')
  rw [List.getD_eq_getElem?_getD, List.getElem?_eq_getElem h]
  exact List.getElem_idxOf h
theorem not_take {l : List Nat} (hl : l.length = 256) (hn : l.Nodup) (i : Nat) (hi : i < 256) : l.getD i 0 ∉ l.take i := fun h => not_nodup l i (by omega) h hn
theorem idx_at {l : List Nat} (hl : l.length = 256) (hn : l.Nodup) (i : Nat) (hi : i < 256) : l.idxOf (l.getD i 0) = i := idx_first l i (by omega) (not_take hl hn i hi)
/-- Where the list has it. -/
theorem sw_at {l : List Nat} (hl : l.length = 256) (hb : Bytes l) (hn : l.Nodup) (i : Nat) (hi : i < 256) : (sw l).getD (l.getD i 0) 0 = i := by
  rw [sw_get hl hb hn _ (hb i), idx_at hl hn i hi]
theorem at_sw {l : List Nat} (hl : l.length = 256) (hb : Bytes l) (hn : l.Nodup) (b : Nat) (hb' : b < 256) : l.getD ((sw l).getD b 0) 0 = b := by
  rw [sw_get hl hb hn b hb', at_idx hl hb hn b hb']
theorem getD_inj_nodup {l : List Nat} (h : ∀ i j, i < l.length → j < l.length → l.getD i 0 = l.getD j 0 → i = j) : l.Nodup := by
  rw [List.Nodup, List.pairwise_iff_getElem]
  intro i j hi hj hij e
  have := h i j hi hj (by
    rw [List.getD_eq_getElem?_getD, List.getElem?_eq_getElem hi, List.getD_eq_getElem?_getD, List.getElem?_eq_getElem hj]
    exact e)
  omega
theorem sw_nodup {l : List Nat} (hl : l.length = 256) (hb : Bytes l) (hn : l.Nodup) : (sw l).Nodup := by
  apply getD_inj_nodup
  intro i j hi hj e
  rw [length_sw] at hi hj
  have h1 := at_sw hl hb hn i hi
  have h2 := at_sw hl hb hn j hj
  rw [e, h2] at h1
  exact h1.symm
theorem ext256 {l m : List Nat} (h1 : l.length = 256) (h2 : m.length = 256) (h : ∀ i, i < 256 → l.getD i 0 = m.getD i 0) : l = m := by
  apply List.ext_getElem (by omega)
  intro i a b
  have := h i (by omega)
  simpa [a, b] using this
/-- Twice the other way is the same. -/
theorem sw_sw {l : List Nat} (hl : l.length = 256) (hb : Bytes l) (hn : l.Nodup) : sw (sw l) = l := by
  refine ext256 (length_sw _) hl fun i hi => ?_
  have hb' := sw_bytes hl hb hn
  have hn' := sw_nodup hl hb hn
  have e := sw_at (length_sw l) hb' hn' (l.getD i 0) (hb i)
  rw [sw_at hl hb hn i hi] at e
  exact e

/-! how often -/
def cnt (l : List Nat) (k : Nat) : List Nat := (List.range 256).map fun b => (l.take k).count b
theorem length_cnt (l : List Nat) (k : Nat) : (cnt l k).length = 256 := by simp [cnt]
theorem cnt_get (l : List Nat) (k b : Nat) (hb : b < 256) : (cnt l k).getD b 0 = (l.take k).count b := by simp [cnt, hb]
theorem cnt_none (l : List Nat) : cnt l 0 = List.replicate 256 0 := by
  refine ext256 (length_cnt _ _) (rep_len _ _) fun i hi => ?_
  rw [cnt_get l 0 i hi, rep_getD]; rfl
theorem cnt_le (l : List Nat) (k b : Nat) : (cnt l k).getD b 0 ≤ k := by
  by_cases hb : b < 256
  · rw [cnt_get l k b hb]
    exact Nat.le_trans (List.count_le_length) (by simp; omega)
  · rw [List.getD_eq_getElem?_getD, List.getElem?_eq_none (by rw [length_cnt]; omega)]; simp
theorem getD_set (l : List Nat) (k c i : Nat) (hk : k < l.length) : (l.set k c).getD i 0 = if i = k then c else l.getD i 0 := by
  by_cases h : i = k
  · subst h; simp [hk]
  · simp [h, List.getElem?_set_ne (fun e => h e.symm)]
theorem cnt_more (l : List Nat) (k : Nat) (hk : k < l.length) (hc : l.getD k 0 < 256) : cnt l (k + 1) = (cnt l k).set (l.getD k 0) ((cnt l k).getD (l.getD k 0) 0 + 1) := by
  refine ext256 (length_cnt _ _) (by rw [List.length_set, length_cnt]) fun i hi => ?_
  rw [getD_set _ _ _ _ (by rw [length_cnt]; exact hc), cnt_get l _ i hi, cnt_get l k _ hc, cnt_get l k i hi, take_more l k hk, List.count_append, List.count_singleton]
  by_cases e : i = l.getD k 0
  · subst e; simp
  · rw [if_neg e, if_neg (by simpa using fun x => e x.symm)]; omega
/-- The first k are there once. -/
def once (c : List Nat) (k : Nat) : Bool := (List.range k).all fun i => c.getD i 0 == 1
theorem once_more (c : List Nat) (k : Nat) : once c (k + 1) = (once c k && (c.getD k 0 == 1)) := by
  simp [once, List.range_succ]
theorem once_nodup {l : List Nat} (hl : l.length = 256) (hb : Bytes l) : once (cnt l 256) 256 = decide l.Nodup := by
  have e : l.take 256 = l := List.take_of_length_le (by omega)
  rw [Bool.eq_iff_iff]
  simp only [once, List.all_eq_true, List.mem_range, beq_iff_eq, decide_eq_true_eq]
  constructor
  · intro h
    rw [List.nodup_iff_count]
    intro a
    by_cases ha : a < 256
    · have := h a ha
      rw [cnt_get l _ a ha, e] at this
      omega
    · rw [List.count_eq_zero_of_not_mem (fun hm => ha (bytes_mem hb a hm))]; omega
  · intro h i hi
    rw [cnt_get l _ i hi, e]
    have h1 := List.count_pos_iff.2 (all_in hl hb h i hi)
    have h2 := List.nodup_iff_count.1 h i
    omega
end Go.Proofs.YtonoidhlbnbhcaaDoor.Sw
