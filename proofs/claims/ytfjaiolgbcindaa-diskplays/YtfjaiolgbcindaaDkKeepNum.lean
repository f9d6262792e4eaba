/-
  What a sector may have: what is kept, and what waits for it. No program is named here; no conditions.
-/
import Derived.Test.YtfjaiolgbcindaaDkMem
namespace Go.Proofs.Ytfjaiolgbcindaa.Dsk

/-- What sector i may have. -/
def ms (s : St) (i : Nat) : List (List Nat) := s.kept.getD i [] :: (s.waits.filter fun p => decide (p.1 = i)).map Prod.snd
theorem ms_pos (s : St) (i : Nat) : 0 < (ms s i).length := by simp [ms]
theorem ms_len (s : St) (i : Nat) : (ms s i).length ≤ s.waits.length + 1 := by
  unfold ms
  rw [List.length_cons, List.length_map]
  exact Nat.succ_le_succ (List.length_filter_le _ _)
theorem ms_new (i : Nat) (hi : i < 4) : ms (St.new 4 32) i = [List.replicate 32 0] := by
  match i, hi with
  | 0, _ => rfl
  | 1, _ => rfl
  | 2, _ => rfl
  | 3, _ => rfl
theorem ms_add (s : St) (i j : Nat) (b : List Nat) : ms (s.count.add i b) j = if j = i then ms s j ++ [b] else ms s j := by
  unfold ms
  have e1 : (s.count.add i b).kept = s.kept := rfl
  have e2 : (s.count.add i b).waits = s.waits ++ [(i, b)] := rfl
  rw [e1, e2, List.filter_append]
  by_cases h : j = i
  · subst h; simp
  · have h' : ¬ i = j := fun e => h e.symm
    simp [h, h']
theorem last_filter (i : Nat) : ∀ (ws : List (Nat × List Nat)) (b : List Nat), (b :: (ws.filter fun p => decide (p.1 = i)).map Prod.snd).getLast? = some (lastOf ws i b)
  | [], b => rfl
  | p :: ws, b => by
    show _ = some (lastOf ws i (if p.1 = i then p.2 else b))
    by_cases h : p.1 = i
    · rw [if_pos h, List.filter_cons_of_pos (by simp [h]), List.map_cons, List.getLast?_cons_cons]
      exact last_filter i ws p.2
    · rw [if_neg h, List.filter_cons_of_neg (by simp [h])]
      exact last_filter i ws b
theorem ms_last (s : St) (i : Nat) : (ms s i).getLast? = some (s.last i) := last_filter i s.waits (s.kept.getD i [])
theorem getD_set (k : List (List Nat)) (i j : Nat) (b : List Nat) (hj : j < k.length) : (k.set i b).getD j [] = if i = j then b else k.getD j [] := by
  rw [List.getD_eq_getElem?_getD, List.getD_eq_getElem?_getD, List.getElem?_set]
  by_cases h : i = j
  · subst h; simp [hj]
  · simp [h]
theorem setl_keeps : ∀ (ws : List (Nat × List Nat)) (keep : List Bool) (k : List (List Nat)) (j : Nat), j < k.length → (setl false keep ws k).getD j [] = k.getD j [] ∨ ∃ p, p ∈ ws ∧ p.1 = j ∧ (setl false keep ws k).getD j [] = p.2
  | [], keep, k, j, _ => .inl (by rw [setl_nil])
  | p :: ws, [], k, j, _ => .inl rfl
  | p :: ws, b :: bs, k, j, hj => by
    unfold setl
    have hj' : j < (if b then k.set p.1 p.2 else k).length := by
      split
      · rw [List.length_set]; exact hj
      · exact hj
    rcases setl_keeps ws bs (if b then k.set p.1 p.2 else k) j hj' with h | ⟨q, h1, h2, h3⟩
    · rw [h]
      split
      · rw [getD_set k p.1 j p.2 hj]
        split
        · rename_i e; exact .inr ⟨p, List.mem_cons_self, e, rfl⟩
        · exact .inl rfl
      · exact .inl rfl
    · exact .inr ⟨q, List.mem_cons_of_mem _ h1, h2, h3⟩
theorem ms_crash (s : St) (keep : List Bool) (j : Nat) (hj : j < s.kept.length) : (s.crash keep).kept.getD j [] ∈ ms s j := by
  show (setl false keep s.waits s.kept).getD j [] ∈ ms s j
  rcases setl_keeps s.waits keep s.kept j hj with h | ⟨p, h1, h2, h3⟩
  · rw [h]; exact List.mem_cons_self
  · rw [h3]; exact List.mem_cons_of_mem _ (List.mem_map.2 ⟨p, List.mem_filter.2 ⟨h1, by simp [h2]⟩, rfl⟩)
theorem setl_all_last : ∀ (ws : List (Nat × List Nat)) (k : List (List Nat)) (j : Nat), j < k.length → (setl true [] ws k).getD j [] = lastOf ws j (k.getD j [])
  | [], k, j, _ => by rw [setl_nil]; rfl
  | p :: ws, k, j, hj => by
    show (setl true [] ws (k.set p.1 p.2)).getD j [] = lastOf ws j (if p.1 = j then p.2 else k.getD j [])
    rw [setl_all_last ws _ j (by rw [List.length_set]; exact hj), getD_set k p.1 j p.2 hj]
theorem ms_flush (s : St) (j : Nat) (hj : j < s.kept.length) : ms s.count.flushed j = [s.last j] := by
  unfold ms
  have e1 : s.count.flushed.kept = setl true [] s.waits s.kept := rfl
  have e2 : s.count.flushed.waits = [] := rfl
  rw [e1, e2, setl_all_last s.waits s.kept j hj]
  rfl
/-- A disk on which the fuse is not set, as the play leaves it. -/
structure Quiet (s : St) (k : Nat) : Prop where
  n : s.n = 4
  sz : s.sz = 32
  on : s.on = true
  left : s.left = -1
  steps : s.steps ≤ k
theorem Quiet.new : Quiet (St.new 4 32) 0 := ⟨rfl, rfl, rfl, rfl, Nat.le_refl _⟩
theorem Quiet.ready {s : St} {k : Nat} (h : Quiet s k) : s.ready = 0 := by unfold St.ready; rw [h.on]; rfl
theorem Quiet.write {s : St} {k : Nat} (h : Quiet s k) (i : Int) (b : List Nat) : (s.write i b).2 ≠ 0 ∧ (s.write i b).1 = s ∨ (s.write i b).2 = 0 ∧ 0 ≤ i ∧ i < 4 ∧ b.length = 32 ∧ (s.write i b).1 = s.count.add i.toNat b := by
  have hr := h.ready
  have hl := h.left
  by_cases hf : s.fits i b.length = 0
  · have e : s.write i b = (s.count.add i.toNat b, 0) := by unfold St.write; rw [if_neg (by omega), if_neg (by omega), if_neg (by omega)]
    rw [e]
    have hn := h.n
    have hz := h.sz
    unfold St.fits at hf
    by_cases h1 : s.has i = true
    · rw [if_pos h1] at hf
      by_cases h2 : b.length = s.sz
      · have := (has_iff s i).1 h1
        exact .inr ⟨rfl, this.1, by omega, by omega, rfl⟩
      · rw [if_neg h2] at hf; omega
    · rw [if_neg h1] at hf; omega
  · have e : s.write i b = (s, s.fits i b.length) := by unfold St.write; rw [if_neg (by omega), if_pos hf]
    rw [e]
    exact .inl ⟨hf, rfl⟩
theorem Quiet.flush {s : St} {k : Nat} (h : Quiet s k) : s.flush = (s.count.flushed, 0) := by
  have hr := h.ready
  have hl := h.left
  unfold St.flush; rw [if_neg (by omega), if_neg (by omega)]
theorem Quiet.added {s : St} {k : Nat} (h : Quiet s k) (i : Nat) (b : List Nat) : Quiet (s.count.add i b) (k + 1) :=
  ⟨h.n, h.sz, h.on, by show (if 0 < s.left then s.left - 1 else s.left) = -1; rw [h.left]; rfl, Nat.succ_le_succ h.steps⟩
theorem Quiet.flushed {s : St} {k : Nat} (h : Quiet s k) : Quiet s.count.flushed (k + 1) :=
  ⟨h.n, h.sz, h.on, by show (if 0 < s.left then s.left - 1 else s.left) = -1; rw [h.left]; rfl, Nat.succ_le_succ h.steps⟩
theorem Quiet.more {s : St} {k : Nat} (h : Quiet s k) : Quiet s (k + 1) := ⟨h.n, h.sz, h.on, h.left, Nat.le_succ_of_le h.steps⟩
theorem Quiet.read {s : St} {k : Nat} (h : Quiet s k) (i : Nat) (hi : i < 4) : s.read (i : Int) = (s.last i, 0) := by
  have hr := h.ready
  have hh : s.has (i : Int) = true := (has_iff s _).2 ⟨by omega, by have := h.n; omega⟩
  unfold St.read; rw [if_neg (by omega), if_pos hh, Int.toNat_natCast]
theorem Quiet.off {s : St} (keep : List Bool) (i : Int) : (s.crash keep).read i = ([], 40) := by
  have hr : (s.crash keep).ready = 40 := rfl
  unfold St.read; rw [if_pos (by omega), hr]
theorem Quiet.again {s : St} {k : Nat} (h : Quiet s k) (keep : List Bool) (i : Nat) (hi : i < 4) : (s.crash keep).power.read (i : Int) = ((s.crash keep).kept.getD i [], 0) := by
  have hr : (s.crash keep).power.ready = 0 := rfl
  have hh : (s.crash keep).power.has (i : Int) = true := (has_iff _ _).2 ⟨by omega, by have := h.n; show (i : Int) < (s.n : Int); omega⟩
  unfold St.read; rw [if_neg (by omega), if_pos hh, Int.toNat_natCast]; rfl
end Go.Proofs.Ytfjaiolgbcindaa.Dsk
