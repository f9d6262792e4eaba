/-
  Pure lemmas on pools: every other extent of a chain in rising order; a pool as a row of bools; what is taken and given. No program is named here; no conditions.
-/
import Derived.Test.YtjeiechkndfhmaaExCutNum
namespace Go.Proofs.Ytjeiechkndfhmaa.Ex

/-- Every other one: those at even places (0), those at odd ones (1). -/
def sel : Bool → List (Int × Int) → List (Int × Int)
  | _, [] => []
  | false, x :: l => x :: sel true l
  | true, _ :: l => sel false l
theorem sel_snoc : ∀ (l : List (Int × Int)) (b : Bool) (x : Int × Int), sel b (l ++ [x]) = if (decide (l.length % 2 = 1) == b) = true then sel b l ++ [x] else sel b l
  | [], b, x => by cases b <;> rfl
  | y :: l, false, x => by
    show y :: sel true (l ++ [x]) = _
    rw [sel_snoc l true x, List.length_cons]
    rcases Nat.mod_two_eq_zero_or_one l.length with h | h
    · have h' : (l.length + 1) % 2 = 1 := by omega
      simp [h, h', sel]
    · have h' : (l.length + 1) % 2 = 0 := by omega
      simp [h, h', sel]
  | y :: l, true, x => by
    show sel false (l ++ [x]) = _
    rw [sel_snoc l false x, List.length_cons]
    rcases Nat.mod_two_eq_zero_or_one l.length with h | h
    · have h' : (l.length + 1) % 2 = 1 := by omega
      simp [h, h', sel]
    · have h' : (l.length + 1) % 2 = 0 := by omega
      simp [h, h', sel]
theorem sel_sub : ∀ (l : List (Int × Int)) (b : Bool), (sel b l).Sublist l
  | [], _ => List.Sublist.refl _
  | x :: l, false => (sel_sub l true).cons_cons x
  | x :: l, true => (sel_sub l false).cons x
theorem sel_perm : ∀ l : List (Int × Int), (sel false l ++ sel true l).Perm l
  | [] => List.Perm.refl _
  | x :: l => by
    show (x :: (sel true l ++ sel false l)).Perm (x :: l)
    exact List.Perm.cons x (List.perm_append_comm.trans (sel_perm l))
theorem sel_gap : ∀ (l : List (Int × Int)), (∀ x, x ∈ l → may x = true) → l.Pairwise (Gap 0) → ∀ b, (sel b l).Pairwise (Gap 1)
  | [], _, _, _ => List.Pairwise.nil
  | x :: l, hm, hp, true => sel_gap l (fun y hy => hm y (List.mem_cons_of_mem _ hy)) (List.pairwise_cons.1 hp).2 false
  | x :: l, hm, hp, false => by
    show (x :: sel true l).Pairwise _
    obtain ⟨h1, h2⟩ := List.pairwise_cons.1 hp
    refine List.pairwise_cons.2 ⟨fun z hz => ?_, sel_gap l (fun y hy => hm y (List.mem_cons_of_mem _ hy)) h2 true⟩
    cases l with
    | nil => cases hz
    | cons y r =>
      have hz' : z ∈ r := (sel_sub r false).subset hz
      have g1 := h1 y List.mem_cons_self
      have g2 := (List.pairwise_cons.1 h2).1 z hz'
      have hy := (may_iff y).1 (hm y (by simp))
      unfold Gap at *
      omega
theorem joins_sel {l l' : List (Int × Int)} (hp : l.Perm l') (hr : l'.Pairwise Rise) : joins (sel false l') (sel true l') = chain l := by
  have e := chain_sorted hp hr
  have ec : chain (sel false l' ++ sel true l') = chain l := (chain_perm (sel_perm l')).trans (chain_perm hp).symm
  cases hc : chain l with
  | false => unfold joins; rw [ec, hc, Bool.and_false]
  | true =>
    rw [hc] at e
    obtain ⟨h1, _, h3⟩ := (apart_iff 0 (by omega) l' 0).1 e
    have hs := fun b => (right_iff (sel b l')).2 ⟨fun x hx => h1 x ((sel_sub l' b).subset hx), sel_gap l' h1 h3 b⟩
    unfold joins
    rw [hs, hs, ec, hc]
    rfl
theorem mem_sel (l : List (Int × Int)) (u : Int) : Mem u (sel false l) ∨ Mem u (sel true l) ↔ Mem u l := by
  rw [← mem_append]; exact mem_perm (sel_perm l) u
theorem total_sel (l : List (Int × Int)) : total (sel false l) + total (sel true l) = total l := by
  rw [← total_append]; exact total_perm (sel_perm l)
theorem length_sel (l : List (Int × Int)) : (sel false l).length + (sel true l).length = l.length := by
  have := (sel_perm l).length_eq; simpa using this

/-- Rising numbers with the same members are one list. -/
theorem rise_ext : ∀ (l m : List Int), l.Pairwise (· < ·) → m.Pairwise (· < ·) → (∀ u, u ∈ l ↔ u ∈ m) → l = m
  | [], [], _, _, _ => rfl
  | [], y :: m, _, _, h => by have := (h y).2 (by simp); cases this
  | x :: l, [], _, _, h => by have := (h x).1 (by simp); cases this
  | x :: l, y :: m, hl, hm, h => by
    obtain ⟨a1, a2⟩ := List.pairwise_cons.1 hl
    obtain ⟨b1, b2⟩ := List.pairwise_cons.1 hm
    have hxy : x = y := by
      rcases List.mem_cons.1 ((h x).1 (by simp)) with e | e
      · exact e
      · rcases List.mem_cons.1 ((h y).2 (by simp)) with e' | e'
        · exact e'.symm
        · have := b1 x e; have := a1 y e'; omega
    subst hxy
    rw [rise_ext l m a2 b2 fun u => ⟨fun hu => ?_, fun hu => ?_⟩]
    · have := a1 u hu
      rcases List.mem_cons.1 ((h u).1 (List.mem_cons_of_mem _ hu)) with e | e
      · omega
      · exact e
    · have := b1 u hu
      rcases List.mem_cons.1 ((h u).2 (List.mem_cons_of_mem _ hu)) with e | e
      · omega
      · exact e
theorem run_rise (x : Int) : ∀ k : Nat, (run x k).Pairwise (· < ·)
  | 0 => List.Pairwise.nil
  | k + 1 => by
    rw [run_succ, List.pairwise_append]
    refine ⟨run_rise x k, by simp, fun a ha b hb => ?_⟩
    obtain ⟨j, hj, rfl⟩ := List.mem_map.1 ha
    have := List.mem_range.1 hj
    obtain rfl := List.mem_singleton.1 hb
    omega
theorem secs_rise : ∀ (l : List (Int × Int)), l.Pairwise (Gap 0) → (∀ x, x ∈ l → may x = true) → (secs l).Pairwise (· < ·)
  | [], _, _ => List.Pairwise.nil
  | x :: l, hp, hm => by
    obtain ⟨h1, h2⟩ := List.pairwise_cons.1 hp
    rw [secs_cons, List.pairwise_append]
    refine ⟨run_rise x.1 x.2.toNat, secs_rise l h2 (fun y hy => hm y (List.mem_cons_of_mem _ hy)), fun a ha b hb => ?_⟩
    obtain ⟨k, hk, rfl⟩ := List.mem_map.1 ha
    obtain ⟨y, hy, hb1, _⟩ := (mem_secs b l).1 hb
    have g := h1 y hy
    have := List.mem_range.1 hk
    unfold Gap at g
    omega
theorem gap_01 {l : List (Int × Int)} (h : l.Pairwise (Gap 1)) : l.Pairwise (Gap 0) := pw_more (fun x _ y _ (g : x.1 + x.2 + 1 ≤ y.1) => show x.1 + x.2 + 0 ≤ y.1 by omega) h

/-- The free sectors of a row of bools. -/
def frs : Int → List Bool → List Int
  | _, [] => []
  | s, b :: r => (if b then [s] else []) ++ frs (s + 1) r
theorem frs_snoc : ∀ (fs : List Bool) (s : Int) (b : Bool), frs s (fs ++ [b]) = frs s fs ++ (if b then [s + (fs.length : Nat)] else [])
  | [], s, b => by cases b <;> simp [frs]
  | c :: fs, s, b => by
    show (if c then [s] else []) ++ frs (s + 1) (fs ++ [b]) = _
    rw [frs_snoc fs (s + 1) b, ← List.append_assoc]
    have e : s + 1 + ((fs.length : Nat) : Int) = s + (((c :: fs).length : Nat) : Int) := by rw [List.length_cons]; omega
    rw [e]; rfl
/-- Is a sector the pool's, and free (or not)? -/
def isB (s : Int) (fs : List Bool) (u : Int) (b : Bool) : Bool := decide (s ≤ u) && (fs[(u - s).toNat]? == some b)
theorem isB_iff (s : Int) (fs : List Bool) (u : Int) (b : Bool) : isB s fs u b = true ↔ s ≤ u ∧ fs[(u - s).toNat]? = some b := by simp [isB]
theorem mem_frs : ∀ (fs : List Bool) (s u : Int), u ∈ frs s fs ↔ isB s fs u true = true
  | [], s, u => by simp [frs, isB]
  | b :: fs, s, u => by
    show u ∈ (if b then [s] else []) ++ frs (s + 1) fs ↔ _
    rw [List.mem_append, mem_frs fs (s + 1) u, isB_iff, isB_iff]
    rcases Int.lt_trichotomy u s with h | h | h
    · constructor
      · rintro (h1 | ⟨h1, _⟩)
        · cases b
          · cases h1
          · simp at h1; omega
        · omega
      · rintro ⟨h1, _⟩; omega
    · subst h
      cases b
      · simp; omega
      · simp
    · have e : (u - s).toNat = (u - (s + 1)).toNat + 1 := by omega
      rw [e, List.getElem?_cons_succ]
      constructor
      · rintro (h1 | ⟨_, h1⟩)
        · cases b
          · cases h1
          · simp at h1; omega
        · exact ⟨by omega, h1⟩
      · rintro ⟨_, h1⟩; exact .inr ⟨by omega, h1⟩
theorem frs_low : ∀ (fs : List Bool) (s u : Int), u ∈ frs s fs → s ≤ u := fun fs s u h => ((isB_iff _ _ _ _).1 ((mem_frs fs s u).1 h)).1
theorem frs_rise : ∀ (fs : List Bool) (s : Int), (frs s fs).Pairwise (· < ·)
  | [], _ => List.Pairwise.nil
  | b :: fs, s => by
    show ((if b then [s] else []) ++ frs (s + 1) fs).Pairwise _
    rw [List.pairwise_append]
    refine ⟨by cases b <;> simp, frs_rise fs (s + 1), fun a ha c hc => ?_⟩
    have := frs_low _ _ _ hc
    cases b
    · cases ha
    · simp at ha; omega
theorem length_frs : ∀ (fs : List Bool) (s : Int), (frs s fs).length ≤ fs.length
  | [], _ => Nat.le_refl _
  | b :: fs, s => by
    show ((if b then [s] else []) ++ frs (s + 1) fs).length ≤ _
    have := length_frs fs (s + 1)
    rw [List.length_append]
    cases b <;> simp <;> omega
/-- Sectors set to a bool, one behind the other. -/
def setAll (s : Int) (b : Bool) (us : List Int) (fs : List Bool) : List Bool := us.foldl (fun f u => f.set (u - s).toNat b) fs
theorem setAll_snoc (s : Int) (b : Bool) (us : List Int) (u : Int) (fs : List Bool) : setAll s b (us ++ [u]) fs = (setAll s b us fs).set (u - s).toNat b := by simp [setAll]
theorem length_setAll (s : Int) (b : Bool) : ∀ (us : List Int) (fs : List Bool), (setAll s b us fs).length = fs.length
  | [], _ => rfl
  | u :: us, fs => by
    show (setAll s b us (fs.set (u - s).toNat b)).length = _
    rw [length_setAll s b us]; simp
theorem get_setAll (s : Int) (b : Bool) : ∀ (us : List Int) (fs : List Bool), (∀ u, u ∈ us → s ≤ u) → ∀ v : Int, s ≤ v → (setAll s b us fs)[(v - s).toNat]? = if v ∈ us ∧ (v - s).toNat < fs.length then some b else fs[(v - s).toNat]?
  | [], fs, _, v, _ => by simp [setAll]
  | u :: us, fs, h, v, hv => by
    show (setAll s b us (fs.set (u - s).toNat b))[(v - s).toNat]? = _
    rw [get_setAll s b us _ (fun x hx => h x (List.mem_cons_of_mem _ hx)) v hv, List.length_set]
    have hu := h u (by simp)
    by_cases hl : (v - s).toNat < fs.length
    · by_cases e : v ∈ us
      · rw [if_pos ⟨e, hl⟩, if_pos ⟨List.mem_cons_of_mem _ e, hl⟩]
      · rw [if_neg (fun h => e h.1)]
        by_cases e2 : v = u
        · subst e2
          rw [if_pos ⟨by simp, hl⟩, List.getElem?_set_self hl]
        · rw [if_neg (fun h => (List.mem_cons.1 h.1).elim e2 e), List.getElem?_set_ne (by omega)]
    · rw [if_neg (fun h => hl h.2), if_neg (fun h => hl h.2), List.getElem?_eq_none (by rw [List.length_set]; omega), List.getElem?_eq_none (by omega)]
/-- The pool: its set holds just the sectors that the row says are free. -/
def Pol (F : List (Int × Int)) (s : Int) (fs : List Bool) : Prop := right F = true ∧ ∀ u, Mem u F ↔ isB s fs u true = true
theorem Pol.secs {F : List (Int × Int)} {s : Int} {fs : List Bool} (h : Pol F s fs) : secs F = frs s fs := by
  obtain ⟨h1, h2⟩ := (right_iff F).1 h.1
  exact rise_ext _ _ (secs_rise F (gap_01 h2) h1) (frs_rise fs s) fun u => by rw [mem_secs, mem_frs]; exact h.2 u
theorem Pol.total {F : List (Int × Int)} {s : Int} {fs : List Bool} (h : Pol F s fs) : total F = ((frs s fs).length : Nat) := by
  have h1 := ((right_iff F).1 h.1).1
  rw [← h.secs]
  exact (total_secs F fun x hx => by have := (may_iff x).1 (h1 x hx); omega).symm
end Go.Proofs.Ytjeiechkndfhmaa.Ex
