/-
  A chain's sectors by their numbers, and cut. Own laws; no program is named here; no conditions.
-/
import Derived.Test.YtjeiechkndfhmaaExNum
namespace Go.Proofs.Ytjeiechkndfhmaa.Ex

/-- The first k sectors of an extent that starts at x. -/
def run (x : Int) (k : Nat) : List Int := (List.range k).map fun (j : Nat) => x + (j : Int)
theorem run_zero (x : Int) : run x 0 = [] := rfl
theorem run_succ (x : Int) (k : Nat) : run x (k + 1) = run x k ++ [x + (k : Int)] := by simp [run, List.range_succ]
theorem length_run (x : Int) (k : Nat) : (run x k).length = k := by simp [run]
theorem run_get (x : Int) (k i : Nat) (h : i < k) : (run x k)[i]? = some (x + (i : Int)) := by simp [run, h]
theorem run_take (x : Int) (k m : Nat) : (run x k).take m = run x (min m k) := by
  apply List.ext_getElem?
  intro i
  rw [List.getElem?_take]
  by_cases h : i < min m k
  · rw [if_pos (by omega), run_get _ _ _ (by omega), run_get _ _ _ h]
  · rw [List.getElem?_eq_none (l := run x (min m k)) (by rw [length_run]; omega)]
    split
    · rw [List.getElem?_eq_none (by rw [length_run]; omega)]
    · rfl
theorem run_drop (x : Int) (k m : Nat) : (run x k).drop m = run (x + (min m k : Nat)) (k - m) := by
  apply List.ext_getElem?
  intro i
  rw [List.getElem?_drop]
  by_cases h : m + i < k
  · rw [run_get _ _ _ h, run_get _ _ _ (by omega), Nat.min_eq_left (by omega)]
    congr 1; omega
  · rw [List.getElem?_eq_none (by rw [length_run]; omega), List.getElem?_eq_none (by rw [length_run]; omega)]
theorem secs_cons' (x : Int × Int) (l : List (Int × Int)) : secs (x :: l) = run x.1 x.2.toNat ++ secs l := rfl
theorem secs_take (l : List (Int × Int)) (k : Nat) (hk : k < l.length) : secs (l.take (k + 1)) = secs (l.take k) ++ run l[k].1 l[k].2.toNat := by
  rw [List.take_add_one, List.getElem?_eq_getElem hk, secs_append]
  simp [secs, run]
theorem secs_pc {s t : Int} (h : s ≤ t) : secs (pc s t) = run s (t - s).toNat := by
  unfold pc
  split
  · subst_vars; simp [secs, run]
  · rw [secs_cons', secs_nil, List.append_nil]
/-- The first n sectors; those behind; how many are lacking. -/
def hdL : Int → List (Int × Int) → List (Int × Int)
  | _, [] => []
  | n, x :: l => pc x.1 (x.1 + min n x.2) ++ hdL (n - min n x.2) l
def tlL : Int → List (Int × Int) → List (Int × Int)
  | _, [] => []
  | n, x :: l => pc (x.1 + min n x.2) (x.1 + x.2) ++ tlL (n - min n x.2) l
def rst : Int → List (Int × Int) → Int
  | n, [] => n
  | n, x :: l => rst (n - min n x.2) l
theorem hdL_cons (n : Int) (x : Int × Int) (l : List (Int × Int)) : hdL n (x :: l) = pc x.1 (x.1 + min n x.2) ++ hdL (n - min n x.2) l := rfl
theorem tlL_cons (n : Int) (x : Int × Int) (l : List (Int × Int)) : tlL n (x :: l) = pc (x.1 + min n x.2) (x.1 + x.2) ++ tlL (n - min n x.2) l := rfl
theorem rst_cons (n : Int) (x : Int × Int) (l : List (Int × Int)) : rst n (x :: l) = rst (n - min n x.2) l := rfl
theorem secs_hdL : ∀ (l : List (Int × Int)) (n : Int), 0 ≤ n → (∀ x, x ∈ l → may x = true) → secs (hdL n l) = (secs l).take n.toNat
  | [], n, _, _ => by simp [hdL, secs_nil]
  | x :: l, n, hn, h => by
    have hx := (may_iff x).1 (h x (by simp))
    rw [hdL_cons, secs_append, secs_pc (by omega), secs_hdL l _ (by omega) (fun y hy => h y (by simp [hy])), secs_cons', List.take_append, length_run, run_take]
    congr 2
    · omega
    · omega
theorem secs_tlL : ∀ (l : List (Int × Int)) (n : Int), 0 ≤ n → (∀ x, x ∈ l → may x = true) → secs (tlL n l) = (secs l).drop n.toNat
  | [], n, _, _ => by simp [tlL, secs_nil]
  | x :: l, n, hn, h => by
    have hx := (may_iff x).1 (h x (by simp))
    rw [tlL_cons, secs_append, secs_pc (by omega), secs_tlL l _ (by omega) (fun y hy => h y (by simp [hy])), secs_cons', List.drop_append, length_run, run_drop]
    congr 2
    · congr 1; omega
    · omega
    · omega
theorem rst_eq : ∀ (l : List (Int × Int)) (n : Int), 0 ≤ n → (∀ x, x ∈ l → may x = true) → 0 ≤ rst n l ∧ (0 < rst n l ↔ total l < n)
  | [], n, hn, _ => by rw [total_nil]; exact ⟨hn, Iff.rfl⟩
  | x :: l, n, hn, h => by
    have hx := (may_iff x).1 (h x (by simp))
    have ht : 0 ≤ total l := by
      have hall : ∀ m : List (Int × Int), (∀ y, y ∈ m → may y = true) → 0 ≤ total m := by
        intro m
        induction m with
        | nil => intro _; simp [total]
        | cons z m ih => intro hm; have := (may_iff z).1 (hm z (by simp)); have := ih (fun y hy => hm y (by simp [hy])); rw [total_cons]; omega
      exact hall l fun y hy => h y (by simp [hy])
    obtain ⟨h1, h2⟩ := rst_eq l (n - min n x.2) (by omega) (fun y hy => h y (by simp [hy]))
    rw [rst_cons, total_cons]
    refine ⟨h1, ?_⟩
    rw [h2]
    omega
/-- Each piece lies in one of the extents. -/
theorem hdL_in : ∀ (l : List (Int × Int)) (n : Int), 0 ≤ n → (∀ x, x ∈ l → may x = true) → ∀ z, z ∈ hdL n l → 1 ≤ z.2 ∧ ∃ x, x ∈ l ∧ x.1 ≤ z.1 ∧ z.1 + z.2 ≤ x.1 + x.2
  | [], _, _, _, z, hz => by cases hz
  | x :: l, n, hn, h, z, hz => by
    have hx := (may_iff x).1 (h x (by simp))
    rw [hdL_cons] at hz
    rcases List.mem_append.1 hz with hz | hz
    · have := of_mem_pc (by omega) hz
      exact ⟨this.2.2, x, by simp, by omega, by omega⟩
    · obtain ⟨q, y, hy, r⟩ := hdL_in l _ (by omega) (fun y hy => h y (by simp [hy])) z hz
      exact ⟨q, y, by simp [hy], r⟩
theorem tlL_in : ∀ (l : List (Int × Int)) (n : Int), 0 ≤ n → (∀ x, x ∈ l → may x = true) → ∀ z, z ∈ tlL n l → 1 ≤ z.2 ∧ ∃ x, x ∈ l ∧ x.1 ≤ z.1 ∧ z.1 + z.2 ≤ x.1 + x.2
  | [], _, _, _, z, hz => by cases hz
  | x :: l, n, hn, h, z, hz => by
    have hx := (may_iff x).1 (h x (by simp))
    rw [tlL_cons] at hz
    rcases List.mem_append.1 hz with hz | hz
    · have := of_mem_pc (by omega) hz
      exact ⟨this.2.2, x, by simp, by omega, by omega⟩
    · obtain ⟨q, y, hy, r⟩ := tlL_in l _ (by omega) (fun y hy => h y (by simp [hy])) z hz
      exact ⟨q, y, by simp [hy], r⟩
theorem chn_hdL : ∀ (l : List (Int × Int)) (n : Int), 0 ≤ n → Chn l → Chn (hdL n l)
  | [], _, _, h => h
  | x :: l, n, hn, h => by
    obtain ⟨p1, p2⟩ := List.pairwise_cons.1 h.2
    have hx := (may_iff x).1 (h.1 x (by simp))
    have hall : ∀ y, y ∈ l → may y = true := fun y hy => h.1 y (by simp [hy])
    have ih := chn_hdL l (n - min n x.2) (by omega) ⟨hall, p2⟩
    rw [hdL_cons]
    refine ⟨fun z hz => ?_, List.pairwise_append.2 ⟨pair_pc _ _ _, ih.2, fun a ha b hb => ?_⟩⟩
    · rcases List.mem_append.1 hz with hz | hz
      · have := of_mem_pc (by omega) hz; exact (may_iff z).2 (by omega)
      · exact ih.1 z hz
    · have h1 := of_mem_pc (by omega) ha
      obtain ⟨_, y, hy, r⟩ := hdL_in l _ (by omega) hall b hb
      have := p1 y hy
      unfold Dis at *; omega
theorem chn_tlL : ∀ (l : List (Int × Int)) (n : Int), 0 ≤ n → Chn l → Chn (tlL n l)
  | [], _, _, h => h
  | x :: l, n, hn, h => by
    obtain ⟨p1, p2⟩ := List.pairwise_cons.1 h.2
    have hx := (may_iff x).1 (h.1 x (by simp))
    have hall : ∀ y, y ∈ l → may y = true := fun y hy => h.1 y (by simp [hy])
    have ih := chn_tlL l (n - min n x.2) (by omega) ⟨hall, p2⟩
    rw [tlL_cons]
    refine ⟨fun z hz => ?_, List.pairwise_append.2 ⟨pair_pc _ _ _, ih.2, fun a ha b hb => ?_⟩⟩
    · rcases List.mem_append.1 hz with hz | hz
      · have := of_mem_pc (by omega) hz; exact (may_iff z).2 (by omega)
      · exact ih.1 z hz
    · have h1 := of_mem_pc (by omega) ha
      obtain ⟨_, y, hy, r⟩ := tlL_in l _ (by omega) hall b hb
      have := p1 y hy
      unfold Dis at *; omega
theorem length_cut0 : ∀ (l : List (Int × Int)), (∀ x, x ∈ l → may x = true) → (hdL 0 l).length + (tlL 0 l).length ≤ l.length
  | [], _ => by simp [hdL, tlL]
  | x :: l, h => by
    have hx := (may_iff x).1 (h x (by simp))
    have ih := length_cut0 l (fun y hy => h y (by simp [hy]))
    rw [hdL_cons, tlL_cons, show min 0 x.2 = 0 by omega]
    have e : pc x.1 (x.1 + 0) = [] := by unfold pc; simp
    have := length_pc (x.1 + 0) (x.1 + x.2)
    rw [e, show (0 : Int) - 0 = 0 by omega]
    simp only [List.length_append, List.length_nil, List.length_cons]
    omega
theorem length_cut : ∀ (l : List (Int × Int)) (n : Int), 0 ≤ n → (∀ x, x ∈ l → may x = true) → (hdL n l).length + (tlL n l).length ≤ l.length + 1
  | [], _, _, _ => by simp [hdL, tlL]
  | x :: l, n, hn, h => by
    have hx := (may_iff x).1 (h x (by simp))
    have h1 := length_pc x.1 (x.1 + min n x.2)
    have h2 := length_pc (x.1 + min n x.2) (x.1 + x.2)
    rw [hdL_cons, tlL_cons]
    by_cases hc : n < x.2
    · rw [show n - min n x.2 = 0 by omega]
      have ih := length_cut0 l (fun y hy => h y (by simp [hy]))
      simp only [List.length_append, List.length_cons]
      omega
    · have ih := length_cut l (n - min n x.2) (by omega) (fun y hy => h y (by simp [hy]))
      have e : pc (x.1 + min n x.2) (x.1 + x.2) = [] := by unfold pc; rw [if_pos (by omega)]
      rw [e]
      simp only [List.length_append, List.length_cons, List.length_nil]
      omega
/-- The n-th sector, if there is one. -/
def atL (l : List (Int × Int)) (n : Int) : Option Int := if chain l = true ∧ 0 ≤ n then (secs l)[n.toNat]? else none
theorem secs_at_lt {x : Int × Int} {l : List (Int × Int)} {n : Int} (h0 : 0 ≤ n) (h : n < x.2) : (secs (x :: l))[n.toNat]? = some (x.1 + n) := by
  rw [secs_cons', List.getElem?_append_left (by rw [length_run]; omega), run_get _ _ _ (by omega)]
  congr 1; omega
theorem secs_at_ge {x : Int × Int} {l : List (Int × Int)} {n : Int} (h0 : 0 ≤ x.2) (h : x.2 ≤ n) : (secs (x :: l))[n.toNat]? = (secs l)[(n - x.2).toNat]? := by
  rw [secs_cons', List.getElem?_append_right (by rw [length_run]; omega), length_run]
  congr 1; omega
end Go.Proofs.Ytjeiechkndfhmaa.Ex
