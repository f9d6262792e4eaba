/-
  Pure lemmas on what is free and what is out: taken, given back. No program is named here; no conditions.
-/
import Derived.Test.YtjeiechkndfhmaaAlNum
namespace Go.Proofs.Ytjeiechkndfhmaa.Ex

theorem right_chn {l : List (Int × Int)} (h : right l = true) : Chn l := by
  obtain ⟨h1, h2⟩ := (right_iff l).1 h
  exact ⟨h1, gap_dis h2⟩
theorem right_chain {l : List (Int × Int)} (h : right l = true) : chain l = true := (chain_iff l).2 (right_chn h)
theorem gap_tlL : ∀ (l : List (Int × Int)) (n : Int), 0 ≤ n → (∀ x, x ∈ l → may x = true) → l.Pairwise (Gap 1) → (tlL n l).Pairwise (Gap 1)
  | [], _, _, _, _ => List.Pairwise.nil
  | x :: l, n, hn, hm, hp => by
    obtain ⟨p1, p2⟩ := List.pairwise_cons.1 hp
    have hx := (may_iff x).1 (hm x (by simp))
    have hm' : ∀ y, y ∈ l → may y = true := fun y hy => hm y (List.mem_cons_of_mem _ hy)
    show (pc (x.1 + min n x.2) (x.1 + x.2) ++ tlL (n - min n x.2) l).Pairwise (Gap 1)
    rw [List.pairwise_append]
    refine ⟨pair_pc _ _ _, gap_tlL l _ (by omega) hm' p2, fun a ha b hb => ?_⟩
    have h1 := of_mem_pc (by omega) ha
    obtain ⟨_, y, hy, h2, _⟩ := tlL_in l _ (by omega) hm' b hb
    have := p1 y hy
    unfold Gap at *
    omega
theorem right_tlL {l : List (Int × Int)} (h : right l = true) (n : Int) (hn : 0 ≤ n) : right (tlL n l) = true := by
  obtain ⟨h1, h2⟩ := (right_iff l).1 h
  refine (right_iff _).2 ⟨fun z hz => ?_, gap_tlL l n hn h1 h2⟩
  obtain ⟨q, x, hx, r1, r2⟩ := tlL_in l n hn h1 z hz
  have := (may_iff x).1 (h1 x hx)
  exact (may_iff z).2 (by omega)
theorem hdL_may {l : List (Int × Int)} (h : right l = true) (n : Int) (hn : 0 ≤ n) : ∀ z, z ∈ hdL n l → may z = true := fun z hz => by
  obtain ⟨h1, h2⟩ := (right_iff l).1 h
  obtain ⟨q, x, hx, r1, r2⟩ := hdL_in l n hn h1 z hz
  have := (may_iff x).1 (h1 x hx)
  exact (may_iff z).2 (by omega)
theorem chain_hdL {l : List (Int × Int)} (h : right l = true) (n : Int) (hn : 0 ≤ n) : chain (hdL n l) = true := (chain_iff _).2 (chn_hdL l n hn (right_chn h))
theorem right_rise {l : List (Int × Int)} (h : right l = true) : (secs l).Pairwise (· < ·) := by
  obtain ⟨h1, h2⟩ := (right_iff l).1 h
  exact secs_rise l (gap_01 h2) h1
theorem rise_nodup : ∀ {l : List Int}, l.Pairwise (· < ·) → l.Nodup
  | [], _ => List.Pairwise.nil
  | x :: l, h => by
    obtain ⟨h1, h2⟩ := List.pairwise_cons.1 h
    exact List.nodup_cons.2 ⟨fun hx => by have := h1 x hx; omega, rise_nodup h2⟩
theorem take_drop_apart {l : List Int} (h : l.Nodup) (k : Nat) (u : Int) : u ∈ l.drop k ↔ u ∈ l ∧ u ∉ l.take k := by
  have e := List.take_append_drop k l
  have hn : (l.take k ++ l.drop k).Nodup := by rw [e]; exact h
  obtain ⟨_, _, h3⟩ := List.nodup_append.1 hn
  constructor
  · intro hu
    exact ⟨List.mem_of_mem_drop hu, fun hu2 => h3 u hu2 u hu rfl⟩
  · rintro ⟨h1, h2⟩
    rw [← e] at h1
    exact (List.mem_append.1 h1).resolve_left h2
/-- What is taken, and what is left. -/
theorem take_facts {F : List (Int × Int)} (h : right F = true) (n : Int) (h1 : 1 ≤ n) (h2 : n ≤ total F) :
    right (tlL n F) = true ∧ chain (hdL n F) = true ∧ (∀ u, Mem u (tlL n F) ↔ Mem u F ∧ u ∉ secs (hdL n F)) ∧ (∀ u, u ∈ secs (hdL n F) → Mem u F) ∧ ((secs (hdL n F)).length : Int) = n ∧ total (tlL n F) = total F - n ∧ (secs (hdL n F)).Nodup := by
  obtain ⟨hm, hp⟩ := (right_iff F).1 h
  have hr := right_tlL h n (by omega)
  have eh := secs_hdL F n (by omega) hm
  have et := secs_tlL F n (by omega) hm
  have hnd := rise_nodup (right_rise h)
  have hT := total_secs F (fun x hx => by have := (may_iff x).1 (hm x hx); omega)
  have hm2 := ((right_iff _).1 hr).1
  have hT2 := total_secs (tlL n F) (fun x hx => by have := (may_iff x).1 (hm2 x hx); omega)
  rw [et, List.length_drop] at hT2
  refine ⟨hr, chain_hdL h n (by omega), fun u => ?_, fun u hu => ?_, ?_, ?_, ?_⟩
  · rw [← mem_secs, et, ← mem_secs, eh]; exact take_drop_apart hnd _ u
  · rw [eh] at hu; exact (mem_secs u F).1 (List.mem_of_mem_take hu)
  · rw [eh, List.length_take]; omega
  · omega
  · rw [eh]; exact hnd.sublist (List.take_sublist _ _)
/-- The book: what is free, what is out, chain by chain. -/
structure Bk (size : Int) (F : List (Int × Int)) (os : List Int) (ls : List (List (Int × Int))) : Prop where
  right : right F = true
  mem : ∀ u, Mem u F ↔ (7 ≤ u ∧ u < 7 + size) ∧ u ∉ os
  tot : total F + (os.length : Nat) = size
  flat : os = ls.flatMap secs
  nodup : os.Nodup
  range : ∀ u, u ∈ os → 7 ≤ u ∧ u < 7 + size
  chn : ∀ l, l ∈ ls → chain l = true ∧ secs l ≠ []
theorem Bk.first {size : Int} (h1 : 1 ≤ size) (h2 : size ≤ 1000) : Bk size [(7, size)] [] [] := by
  refine ⟨?_, fun u => ?_, by simp [total], rfl, List.Pairwise.nil, fun u hu => by simp at hu, fun l hl => by simp at hl⟩
  · refine (right_iff _).2 ⟨fun x hx => ?_, by simp⟩
    rw [List.mem_singleton] at hx
    subst hx
    exact (may_iff _).2 ⟨by simp, by simpa using h1, by simp; omega⟩
  · rw [mem_cons]
    constructor
    · rintro (⟨a, b⟩ | h)
      · exact ⟨⟨a, b⟩, by simp⟩
      · exact absurd h (mem_nil u)
    · rintro ⟨⟨a, b⟩, _⟩
      exact .inl ⟨a, b⟩
theorem Bk.total_nn {size : Int} {F : List (Int × Int)} {os : List Int} {ls : List (List (Int × Int))} (h : Bk size F os ls) : 0 ≤ total F := by
  have h1 := ((right_iff F).1 h.right).1
  have := total_secs F (fun x hx => by have := (may_iff x).1 (h1 x hx); omega)
  omega
theorem Bk.take {size : Int} {F : List (Int × Int)} {os : List Int} {ls : List (List (Int × Int))} (h : Bk size F os ls) (n : Int) (h1 : 1 ≤ n) (h2 : n ≤ total F) : Bk size (tlL n F) (os ++ secs (hdL n F)) (ls ++ [hdL n F]) := by
  obtain ⟨q1, q2, q3, q4, q5, q6, q7⟩ := take_facts h.right n h1 h2
  refine ⟨q1, fun u => ?_, ?_, ?_, ?_, fun u hu => ?_, fun l hl => ?_⟩
  · rw [q3, h.mem, List.mem_append, not_or, and_assoc]
  · have := h.tot
    rw [List.length_append]; omega
  · rw [List.flatMap_append, ← h.flat]; simp
  · rw [List.nodup_append]
    exact ⟨h.nodup, q7, fun a ha b hb e => by subst e; exact ((h.mem a).1 (q4 a hb)).2 ha⟩
  · rcases List.mem_append.1 hu with hu | hu
    · exact h.range u hu
    · exact ((h.mem u).1 (q4 u hu)).1
  · rcases List.mem_append.1 hl with hl | hl
    · exact h.chn l hl
    · rw [List.mem_singleton] at hl
      subst hl
      exact ⟨q2, fun e => by rw [e] at q5; simp at q5; omega⟩
theorem Bk.give {size : Int} {F F' : List (Int × Int)} {os : List Int} {l : List (Int × Int)} {ls : List (List (Int × Int))} (h : Bk size F os (l :: ls)) (hr : Ex.right F' = true) (hm : ∀ u, Mem u F' ↔ Mem u F ∨ Mem u l) (ht : total F' = total F + total l) :
    os = secs l ++ ls.flatMap secs ∧ Bk size F' (ls.flatMap secs) ls := by
  have e : os = secs l ++ ls.flatMap secs := h.flat
  have hnd := h.nodup
  rw [e] at hnd
  obtain ⟨n1, n2, n3⟩ := List.nodup_append.1 hnd
  have hc := ((chain_iff l).1 (h.chn l (by simp)).1).1
  have hT := total_secs l (fun x hx => by have := (may_iff x).1 (hc x hx); omega)
  refine ⟨e, hr, fun u => ?_, ?_, rfl, n2, fun u hu => h.range u (by rw [e]; exact List.mem_append_right _ hu), fun l' hl' => h.chn l' (List.mem_cons_of_mem _ hl')⟩
  · rw [hm, h.mem, ← mem_secs u l]
    constructor
    · rintro (⟨h1, h2⟩ | h1)
      · exact ⟨h1, fun hu => h2 (by rw [e]; exact List.mem_append_right _ hu)⟩
      · exact ⟨h.range u (by rw [e]; exact List.mem_append_left _ h1), fun hu => n3 u h1 u hu rfl⟩
    · rintro ⟨h1, h2⟩
      by_cases hu : u ∈ secs l
      · exact .inr hu
      · exact .inl ⟨h1, fun hu2 => by rw [e] at hu2; exact (List.mem_append.1 hu2).elim hu h2⟩
  · have := h.tot
    rw [e, List.length_append] at this
    omega
end Go.Proofs.Ytjeiechkndfhmaa.Ex
