/-
  Extents as pairs of numbers (where one starts, how many sectors it has): sets, chains, what is joined, taken away, told and cut. Own laws; no program is named here; no conditions.
-/
import Derived.RowKit
namespace Go.Proofs.Ytjeiechkndfhmaa.Ex

/-- May it be? -/
def may (x : Int × Int) : Bool := decide (0 ≤ x.1) && decide (1 ≤ x.2) && decide (x.1 + x.2 ≤ 1048576)
theorem may_iff (x : Int × Int) : may x = true ↔ 0 ≤ x.1 ∧ 1 ≤ x.2 ∧ x.1 + x.2 ≤ 1048576 := by
  unfold may; simp only [Bool.and_eq_true, decide_eq_true_eq, and_assoc]
/-- All may be, each begins at least gap behind the one ahead. -/
def apart (gap : Int) : Int → List (Int × Int) → Bool
  | _, [] => true
  | nx, x :: l => may x && decide (nx ≤ x.1) && apart gap (x.1 + x.2 + gap) l
/-- Each ends at least gap ahead of all behind it. -/
def Gap (gap : Int) (x y : Int × Int) : Prop := x.1 + x.2 + gap ≤ y.1
theorem apart_iff (gap : Int) (hg : 0 ≤ gap) : ∀ (l : List (Int × Int)) (nx : Int), apart gap nx l = true ↔ (∀ x, x ∈ l → may x = true) ∧ (∀ x, x ∈ l → nx ≤ x.1) ∧ l.Pairwise (Gap gap)
  | [], nx => by simp [apart]
  | x :: l, nx => by
    unfold apart
    simp only [Bool.and_eq_true, decide_eq_true_eq, apart_iff gap hg l, List.forall_mem_cons, List.pairwise_cons]
    constructor
    · rintro ⟨⟨h1, h2⟩, h3, h4, h5⟩
      have hx := (may_iff x).1 h1
      exact ⟨⟨h1, h3⟩, ⟨h2, fun y hy => by have := h4 y hy; omega⟩, h4, h5⟩
    · rintro ⟨⟨h1, h3⟩, ⟨h2, _⟩, h4, h5⟩
      exact ⟨⟨h1, h2⟩, h3, h4, h5⟩
def right (l : List (Int × Int)) : Bool := apart 1 0 l
theorem right_iff (l : List (Int × Int)) : right l = true ↔ (∀ x, x ∈ l → may x = true) ∧ l.Pairwise (Gap 1) := by
  unfold right
  rw [apart_iff 1 (by omega)]
  exact ⟨fun ⟨a, _, b⟩ => ⟨a, b⟩, fun ⟨a, b⟩ => ⟨a, fun x hx => ((may_iff x).1 (a x hx)).1, b⟩⟩
/-- No sector in common. -/
def Dis (x y : Int × Int) : Prop := x.1 + x.2 ≤ y.1 ∨ y.1 + y.2 ≤ x.1
/-- Whatever holds of pairs, so does what follows from it. -/
theorem pw_more {R S : Int × Int → Int × Int → Prop} : ∀ {l : List (Int × Int)}, (∀ x, x ∈ l → ∀ y, y ∈ l → R x y → S x y) → l.Pairwise R → l.Pairwise S
  | [], _, _ => List.Pairwise.nil
  | x :: l, h, hp => by
    obtain ⟨p1, p2⟩ := List.pairwise_cons.1 hp
    exact List.pairwise_cons.2 ⟨fun y hy => h x (by simp) y (by simp [hy]) (p1 y hy), pw_more (fun a ha b hb => h a (by simp [ha]) b (by simp [hb])) p2⟩
/-- No sector in common, as a Bool. -/
def disB (x y : Int × Int) : Bool := decide (x.1 + x.2 ≤ y.1) || decide (y.1 + y.2 ≤ x.1)
theorem disB_iff (x y : Int × Int) : disB x y = true ↔ Dis x y := by unfold disB Dis; simp
/-- Of all pairs. -/
def pwB : List (Int × Int) → Bool
  | [] => true
  | x :: l => l.all (disB x) && pwB l
theorem pwB_iff : ∀ l : List (Int × Int), pwB l = true ↔ l.Pairwise Dis
  | [] => by simp [pwB]
  | x :: l => by
    unfold pwB
    rw [Bool.and_eq_true, pwB_iff l, List.pairwise_cons, List.all_eq_true]
    exact and_congr_left fun _ => forall_congr' fun y => forall_congr' fun _ => disB_iff x y
theorem Dis.symm {x y : Int × Int} (h : Dis x y) : Dis y x := h.elim .inr .inl
def Chn (l : List (Int × Int)) : Prop := (∀ x, x ∈ l → may x = true) ∧ l.Pairwise Dis
def chain (l : List (Int × Int)) : Bool := l.all may && pwB l
theorem chain_iff (l : List (Int × Int)) : chain l = true ↔ Chn l := by
  unfold chain Chn
  rw [Bool.and_eq_true, pwB_iff, List.all_eq_true]
theorem Chn.perm {l l' : List (Int × Int)} (h : Chn l) (hp : l.Perm l') : Chn l' :=
  ⟨fun x hx => h.1 x (hp.mem_iff.2 hx), (hp.pairwise_iff (fun h => h.symm)).1 h.2⟩
theorem chain_perm {l l' : List (Int × Int)} (hp : l.Perm l') : chain l = chain l' := by
  rw [Bool.eq_iff_iff, chain_iff, chain_iff]; exact ⟨fun h => h.perm hp, fun h => h.perm hp.symm⟩
/-- By rising Starts. -/
def Rise (x y : Int × Int) : Prop := x.1 ≤ y.1
theorem chain_sorted {l l' : List (Int × Int)} (hp : l.Perm l') (hs : l'.Pairwise Rise) : apart 0 0 l' = chain l := by
  rw [chain_perm hp, Bool.eq_iff_iff, chain_iff, apart_iff 0 (by omega)]
  constructor
  · rintro ⟨h1, _, h3⟩
    exact ⟨h1, pw_more (fun x _ y _ (h : x.1 + x.2 + 0 ≤ y.1) => .inl (by omega)) h3⟩
  · rintro ⟨h1, h2⟩
    refine ⟨h1, fun x hx => ((may_iff x).1 (h1 x hx)).1, ?_⟩
    have hall : l'.Pairwise fun x y => Rise x y ∧ Dis x y := hs.and h2
    refine pw_more (fun x hx y hy ⟨a, b⟩ => ?_) hall
    have mx := (may_iff x).1 (h1 x hx)
    have my := (may_iff y).1 (h1 y hy)
    unfold Rise at a
    unfold Dis at b
    unfold Gap
    omega
/-- A sector in one extent; in some. -/
def In (u : Int) (x : Int × Int) : Prop := x.1 ≤ u ∧ u < x.1 + x.2
def Mem (u : Int) (l : List (Int × Int)) : Prop := ∃ x, x ∈ l ∧ In u x
theorem mem_nil (u : Int) : ¬ Mem u [] := by rintro ⟨x, hx, _⟩; cases hx
theorem mem_cons (u : Int) (x : Int × Int) (l : List (Int × Int)) : Mem u (x :: l) ↔ In u x ∨ Mem u l := by
  constructor
  · rintro ⟨y, hy, h⟩
    rcases List.mem_cons.1 hy with rfl | hy
    · exact .inl h
    · exact .inr ⟨y, hy, h⟩
  · rintro (h | ⟨y, hy, h⟩)
    · exact ⟨x, by simp, h⟩
    · exact ⟨y, by simp [hy], h⟩
theorem mem_append (u : Int) (l m : List (Int × Int)) : Mem u (l ++ m) ↔ Mem u l ∨ Mem u m := by
  constructor
  · rintro ⟨y, hy, h⟩
    rcases List.mem_append.1 hy with hy | hy
    · exact .inl ⟨y, hy, h⟩
    · exact .inr ⟨y, hy, h⟩
  · rintro (⟨y, hy, h⟩ | ⟨y, hy, h⟩)
    · exact ⟨y, by simp [hy], h⟩
    · exact ⟨y, by simp [hy], h⟩
theorem mem_perm {l l' : List (Int × Int)} (hp : l.Perm l') (u : Int) : Mem u l ↔ Mem u l' :=
  ⟨fun ⟨x, hx, h⟩ => ⟨x, hp.mem_iff.1 hx, h⟩, fun ⟨x, hx, h⟩ => ⟨x, hp.mem_iff.2 hx, h⟩⟩
/-- All sectors, in order. -/
def secs (l : List (Int × Int)) : List Int := l.flatMap fun x => (List.range x.2.toNat).map fun k => x.1 + (k : Nat)
theorem secs_nil : secs [] = [] := rfl
theorem secs_cons (x : Int × Int) (l : List (Int × Int)) : secs (x :: l) = ((List.range x.2.toNat).map fun k => x.1 + (k : Nat)) ++ secs l := rfl
theorem secs_append (l m : List (Int × Int)) : secs (l ++ m) = secs l ++ secs m := by simp [secs]
theorem mem_secs (u : Int) (l : List (Int × Int)) : u ∈ secs l ↔ Mem u l := by
  unfold secs
  simp only [List.mem_flatMap, List.mem_map, List.mem_range]
  constructor
  · rintro ⟨x, hx, k, hk, rfl⟩; exact ⟨x, hx, by omega, by omega⟩
  · rintro ⟨x, hx, h1, h2⟩; exact ⟨x, hx, (u - x.1).toNat, by omega, by omega⟩
/-- How many. -/
def total (l : List (Int × Int)) : Int := (l.map (·.2)).sum
theorem total_nil : total [] = 0 := rfl
theorem total_cons (x : Int × Int) (l : List (Int × Int)) : total (x :: l) = x.2 + total l := by simp [total]
theorem total_append (l m : List (Int × Int)) : total (l ++ m) = total l + total m := by simp [total]
theorem total_perm {l l' : List (Int × Int)} (hp : l.Perm l') : total l = total l' := by
  induction hp with
  | nil => rfl
  | cons x _ ih => rw [total_cons, total_cons, ih]
  | swap x y l => simp only [total_cons]; omega
  | trans _ _ h1 h2 => exact h1.trans h2
theorem total_secs : ∀ (l : List (Int × Int)), (∀ x, x ∈ l → 0 ≤ x.2) → (secs l).length = total l
  | [], _ => rfl
  | x :: l, h => by
    rw [secs_cons, total_cons, List.length_append, List.length_map, List.length_range]
    have h1 := h x (by simp)
    have h2 := total_secs l (fun y hy => h y (by simp [hy]))
    omega

/-- Two sets of the same sectors are one. -/
theorem right_ext : ∀ (l l' : List (Int × Int)), ((∀ x, x ∈ l → may x = true) ∧ l.Pairwise (Gap 1)) → ((∀ x, x ∈ l' → may x = true) ∧ l'.Pairwise (Gap 1)) → (∀ u, Mem u l ↔ Mem u l') → l = l'
  | [], [], _, _, _ => rfl
  | [], y :: l', _, h2, h => by
    have hy := (may_iff y).1 (h2.1 y (by simp))
    exact absurd ((h y.1).2 ((mem_cons _ _ _).2 (.inl ⟨by omega, by omega⟩))) (mem_nil _)
  | x :: l, [], h1, _, h => by
    have hx := (may_iff x).1 (h1.1 x (by simp))
    exact absurd ((h x.1).1 ((mem_cons _ _ _).2 (.inl ⟨by omega, by omega⟩))) (mem_nil _)
  | x :: l, y :: l', h1, h2, h => by
    have hx := (may_iff x).1 (h1.1 x (by simp))
    have hy := (may_iff y).1 (h2.1 y (by simp))
    obtain ⟨a1, a2⟩ := List.pairwise_cons.1 h1.2
    obtain ⟨b1, b2⟩ := List.pairwise_cons.1 h2.2
    -- whatever lies in l lies behind x's end
    have kl : ∀ u, Mem u l → x.1 + x.2 + 1 ≤ u := by rintro u ⟨z, hz, q1, q2⟩; have := a1 z hz; unfold Gap at this; omega
    have kl' : ∀ u, Mem u l' → y.1 + y.2 + 1 ≤ u := by rintro u ⟨z, hz, q1, q2⟩; have := b1 z hz; unfold Gap at this; omega
    have X : ∀ u, Mem u (x :: l) ↔ (x.1 ≤ u ∧ u < x.1 + x.2) ∨ Mem u l := fun u => mem_cons u x l
    have Y : ∀ u, Mem u (y :: l') ↔ (y.1 ≤ u ∧ u < y.1 + y.2) ∨ Mem u l' := fun u => mem_cons u y l'
    have s1 : y.1 ≤ x.1 := by
      rcases (Y x.1).1 ((h x.1).1 ((X x.1).2 (.inl ⟨by omega, by omega⟩))) with q | q
      · omega
      · have := kl' _ q; omega
    have s2 : x.1 ≤ y.1 := by
      rcases (X y.1).1 ((h y.1).2 ((Y y.1).2 (.inl ⟨by omega, by omega⟩))) with q | q
      · omega
      · have := kl _ q; omega
    have e1 : ¬ x.1 + x.2 < y.1 + y.2 := fun hlt => by
      rcases (X (x.1 + x.2)).1 ((h _).2 ((Y _).2 (.inl ⟨by omega, by omega⟩))) with q | q
      · omega
      · have := kl _ q; omega
    have e2 : ¬ y.1 + y.2 < x.1 + x.2 := fun hlt => by
      rcases (Y (y.1 + y.2)).1 ((h _).1 ((X _).2 (.inl ⟨by omega, by omega⟩))) with q | q
      · omega
      · have := kl' _ q; omega
    have hxy : x = y := Prod.ext (by omega) (by omega)
    subst hxy
    rw [right_ext l l' ⟨fun z hz => h1.1 z (by simp [hz]), a2⟩ ⟨fun z hz => h2.1 z (by simp [hz]), b2⟩ fun u => ⟨fun hu => by
      have := kl u hu
      rcases (Y u).1 ((h u).1 ((X u).2 (.inr hu))) with q | q
      · omega
      · exact q, fun hu => by
      have := kl' u hu
      rcases (X u).1 ((h u).2 ((Y u).2 (.inr hu))) with q | q
      · omega
      · exact q⟩]
theorem right_ext' {l l' : List (Int × Int)} (h1 : right l = true) (h2 : right l' = true) (h : ∀ u, Mem u l ↔ Mem u l') : l = l' :=
  right_ext l l' ((right_iff l).1 h1) ((right_iff l').1 h2) h

/-! ### One more extent behind a set: it lengthens the last one, or stands by itself -/
def stp (acc : List (Int × Int)) (x : Int × Int) : List (Int × Int) :=
  match acc.getLast? with
  | none => acc ++ [x]
  | some y => if y.1 + y.2 = x.1 then acc.dropLast ++ [(y.1, y.2 + x.2)] else acc ++ [x]
structure Grow (acc : List (Int × Int)) (n : Int) : Prop where
  may : ∀ x, x ∈ acc → Ex.may x = true
  gap : acc.Pairwise (Gap 1)
  low : ∀ x, x ∈ acc → x.1 + x.2 ≤ n
theorem Grow.nil (n : Int) : Grow [] n := ⟨by simp, by simp, by simp⟩
theorem Grow.later {acc : List (Int × Int)} {n m : Int} (h : Grow acc n) (hm : n ≤ m) : Grow acc m := ⟨h.may, h.gap, fun x hx => by have := h.low x hx; omega⟩
theorem Grow.right {acc : List (Int × Int)} {n : Int} (h : Grow acc n) : Ex.right acc = true := (right_iff acc).2 ⟨h.may, h.gap⟩
theorem stp_grow {acc : List (Int × Int)} {n : Int} (h : Grow acc n) (x : Int × Int) (hx : may x = true) (hn : n ≤ x.1) :
    Grow (stp acc x) (x.1 + x.2) ∧ (∀ u, Mem u (stp acc x) ↔ Mem u acc ∨ In u x) ∧ total (stp acc x) = total acc + x.2 := by
  have mx := (may_iff x).1 hx
  unfold stp
  rcases List.eq_nil_or_concat acc with rfl | ⟨ini, y, rfl⟩
  · simp only [List.getLast?_nil, List.nil_append]
    exact ⟨⟨by simpa using hx, by simp, by simp⟩, fun u => by rw [mem_cons]; simp [mem_nil], by simp [total]⟩
  · rw [List.concat_eq_append] at h ⊢
    have hyn := h.low y (by simp)
    have my := (may_iff y).1 (h.may y (by simp))
    obtain ⟨g1, g2, g3⟩ := List.pairwise_append.1 h.gap
    rw [List.getLast?_append, List.getLast?_singleton]
    simp only [Option.some_or, List.dropLast_concat]
    split
    · rename_i he
      refine ⟨⟨fun z hz => ?_, ?_, fun z hz => ?_⟩, fun u => ?_, ?_⟩
      · rcases List.mem_append.1 hz with hz | hz
        · exact h.may z (by simp [hz])
        · rw [List.mem_singleton] at hz; subst hz
          exact (may_iff _).2 ⟨my.1, by show 1 ≤ y.2 + x.2; omega, by show y.1 + (y.2 + x.2) ≤ 1048576; omega⟩
      · refine List.pairwise_append.2 ⟨g1, by simp, fun z hz q hq => ?_⟩
        rw [List.mem_singleton] at hq; subst hq
        exact g3 z hz y (by simp)
      · rcases List.mem_append.1 hz with hz | hz
        · have := h.low z (by simp [hz]); omega
        · rw [List.mem_singleton] at hz; subst hz
          show y.1 + (y.2 + x.2) ≤ _; omega
      · rw [mem_append, mem_append, mem_cons, mem_cons]
        simp only [mem_nil, or_false, or_assoc]
        refine or_congr Iff.rfl ?_
        show (y.1 ≤ u ∧ u < y.1 + (y.2 + x.2)) ↔ (y.1 ≤ u ∧ u < y.1 + y.2) ∨ (x.1 ≤ u ∧ u < x.1 + x.2)
        omega
      · simp only [total_append, total_cons, total_nil]; omega
    · rename_i he
      refine ⟨⟨fun z hz => ?_, ?_, fun z hz => ?_⟩, fun u => ?_, ?_⟩
      · rcases List.mem_append.1 hz with hz | hz
        · exact h.may z hz
        · rw [List.mem_singleton] at hz; subst hz; exact hx
      · refine List.pairwise_append.2 ⟨h.gap, by simp, fun z hz q hq => ?_⟩
        rw [List.mem_singleton] at hq; subst hq
        unfold Gap
        rcases List.mem_append.1 hz with hz | hz
        · have := g3 z hz y (by simp); unfold Gap at this; omega
        · rw [List.mem_singleton] at hz; subst hz; omega
      · rcases List.mem_append.1 hz with hz | hz
        · have := h.low z hz; omega
        · rw [List.mem_singleton] at hz; subst hz; omega
      · rw [mem_append, mem_cons]; simp [mem_nil]
      · simp only [total_append, total_cons, total_nil]; omega
/-- Extents in rising order, no two in common, one behind the other. -/
theorem fold_grow : ∀ (l acc : List (Int × Int)) (n : Int), Grow acc n → (∀ x, x ∈ l → may x = true ∧ n ≤ x.1) → l.Pairwise (Gap 0) →
    (∃ m, Grow (l.foldl stp acc) m) ∧ (∀ u, Mem u (l.foldl stp acc) ↔ Mem u acc ∨ Mem u l) ∧ total (l.foldl stp acc) = total acc + total l
  | [], acc, n, h, _, _ => ⟨⟨n, h⟩, fun u => by simp [mem_nil], by simp [total]⟩
  | x :: l, acc, n, h, hl, hp => by
    obtain ⟨p1, p2⟩ := List.pairwise_cons.1 hp
    obtain ⟨m1, m2⟩ := hl x (by simp)
    obtain ⟨s1, s2, s3⟩ := stp_grow h x m1 m2
    obtain ⟨t1, t2, t3⟩ := fold_grow l (stp acc x) (x.1 + x.2) s1 (fun y hy => ⟨(hl y (by simp [hy])).1, by have := p1 y hy; unfold Gap at this; omega⟩) p2
    rw [List.foldl_cons]
    exact ⟨t1, fun u => by rw [t2, s2, mem_cons, or_assoc], by rw [t3, s3, total_cons]; omega⟩
/-- What Join gives, of extents in rising order. -/
def mrg (l : List (Int × Int)) : List (Int × Int) := l.foldl stp []
theorem mrg_spec {l : List (Int × Int)} (h : apart 0 0 l = true) : right (mrg l) = true ∧ (∀ u, Mem u (mrg l) ↔ Mem u l) ∧ total (mrg l) = total l := by
  obtain ⟨h1, _, h3⟩ := (apart_iff 0 (by omega) l 0).1 h
  obtain ⟨⟨m, g⟩, g2, g3⟩ := fold_grow l [] 0 (Grow.nil 0) (fun x hx => ⟨h1 x hx, ((may_iff x).1 (h1 x hx)).1⟩) h3
  exact ⟨g.right, fun u => by unfold mrg; rw [g2]; simp [mem_nil], by unfold mrg; rw [g3]; simp [total]⟩
theorem mrg_take (l : List (Int × Int)) (k : Nat) (hk : k < l.length) : mrg (l.take (k + 1)) = stp (mrg (l.take k)) l[k] := by
  unfold mrg; rw [List.take_add_one, List.getElem?_eq_getElem hk, List.foldl_append]; rfl
theorem length_stp (acc : List (Int × Int)) (x : Int × Int) : (stp acc x).length ≤ acc.length + 1 := by
  unfold stp
  split
  · simp
  · split
    · simp
    · simp
theorem length_fold : ∀ (l acc : List (Int × Int)), (l.foldl stp acc).length ≤ acc.length + l.length
  | [], acc => by simp
  | x :: l, acc => by rw [List.foldl_cons]; have := length_fold l (stp acc x); have := length_stp acc x; simp; omega
theorem length_mrg (l : List (Int × Int)) : (mrg l).length ≤ l.length := by have := length_fold l []; simpa [mrg] using this
/-- May two sets be joined? -/
def joins (a b : List (Int × Int)) : Bool := right a && right b && chain (a ++ b)
theorem joins_comm (a b : List (Int × Int)) : joins a b = joins b a := by
  unfold joins; rw [chain_perm (List.perm_append_comm (l₁ := a) (l₂ := b)), Bool.and_comm (right a)]
theorem gap_dis {a : List (Int × Int)} (h : a.Pairwise (Gap 1)) : a.Pairwise Dis := pw_more (fun x _ y _ (h : x.1 + x.2 + 1 ≤ y.1) => .inl (by omega)) h
theorem joins_iff {a b : List (Int × Int)} (ha : right a = true) (hb : right b = true) : joins a b = true ↔ ∀ u, Mem u a → ¬ Mem u b := by
  obtain ⟨a1, a2⟩ := (right_iff a).1 ha
  obtain ⟨b1, b2⟩ := (right_iff b).1 hb
  unfold joins
  rw [ha, hb, Bool.and_self, Bool.true_and, chain_iff]
  unfold Chn
  rw [List.pairwise_append]
  constructor
  · rintro ⟨_, _, _, h⟩ u ⟨x, hx, q1, q2⟩ ⟨y, hy, r1, r2⟩
    have := h x hx y hy
    unfold Dis at this; omega
  · intro h
    refine ⟨fun x hx => ?_, gap_dis a2, gap_dis b2, fun x hx y hy => ?_⟩
    · rcases List.mem_append.1 hx with hx | hx
      · exact a1 x hx
      · exact b1 x hx
    · have mx := (may_iff x).1 (a1 x hx)
      have my := (may_iff y).1 (b1 y hy)
      unfold Dis
      apply Classical.byContradiction
      intro hn
      by_cases hxy : x.1 ≤ y.1
      · exact h y.1 ⟨x, hx, by unfold In; omega⟩ ⟨y, hy, by unfold In; omega⟩
      · exact h x.1 ⟨x, hx, by unfold In; omega⟩ ⟨y, hy, by unfold In; omega⟩

/-! ### A set less another one -/
/-- From a sector up to another one, unless that has none. -/
def pc (s t : Int) : List (Int × Int) := if s = t then [] else [(s, t - s)]
theorem mem_pc {s t : Int} (h : s ≤ t) (u : Int) : Mem u (pc s t) ↔ s ≤ u ∧ u < t := by
  unfold pc
  split
  · subst_vars; simp [mem_nil]
  · rw [mem_cons]; simp only [mem_nil, or_false]; show (s ≤ u ∧ u < s + (t - s)) ↔ _; omega
theorem of_mem_pc {s t : Int} {z : Int × Int} (h : s ≤ t) (hz : z ∈ pc s t) : z.1 = s ∧ z.1 + z.2 = t ∧ 1 ≤ z.2 := by
  unfold pc at hz
  split at hz
  · cases hz
  · rw [List.mem_singleton] at hz; subst hz; exact ⟨rfl, by show s + (t - s) = t; omega, by show 1 ≤ t - s; omega⟩
theorem pair_pc (s t : Int) (R : Int × Int → Int × Int → Prop) : (pc s t).Pairwise R := by unfold pc; split <;> simp
theorem length_pc (s t : Int) : (pc s t).length ≤ 1 := by unfold pc; split <;> simp
/-- What stays of one extent, from s up to t, and what is left of the other set. -/
def lin (t : Int) : Int → List (Int × Int) → List (Int × Int) → List (Int × Int) × List (Int × Int)
  | s, out, [] => (out ++ pc s t, [])
  | s, out, y :: b => if s ≤ y.1 ∧ y.1 + y.2 ≤ t then lin t (y.1 + y.2) (out ++ pc s y.1) b else (out ++ pc s t, y :: b)
theorem lin_nil (t s : Int) (out : List (Int × Int)) : lin t s out [] = (out ++ pc s t, []) := rfl
theorem lin_in {t s : Int} {y : Int × Int} (h : s ≤ y.1 ∧ y.1 + y.2 ≤ t) (out b : List (Int × Int)) : lin t s out (y :: b) = lin t (y.1 + y.2) (out ++ pc s y.1) b := by rw [lin, if_pos h]
theorem lin_out {t s : Int} {y : Int × Int} (h : ¬ (s ≤ y.1 ∧ y.1 + y.2 ≤ t)) (out b : List (Int × Int)) : lin t s out (y :: b) = (out ++ pc s t, y :: b) := by rw [lin, if_neg h]
/-- Of all extents, one by one. -/
def lall (a : List (Int × Int)) (st : List (Int × Int) × List (Int × Int)) : List (Int × Int) × List (Int × Int) := a.foldl (fun st x => lin (x.1 + x.2) x.1 st.1 st.2) st
theorem lall_cons (x : Int × Int) (a : List (Int × Int)) (st : List (Int × Int) × List (Int × Int)) : lall (x :: a) st = lall a (lin (x.1 + x.2) x.1 st.1 st.2) := rfl
theorem lin_spec (t : Int) : ∀ (b : List (Int × Int)) (s : Int) (out : List (Int × Int)), s ≤ t → (∀ y, y ∈ b → 1 ≤ y.2) →
    ∃ o c b', b = c ++ b' ∧ lin t s out b = (out ++ o, b') ∧ (∀ u, Mem u o ↔ (s ≤ u ∧ u < t) ∧ ¬ Mem u c) ∧ (∀ y, y ∈ c → s ≤ y.1 ∧ y.1 + y.2 ≤ t) ∧ o.Pairwise (Gap 1) ∧ (∀ z, z ∈ o → 1 ≤ z.2 ∧ s ≤ z.1 ∧ z.1 + z.2 ≤ t) ∧ o.length ≤ c.length + 1
  | [], s, out, hst, _ => ⟨pc s t, [], [], rfl, rfl, fun u => by rw [mem_pc hst]; simp [mem_nil], by simp, pair_pc _ _ _, fun z hz => by have := of_mem_pc hst hz; omega, by have := length_pc s t; simpa using this⟩
  | y :: b, s, out, hst, hb => by
    have hy := hb y (by simp)
    by_cases h : s ≤ y.1 ∧ y.1 + y.2 ≤ t
    · rw [lin_in h]
      obtain ⟨o, c, b', e1, e2, e3, e4, e5, e6, e7⟩ := lin_spec t b (y.1 + y.2) (out ++ pc s y.1) h.2 (fun z hz => hb z (by simp [hz]))
      refine ⟨pc s y.1 ++ o, y :: c, b', by rw [e1]; rfl, by rw [e2, List.append_assoc], fun u => ?_, fun z hz => ?_, ?_, fun z hz => ?_, ?_⟩
      · rw [mem_append, mem_pc h.1, e3, mem_cons]
        have hc : Mem u c → y.1 + y.2 ≤ u := by rintro ⟨z, hz, q1, q2⟩; have := e4 z hz; omega
        unfold In
        constructor
        · rintro (q | ⟨q, r⟩)
          · refine ⟨by omega, ?_⟩
            rintro (r | r)
            · omega
            · have := hc r; omega
          · refine ⟨by omega, ?_⟩
            rintro (r' | r')
            · omega
            · exact r r'
        · rintro ⟨q, r⟩
          by_cases hu : u < y.1
          · exact .inl ⟨q.1, hu⟩
          · refine .inr ⟨?_, fun h => r (.inr h)⟩
            have : ¬ (y.1 ≤ u ∧ u < y.1 + y.2) := fun h => r (.inl h)
            omega
      · rcases List.mem_cons.1 hz with rfl | hz
        · exact h
        · have := e4 z hz; omega
      · refine List.pairwise_append.2 ⟨pair_pc _ _ _, e5, fun p hp q hq => ?_⟩
        have := of_mem_pc h.1 hp
        have := e6 q hq
        unfold Gap; omega
      · rcases List.mem_append.1 hz with hz | hz
        · have := of_mem_pc h.1 hz; omega
        · have := e6 z hz; omega
      · have := length_pc s y.1; simp; omega
    · rw [lin_out h]
      exact ⟨pc s t, [], y :: b, rfl, rfl, fun u => by rw [mem_pc hst]; simp [mem_nil], by simp, pair_pc _ _ _, fun z hz => by have := of_mem_pc hst hz; omega, by have := length_pc s t; simpa using this⟩
theorem lall_spec : ∀ (a b out : List (Int × Int)), (∀ x, x ∈ a → may x = true) → a.Pairwise (Gap 1) → (∀ y, y ∈ b → 1 ≤ y.2) →
    ∃ o c b', b = c ++ b' ∧ lall a (out, b) = (out ++ o, b') ∧ (∀ u, Mem u o ↔ Mem u a ∧ ¬ Mem u c) ∧ (∀ y, y ∈ c → ∃ x, x ∈ a ∧ x.1 ≤ y.1 ∧ y.1 + y.2 ≤ x.1 + x.2) ∧ o.Pairwise (Gap 1) ∧ (∀ z, z ∈ o → 1 ≤ z.2 ∧ ∃ x, x ∈ a ∧ x.1 ≤ z.1 ∧ z.1 + z.2 ≤ x.1 + x.2) ∧ o.length ≤ c.length + a.length
  | [], b, out, _, _, _ => ⟨[], [], b, rfl, by simp [lall], fun u => by simp [mem_nil], by simp, by simp, by simp, by simp⟩
  | x :: a, b, out, ha, hp, hb => by
    obtain ⟨p1, p2⟩ := List.pairwise_cons.1 hp
    have mx := (may_iff x).1 (ha x (by simp))
    obtain ⟨o1, c1, b1, e1, e2, e3, e4, e5, e6, e7⟩ := lin_spec (x.1 + x.2) b x.1 out (by omega) hb
    obtain ⟨o2, c2, b2, f1, f2, f3, f4, f5, f6, f7⟩ := lall_spec a b1 (out ++ o1) (fun z hz => ha z (by simp [hz])) p2 (fun y hy => hb y (by rw [e1]; simp [hy]))
    refine ⟨o1 ++ o2, c1 ++ c2, b2, by rw [e1, f1, List.append_assoc], by rw [lall_cons, e2, f2, List.append_assoc], fun u => ?_, fun y hy => ?_, ?_, fun z hz => ?_, by simp; omega⟩
    · rw [mem_append, mem_append, mem_cons, e3, f3]
      have k1 : Mem u c1 → x.1 ≤ u ∧ u < x.1 + x.2 := by rintro ⟨y, hy, q1, q2⟩; have := e4 y hy; omega
      have k2 : Mem u c2 → x.1 + x.2 + 1 ≤ u := by
        rintro ⟨y, hy, q1, q2⟩
        obtain ⟨z, hz, r⟩ := f4 y hy
        have := p1 z hz; unfold Gap at this; omega
      have k3 : Mem u a → x.1 + x.2 + 1 ≤ u := by rintro ⟨y, hy, q1, q2⟩; have := p1 y hy; unfold Gap at this; omega
      unfold In
      constructor
      · rintro (⟨q, r⟩ | ⟨q, r⟩)
        · refine ⟨.inl q, ?_⟩
          rintro (h | h)
          · exact r h
          · have := k2 h; omega
        · refine ⟨.inr q, ?_⟩
          rintro (h | h)
          · have := k1 h; have := k3 q; omega
          · exact r h
      · rintro ⟨q | q, r⟩
        · exact .inl ⟨q, fun h => r (.inl h)⟩
        · exact .inr ⟨q, fun h => r (.inr h)⟩
    · rcases List.mem_append.1 hy with hy | hy
      · exact ⟨x, by simp, e4 y hy⟩
      · obtain ⟨z, hz, r⟩ := f4 y hy
        exact ⟨z, by simp [hz], r⟩
    · refine List.pairwise_append.2 ⟨e5, f5, fun p hp q hq => ?_⟩
      obtain ⟨_, z, hz, r⟩ := f6 q hq
      have := e6 p hp
      have := p1 z hz
      unfold Gap at *; omega
    · rcases List.mem_append.1 hz with hz | hz
      · have := e6 z hz; exact ⟨this.1, x, by simp, this.2⟩
      · obtain ⟨q, y, hy, r⟩ := f6 z hz
        exact ⟨q, y, by simp [hy], r⟩
/-- What is all in the one extent or behind it: what is left is behind it. -/
theorem lin_rest (t : Int) : ∀ (b : List (Int × Int)) (s : Int) (out : List (Int × Int)), (∀ y, y ∈ b → 1 ≤ y.2 ∧ s ≤ y.1 ∧ (y.1 + y.2 ≤ t ∨ t < y.1)) → b.Pairwise (Gap 1) → ∀ y, y ∈ (lin t s out b).2 → y ∈ b ∧ t < y.1
  | [], _, _, _, _ => by intro y hy; rw [lin_nil] at hy; cases hy
  | x :: b, s, out, h, hp => by
    obtain ⟨p1, p2⟩ := List.pairwise_cons.1 hp
    have hx := h x (by simp)
    intro y hy
    by_cases hc : s ≤ x.1 ∧ x.1 + x.2 ≤ t
    · rw [lin_in hc] at hy
      have := lin_rest t b (x.1 + x.2) (out ++ pc s x.1) (fun z hz => by
        have h1 := h z (by simp [hz])
        have h2 := p1 z hz
        unfold Gap at h2
        exact ⟨h1.1, by omega, h1.2.2⟩) p2 y hy
      exact ⟨by simp [this.1], this.2⟩
    · rw [lin_out hc] at hy
      refine ⟨hy, ?_⟩
      rcases List.mem_cons.1 hy with rfl | hy
      · omega
      · have := p1 y hy; unfold Gap at this; omega
theorem lin_suffix (t : Int) : ∀ (b : List (Int × Int)) (s : Int) (out : List (Int × Int)), ∃ c, b = c ++ (lin t s out b).2
  | [], s, out => ⟨[], rfl⟩
  | x :: b, s, out => by
    by_cases hc : s ≤ x.1 ∧ x.1 + x.2 ≤ t
    · rw [lin_in hc]
      obtain ⟨c, h⟩ := lin_suffix t b (x.1 + x.2) (out ++ pc s x.1)
      exact ⟨x :: c, by rw [List.cons_append, ← h]⟩
    · rw [lin_out hc]; exact ⟨[], rfl⟩
theorem lall_rest : ∀ (a b out : List (Int × Int)), (∀ x, x ∈ a → may x = true) → a.Pairwise (Gap 1) → (∀ y, y ∈ b → 1 ≤ y.2) → b.Pairwise (Gap 1) → (∀ y, y ∈ b → ∃ x, x ∈ a ∧ x.1 ≤ y.1 ∧ y.1 + y.2 ≤ x.1 + x.2) → (lall a (out, b)).2 = []
  | [], b, out, _, _, _, _, h => by
    cases b with
    | nil => rfl
    | cons y b => obtain ⟨x, hx, _⟩ := h y (by simp); cases hx
  | x :: a, b, out, ha, hp, hb, hq, h => by
    obtain ⟨p1, p2⟩ := List.pairwise_cons.1 hp
    have mx := (may_iff x).1 (ha x (by simp))
    have key := lin_rest (x.1 + x.2) b x.1 out (fun y hy => by
      obtain ⟨z, hz, r⟩ := h y hy
      rcases List.mem_cons.1 hz with rfl | hz
      · exact ⟨hb y hy, r.1, .inl r.2⟩
      · have := p1 z hz; unfold Gap at this; exact ⟨hb y hy, by omega, .inr (by omega)⟩) hq
    obtain ⟨c, hc⟩ := lin_suffix (x.1 + x.2) b x.1 out
    rw [lall_cons]
    generalize hl : lin (x.1 + x.2) x.1 out b = L at *
    obtain ⟨o', b'⟩ := L
    dsimp only at *
    refine lall_rest a b' o' (fun z hz => ha z (by simp [hz])) p2 (fun y hy => hb y (key y hy).1) (by rw [hc] at hq; exact (List.pairwise_append.1 hq).2.1) fun y hy => ?_
    obtain ⟨k1, k2⟩ := key y hy
    obtain ⟨z, hz, r⟩ := h y k1
    rcases List.mem_cons.1 hz with rfl | hz
    · have := hb y k1; omega
    · exact ⟨z, hz, r⟩
/-- A run of sectors of a set lies in one of its extents. -/
theorem in_one {a : List (Int × Int)} (hp : a.Pairwise (Gap 1)) {y : Int × Int} (hy : 1 ≤ y.2) (h : ∀ u, In u y → Mem u a) (ha : ∀ x, x ∈ a → 1 ≤ x.2) : ∃ x, x ∈ a ∧ x.1 ≤ y.1 ∧ y.1 + y.2 ≤ x.1 + x.2 := by
  obtain ⟨x, hx, q1, q2⟩ := h y.1 (by unfold In; omega)
  refine ⟨x, hx, q1, ?_⟩
  apply Classical.byContradiction
  intro hn
  obtain ⟨z, hz, r1, r2⟩ := h (x.1 + x.2) (by unfold In; omega)
  have hall : ∀ p, p ∈ a → ∀ q, q ∈ a → p = q ∨ Gap 1 p q ∨ Gap 1 q p := by
    clear hx hz h
    induction a with
    | nil => intro p hp; cases hp
    | cons w a ih =>
      obtain ⟨w1, w2⟩ := List.pairwise_cons.1 hp
      intro p hpm q hqm
      rcases List.mem_cons.1 hpm with e1 | hpm <;> rcases List.mem_cons.1 hqm with e2 | hqm
      · exact .inl (e1.trans e2.symm)
      · exact .inr (.inl (e1 ▸ w1 q hqm))
      · exact .inr (.inr (e2 ▸ w1 p hpm))
      · exact ih w2 (fun x hx => ha x (by simp [hx])) p hpm q hqm
  have := ha x hx
  rcases hall x hx z hz with rfl | h | h
  · omega
  · unfold Gap at h; omega
  · unfold Gap at h; omega
/-- May the one be taken away from the other? What stays. -/
def lessOk (a b : List (Int × Int)) : Bool := right a && right b && decide ((lall a ([], b)).2 = [])
def lessL (a b : List (Int × Int)) : List (Int × Int) := (lall a ([], b)).1
theorem less_spec {a b : List (Int × Int)} (ha : right a = true) (hb : right b = true) :
    (lessOk a b = true ↔ ∀ u, Mem u b → Mem u a) ∧ (lessOk a b = true → right (lessL a b) = true ∧ ∀ u, Mem u (lessL a b) ↔ Mem u a ∧ ¬ Mem u b) := by
  obtain ⟨a1, a2⟩ := (right_iff a).1 ha
  obtain ⟨b1, b2⟩ := (right_iff b).1 hb
  have hb1 : ∀ y, y ∈ b → 1 ≤ y.2 := fun y hy => ((may_iff y).1 (b1 y hy)).2.1
  obtain ⟨o, c, b', e1, e2, e3, e4, e5, e6, _⟩ := lall_spec a b [] a1 a2 hb1
  rw [List.nil_append] at e2
  unfold lessOk lessL
  rw [ha, hb, Bool.and_self, Bool.true_and, decide_eq_true_eq, e2]
  refine ⟨⟨fun h => ?_, fun h => ?_⟩, fun h => ⟨?_, ?_⟩⟩
  · have h : b' = [] := h
    subst h
    rw [List.append_nil] at e1
    subst e1
    rintro u ⟨y, hy, q1, q2⟩
    obtain ⟨x, hx, r⟩ := e4 y hy
    exact ⟨x, hx, by unfold In; omega⟩
  · have := lall_rest a b [] a1 a2 hb1 b2 (fun y hy => in_one a2 (hb1 y hy) (fun u hu => h u ⟨y, hy, hu⟩) (fun x hx => ((may_iff x).1 (a1 x hx)).2.1))
    rw [e2] at this
    exact this
  · refine (right_iff o).2 ⟨fun z hz => ?_, e5⟩
    obtain ⟨q, x, hx, r⟩ := e6 z hz
    have := (may_iff x).1 (a1 x hx)
    exact (may_iff z).2 (by omega)
  · have h : b' = [] := h
    subst h
    rw [List.append_nil] at e1
    subst e1
    exact e3
theorem length_lessL {a b : List (Int × Int)} (ha : right a = true) (hb : right b = true) : (lessL a b).length ≤ a.length + b.length := by
  obtain ⟨a1, a2⟩ := (right_iff a).1 ha
  obtain ⟨b1, b2⟩ := (right_iff b).1 hb
  obtain ⟨o, c, b', e1, e2, _, _, _, _, e7⟩ := lall_spec a b [] a1 a2 (fun y hy => ((may_iff y).1 (b1 y hy)).2.1)
  unfold lessL
  rw [e2, e1]
  simp; omega
end Go.Proofs.Ytjeiechkndfhmaa.Ex
