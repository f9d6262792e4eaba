/-
  Numbers of disks: what waits, what is kept, what each call leaves. No program is named here; no conditions.
-/
import Derived.ProofKit
namespace Go.Proofs.Ytfjaiolgbcindaa.Dsk

/-- A disk: its sectors, their size, what is kept, what waits, whether it is on, its fuse, its steps. -/
structure St where
  n : Nat
  sz : Nat
  kept : List (List Nat)
  waits : List (Nat × List Nat)
  on : Bool
  left : Int
  keep : List Bool
  steps : Nat

/-- What is kept when what waits has been gone through. -/
def setl (rest : Bool) : List Bool → List (Nat × List Nat) → List (List Nat) → List (List Nat)
  | _, [], k => k
  | [], p :: ws, k => if rest then setl rest [] ws (k.set p.1 p.2) else k
  | b :: bs, p :: ws, k => setl rest bs ws (if b then k.set p.1 p.2 else k)
/-- What sector i had last. -/
def lastOf (ws : List (Nat × List Nat)) (i : Nat) (b : List Nat) : List Nat := ws.foldl (fun b p => if p.1 = i then p.2 else b) b

structure Wf (s : St) : Prop where
  n0 : 0 < s.n
  n1 : s.n ≤ 1048576
  z0 : 32 ≤ s.sz
  z1 : s.sz ≤ 256
  kl : s.kept.length = s.n
  kb : ∀ b, b ∈ s.kept → b.length = s.sz ∧ ∀ x, x ∈ b → x < 256
  wb : ∀ p, p ∈ s.waits → p.1 < s.n ∧ p.2.length = s.sz ∧ ∀ x, x ∈ p.2 → x < 256
  ws : s.waits.length ≤ s.steps
  ll : -9223372036854775808 ≤ s.left
  lh : s.left ≤ 9223372036854775807
  off : s.on = false → s.waits = []

namespace St
def has (s : St) (i : Int) : Bool := decide (0 ≤ i ∧ i < (s.n : Int))
def ready (s : St) : Nat := if s.on then 0 else 40
def fits (s : St) (i : Int) (m : Nat) : Nat := if s.has i then (if m = s.sz then 0 else 2) else 41
def crash (s : St) (keep : List Bool) : St := { s with kept := setl false keep s.waits s.kept, waits := [], on := false }
def flushed (s : St) : St := { s with kept := setl true [] s.waits s.kept, waits := [] }
def count (s : St) : St := { s with left := if 0 < s.left then s.left - 1 else s.left, steps := s.steps + 1 }
def step (s : St) : St × Nat := if s.left = 0 then (s.crash s.keep, 40) else (s.count, 0)
def add (s : St) (i : Nat) (b : List Nat) : St := { s with waits := s.waits ++ [(i, b)] }
def write (s : St) (i : Int) (b : List Nat) : St × Nat :=
  if s.ready ≠ 0 then (s, s.ready) else if s.fits i b.length ≠ 0 then (s, s.fits i b.length) else if s.left = 0 then (s.crash s.keep, 40) else (s.count.add i.toNat b, 0)
def flush (s : St) : St × Nat := if s.ready ≠ 0 then (s, s.ready) else if s.left = 0 then (s.crash s.keep, 40) else (s.count.flushed, 0)
def last (s : St) (i : Nat) : List Nat := lastOf s.waits i (s.kept.getD i [])
def read (s : St) (i : Int) : List Nat × Nat := if s.ready ≠ 0 then ([], s.ready) else if s.has i then (s.last i.toNat, 0) else ([], 41)
def power (s : St) : St := { s with on := true, left := -1, keep := [] }
def fuse (s : St) (left : Int) (keep : List Bool) : St := { s with left := left, keep := keep }
def over (s : St) (i : Nat) (b : List Nat) : St := { s with kept := s.kept.set i b, waits := s.waits.filter fun p => decide (p.1 ≠ i) }
def overwrite (s : St) (i : Int) (b : List Nat) : St × Nat := if s.fits i b.length ≠ 0 then (s, s.fits i b.length) else (s.over i.toNat b, 0)
def new (n sz : Nat) : St := ⟨n, sz, List.replicate n (List.replicate sz 0), [], true, -1, [], 0⟩
end St

theorem setl_nil (rest : Bool) (keep : List Bool) (k : List (List Nat)) : setl rest keep [] k = k := by cases keep <;> rfl
theorem setl_length (rest : Bool) : ∀ (ws : List (Nat × List Nat)) (keep : List Bool) (k : List (List Nat)), (setl rest keep ws k).length = k.length
  | [], keep, k => by rw [setl_nil]
  | p :: ws, [], k => by
    unfold setl
    split
    · rw [setl_length rest ws, List.length_set]
    · rfl
  | p :: ws, b :: bs, k => by
    unfold setl
    rw [setl_length rest ws]
    split
    · rw [List.length_set]
    · rfl
theorem mem_set_or {α : Type} {l : List α} {i : Nat} {b x : α} (h : x ∈ l.set i b) : x ∈ l ∨ x = b := List.mem_or_eq_of_mem_set h
theorem setl_all (rest : Bool) (Pr : List Nat → Prop) : ∀ (ws : List (Nat × List Nat)) (keep : List Bool) (k : List (List Nat)), (∀ b, b ∈ k → Pr b) → (∀ p, p ∈ ws → Pr p.2) → ∀ b, b ∈ setl rest keep ws k → Pr b
  | [], keep, k, h1, _, b, hb => by rw [setl_nil] at hb; exact h1 b hb
  | p :: ws, [], k, h1, h2, b, hb => by
    unfold setl at hb
    split at hb
    · exact setl_all rest Pr ws [] _ (fun x hx => (mem_set_or hx).elim (h1 x) (fun e => e ▸ h2 p (List.mem_cons_self))) (fun q hq => h2 q (List.mem_cons_of_mem _ hq)) b hb
    · exact h1 b hb
  | p :: ws, c :: cs, k, h1, h2, b, hb => by
    unfold setl at hb
    refine setl_all rest Pr ws cs _ (fun x hx => ?_) (fun q hq => h2 q (List.mem_cons_of_mem _ hq)) b hb
    split at hx
    · exact (mem_set_or hx).elim (h1 x) (fun e => e ▸ h2 p (List.mem_cons_self))
    · exact h1 x hx

section
variable {s : St}
theorem Wf.settled (h : Wf s) (rest : Bool) (keep : List Bool) : (setl rest keep s.waits s.kept).length = s.n ∧ ∀ b, b ∈ setl rest keep s.waits s.kept → b.length = s.sz ∧ ∀ x, x ∈ b → x < 256 :=
  ⟨(setl_length ..).trans h.kl, setl_all rest (fun b => b.length = s.sz ∧ ∀ x, x ∈ b → x < 256) _ _ _ h.kb (fun p hp => (h.wb p hp).2)⟩
theorem Wf.crash (h : Wf s) (keep : List Bool) : Wf (s.crash keep) :=
  ⟨h.n0, h.n1, h.z0, h.z1, (h.settled false keep).1, (h.settled false keep).2, fun p hp => (by cases hp), Nat.zero_le _, h.ll, h.lh, fun _ => rfl⟩
theorem Wf.flushed (h : Wf s) : Wf s.flushed :=
  ⟨h.n0, h.n1, h.z0, h.z1, (h.settled true []).1, (h.settled true []).2, fun p hp => (by cases hp), Nat.zero_le _, h.ll, h.lh, fun _ => rfl⟩
theorem Wf.count (h : Wf s) : Wf s.count := by
  have h1 := h.ll
  have h2 := h.lh
  refine ⟨h.n0, h.n1, h.z0, h.z1, h.kl, h.kb, h.wb, Nat.le_succ_of_le h.ws, ?_, ?_, h.off⟩
  · show -9223372036854775808 ≤ (if 0 < s.left then s.left - 1 else s.left)
    split <;> omega
  · show (if 0 < s.left then s.left - 1 else s.left) ≤ 9223372036854775807
    split <;> omega
theorem Wf.power (h : Wf s) : Wf s.power := ⟨h.n0, h.n1, h.z0, h.z1, h.kl, h.kb, h.wb, h.ws, by show (-9223372036854775808 : Int) ≤ -1; omega, by show (-1 : Int) ≤ 9223372036854775807; omega, fun e => by cases e⟩
theorem Wf.fuse (h : Wf s) (left : Int) (keep : List Bool) (h1 : -9223372036854775808 ≤ left) (h2 : left ≤ 9223372036854775807) : Wf (s.fuse left keep) := ⟨h.n0, h.n1, h.z0, h.z1, h.kl, h.kb, h.wb, h.ws, h1, h2, h.off⟩
theorem Wf.added (h : Wf s) (hon : s.on = true) (i : Nat) (b : List Nat) (hi : i < s.n) (hb : b.length = s.sz) (hx : ∀ x, x ∈ b → x < 256) : Wf (s.count.add i b) := by
  have hc := h.count
  refine ⟨hc.n0, hc.n1, hc.z0, hc.z1, hc.kl, hc.kb, fun p hp => ?_, ?_, hc.ll, hc.lh, fun e => ?_⟩
  · rcases List.mem_append.1 hp with h1 | h1
    · exact hc.wb p h1
    · rw [List.mem_singleton] at h1; subst h1; exact ⟨hi, hb, hx⟩
  · show (s.waits ++ [(i, b)]).length ≤ s.steps + 1
    rw [List.length_append]
    have := h.ws
    simp only [List.length_singleton]; omega
  · have e' : s.on = false := e
    rw [hon] at e'; cases e'
theorem Wf.over (h : Wf s) (i : Nat) (b : List Nat) (hb : b.length = s.sz) (hx : ∀ x, x ∈ b → x < 256) : Wf (s.over i b) := by
  refine ⟨h.n0, h.n1, h.z0, h.z1, (List.length_set ..).trans h.kl, fun c hc => (mem_set_or hc).elim (h.kb c) (fun e => by rw [e]; exact ⟨hb, hx⟩), fun p hp => h.wb p (List.mem_filter.1 hp).1, Nat.le_trans (List.length_filter_le _ _) h.ws, h.ll, h.lh, fun e => ?_⟩
  show s.waits.filter _ = []
  rw [h.off e]; rfl
theorem Wf.new (n sz : Nat) (h0 : 0 < n) (h1 : n ≤ 1048576) (h2 : 32 ≤ sz) (h3 : sz ≤ 256) : Wf (St.new n sz) := by
  refine ⟨h0, h1, h2, h3, List.length_replicate, fun b hb => ?_, fun p hp => (by cases hp), Nat.le_refl _, by show (-9223372036854775808 : Int) ≤ -1; omega, by show (-1 : Int) ≤ 9223372036854775807; omega, fun e => by cases e⟩
  have := List.eq_of_mem_replicate hb
  subst this
  exact ⟨List.length_replicate, fun x hx => by have := List.eq_of_mem_replicate hx; omega⟩
theorem has_iff (s : St) (i : Int) : s.has i = true ↔ 0 ≤ i ∧ i < (s.n : Int) := by simp [St.has]
end

/-- Rows of one length, one behind the other. -/
theorem flat_len {z : Nat} : ∀ (K : List (List Nat)), (∀ b, b ∈ K → b.length = z) → K.flatten.length = K.length * z
  | [], _ => by simp
  | b :: K, h => by rw [List.flatten_cons, List.length_append, flat_len K (fun c hc => h c (List.mem_cons_of_mem _ hc)), h b List.mem_cons_self, List.length_cons, Nat.succ_mul, Nat.add_comm]
theorem flat_get {z : Nat} : ∀ (K : List (List Nat)) (i : Nat), (∀ b, b ∈ K → b.length = z) → i < K.length → (K.flatten.drop (i * z)).take z = K.getD i []
  | [], i, _, hi => by simp at hi
  | b :: K, 0, h, _ => by
    have hb := h b List.mem_cons_self
    rw [List.flatten_cons, Nat.zero_mul, List.drop_zero, ← hb, List.take_left]; rfl
  | b :: K, i + 1, h, hi => by
    have hb := h b List.mem_cons_self
    rw [List.flatten_cons, Nat.succ_mul, Nat.add_comm, ← hb, List.drop_length_add_append, hb]
    exact flat_get K i (fun c hc => h c (List.mem_cons_of_mem _ hc)) (by simpa using hi)
theorem flat_set {z : Nat} : ∀ (K : List (List Nat)) (i : Nat) (b : List Nat), (∀ c, c ∈ K → c.length = z) → i < K.length → b.length = z → (K.set i b).flatten = K.flatten.take (i * z) ++ (b ++ K.flatten.drop (i * z + b.length))
  | [], i, _, _, hi, _ => by simp at hi
  | c :: K, 0, b, h, _, hb => by
    have hc := h c List.mem_cons_self
    rw [List.set_cons_zero, List.flatten_cons, List.flatten_cons, Nat.zero_mul, List.take_zero, List.nil_append, Nat.zero_add, hb, ← hc, List.drop_left]
  | c :: K, i + 1, b, h, hi, hb => by
    have hc := h c List.mem_cons_self
    have e := flat_set K i b (fun d hd => h d (List.mem_cons_of_mem _ hd)) (by simpa using hi) hb
    have e1 : (i + 1) * z = c.length + i * z := by rw [Nat.succ_mul, hc, Nat.add_comm]
    rw [List.set_cons_succ, List.flatten_cons, e, List.flatten_cons, e1, Nat.add_assoc, List.take_length_add_append, List.drop_length_add_append, List.append_assoc]
end Go.Proofs.Ytfjaiolgbcindaa.Dsk
