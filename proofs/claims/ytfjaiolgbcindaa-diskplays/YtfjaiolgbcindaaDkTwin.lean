/-
  A disk and the document's: how their numbers go together, and both in memory. No conditions.
-/
import Derived.Test.YtfjaiolgbcindaaDkRefNew
import Derived.Test.YtfjaiolgbcindaaDkFuse
namespace Go.Proofs.Ytfjaiolgbcindaa
open Go.RowKit Arr Dsk

namespace Dsk
def St.rfuse (r : St) (st : Int) (keep : List Bool) : St := if r.on then { r with left := min (max st (-1)) 1099511627776, keep := keep } else r
def St.rpower (r : St) : St := { r with on := true, left := -1 }
/-- The disk's state and the document's, m things having been done. -/
structure Tw (m : Nat) (s r : St) : Prop where
  n : r.n = s.n
  le : s.n ≤ 40
  sz : r.sz = s.sz
  kept : r.kept = s.kept
  waits : r.waits = s.waits
  on : r.on = s.on
  steps : r.steps = s.steps
  few : s.steps ≤ m
  fuse : s.on = true → (s.left < 0 ∧ r.left < 0) ∨ (0 ≤ s.left ∧ r.left = s.left ∧ r.keep = s.keep) ∨ (1099511627776 - (m : Int) ≤ s.left ∧ 1099511627776 - (m : Int) ≤ r.left)
section
variable {m : Nat} {s r : St}
theorem Tw.new (n z : Nat) (h40 : n ≤ 40) : Tw 0 (St.new n z) (St.new n z) := ⟨rfl, h40, rfl, rfl, rfl, rfl, rfl, Nat.le_refl _, fun _ => .inl ⟨by show (-1 : Int) < 0; omega, by show (-1 : Int) < 0; omega⟩⟩
theorem Tw.later (h : Tw m s r) : Tw (m + 1) s r := ⟨h.n, h.le, h.sz, h.kept, h.waits, h.on, h.steps, Nat.le_succ_of_le h.few, fun e => by
  rcases h.fuse e with h1 | h1 | h1
  · exact .inl h1
  · exact .inr (.inl h1)
  · exact .inr (.inr (by omega))⟩
theorem Tw.ready (h : Tw m s r) : r.ready = s.ready := by unfold St.ready; rw [h.on]
theorem Tw.fits (h : Tw m s r) (i : Int) (k : Nat) : r.fits i k = s.fits i k := by unfold St.fits St.has; rw [h.n, h.sz]
theorem Tw.read (h : Tw m s r) (i : Int) : r.read i = s.read i := by unfold St.read St.last St.has; rw [h.ready, h.n, h.waits, h.kept]
/-- The power has gone. -/
theorem Tw.gone (h : Tw m s r) (k : List Bool) : Tw (m + 1) (s.crash k) (r.gone k) :=
  ⟨h.n, h.le, h.sz, by show setl false k r.waits r.kept = setl false k s.waits s.kept; rw [h.waits, h.kept], rfl, rfl, h.steps, Nat.le_succ_of_le h.few, fun e => by cases e⟩
theorem Tw.zero (h : Tw m s r) (hon : s.on = true) (hm : m ≤ 60) : (r.left = 0 ↔ s.left = 0) ∧ (s.left = 0 → r.keep = s.keep) := by
  rcases h.fuse hon with h1 | h1 | h1
  · omega
  · exact ⟨by omega, fun _ => h1.2.2⟩
  · omega
theorem Tw.count (h : Tw m s r) (hon : s.on = true) (hm : m ≤ 60) (h0 : s.left ≠ 0) : Tw (m + 1) s.count r.count := by
  refine ⟨h.n, h.le, h.sz, h.kept, h.waits, h.on, by show r.steps + 1 = s.steps + 1; rw [h.steps], Nat.succ_le_succ h.few, fun _ => ?_⟩
  show (((if 0 < s.left then s.left - 1 else s.left) < 0 ∧ (if 0 < r.left then r.left - 1 else r.left) < 0) ∨ (0 ≤ (if 0 < s.left then s.left - 1 else s.left) ∧ (if 0 < r.left then r.left - 1 else r.left) = (if 0 < s.left then s.left - 1 else s.left) ∧ r.keep = s.keep) ∨ (1099511627776 - ((m + 1 : Nat) : Int) ≤ (if 0 < s.left then s.left - 1 else s.left) ∧ 1099511627776 - ((m + 1 : Nat) : Int) ≤ (if 0 < r.left then r.left - 1 else r.left)))
  rcases h.fuse hon with h1 | h1 | h1
  · rw [if_neg (by omega), if_neg (by omega)]; exact .inl h1
  · rw [if_pos (by omega), if_pos (by omega)]; exact .inr (.inl ⟨by omega, by omega, h1.2.2⟩)
  · rw [if_pos (by omega), if_pos (by omega)]; exact .inr (.inr (by omega))
theorem ready_on {s : St} (h : ¬ s.ready ≠ 0) : s.on = true := by
  unfold St.ready at h
  cases e : s.on with
  | true => rfl
  | false => rw [e] at h; simp at h
theorem Tw.write (h : Tw m s r) (hm : m ≤ 60) (i : Int) (b : List Nat) : Tw (m + 1) (s.write i b).1 (r.rwrite i b).1 ∧ (r.rwrite i b).2 = (s.write i b).2 := by
  unfold St.write St.rwrite
  rw [h.ready, h.fits]
  by_cases h1 : s.ready ≠ 0
  · rw [if_pos h1, if_pos h1]; exact ⟨h.later, rfl⟩
  · rw [if_neg h1, if_neg h1]
    by_cases h2 : s.fits i b.length ≠ 0
    · rw [if_pos h2, if_pos h2]; exact ⟨h.later, rfl⟩
    · rw [if_neg h2, if_neg h2]
      obtain ⟨z1, z2⟩ := h.zero (ready_on h1) hm
      by_cases h3 : s.left = 0
      · rw [if_pos h3, if_pos (z1.2 h3), z2 h3]; exact ⟨h.gone _, rfl⟩
      · rw [if_neg h3, if_neg (fun e => h3 (z1.1 e))]
        have hc := h.count (ready_on h1) hm h3
        exact ⟨⟨hc.n, hc.le, hc.sz, hc.kept, by show r.count.waits ++ _ = s.count.waits ++ _; rw [hc.waits], hc.on, hc.steps, hc.few, hc.fuse⟩, rfl⟩
theorem Tw.flush (h : Tw m s r) (hm : m ≤ 60) : Tw (m + 1) s.flush.1 r.rflush.1 ∧ r.rflush.2 = s.flush.2 := by
  unfold St.flush St.rflush
  rw [h.ready]
  by_cases h1 : s.ready ≠ 0
  · rw [if_pos h1, if_pos h1]; exact ⟨h.later, rfl⟩
  · rw [if_neg h1, if_neg h1]
    obtain ⟨z1, z2⟩ := h.zero (ready_on h1) hm
    by_cases h3 : s.left = 0
    · rw [if_pos h3, if_pos (z1.2 h3), z2 h3]; exact ⟨h.gone _, rfl⟩
    · rw [if_neg h3, if_neg (fun e => h3 (z1.1 e))]
      have hc := h.count (ready_on h1) hm h3
      exact ⟨⟨hc.n, hc.le, hc.sz, by show setl true [] r.count.waits r.count.kept = setl true [] s.count.waits s.count.kept; rw [hc.waits, hc.kept], rfl, hc.on, hc.steps, hc.few, hc.fuse⟩, rfl⟩
theorem Tw.crash (h : Tw m s r) (hw : Wf s) (k : List Bool) : Tw (m + 1) (s.crash k) (r.rcrash k) := by
  unfold St.rcrash
  by_cases h1 : r.on = true
  · rw [if_pos h1]; exact h.gone k
  · rw [if_neg h1]
    have e : s.on = false := by rw [← h.on]; simpa using h1
    have ew := hw.off e
    exact ⟨h.n, h.le, h.sz, by show r.kept = setl false k s.waits s.kept; rw [ew, setl_nil]; exact h.kept, h.waits.trans ew, h.on.trans e, h.steps, Nat.le_succ_of_le h.few, fun e => by cases e⟩
theorem Tw.setFuse (h : Tw m s r) (st : Int) (k : List Bool) : Tw (m + 1) (s.fuse st k) (r.rfuse st k) := by
  unfold St.rfuse
  by_cases h1 : r.on = true
  · rw [if_pos h1]
    refine ⟨h.n, h.le, h.sz, h.kept, h.waits, h.on, h.steps, Nat.le_succ_of_le h.few, fun _ => ?_⟩
    show (st < 0 ∧ min (max st (-1)) 1099511627776 < 0) ∨ (0 ≤ st ∧ min (max st (-1)) 1099511627776 = st ∧ k = k) ∨ (1099511627776 - ((m + 1 : Nat) : Int) ≤ st ∧ 1099511627776 - ((m + 1 : Nat) : Int) ≤ min (max st (-1)) 1099511627776)
    by_cases a : st < 0
    · left; omega
    · by_cases b : st ≤ 1099511627776
      · right; left; exact ⟨by omega, by omega, rfl⟩
      · right; right; omega
  · rw [if_neg h1]
    have e : s.on = false := by rw [← h.on]; simpa using h1
    exact ⟨h.n, h.le, h.sz, h.kept, h.waits, h.on, h.steps, Nat.le_succ_of_le h.few, fun e' => by have e2 : s.on = true := e'; rw [e] at e2; cases e2⟩
theorem Tw.power (h : Tw m s r) : Tw (m + 1) s.power r.rpower :=
  ⟨h.n, h.le, h.sz, h.kept, h.waits, rfl, h.steps, Nat.le_succ_of_le h.few, fun _ => .inl ⟨by show (-1 : Int) < 0; omega, by show (-1 : Int) < 0; omega⟩⟩
theorem Tw.over (h : Tw m s r) (i : Int) (b : List Nat) : Tw (m + 1) (s.overwrite i b).1 (r.overwrite i b).1 ∧ (r.overwrite i b).2 = (s.overwrite i b).2 := by
  unfold St.overwrite
  rw [h.fits]
  by_cases h2 : s.fits i b.length ≠ 0
  · rw [if_pos h2, if_pos h2]; exact ⟨h.later, rfl⟩
  · rw [if_neg h2, if_neg h2]
    have hl := h.later
    exact ⟨⟨hl.n, hl.le, hl.sz, by show r.kept.set _ _ = s.kept.set _ _; rw [h.kept], by show r.waits.filter _ = s.waits.filter _; rw [h.waits], hl.on, hl.steps, hl.few, hl.fuse⟩, rfl⟩
theorem Wf.rpower (h : Wf r) : Wf r.rpower := ⟨h.n0, h.n1, h.z0, h.z1, h.kl, h.kb, h.wb, h.ws, by show (-9223372036854775808 : Int) ≤ -1; omega, by show (-1 : Int) ≤ 9223372036854775807; omega, fun e => by cases e⟩
end
end Dsk

/-- Both in memory: what is the one's is not the other's; below B lies what came in. -/
structure Duo (w : World) (g h B : Nat) (κ ρ : Nat → Nat) (s r : St) : Prop where
  d : Dsk w g κ s
  e : Rdk w h B ρ r
  ap : ∀ k, κ k ≠ 0 → ρ k = 0 ∧ B ≤ k
  bel : B ≤ w.heap.size
section
variable {w w' : World} {g h B : Nat} {κ ρ : Nat → Nat} {s r s' r' : St}
theorem Rdk.lo (x : Rdk w h B ρ r) : ∀ k, ρ k ≠ 0 → B ≤ k := by obtain ⟨vk, va, vb, ps, qs, KA, kc, x⟩ := x; exact x.lo
theorem Rdk.own (x : Rdk w h B ρ r) : ρ h = 1 := by obtain ⟨vk, va, vb, ps, qs, KA, kc, x⟩ := x; exact x.own
theorem wr4_ne {ρ : Nat → Nat} {k : Nat} (h : wr4 ρ k) : ρ k ≠ 0 := by unfold wr4 at h; omega
theorem Duo.below (x : Duo w g h B κ ρ s r) (hb : Below w.heap.size w w') : Duo w' g h B κ ρ s r := ⟨x.d.below hb, x.e.below hb, x.ap, Nat.le_trans x.bel hb.size⟩
/-- The disk's turn. -/
theorem Duo.left {v : Value} {en : Ending} (x : Duo w g h B κ ρ s r) (p : DskP g κ s' v w en w') : en = .returned v ∧ ∃ κ', Duo w' g h B κ' ρ s' r ∧ Touch (fun k => κ k ≠ 0) w w' ∧ Below B w w' := by
  obtain ⟨rfl, κ', hd, ht, hk⟩ := p
  have hlt := x.e.lt
  refine ⟨rfl, κ', ⟨hd, x.e.touch ht x.ap, fun k hk' => ?_, Nat.le_trans x.bel ht.size⟩, ht, ht.below (fun k e => (x.ap k e).2) x.bel⟩
  by_cases hw : k < w.heap.size
  · rw [hk k hw] at hk'; exact x.ap k hk'
  · refine ⟨?_, Nat.le_trans x.bel (by omega)⟩
    by_cases e : ρ k = 0
    · exact e
    · exact absurd (hlt k e) hw
/-- The other's. -/
theorem Duo.right {v : Value} {en : Ending} (x : Duo w g h B κ ρ s r) (p : RdkP h B ρ r' v w en w') : en = .returned v ∧ ∃ ρ', Duo w' g h B κ ρ' s r' ∧ Touch (wr4 ρ) w w' ∧ Below B w w' := by
  obtain ⟨rfl, ρ', hd, ht, hk⟩ := p
  have hlt := x.d.lt
  refine ⟨rfl, ρ', ⟨x.d.touch ht (fun k hk' e => wr4_ne e (x.ap k hk').1), hd, fun k hk' => ?_, Nat.le_trans x.bel ht.size⟩, ht, ht.below (fun k e => x.e.lo k (wr4_ne e)) x.bel⟩
  rw [hk k (hlt k hk')]
  exact x.ap k hk'
end
end Go.Proofs.Ytfjaiolgbcindaa
