/-
  The pool and the reference's, side by side in memory: what is taken and given is the same of both. Conditions: a pool of at most 1000 sectors, from a sector from 0 to 1048576 on.
-/
import Derived.Test.YtjeiechkndfhmaaAlAwake
import Derived.Test.YtjeiechkndfhmaaAlRefPut
import Derived.Test.YtjeiechkndfhmaaAlBook
namespace Go.Proofs.Ytjeiechkndfhmaa
open Go.RowKit Arr Ex

structure PlS (w0 w : World) (g g2 r : Nat) (s n : Int) (F : List (Int × Int)) (fs : List Bool) : Prop where
  pool : Pl w g (fun k => k = r) F [(s, n)]
  ref : Rpl w g2 r s fs
  pol : Pol F s fs
  len : (fs.length : Int) = n
  below : Below w0.heap.size w0 w
  lg : w0.heap.size ≤ g
  lr : w0.heap.size ≤ r
  n1 : g ≠ g2
  n2 : g ≠ r
section
variable {w0 w w' : World} {g g2 r : Nat} {s n : Int} {F F' : List (Int × Int)} {fs fs' : List Bool}
theorem PlS.keep (h : PlS w0 w g g2 r s n F fs) (hb : Below w.heap.size w w') : PlS w0 w' g g2 r s n F fs :=
  ⟨h.pool.below hb, h.ref.below hb, h.pol, h.len, h.below.trans (hb.mono h.below.size), h.lg, h.lr, h.n1, h.n2⟩
theorem Pl.onlyR {X : Nat → Prop} {O : List (Int × Int)} (h : Pl w g X F O) (ho : Only r w w') (hX : X r) : Pl w' g X F O := h.touch (G := fun k => k = r) ⟨ho.os, ho.tape, ho.output, ho.size, ho.block⟩ (fun _ e => e ▸ hX)
/-- Is it the pool's, and free? -/
theorem in_one_iff (s n u : Int) : Mem u [(s, n)] ↔ s ≤ u ∧ u < s + n := by
  rw [mem_cons]
  exact ⟨fun h => h.elim id (fun h => absurd h (mem_nil u)), .inl⟩
theorem isB_false_iff (hl : (fs.length : Int) = n) (u : Int) : isB s fs u false = true ↔ (s ≤ u ∧ u < s + n) ∧ ¬ isB s fs u true = true := by
  rw [isB_iff, isB_iff]
  constructor
  · rintro ⟨h1, h2⟩
    have h3 := (List.getElem?_eq_some_iff.1 h2).1
    exact ⟨⟨h1, by omega⟩, fun h => by rw [h.2] at h2; cases h2⟩
  · rintro ⟨⟨h1, h2⟩, h3⟩
    refine ⟨h1, ?_⟩
    have hi : (u - s).toNat < fs.length := by omega
    rw [List.getElem?_eq_getElem hi] at h3 ⊢
    cases hb : fs[(u - s).toNat] with
    | false => rfl
    | true => exact absurd ⟨h1, by rw [hb]⟩ h3
theorem Pol.bound (h : Pol F s fs) (hl : (fs.length : Int) = n) : total F ≤ n := by
  rw [h.total]
  have := length_frs fs s
  omega
/-- Both may be given these, or none. -/
theorem gv_rg (h : Pol F s fs) (hl : (fs.length : Int) = n) (l : List (Int × Int)) : gvOk F [(s, n)] l ↔ rgOk s fs l true := by
  unfold gvOk rgOk
  refine and_congr Iff.rfl ?_
  constructor
  · intro hg u hu
    obtain ⟨h1, h2⟩ := hg u ((mem_secs u l).1 hu)
    exact (isB_false_iff hl u).2 ⟨(in_one_iff s n u).1 h1, fun e => h2 ((h.2 u).2 e)⟩
  · intro hg u hu
    obtain ⟨h1, h2⟩ := (isB_false_iff hl u).1 (hg u ((mem_secs u l).2 hu))
    exact ⟨(in_one_iff s n u).2 h1, fun e => h2 ((h.2 u).1 e)⟩
theorem isB_set (us : List Int) (b : Bool) (hu : ∀ u, u ∈ us → s ≤ u ∧ (u - s).toNat < fs.length) (v : Int) :
    isB s (setAll s b us fs) v true = true ↔ if v ∈ us then b = true else isB s fs v true = true := by
  rw [isB_iff, isB_iff]
  by_cases hs : s ≤ v
  · rw [get_setAll s b us fs (fun u h => (hu u h).1) v hs]
    by_cases hv : v ∈ us
    · rw [if_pos ⟨hv, (hu v hv).2⟩, if_pos hv]
      simp [hs]
    · rw [if_neg (fun h => hv h.1), if_neg hv]
  · by_cases hv : v ∈ us
    · exact absurd (hu v hv).1 hs
    · rw [if_neg hv]
      exact ⟨fun h => absurd h.1 hs, fun h => absurd h.1 hs⟩
theorem isB_lt {u : Int} {b : Bool} (h : isB s fs u b = true) : s ≤ u ∧ (u - s).toNat < fs.length := by
  obtain ⟨h1, h2⟩ := (isB_iff _ _ _ _).1 h
  exact ⟨h1, (List.getElem?_eq_some_iff.1 h2).1⟩
theorem Pol.gave (h : Pol F s fs) {l : List (Int × Int)} (hr : rgOk s fs l true) (h1 : right F' = true) (h2 : ∀ u, Mem u F' ↔ Mem u F ∨ Mem u l) : Pol F' s (setAll s true (secs l) fs) := by
  refine ⟨h1, fun u => ?_⟩
  rw [isB_set (secs l) true (fun u hu => isB_lt (hr.2 u hu)) u, h2, ← mem_secs u l]
  by_cases hu : u ∈ secs l
  · rw [if_pos hu]; simp [hu]
  · rw [if_neg hu]; simp [hu]; exact h.2 u
/-- What Take takes, and leaves. -/
def tkH (F : List (Int × Int)) (n : Int) : List (Int × Int) := if tkE F n = 0 then hdL n F else []
def tkF (F : List (Int × Int)) (n : Int) : List (Int × Int) := if tkE F n = 0 then tlL n F else F
def tkB (F : List (Int × Int)) (s : Int) (fs : List Bool) (n : Int) : List Bool := if tkE F n = 0 then setAll s false ((frs s fs).take n.toNat) fs else fs
theorem tkE_iff (h : Pol F s fs) (m : Int) : tkE F m = 0 ↔ 1 ≤ m ∧ m ≤ ((frs s fs).length : Int) := by
  have ht := h.total
  constructor
  · intro e
    have h1 : ¬ m < 1 := fun hm => by unfold tkE at e; rw [if_pos hm] at e; cases e
    unfold tkE at e
    rw [if_neg h1] at e
    by_cases hc : cutOk F m = true
    · unfold cutOk at hc
      simp only [Bool.and_eq_true, decide_eq_true_eq] at hc
      omega
    · rw [if_neg hc] at e; cases e
  · rintro ⟨h1, h2⟩
    unfold tkE
    rw [if_neg (by omega), if_pos]
    unfold cutOk
    rw [right_chain h.1]
    simp only [Bool.true_and, Bool.and_eq_true, decide_eq_true_eq]
    omega
theorem tk_secs (h : Pol F s fs) (m : Int) (h0 : tkE F m = 0) : secs (hdL m F) = (frs s fs).take m.toNat := by
  obtain ⟨h1, _⟩ := (tkE_iff h m).1 h0
  rw [secs_hdL F m (by omega) ((right_iff F).1 h.1).1, h.secs]
theorem Pol.took (h : Pol F s fs) (m : Int) : Pol (tkF F m) s (tkB F s fs m) ∧ (tkB F s fs m).length = fs.length ∧ chain (tkH F m) = true ∧ (∀ x, x ∈ tkH F m → may x = true) ∧ total (tkH F m) ≤ total F := by
  unfold tkF tkB tkH
  by_cases h0 : tkE F m = 0
  · rw [if_pos h0, if_pos h0, if_pos h0]
    obtain ⟨h1, h2⟩ := (tkE_iff h m).1 h0
    rw [← h.total] at h2
    obtain ⟨q1, q2, q3, q4, q5, q6, q7⟩ := take_facts h.1 m h1 h2
    have hmx := hdL_may h.1 m (by omega)
    have hT := total_secs (hdL m F) (fun x hx => by have := (may_iff x).1 (hmx x hx); omega)
    refine ⟨⟨q1, fun u => ?_⟩, length_setAll _ _ _ _, q2, hmx, by omega⟩
    have hin : ∀ v, v ∈ (frs s fs).take m.toNat → s ≤ v ∧ (v - s).toNat < fs.length := fun v hv => isB_lt ((mem_frs fs s v).1 (List.mem_of_mem_take hv))
    rw [isB_set _ false hin u, q3, tk_secs h m h0]
    by_cases hu : u ∈ (frs s fs).take m.toNat
    · rw [if_pos hu]; simp [hu]
    · rw [if_neg hu]; simp [hu]; exact h.2 u
  · rw [if_neg h0, if_neg h0, if_neg h0]
    refine ⟨h, rfl, by decide, fun x hx => (by cases hx), ?_⟩
    rw [h.total]; simp [total]
/-- The pool's Take, said by these. -/
theorem TakeP.both {X : Nat → Prop} {O : List (Int × Int)} {m : Int} {e : Ending} (hp : Pol F s fs) (hP : TakeP g X F O m w e w') :
    ∃ A c, e = .returned (.tuple #[.slice A (tkH F m).length c, .int .i64 (tkE F m : Nat)]) ∧ Exts w' w'.heap.size A (tkH F m) ∧ (∀ b, Option.map Addr.block A = some b → w.heap.size ≤ b) ∧ Only g w w' ∧ Pl w' g X (tkF F m) O := by
  obtain ⟨v, h, rfl, ho, hO, h1, h2⟩ := hP
  have hk := Pol.took hp m
  have key : h = tkH F m ∧ Pl w' g X (tkF F m) O := by
    unfold tkH tkF
    by_cases h0 : tkE F m = 0
    · rw [if_pos h0, if_pos h0]; exact h1 h0
    · rw [if_neg h0, if_neg h0]; exact h2 h0
  obtain ⟨rfl, hpl⟩ := key
  obtain ⟨A, c, rfl, _, _, hz, hx⟩ := ho.shape
  exact ⟨A, c, rfl, hx fun x hx => i64_may (hk.2.2.2.1 x hx), hz, hO, hpl⟩
/-- The reference's Take, said by the pool's. -/
theorem TakeR.both {m : Int} {e : Ending} (hp : Pol F s fs) (hR : TakeR g2 r s fs m w e w') :
    ∃ A c, e = .returned (.tuple #[.slice A (secs (tkH F m)).length c, .int .i64 (tkE F m : Nat)]) ∧ IntsI w' w'.heap.size A (secs (tkH F m)) ∧ Only r w w' ∧ Rpl w' g2 r s (tkB F s fs m) := by
  obtain ⟨hO, ⟨h1, rfl, hr⟩ | ⟨h1, h2, rfl, hr⟩ | ⟨h1, h2, A, c, rfl, hi, hr⟩⟩ := hR
  · have e0 : tkE F m = 2 := by unfold tkE; rw [if_pos h1]
    unfold tkH tkB
    rw [e0]
    exact ⟨none, 0, rfl, ⟨fun z hz => (by cases hz), fun hp => by simp [secs] at hp⟩, hO, hr⟩
  · have hn : ¬ tkE F m = 0 := fun e => by have := ((tkE_iff hp m).1 e).2; omega
    have e0 : tkE F m = 34 := by
      unfold tkE at hn ⊢
      rw [if_neg (by omega)] at hn ⊢
      by_cases hc : cutOk F m = true
      · rw [if_pos hc] at hn; exact absurd rfl hn
      · rw [if_neg hc]
    unfold tkH tkB
    rw [e0]
    exact ⟨none, 0, rfl, ⟨fun z hz => (by cases hz), fun hp => by simp [secs] at hp⟩, hO, hr⟩
  · have e0 : tkE F m = 0 := (tkE_iff hp m).2 ⟨h1, h2⟩
    unfold tkH tkB
    rw [if_pos e0, if_pos e0, tk_secs hp m e0, e0]
    refine ⟨A, c, ?_, hi, hO, hr⟩
    rw [List.length_take, Nat.min_eq_left (by omega)]
    rfl
/-- Take of both, as a state. -/
theorem PlS.took (h : PlS w0 w g g2 r s n F fs) (m : Int) {w1 : World} (hO1 : Only g w w1) (hp : Pl w1 g (fun k => k = r) (tkF F m) [(s, n)]) (hO2 : Only r w1 w') (hr : Rpl w' g2 r s (tkB F s fs m)) : PlS w0 w' g g2 r s n (tkF F m) (tkB F s fs m) := by
  obtain ⟨q1, q2, _⟩ := Pol.took h.pol m
  have hl1 := hO1.size
  have hb1 : Below w0.heap.size w0 w1 := h.below.trans (hO1.below h.lg h.below.size)
  exact ⟨hp.onlyR hO2 rfl, hr, q1, by rw [q2]; exact h.len, hb1.trans (hO2.below h.lr hb1.size), h.lg, h.lr, h.n1, h.n2⟩
/-- Give of both, as a state. -/
theorem PlS.gave (h : PlS w0 w g g2 r s n F fs) {w1 : World} (hO1 : Only g w w1) (hp : Pl w1 g (fun k => k = r) F' [(s, n)]) (hO2 : Only r w1 w') (hr : Rpl w' g2 r s fs') (hq : Pol F' s fs') (hl : fs'.length = fs.length) : PlS w0 w' g g2 r s n F' fs' := by
  have hb1 : Below w0.heap.size w0 w1 := h.below.trans (hO1.below h.lg h.below.size)
  exact ⟨hp.onlyR hO2 rfl, hr, hq, by rw [hl]; exact h.len, hb1.trans (hO2.below h.lr hb1.size), h.lg, h.lr, h.n1, h.n2⟩
theorem PlS.refAt (h : PlS w0 w g g2 r s n F fs) (hO : Only g w w') : Rpl w' g2 r s fs := h.ref.only hO h.n1 h.n2
end
end Go.Proofs.Ytjeiechkndfhmaa
