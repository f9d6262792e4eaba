/-
  Contracts of the pool's Of and New. Condition: what is handed in are at most 1000 extents.
-/
import Derived.Test.YtjeiechkndfhmaaAlPool
namespace Go.Proofs.Ytjeiechkndfhmaa
open Go.RowKit Arr Ex

theorem right_one (s n : Int) : right [(s, n)] = may (s, n) := by
  cases hm : may (s, n) with
  | true => exact (right_iff _).2 ⟨fun x hx => by rw [List.mem_singleton] at hx; subst hx; exact hm, by simp⟩
  | false =>
    rw [Bool.eq_false_iff]
    intro h
    have := ((right_iff _).1 h).1 (s, n) (by simp)
    rw [hm] at this
    cases this
/-- May a pool be made so? -/
def ofOk (s n : Int) (l : List (Int × Int)) : Prop := may (s, n) = true ∧ chain l = true ∧ ∀ u, Mem u l → Mem u [(s, n)]
def OfP (X : Nat → Prop) (s n : Int) (l : List (Int × Int)) (w : World) (e : Ending) (w' : World) : Prop :=
  Below w.heap.size w w' ∧ ((ofOk s n l ∧ ∃ g F, e = .returned (.tuple #[.pointer (some ⟨g, 0, none⟩), .int .i64 0]) ∧ w.heap.size ≤ g ∧ right F = true ∧ (∀ u, Mem u F ↔ Mem u [(s, n)] ∧ ¬ Mem u l) ∧ F.length ≤ l.length + 1 ∧ Pl w' g X F [(s, n)])
    ∨ (¬ ofOk s n l ∧ e = .returned (.tuple #[.pointer none, .int .i64 2])))
set_option maxHeartbeats 4000000 in
theorem aof_any (w : World) (X : Nat → Prop) (hX : ∀ k, X k → k < w.heap.size) (s n : Int) (hi : I64 (s, n)) (A : Option Addr) (N c : Nat) (l : List (Int × Int)) (hl : l.length = N) (hn : N ≤ 999) (hx : Exts w w.heap.size A l) :
    Calls Try.prog 8 #[.int .i64 s, .int .i64 n, .slice A N c] w (OfP X s n l w) := by
  obtain ⟨w0, hw0⟩ : ∃ w0, w0 = w.alloc (.cells #[.int .i64 s, .int .i64 n] 34) := ⟨_, rfl⟩
  have hal : Below w.heap.size w w0 := hw0 ▸ below_alloc w _
  have hs0 : w0.heap.size = w.heap.size + 1 := by rw [hw0]; simp
  have HE := Lib.hid (show Exts w0 w0.heap.size (some ⟨w.heap.size, 0, none⟩) [(s, n)] from by rw [hs0, hw0]; exact exts_lit w (s, n) hi)
  have CG := Lib.hid (gather_any w0 A N c l hl (by omega) (hx.later hal))
  have HAL := Lib.hid hal
  have HS := Lib.hid hs0
  have HLN := Lib.hid hl
  clear hx hl hal hs0
  go_enter Try.func8, Try.ntmps8
  go_wp2_with fail
  rw [← hw0]
  refine CG.out.mono ?_
  rintro e w1 ⟨v, m, rfl, om, hb1, hm1, hm2, hm3⟩
  obtain ⟨Am, cm, rfl, hcm, hzm, _, hxm⟩ := om.shape
  have HRM := Lib.hid (show right m = true from by
    cases hc : chain l with
    | true => exact (hm1 hc).1
    | false => rw [hm2 hc]; rfl)
  have hxm := hxm fun x hx => i64_may (((right_iff m).1 HRM.out).1 x hx)
  have HM := Lib.hid (show (chain l = true → ∀ u, Mem u m ↔ Mem u l) ∧ m.length ≤ N from ⟨fun hc => (hm1 hc).2.1, by have := HLN.out; omega⟩)
  have CL := Lib.hid (aless_any (less_any w1 (some ⟨w.heap.size, 0, none⟩) Am 1 1 m.length cm [(s, n)] m rfl rfl (by omega) (by have := HM.out.2; omega) hcm (HE.out.later hb1) hxm))
  have HB1 := Lib.hid hb1
  clear om hm1 hm2 hm3 hxm CG hcm hb1 hzm
  go_wp2_with fail
  refine CL.out.mono ?_
  rintro e w2 ⟨vl, F, rfl, ol, hb2, hl1, hl2⟩
  have hB2 := HB1.out.trans (hb2.mono HB1.out.size)
  have HB2 := Lib.hid hB2
  have HBB := Lib.hid (show Below w.heap.size w w2 from HAL.out.trans (hB2.mono HAL.out.size))
  have hfr := ol.lt
  obtain ⟨Al, cl, rfl, hcl, hzl, hll, hxl⟩ := ol.shape
  have hs1 := HB1.out.size
  have hs2 := hb2.size
  have hmm : lessOk [(s, n)] m = true → may (s, n) = true := fun h => by
    unfold lessOk at h
    simp only [Bool.and_eq_true] at h
    rw [← right_one]; exact h.1.1
  have HG := Lib.hid (show ofOk s n l ↔ (chain l = true ∧ lessOk [(s, n)] m = true) from by
    constructor
    · rintro ⟨g1, g2, g3⟩
      have q := HM.out.1 g2
      exact ⟨g2, (less_spec (by rw [right_one]; exact g1) HRM.out).1.2 fun u hu => g3 u ((q u).1 hu)⟩
    · rintro ⟨g1, g2⟩
      have q := HM.out.1 g1
      exact ⟨hmm g2, g1, fun u hu => (less_spec (by rw [right_one]; exact hmm g2) HRM.out).1.1 g2 u ((q u).2 hu)⟩)
  have HBAD := Lib.hid (show ¬ ofOk s n l → OfP X s n l w (.returned (.tuple #[.pointer none, .int .i64 2])) w2 from fun hg => ⟨HBB.out, .inr ⟨hg, rfl⟩⟩)
  have HOK := Lib.hid (show chain l = true → lessOk [(s, n)] m = true → OfP X s n l w (.returned (.tuple #[.pointer (some ⟨w2.heap.size, 0, none⟩), .int .i64 0])) (w2.alloc (.cells #[.slice Al F.length cl, .slice (some ⟨w.heap.size, 0, none⟩) 1 1] 62)) from fun g1 g2 => by
    have ho := HG.out.2 ⟨g1, g2⟩
    have hr1 : right [(s, n)] = true := by rw [right_one]; exact ho.1
    obtain ⟨r1, r2⟩ := (less_spec hr1 HRM.out).2 g2
    have eF := hl1 g2
    rw [← eF] at r1 r2
    have q := HM.out.1 g1
    have hal2 := below_alloc w2 (.cells #[.slice Al F.length cl, .slice (some ⟨w.heap.size, 0, none⟩) 1 1] 62)
    have hs0 := HS.out
    have hlen : F.length ≤ l.length + 1 := by
      have h1 := length_lessL hr1 HRM.out
      rw [← eF] at h1
      have := HM.out.2
      have := HLN.out
      have e1 : [(s, n)].length = 1 := rfl
      omega
    refine ⟨HBB.out.trans (hal2.mono HBB.out.size), .inl ⟨ho, w2.heap.size, F, rfl, HBB.out.size, r1, fun u => (r2 u).trans (and_congr Iff.rfl (not_congr (q u))), hlen, ?_⟩⟩
    refine ⟨Al, cl, some ⟨w.heap.size, 0, none⟩, 1, by rw [World.cell?_alloc_new]; rfl, by rw [World.cell?_alloc_new]; rfl, by rw [frozen?_alloc_cells]; simp [World.frozen?], (hxl fun x hx => i64_may (((right_iff F).1 r1).1 x hx)).later hal2, (HE.out.later HB2.out).later hal2, ?_, ?_, hcl, hzl, Nat.le_refl _, fun e => (by cases e), ?_, ?_, by simp⟩
    · intro _ b hb
      have h1 := hll b hb
      have h2 := (hfr b (by cases Al <;> simp_all [Value.ownBlock])).2
      exact ⟨by omega, fun e => by have := hX b e; omega⟩
    · intro _ b hb
      simp only [Option.map_some, Option.some.injEq] at hb
      subst hb
      exact ⟨by omega, fun e => by have := hX _ e; omega⟩
    · intro e
      have := hX _ e
      omega
    · intro k hk
      have := hX k hk
      simp; omega)
  clear ol hb2 hl1 hl2 hfr hxl hll hzl hcl hs1 hs2 hmm HM HRM HE HB1 HB2 HBB CL
  generalize F.length = nF at *
  generalize m.length = nm at *
  by_cases g1 : chain l = true
  · by_cases g2 : lessOk [(s, n)] m = true
    · have HF := Lib.hid (HOK.out g1 g2)
      rw [g1, g2]
      clear HOK HBAD HG
      go_wp2
      go_ret2
      exact HF.out
    · have HF := Lib.hid (HBAD.out fun hg => g2 (HG.out.1 hg).2)
      have g2' : lessOk [(s, n)] m = false := by simpa using g2
      rw [g1, g2']
      clear HOK HBAD HG
      go_wp2
      go_ret2
      exact HF.out
  · have HF := Lib.hid (HBAD.out fun hg => g1 (HG.out.1 hg).1)
    have g1' : chain l = false := by simpa using g1
    rw [g1']
    clear HOK HBAD HG
    generalize lessOk [(s, n)] m = b2 at *
    go_wp2
    go_ret2
    exact HF.out
theorem anew_any (w : World) (X : Nat → Prop) (hX : ∀ k, X k → k < w.heap.size) (s n : Int) (hi : I64 (s, n)) :
    Calls Try.prog 22 #[.int .i64 s, .int .i64 n] w (OfP X s n [] w) := by
  have C := Lib.hid (aof_any w X hX s n hi none 0 0 [] rfl (by omega) (Exts.nil _ _ _))
  clear hX hi
  go_enter Try.func22, Try.ntmps22
  go_wp2_with fail
  refine C.out.mono ?_
  rintro e w1 ⟨hb, ⟨ho, g, F, rfl, rest⟩ | ⟨ho, rfl⟩⟩
  · have HF := Lib.hid (show OfP X s n [] w (.returned (.tuple #[.pointer (some ⟨g, 0, none⟩), .int .i64 0])) w1 from ⟨hb, .inl ⟨ho, g, F, rfl, rest⟩⟩)
    clear hb ho rest
    go_wp2
    go_ret2
    exact HF.out
  · have HF := Lib.hid (show OfP X s n [] w (.returned (.tuple #[.pointer none, .int .i64 2])) w1 from ⟨hb, .inr ⟨ho, rfl⟩⟩)
    clear hb ho
    go_wp2
    go_ret2
    exact HF.out
end Go.Proofs.Ytjeiechkndfhmaa
