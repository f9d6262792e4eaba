/-
  GfApart's statement that draws its order and makes two blocks: what holds whatever has come up (written by tools/gen_apart.py). No conditions.
-/
import Derived.Test.YtaibegafoncddaaApartNum
import Derived.Test.YtaibegafoncddaaAnyInv
namespace Go.Proofs.Ytaibegafoncddaa
open Go.RowKit Gf

/-- The frame at that statement. -/
@[reducible] def fr4 (a b : List Nat) (h : Nat) (v7 v8 v12 v13 v14 v15 : Value) : Act := { tmps := #[.agg (blk a), .agg (blk b), .pointer (some ⟨h, 0, none⟩), .pointer (some ⟨h + 1, 0, none⟩), .bool false, .pointer (some ⟨h + 1 + 1, 0, none⟩), .pointer (some ⟨h + 1 + 1 + 1, 0, none⟩), v7, v8, undef, .bool true, .bool false, v12, v13, v14, v15, undef, undef, undef, undef, undef, undef, undef, undef, undef, undef, undef, undef, undef, undef, undef, undef, undef, undef, undef, undef, undef, undef, undef, undef, undef, undef, undef, undef, undef, undef, undef, undef, undef, undef, undef, undef, undef, undef, undef, undef, undef, undef, undef, undef, undef, undef, undef, undef, undef, undef, undef, undef, undef, undef], defers := [] }

/-- What holds of the world and the six slots, D having come up. -/
structure St4 (a b : List Nat) (h : Nat) (w0 : World) (D : Nat → Bool) (w : World) (v7 v8 v12 v13 v14 v15 : Value) : Prop where
  hA : Blk w h a
  hB : Blk w (h + 1) b
  hS : Blk w (h + 1 + 1) zeros
  hT : Blk w (h + 1 + 1 + 1) zeros
  bel : Below h w0 w
  l0 : D 0 = true → v12 = .agg (blk a)
  l1 : D 1 = true → v13 = .agg (blk (dbl a))
  l2 : D 2 = true → v14 = .agg (blk b)
  l3 : D 3 = true → v15 = .agg (blk (dbl b))
  l4 : D 4 = true → ∃ g, v7 = .pointer (some ⟨g, 0, none⟩) ∧ h + 4 ≤ g ∧ Blk w g (if D 6 then dbl a else zeros)
  l5 : D 5 = true → ∃ g, v8 = .pointer (some ⟨g, 0, none⟩) ∧ h + 4 ≤ g ∧ Blk w g (if D 7 then dbl b else zeros)
  l45 : D 4 = true → D 5 = true → v7 ≠ v8

def In4 (a b : List Nat) (h : Nat) (w0 : World) (D : Nat → Bool) (x : Act) (w : World) : Prop :=
  ∃ v7 v8 v12 v13 v14 v15, x = fr4 a b h v7 v8 v12 v13 v14 v15 ∧ St4 a b h w0 D w v7 v8 v12 v13 v14 v15

theorem St4.carry {a b : List Nat} {h : Nat} {w0 : World} {D : Nat → Bool} {w w1 : World} {v7 v8 v12 v13 v14 v15 : Value} (s : St4 a b h w0 D w v7 v8 v12 v13 v14 v15) (hb : Below w.heap.size w w1) : St4 a b h w0 D w1 v7 v8 v12 v13 v14 v15 :=
  { hA := s.hA.below hb s.hA.lt, hB := s.hB.below hb s.hB.lt, hS := s.hS.below hb s.hS.lt, hT := s.hT.below hb s.hT.lt
    bel := s.bel.trans (hb.mono (Nat.le_of_lt s.hA.lt))
    l0 := s.l0, l1 := s.l1, l2 := s.l2, l3 := s.l3
    l4 := fun d => by obtain ⟨g, e, hg, hk⟩ := s.l4 d; exact ⟨g, e, hg, hk.below hb hk.lt⟩
    l5 := fun d => by obtain ⟨g, e, hg, hk⟩ := s.l5 d; exact ⟨g, e, hg, hk.below hb hk.lt⟩
    l45 := s.l45 }
theorem St4.high {a b : List Nat} {h : Nat} {w0 : World} {D : Nat → Bool} {w : World} {v7 v8 v12 v13 v14 v15 : Value} (s : St4 a b h w0 D w v7 v8 v12 v13 v14 v15) : h + 4 ≤ w.heap.size := by have := s.hT.lt; omega
theorem below_alloc (w : World) (o : Obj) : Below w.heap.size w (w.alloc o) := (Below.refl _ _).alloc (Nat.le_refl _) o
theorem St4.did0 {a b : List Nat} {h : Nat} {w0 : World} {D : Nat → Bool} {w : World} {v7 v8 v12 v13 v14 v15 : Value} (s : St4 a b h w0 D w v7 v8 v12 v13 v14 v15) : St4 a b h w0 (fun j => j == 0 || D j) w v7 v8 (.agg (blk a)) v13 v14 v15 :=
  { hA := s.hA, hB := s.hB, hS := s.hS, hT := s.hT, bel := s.bel
    l0 := fun _ => rfl, l1 := by simpa using s.l1, l2 := by simpa using s.l2, l3 := by simpa using s.l3
    l4 := by simpa using s.l4, l5 := by simpa using s.l5, l45 := by simpa using s.l45 }
theorem St4.did1 {a b : List Nat} {h : Nat} {w0 : World} {D : Nat → Bool} {w : World} {v7 v8 v12 v13 v14 v15 : Value} (s : St4 a b h w0 D w v7 v8 v12 v13 v14 v15) : St4 a b h w0 (fun j => j == 1 || D j) w v7 v8 v12 (.agg (blk (dbl a))) v14 v15 :=
  { hA := s.hA, hB := s.hB, hS := s.hS, hT := s.hT, bel := s.bel
    l1 := fun _ => rfl, l0 := by simpa using s.l0, l2 := by simpa using s.l2, l3 := by simpa using s.l3
    l4 := by simpa using s.l4, l5 := by simpa using s.l5, l45 := by simpa using s.l45 }
theorem St4.did2 {a b : List Nat} {h : Nat} {w0 : World} {D : Nat → Bool} {w : World} {v7 v8 v12 v13 v14 v15 : Value} (s : St4 a b h w0 D w v7 v8 v12 v13 v14 v15) : St4 a b h w0 (fun j => j == 2 || D j) w v7 v8 v12 v13 (.agg (blk b)) v15 :=
  { hA := s.hA, hB := s.hB, hS := s.hS, hT := s.hT, bel := s.bel
    l2 := fun _ => rfl, l0 := by simpa using s.l0, l1 := by simpa using s.l1, l3 := by simpa using s.l3
    l4 := by simpa using s.l4, l5 := by simpa using s.l5, l45 := by simpa using s.l45 }
theorem St4.did3 {a b : List Nat} {h : Nat} {w0 : World} {D : Nat → Bool} {w : World} {v7 v8 v12 v13 v14 v15 : Value} (s : St4 a b h w0 D w v7 v8 v12 v13 v14 v15) : St4 a b h w0 (fun j => j == 3 || D j) w v7 v8 v12 v13 v14 (.agg (blk (dbl b))) :=
  { hA := s.hA, hB := s.hB, hS := s.hS, hT := s.hT, bel := s.bel
    l3 := fun _ => rfl, l0 := by simpa using s.l0, l1 := by simpa using s.l1, l2 := by simpa using s.l2
    l4 := by simpa using s.l4, l5 := by simpa using s.l5, l45 := by simpa using s.l45 }
theorem St4.did4 {a b : List Nat} {h : Nat} {w0 : World} {D : Nat → Bool} {w : World} {v7 v8 v12 v13 v14 v15 : Value} (s : St4 a b h w0 D w v7 v8 v12 v13 v14 v15) (h6 : D 6 = false) (h7 : D 7 = false) : St4 a b h w0 (fun j => j == 4 || D j) (w.alloc (.cells (blk zeros) 29)) (.pointer (some ⟨w.heap.size, 0, none⟩)) v8 v12 v13 v14 v15 := by
  have c := s.carry (below_alloc w (.cells (blk zeros) 29))
  exact { hA := c.hA, hB := c.hB, hS := c.hS, hT := c.hT, bel := c.bel
          l0 := by simpa using s.l0, l1 := by simpa using s.l1, l2 := by simpa using s.l2, l3 := by simpa using s.l3
          l4 := fun _ => ⟨w.heap.size, rfl, s.high, by simpa [h6] using Blk.new w zeros rfl⟩
          l5 := by simpa [h7] using c.l5
          l45 := fun _ d5 e => by
            obtain ⟨g, rfl, _, hk⟩ := s.l5 (by simpa using d5)
            have := hk.lt
            injection e with e; injection e with e; injection e with e
            omega }
theorem St4.did5 {a b : List Nat} {h : Nat} {w0 : World} {D : Nat → Bool} {w : World} {v7 v8 v12 v13 v14 v15 : Value} (s : St4 a b h w0 D w v7 v8 v12 v13 v14 v15) (h6 : D 6 = false) (h7 : D 7 = false) : St4 a b h w0 (fun j => j == 5 || D j) (w.alloc (.cells (blk zeros) 29)) v7 (.pointer (some ⟨w.heap.size, 0, none⟩)) v12 v13 v14 v15 := by
  have c := s.carry (below_alloc w (.cells (blk zeros) 29))
  exact { hA := c.hA, hB := c.hB, hS := c.hS, hT := c.hT, bel := c.bel
          l0 := by simpa using s.l0, l1 := by simpa using s.l1, l2 := by simpa using s.l2, l3 := by simpa using s.l3
          l4 := by simpa [h6] using c.l4
          l5 := fun _ => ⟨w.heap.size, rfl, s.high, by simpa [h7] using Blk.new w zeros rfl⟩
          l45 := fun d4 _ e => by
            obtain ⟨g, rfl, _, hk⟩ := s.l4 (by simpa using d4)
            have := hk.lt
            injection e with e; injection e with e; injection e with e
            omega }
theorem St4.did6 {a b : List Nat} {h : Nat} {w0 : World} {D : Nat → Bool} {w : World} {v7 v8 v12 v13 v14 v15 : Value} (s : St4 a b h w0 D w v7 v8 v12 v13 v14 v15) (d4 : D 4 = true) (d5 : D 5 = true) (g : Nat) (e7 : v7 = .pointer (some ⟨g, 0, none⟩)) (ha : a.length = 16) : St4 a b h w0 (fun j => j == 6 || D j) (w.setCells g 0 (bv (dbl a))) v7 v8 v12 v13 v14 v15 := by
  obtain ⟨g', e7', hg, hk⟩ := s.l4 d4
  obtain rfl : g' = g := by rw [e7] at e7'; injection e7' with e; injection e with e; injection e with e; exact e.symm
  obtain ⟨g2, e8, hg2, hk2⟩ := s.l5 d5
  have hne : g2 ≠ g' := fun e => s.l45 d4 d5 (by rw [e7', e8, e])
  exact { hA := s.hA.apart _ _ _ (by omega), hB := s.hB.apart _ _ _ (by omega), hS := s.hS.apart _ _ _ (by omega), hT := s.hT.apart _ _ _ (by omega), bel := Below.setCells (by omega) _ _ _ s.bel
          l0 := by simpa using s.l0, l1 := by simpa using s.l1, l2 := by simpa using s.l2, l3 := by simpa using s.l3
          l4 := fun _ => ⟨g', e7', hg, by simpa using hk.put (dbl a) (length_dbl a ha)⟩
          l5 := fun _ => ⟨g2, e8, hg2, by simpa using hk2.apart g' 0 (bv (dbl a)) hne⟩
          l45 := by simpa using s.l45 }
theorem St4.did7 {a b : List Nat} {h : Nat} {w0 : World} {D : Nat → Bool} {w : World} {v7 v8 v12 v13 v14 v15 : Value} (s : St4 a b h w0 D w v7 v8 v12 v13 v14 v15) (d4 : D 4 = true) (d5 : D 5 = true) (g : Nat) (e8 : v8 = .pointer (some ⟨g, 0, none⟩)) (hb : b.length = 16) : St4 a b h w0 (fun j => j == 7 || D j) (w.setCells g 0 (bv (dbl b))) v7 v8 v12 v13 v14 v15 := by
  obtain ⟨g', e8', hg, hk⟩ := s.l5 d5
  obtain rfl : g' = g := by rw [e8] at e8'; injection e8' with e; injection e with e; injection e with e; exact e.symm
  obtain ⟨g2, e7, hg2, hk2⟩ := s.l4 d4
  have hne : g2 ≠ g' := fun e => s.l45 d4 d5 (by rw [e8', e7, e])
  exact { hA := s.hA.apart _ _ _ (by omega), hB := s.hB.apart _ _ _ (by omega), hS := s.hS.apart _ _ _ (by omega), hT := s.hT.apart _ _ _ (by omega), bel := Below.setCells (by omega) _ _ _ s.bel
          l0 := by simpa using s.l0, l1 := by simpa using s.l1, l2 := by simpa using s.l2, l3 := by simpa using s.l3
          l5 := fun _ => ⟨g', e8', hg, by simpa using hk.put (dbl b) (length_dbl b hb)⟩
          l4 := fun _ => ⟨g2, e7, hg2, by simpa using hk2.apart g' 0 (bv (dbl b)) hne⟩
          l45 := by simpa using s.l45 }
end Go.Proofs.Ytaibegafoncddaa
