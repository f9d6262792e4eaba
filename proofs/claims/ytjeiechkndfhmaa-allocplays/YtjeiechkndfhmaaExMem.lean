/-
  Extents in memory: a slice that comes in, a row of the call's own, and what append does. No conditions.
-/
import Derived.Test.YtjeiechkndfhmaaExNum
import Derived.Test.YtjeiechkndfhmaaBytes
import Derived.Test.YtjeiechkndfhmaaOnly
import Derived.Test.YtjeiechkndfhmaaChecked
import Derived.Maps.AppendAt
import Derived.Laws.OwnMore
import Derived.Deep.AppendLies
import Derived.OwnWalk
import Derived.Lib.Hide
namespace Go.Proofs.Ytjeiechkndfhmaa
open Go.RowKit Arr Ex

theorem add_nat2 (g o j : Nat) : (⟨g, o, none⟩ : Addr).add j = ⟨g, o + j, none⟩ := by
  unfold Addr.add; split <;> simp_all
/-- The two cells of each. -/
def cs2 : List (Int × Int) → List Value
  | [] => []
  | x :: l => .int .i64 x.1 :: .int .i64 x.2 :: cs2 l
/-- One, as a value. -/
def ev (x : Int × Int) : Value := .agg #[.int .i64 x.1, .int .i64 x.2]
theorem length_cs2 : ∀ l : List (Int × Int), (cs2 l).length = l.length * 2
  | [] => rfl
  | x :: l => by simp [cs2, length_cs2 l]; omega
theorem cs2_append : ∀ l m : List (Int × Int), cs2 (l ++ m) = cs2 l ++ cs2 m
  | [], m => rfl
  | x :: l, m => by simp [cs2, cs2_append l m]
theorem cs2_get : ∀ (l : List (Int × Int)) (i : Nat) (h : i < l.length), (cs2 l)[i * 2]? = some (.int .i64 l[i].1) ∧ (cs2 l)[i * 2 + 1]? = some (.int .i64 l[i].2)
  | x :: l, 0, _ => ⟨rfl, rfl⟩
  | x :: l, i + 1, h => by
    have := cs2_get l i (by simpa using h)
    rw [show (i + 1) * 2 = i * 2 + 1 + 1 by omega]
    simpa [cs2] using this
theorem cs2_cell : ∀ (l : List (Int × Int)) (u : Value), u ∈ cs2 l → u.oneCell' = true
  | [], u, h => by cases h
  | x :: l, u, h => by
    rcases List.mem_cons.1 h with rfl | h
    · rfl
    · rcases List.mem_cons.1 h with rfl | h
      · rfl
      · exact cs2_cell l u h
/-- The numbers of an extent are numbers of Go. -/
def I64 (x : Int × Int) : Prop := (-9223372036854775808 ≤ x.1 ∧ x.1 ≤ 9223372036854775807) ∧ (-9223372036854775808 ≤ x.2 ∧ x.2 ≤ 9223372036854775807)
theorem i64_may {x : Int × Int} (h : may x = true) : I64 x := by have := (may_iff x).1 h; unfold I64; omega
/-- The slice at A holds them, in blocks below B. -/
structure Exts (w : World) (B : Nat) (A : Option Addr) (l : List (Int × Int)) : Prop where
  cells : 0 < l.length → ∃ b off, A = some ⟨b, off, none⟩ ∧ b < B ∧ ∀ i (h : i < l.length), w.cell? ⟨b, off + i * 2, none⟩ = some (.int .i64 l[i].1) ∧ w.cell? ⟨b, off + i * 2 + 1, none⟩ = some (.int .i64 l[i].2)
  int : ∀ x, x ∈ l → I64 x
section
variable {w w' : World} {B B' : Nat} {A : Option Addr} {l : List (Int × Int)}
theorem Exts.nil (w : World) (B : Nat) (A : Option Addr) : Exts w B A [] := ⟨fun h => by simp at h, by simp⟩
theorem Exts.below (h : Exts w B A l) (hb : Below B w w') : Exts w' B A l :=
  ⟨fun hp => by
    obtain ⟨b, off, e, hB, hc⟩ := h.cells hp
    refine ⟨b, off, e, hB, fun i hi => ?_⟩
    obtain ⟨h1, h2⟩ := hc i hi
    exact ⟨(hb.cell (p := ⟨b, _, none⟩) hB).trans h1, (hb.cell (p := ⟨b, _, none⟩) hB).trans h2⟩, h.int⟩
theorem Exts.more (h : Exts w B A l) (hB : B ≤ B') : Exts w B' A l := ⟨fun hp => by obtain ⟨b, off, e, hb, hc⟩ := h.cells hp; exact ⟨b, off, e, by omega, hc⟩, h.int⟩
theorem Exts.drewN (h : Exts w B A l) (n : Nat) : Exts (w.drewN n) B A l := ⟨h.cells, h.int⟩
theorem Exts.later (h : Exts w w.heap.size A l) (hb : Below w.heap.size w w') : Exts w' w'.heap.size A l := (h.below hb).more hb.size
/-- The rest of a slice. -/
theorem Exts.tail {x : Int × Int} {b off : Nat} (h : Exts w B (some ⟨b, off, none⟩) (x :: l)) : Exts w B (some ⟨b, off + 2, none⟩) l :=
  ⟨fun hp => by
    obtain ⟨b', off', e, hb, hc⟩ := h.cells (by simp)
    simp only [Option.some.injEq, Addr.mk.injEq, and_true] at e
    obtain ⟨rfl, rfl⟩ := e
    refine ⟨b, off + 2, rfl, hb, fun i hi => ?_⟩
    have := hc (i + 1) (by simpa using hi)
    rw [show off + (i + 1) * 2 = off + 2 + i * 2 by omega] at this
    simpa using this, fun y hy => h.int y (by simp [hy])⟩
end

/-- A row of the call's own. -/
def Own2 (w : World) (base : Nat) (v : Value) (l : List (Int × Int)) : Prop := w.ownsRow base 34 2 v l.length (cs2 l)
section
variable {w w' : World} {base : Nat} {v : Value} {l : List (Int × Int)}
theorem own2_nil (w : World) (base : Nat) : Own2 w base (.slice none 0 0) [] := ⟨rfl, .inl ⟨rfl, rfl⟩⟩
/-- It reads as its extents. -/
theorem Own2.shape (h : Own2 w base v l) : ∃ A c, v = .slice A l.length c ∧ l.length ≤ c ∧ (A = none → c = 0) ∧ (∀ b, Option.map Addr.block A = some b → base ≤ b) ∧ ((∀ x, x ∈ l → I64 x) → Exts w w.heap.size A l) := by
  rcases Nat.eq_zero_or_pos l.length with h0 | h0
  · obtain rfl := List.eq_nil_of_length_eq_zero h0
    rcases h.2 with ⟨rfl, _⟩ | ⟨g, cap, cur, rfl, hb, _⟩
    · exact ⟨none, 0, rfl, Nat.le_refl _, fun _ => rfl, by simp, fun _ => Exts.nil _ _ _⟩
    · exact ⟨_, cap, rfl, Nat.zero_le _, (by intro e; cases e), (by simp; exact hb), fun _ => Exts.nil _ _ _⟩
  · have h' := h
    obtain ⟨g, cap, rfl, hb, hlt⟩ := World.ownsRow.form h' h0
    have hcap : l.length ≤ cap := by
      rcases h.2 with ⟨e, _⟩ | ⟨g', cap', cur, e, _, _, hn, _⟩
      · cases e
      · simp only [Value.slice.injEq] at e; omega
    refine ⟨_, cap, rfl, hcap, (by intro e; cases e), (by simp; exact hb), fun hi => ⟨fun _ => ⟨g, 0, rfl, hlt, fun i hil => ?_⟩, hi⟩⟩
    obtain ⟨c0, c1⟩ := cs2_get l i hil
    have h1 := World.ownsRow.cellAt h (i * 2) (by omega)
    have h2 := World.ownsRow.cellAt h (i * 2 + 1) (by omega)
    rw [Nat.zero_add, h1, h2, c0, c1]
    exact ⟨rfl, rfl⟩
theorem Own2.alloc (h : Own2 w base v l) (o : Obj) : Own2 (w.alloc o) base v l := World.ownsRow.alloc h o
theorem Own2.drewN (h : Own2 w base v l) (n : Nat) : Own2 (w.drewN n) base v l := h
/-- Blocks behind it alone have changed. -/
theorem Own2.below (h : Own2 w base v l) (hb : Below w.heap.size w w') : Own2 w' base v l := by
  refine ⟨h.1, ?_⟩
  rcases h.2 with h0 | ⟨g, cap, cur, hv, hB, hg, rest⟩
  · exact .inl h0
  · have hlt : g < w.heap.size := by
      rcases Nat.lt_or_ge g w.heap.size with h1 | h1
      · exact h1
      · rw [Array.getElem?_eq_none h1] at hg; cases hg
    exact .inr ⟨g, cap, cur, hv, hB, (hb.block g hlt).trans hg, rest⟩
/-- The last one made longer. -/
theorem Own2.longer {ini : List (Int × Int)} {y : Int × Int} {g c n : Nat} (h : Own2 w base (.slice (some ⟨g, 0, none⟩) n c) (ini ++ [y])) (hn : n = ini.length + 1) (z : Int) :
    Own2 (w.setCell ⟨g, ini.length * 2 + 1, none⟩ (.int .i64 z)) base (.slice (some ⟨g, 0, none⟩) n c) (ini ++ [(y.1, z)]) ∧ w.grownBy (w.setCell ⟨g, ini.length * 2 + 1, none⟩ (.int .i64 z)) (some g) := by
  have hl : (ini ++ [y]).length = n := by simp [hn]
  have hl' : (ini ++ [(y.1, z)]).length = n := by simp [hn]
  unfold Own2 at h ⊢
  rw [hl] at h
  rw [hl']
  obtain ⟨h1, h2⟩ := World.ownsRow.stored h (ini.length * 2 + 1) (.int .i64 z)
  refine ⟨?_, h2⟩
  have e : (cs2 (ini ++ [y])).set (ini.length * 2 + 1) (.int .i64 z) = cs2 (ini ++ [(y.1, z)]) := by
    rw [cs2_append, cs2_append, List.set_append_right _ _ (by rw [length_cs2]; omega), length_cs2]
    rw [show ini.length * 2 + 1 - ini.length * 2 = 1 by omega]
    rfl
  rwa [e] at h1
end
theorem info_ext : (Try.prog.info? 34).map (fun i => (i.zero, i.size, i.bytes)) = some (some (.agg #[.int .i64 0, .int .i64 0]), 2, 16) := by kernel_rfl

/-- Many extents more. -/
theorem run_append2 {w : World} (base : Nat) (v : Value) (l : List (Int × Int)) (hown : Own2 w base v l) (A : Option Addr) (m c : Nat) (news : List (Int × Int)) (hc : A = none → c = 0) (hl : news.length = m) (hb : Exts w w.heap.size A news)
    (hn : l.length + m ≤ 1000000) (hbase : base ≤ w.heap.size) (ty : TypeId) :
    ∃ v' w', (Builtin.append_ #[23, 23] ty #[v, .slice A m c]).run Try.prog w = .ok v' w' ∧ Own2 w' base v' (l ++ news) ∧ w.grownBy w' v.ownBlock ∧ (v'.ownBlock = v.ownBlock ∨ v'.ownBlock = some w.heap.size) := by
  obtain ⟨i0, hi, hz0, hz1, hz2⟩ := info_parts info_ext
  have hlen : (l ++ news).length = l.length + m := by simp [hl]
  rcases A with _ | ad
  · have hm : news = [] := by
      rcases Nat.eq_zero_or_pos news.length with h0 | h0
      · exact List.eq_nil_of_length_eq_zero h0
      · obtain ⟨_, _, he, _⟩ := hb.cells h0; cases he
    subst hm
    obtain rfl : m = 0 := hl.symm
    obtain rfl : c = 0 := hc rfl
    exact ⟨v, w, run_append_owned_none (P := Try.prog) (w := w) base 23 ty 34 i0 2 Try.underlying23 hi v l.length _ hown, by simpa using hown, ⟨rfl, rfl, rfl, Nat.le_refl _, fun _ _ _ => rfl⟩, .inl rfl⟩
  · have hnews : ∀ j u, (cs2 news)[j]? = some u → w.cell? (ad.add j) = some u := by
      intro j u hu
      have hj : j < news.length * 2 := by have := (List.getElem?_eq_some_iff.1 hu).1; rwa [length_cs2] at this
      obtain ⟨b, off, he, _, hcell⟩ := hb.cells (by omega)
      simp only [Option.some.injEq] at he
      subst he
      rw [add_nat2]
      obtain ⟨c0, c1⟩ := cs2_get news (j / 2) (by omega)
      obtain ⟨d0, d1⟩ := hcell (j / 2) (by omega)
      rcases Nat.mod_two_eq_zero_or_one j with hm | hm
      · have e : j / 2 * 2 = j := by omega
        rw [e] at c0 d0
        rw [d0, ← hu, c0]
      · have e : j / 2 * 2 + 1 = j := by omega
        rw [Nat.add_assoc, e] at d1
        rw [e] at c1
        rw [d1, ← hu, c1]
    obtain ⟨v', w', hr, h2, h3, _, h5⟩ := run_append_own_at (P := Try.prog) w base 23 ty 34 i0 _ 2 16 Try.underlying23 hi hz0 hz1 hz2 rfl (by decide) v l.length (cs2 l) hown ad m c (cs2 news) (by rw [length_cs2, hl]) hnews
      (cs2_cell news) (by unfold maxLen; omega) (by omega) hbase
    exact ⟨v', w', hr, by unfold Own2; rw [hlen, cs2_append]; exact h2, h3, h5⟩
theorem Own2.lt {w : World} {base : Nat} {v : Value} {l : List (Int × Int)} (h : Own2 w base v l) : ∀ k, v.ownBlock = some k → base ≤ k ∧ k < w.heap.size := World.ownsRow.lt h
/-- At the operation, in a list of operations. -/
theorem append_exts {w : World} {ops : Array Oper} {rest : List Oper} {o : Oper} {a : Act} {Q : Exit → Act → World → Prop} (hgd : o.guard = none) (s x : Operand)
    (ho : o.op = .call { callee := .builtin .append, args := #[s, x], argTypes := #[23, 23] })
    (base : Nat) (v : Value) (l : List (Int × Int)) (hs : a.eval s = v) (hown : Own2 w base v l) (A : Option Addr) (m c : Nat) (news : List (Int × Int)) (hx : a.eval x = .slice A m c) (hc : A = none → c = 0) (hl : news.length = m) (hb : Exts w w.heap.size A news)
    (hn : l.length + m ≤ 1000000) (hbase : base ≤ w.heap.size)
    (h : ∀ v' w', Own2 w' base v' (l ++ news) → Below base w w' → (v'.ownBlock = v.ownBlock ∨ v'.ownBlock = some w.heap.size) → w.grownBy w' v.ownBlock → wpList Try.prog ops Q rest (a.put o.dst v') w') : wpList Try.prog ops Q (o :: rest) a w := by
  obtain ⟨v', w', hr, h2, h3, h4⟩ := run_append2 base v l hown A m c news hc hl hb hn hbase o.type
  refine wpList_plain hgd fun K hK => ?_
  unfold Oper.wp execOp
  simp only [ho, resolve, invoke, builtin, Sem.run_bind, Sem.run_pure, Result.andThen_ok, List.map_toArray, List.map_cons, List.map_nil, hs, hx, hr]
  exact hK _ _ (h v' w' h2 ((Below.refl base w).grown h3 hbase (fun k hk => (hown.lt k hk).1)) h4 h3)
/-- A literal's extents, in a block just made. -/
theorem exts_lit (w : World) (x : Int × Int) (hx : I64 x) : Exts (w.alloc (.cells #[.int .i64 x.1, .int .i64 x.2] 34)) (w.heap.size + 1) (some ⟨w.heap.size, 0, none⟩) [x] :=
  ⟨fun _ => ⟨w.heap.size, 0, rfl, by omega, fun i hi => by
    obtain rfl : i = 0 := by simp at hi; omega
    rw [World.cell?_alloc_new, World.cell?_alloc_new]
    exact ⟨rfl, rfl⟩⟩, fun y hy => by rw [List.mem_singleton] at hy; subst hy; exact hx⟩
end Go.Proofs.Ytjeiechkndfhmaa
