/-
  Rows of numbers that a call makes; the reference's Sectors, In, and the first reference's Ints. Conditions: the slices hold what they hold.
-/
import Derived.Test.YtjeiechkndfhmaaExApart
import Derived.Test.YtjeiechkndfhmaaIntsIn
import Derived.Test.YtjeiechkndfhmaaOwn
import Derived.Deep.QuietTactic
import Derived.BigQuiet
namespace Go.Proofs.Ytjeiechkndfhmaa
open Go.RowKit Arr Ex

def iv (l : List Int) : List Value := l.map (Value.int .i64)
theorem length_iv (l : List Int) : (iv l).length = l.length := by simp [iv]
theorem iv_append (l m : List Int) : iv (l ++ m) = iv l ++ iv m := by simp [iv]
theorem iv_get (l : List Int) (i : Nat) (h : i < l.length) : (iv l)[i]? = some (.int .i64 (l.getD i 0)) := by simp [iv, h]
def Z64 (z : Int) : Prop := -9223372036854775808 ≤ z ∧ z ≤ 9223372036854775807
/-- A row of numbers of the call's own. -/
def OwnI (w : World) (base : Nat) (v : Value) (l : List Int) : Prop := w.ownsRow base 3 1 v l.length (iv l)
section
variable {w w' : World} {base : Nat} {v : Value} {l : List Int}
theorem ownI_nil (w : World) (base : Nat) : OwnI w base (.slice none 0 0) [] := ⟨rfl, .inl ⟨rfl, rfl⟩⟩
theorem OwnI.shape (h : OwnI w base v l) : ∃ A c, v = .slice A l.length c ∧ l.length ≤ c ∧ (A = none → c = 0) ∧ ((∀ z, z ∈ l → Z64 z) → IntsI w w.heap.size A l) := by
  rcases Nat.eq_zero_or_pos l.length with h0 | h0
  · obtain rfl := List.eq_nil_of_length_eq_zero h0
    rcases h.2 with ⟨rfl, _⟩ | ⟨g, cap, cur, rfl, hb, _⟩
    · exact ⟨none, 0, rfl, Nat.le_refl _, fun _ => rfl, fun _ => IntsI.nil _ _ _⟩
    · exact ⟨_, cap, rfl, Nat.zero_le _, (by intro e; cases e), fun _ => IntsI.nil _ _ _⟩
  · have h' := h
    obtain ⟨g, cap, rfl, hb, hlt⟩ := World.ownsRow.form h' h0
    have hcap : l.length ≤ cap := by
      rcases h.2 with ⟨e, _⟩ | ⟨g', cap', cur, e, _, _, hn, _⟩
      · cases e
      · simp only [Value.slice.injEq] at e; omega
    refine ⟨_, cap, rfl, hcap, (by intro e; cases e), fun hi => ⟨hi, fun _ => ⟨g, 0, rfl, hlt, fun i hil => ?_⟩⟩⟩
    have h1 := World.ownsRow.cellAt h i (by omega)
    rw [Nat.zero_add, h1, iv_get l i hil]
theorem OwnI.below (h : OwnI w base v l) (hb : Below w.heap.size w w') : OwnI w' base v l := by
  refine ⟨h.1, ?_⟩
  rcases h.2 with h0 | ⟨g, cap, cur, hv, hB, hg, rest⟩
  · exact .inl h0
  · have hlt : g < w.heap.size := by
      rcases Nat.lt_or_ge g w.heap.size with h1 | h1
      · exact h1
      · rw [Array.getElem?_eq_none h1] at hg; cases hg
    exact .inr ⟨g, cap, cur, hv, hB, (hb.block g hlt).trans hg, rest⟩
theorem OwnI.alloc (h : OwnI w base v l) (o : Obj) : OwnI (w.alloc o) base v l := World.ownsRow.alloc h o
theorem OwnI.drewN (h : OwnI w base v l) (n : Nat) : OwnI (w.drewN n) base v l := h
theorem OwnI.low {base' : Nat} (h : OwnI w base v l) (hb : base' ≤ base) : OwnI w base' v l :=
  ⟨h.1, h.2.elim .inl fun ⟨g, cap, cur, e1, e2, rest⟩ => .inr ⟨g, cap, cur, e1, Nat.le_trans hb e2, rest⟩⟩
theorem OwnI.lt (h : OwnI w base v l) : ∀ k, v.ownBlock = some k → base ≤ k ∧ k < w.heap.size := World.ownsRow.lt h
end
theorem IntsI.more {w : World} {B B' : Nat} {A : Option Addr} {zs : List Int} (h : IntsI w B A zs) (hB : B ≤ B') : IntsI w B' A zs :=
  ⟨h.1, fun hl => by obtain ⟨b, off, e, h1, h2⟩ := h.2 hl; exact ⟨b, off, e, by omega, h2⟩⟩
theorem IntsI.later {w w' : World} {A : Option Addr} {zs : List Int} (h : IntsI w w.heap.size A zs) (hb : Below w.heap.size w w') : IntsI w' w'.heap.size A zs := (h.below hb).more hb.size
theorem IntsI.drewN {w : World} {B : Nat} {A : Option Addr} {zs : List Int} (h : IntsI w B A zs) (n : Nat) : IntsI (w.drewN n) B A zs := h
theorem ints_lit (w : World) (z : Int) (hz : Z64 z) : IntsI (w.alloc (.cells #[.int .i64 z] 3)) (w.heap.size + 1) (some ⟨w.heap.size, 0, none⟩) [z] :=
  ⟨fun y hy => by rw [List.mem_singleton] at hy; subst hy; exact hz, fun _ => ⟨w.heap.size, 0, rfl, by omega, fun i hi => by
    obtain rfl : i = 0 := by simp at hi; omega
    rw [World.cell?_alloc_new]; rfl⟩⟩
theorem info_int2 : (Try.prog.info? 3).map (fun i => (i.zero, i.size, i.bytes)) = some (some (.int .i64 0), 1, 8) := by kernel_rfl
theorem iv_cell (l : List Int) : ∀ u ∈ iv l, u.oneCell' = true := by
  intro u hu; simp only [iv, List.mem_map] at hu; obtain ⟨z, _, rfl⟩ := hu; rfl
/-- Numbers appended, at the operation in a list of operations. -/
theorem append_ints {w : World} {ops : Array Oper} {rest : List Oper} {o : Oper} {a : Act} {Q : Exit → Act → World → Prop} (hgd : Region.wanted o (yielded ops a.tmps) = true) (s x : Operand)
    (ho : o.op = .call { callee := .builtin .append, args := #[s, x], argTypes := #[42, 42] })
    (base : Nat) (v : Value) (l : List Int) (hs : a.eval s = v) (hown : OwnI w base v l) (A : Option Addr) (m c : Nat) (news : List Int) (hx : a.eval x = .slice A m c) (hc : A = none → c = 0) (hl : news.length = m) (hb : IntsI w w.heap.size A news)
    (hn : l.length + m ≤ 1000000) (hbase : base ≤ w.heap.size)
    (h : ∀ v' w', OwnI w' base v' (l ++ news) → Below base w w' → wpList Try.prog ops Q rest (a.put o.dst v') w') : wpList Try.prog ops Q (o :: rest) a w := by
  obtain ⟨i0, hi, hz0, hz1, hz2⟩ := info_parts info_int2
  have hlen : (l ++ news).length = l.length + m := by simp [hl]
  have goal : ∃ v' w', (Builtin.append_ #[42, 42] o.type #[v, .slice A m c]).run Try.prog w = .ok v' w' ∧ OwnI w' base v' (l ++ news) ∧ Below base w w' := by
    rcases A with _ | ad
    · have hm : news = [] := by
        rcases Nat.eq_zero_or_pos news.length with h0 | h0
        · exact List.eq_nil_of_length_eq_zero h0
        · obtain ⟨_, _, he, _⟩ := hb.2 h0; cases he
      subst hm
      obtain rfl : m = 0 := hl.symm
      obtain rfl : c = 0 := hc rfl
      exact ⟨v, w, run_append_owned_none (P := Try.prog) (w := w) base 42 o.type 3 i0 1 Try.underlying42 hi v l.length _ hown, by simpa using hown, Below.refl _ _⟩
    · have hnews : ∀ j u, (iv news)[j]? = some u → w.cell? (ad.add j) = some u := by
        intro j u hu
        have hj : j < news.length := by have := (List.getElem?_eq_some_iff.1 hu).1; rwa [length_iv] at this
        obtain ⟨b, off, he, _, hcell⟩ := hb.2 (by omega)
        simp only [Option.some.injEq] at he
        subst he
        rw [add_nat2, hcell j hj, ← hu, iv_get news j hj]
      obtain ⟨v', w', hr, h2, h3, _, _⟩ := run_append_own_at (P := Try.prog) w base 42 o.type 3 i0 _ 1 8 Try.underlying42 hi hz0 hz1 hz2 rfl (by decide) v l.length (iv l) hown ad m c (iv news) (by rw [length_iv, hl, Nat.mul_one]) hnews
        (iv_cell news) (by unfold maxLen; omega) (by omega) hbase
      exact ⟨v', w', hr, by unfold OwnI; rw [hlen, iv_append]; exact h2, (Below.refl base w).grown h3 hbase (fun k hk => (hown.lt k hk).1)⟩
  obtain ⟨v', w', hr, h2, h4⟩ := goal
  refine wpList_step fun K hK => ?_
  rw [if_pos hgd]
  unfold Oper.wp execOp
  simp only [ho, resolve, invoke, builtin, Sem.run_bind, Sem.run_pure, Result.andThen_ok, List.map_toArray, List.map_cons, List.map_nil, hs, hx, hr]
  exact hK _ _ (h v' w' h2 h4)
/-- Are two lists of numbers one? -/
theorem ints_any (w : World) (A0 A1 : Option Addr) (n0 c0 n1 c1 B0 B1 : Nat) (l m : List Int) (h0 : l.length = n0) (h1 : m.length = n1) (hn : n0 ≤ 1000000) (hb0 : IntsI w B0 A0 l) (hb1 : IntsI w B1 A1 m) :
    Calls Try.prog 14 #[.slice A0 n0 c0, .slice A1 n1 c1] w fun e w' => e = .returned (.bool (decide (l = m))) ∧ ∃ q, w' = w.drewN q := by
  have mixed : Try.prog.follows .mixedOrders = true := by kernel_rfl
  have HE0 := Lib.hid hb0
  have HE1 := Lib.hid hb1
  have HL := Lib.hid (And.intro h0 h1)
  clear hb0 hb1
  go_enter Try.func14, Try.ntmps14
  by_cases hne : n0 = n1
  · subst hne
    have t0 : decide ((n0 : Int) = (n0 : Int)) = true := by simp
    clear h0 h1
    go_wp2
    go_loopw [5] (fun i wr => ∃ (k q : Nat), k ≤ n0 ∧ i = .int .i64 k ∧ l.take k = m.take k ∧ wr = w.drewN q) (fun i _ => n0 - (intOf i).toNat)
    case atStart => exact ⟨0, 0, Nat.zero_le _, rfl, rfl, rfl⟩
    case round =>
      obtain ⟨k, q, hk, rfl, hall, rfl⟩ := hrel
      have HALL := Lib.hid hall
      clear hall
      by_cases hlt : k < n0
      · have hk0 : k < l.length := by rw [HL.out.1]; exact hlt
        have hk1 : k < m.length := by rw [HL.out.2]; exact hlt
        obtain ⟨b0, o0, rfl, _, e0⟩ := HE0.out.2 (by omega)
        obtain ⟨b1, o1, rfl, _, e1⟩ := HE1.out.2 (by omega)
        have q0 := e0 k hk0
        have q1 := e1 k hk1
        have t1 : decide ((k : Int) < (n0 : Int)) = true := by simp; omega
        have wk : IntKind.i64.wrap ((k : Int) + 1) = (k : Int) + 1 := by rw [IntKind.wrap_i64]; omega
        have hx : l[k]? = some (l.getD k 0) := by rw [List.getElem?_eq_getElem hk0]; simp [hk0]
        have hy : m[k]? = some (m.getD k 0) := by rw [List.getElem?_eq_getElem hk1]; simp [hk1]
        have HX := Lib.hid (And.intro hx hy)
        have d0 : (w.drewN q).cell? ⟨b0, o0 + k, none⟩ = some (.int .i64 (l.getD k 0)) := q0
        have d1 : (w.drewN q).cell? ⟨b1, o1 + k, none⟩ = some (.int .i64 (m.getD k 0)) := q1
        have HQ := Lib.hid (show ∀ n, (w.drewN q).drewN n = w.drewN (q + n) from fun n => World.drewN_drewN w q n)
        clear q0 q1 e0 e1 hx hy
        generalize l.getD k 0 = x at *
        generalize m.getD k 0 = y at *
        generalize w.drewN q = wq at *
        by_cases c0 : x = y
        · subst c0
          have HR := Lib.hid (show l.take (k + 1) = m.take (k + 1) by rw [List.take_add_one, List.take_add_one, HX.out.1, HX.out.2, HALL.out])
          go_wp2_with fail
          go_quiet (fail)
          go_wp2
          go_roundw
          case rel => exact ⟨k + 1, q + nq, by omega, by go_num, HR.out, HQ.out nq⟩
          case measure => simp [intOf]; omega
        · have HR := Lib.hid (show decide (l = m) = false by
            simp only [decide_eq_false_iff_not]
            intro e
            have h1 := HX.out.1
            rw [e, HX.out.2] at h1
            exact c0 (Option.some.inj h1).symm)
          have t3 : decide (x = y) = false := by simpa using c0
          go_wp2_with fail
          go_quiet (fail)
          go_wp2
          go_ret
          exact ⟨by rw [HR.out]; rfl, _, HQ.out nq⟩
      · obtain rfl : k = n0 := by omega
        have t1 : decide ((k : Int) < (k : Int)) = false := by simp
        have HR := Lib.hid (show decide (l = m) = true by
          have := HALL.out
          rw [List.take_of_length_le (by rw [HL.out.1]; exact Nat.le_refl _), List.take_of_length_le (by rw [HL.out.2]; exact Nat.le_refl _)] at this
          simpa using this)
        go_wp2
        go_ret
        exact ⟨by rw [HR.out]; rfl, _, rfl⟩
  · have t0 : decide ((n0 : Int) = (n1 : Int)) = false := by simp; omega
    have t1 : decide (¬ (n0 : Int) = (n1 : Int)) = true := by simp; omega
    have HR := Lib.hid (show decide (l = m) = false by simp only [decide_eq_false_iff_not]; rintro rfl; exact hne (h0.symm.trans h1))
    go_wp2
    go_ret
    exact ⟨by rw [HR.out]; rfl, 0, rfl⟩
end Go.Proofs.Ytjeiechkndfhmaa
