/-
  What lies in memory while AllocOnce goes on: the pool, the map of what is out, the chains that were taken; and what each step leaves of it. No conditions.
-/
import Derived.Test.YtjeiechkndfhmaaAlMap
import Derived.Test.YtjeiechkndfhmaaAlSeg
import Derived.Test.YtjeiechkndfhmaaAlBook
import Derived.Test.YtjeiechkndfhmaaAlAwake
namespace Go.Proofs.Ytjeiechkndfhmaa
open Go.RowKit Arr Ex

/-- A chain's slice. -/
def hdP (p : Pe) : Value := .slice p.A p.l.length p.c
def ExOk (w : World) (g bm : Nat) (v : Value) (p : Pe) : Prop := Exts w w.heap.size p.A p.l ∧ (0 < p.l.length → ∀ b, Option.map Addr.block p.A = some b → b ≠ g ∧ b ≠ bm ∧ v.ownBlock ≠ some b)
structure OnS (w0 w : World) (g bm : Nat) (size : Int) (F : List (Int × Int)) (os : List Int) (v : Value) (ps : List Pe) : Prop where
  pool : Pl w g (fun k => k = bm ∨ v.ownBlock = some k) F [(7, size)]
  map : MapS w bm os
  row : Seg w w0.heap.size 23 v (ps.map hdP)
  ex : ∀ p, p ∈ ps → ExOk w g bm v p
  below : Below w0.heap.size w0 w
  lb : w0.heap.size ≤ bm
  lg : w0.heap.size ≤ g
section
variable {w0 w w' : World} {g bm : Nat} {size : Int} {F F' : List (Int × Int)} {os os' : List Int} {v v' : Value} {ps : List Pe} {p : Pe}
theorem ExOk.touch (h : ExOk w g bm v p) {G : Nat → Prop} (ht : Touch G w w') (hG : ∀ k, G k → k = g ∨ k = bm ∨ v.ownBlock = some k) : ExOk w' g bm v p :=
  ⟨(h.1.touch ht (Nat.le_refl _) (fun hp b hb e => by
    obtain ⟨q1, q2, q3⟩ := h.2 hp b hb
    rcases hG b e with e | e | e
    · exact q1 e
    · exact q2 e
    · exact q3 e)).more ht.size, h.2⟩
theorem ExOk.below (h : ExOk w g bm v p) (hb : Below w.heap.size w w') : ExOk w' g bm v p := h.touch (Touch.of (fun _ => False) hb) (fun _ e => e.elim)
theorem touch_grown {row : Option Nat} (h : w.grownBy w' row) : Touch (fun k => row = some k) w w' := ⟨h.os, h.tape, h.output, h.size, fun k hk hn => h.block k hk (fun e => hn e.symm)⟩
theorem touch_only (h : Only g w w') : Touch (fun k => k = g) w w' := ⟨h.os, h.tape, h.output, h.size, h.block⟩
theorem below_touch {B : Nat} {G : Nat → Prop} (h : Touch G w w') (hB : B ≤ w.heap.size) (hG : ∀ k, G k → B ≤ k) : Below B w w' := ⟨h.os, h.tape, h.output, h.size, fun k hk => h.block k (by omega) (fun e => by have := hG k e; omega)⟩
theorem OnS.gl (h : OnS w0 w g bm size F os v ps) : g < w.heap.size := h.pool.gl
theorem OnS.ml (h : OnS w0 w g bm size F os v ps) : bm < w.heap.size := h.map.lt
theorem OnS.gm (h : OnS w0 w g bm size F os v ps) : g ≠ bm := fun e => by
  obtain ⟨_, _, _, _, hp⟩ := h.pool
  exact hp.gX (.inl e)
theorem OnS.gv (h : OnS w0 w g bm size F os v ps) : v.ownBlock ≠ some g := fun e => by
  obtain ⟨_, _, _, _, hp⟩ := h.pool
  exact hp.gX (.inr e)
theorem OnS.keep (h : OnS w0 w g bm size F os v ps) (hb : Below w.heap.size w w') : OnS w0 w' g bm size F os v ps :=
  ⟨h.pool.below hb, h.map.below hb, h.row.below hb, fun p hp => (h.ex p hp).below hb, h.below.trans (hb.mono h.below.size), h.lb, h.lg⟩
/-- The map has been written. -/
theorem OnS.write (h : OnS w0 w g bm size F os v ps) (hv : v.ownBlock ≠ some bm) (hg : w.grownBy w' (some bm)) (hm : MapS w' bm os') : OnS w0 w' g bm size F os' v ps := by
  have ht : Touch (fun k => k = bm) w w' := ⟨hg.os, hg.tape, hg.output, hg.size, fun k hk hn => hg.block k hk (fun e => hn (by simpa using e))⟩
  refine ⟨h.pool.touch ht (fun k e => .inl e), hm, h.row.kept fun k hk => ht.block k (h.row.lt k hk).2 (fun e => hv (e ▸ hk)), fun p hp => (h.ex p hp).touch ht (fun _ e => .inr (.inl e)), h.below.trans (below_touch ht h.below.size (fun _ e => e ▸ h.lb)), h.lb, h.lg⟩
/-- The pool's block has been written. -/
theorem OnS.only (h : OnS w0 w g bm size F os v ps) (ho : Only g w w') (hp : Pl w' g (fun k => k = bm ∨ v.ownBlock = some k) F' [(7, size)]) : OnS w0 w' g bm size F' os v ps :=
  ⟨hp, h.map.kept (ho.block bm h.ml (Ne.symm h.gm)), h.row.kept fun k hk => ho.block k (h.row.lt k hk).2 (fun e => h.gv (e ▸ hk)), fun p hp => (h.ex p hp).touch (touch_only ho) (fun _ e => .inl e), h.below.trans (ho.below h.lg h.below.size), h.lb, h.lg⟩
/-- One chain more. -/
theorem OnS.push (h : OnS w0 w g bm size F os v ps) (hx : ExOk w g bm v p) {wa : World} (ha : Below w.heap.size w wa) (hr : Seg w' w0.heap.size 23 v' ((ps ++ [p]).map hdP)) (hg : wa.grownBy w' v.ownBlock) (hl : v'.ownBlock = v.ownBlock ∨ v'.ownBlock = some wa.heap.size)
    (hv : v.ownBlock ≠ some bm) : OnS w0 w' g bm size F os v' (ps ++ [p]) ∧ v'.ownBlock ≠ some bm := by
  have ta : Touch (fun k => v.ownBlock = some k) w w' := by
    have t2 := touch_grown hg
    exact ⟨t2.os.trans ha.os, t2.tape.trans ha.tape, t2.output.trans ha.output, Nat.le_trans ha.size t2.size, fun k hk hn => (t2.block k (Nat.lt_of_lt_of_le hk ha.size) hn).trans (ha.block k hk)⟩
  have hs := ha.size
  have hs2 := hg.size
  have key : ∀ b, b < w.heap.size → v.ownBlock ≠ some b → v'.ownBlock ≠ some b := fun b hb h1 e => by
    rcases hl with e2 | e2
    · rw [e2] at e; exact h1 e
    · rw [e2] at e; simp only [Option.some.injEq] at e; omega
  have exk : ∀ q, ExOk w g bm v q → ExOk w' g bm v' q := fun q hq => by
    have h1 := hq.touch ta (fun k e => .inr (.inr e))
    refine ⟨h1.1, fun hp b hb => ?_⟩
    obtain ⟨q1, q2, q3⟩ := hq.2 hp b hb
    obtain ⟨b', hb', hlt⟩ := hq.1.block hp
    rw [hb] at hb'
    simp only [Option.some.injEq] at hb'
    exact ⟨q1, q2, key b (by omega) q3⟩
  have hlt : ∀ k, v'.ownBlock = some k → k < w'.heap.size := fun k hk => (hr.lt k hk).2
  have hml := h.ml
  refine ⟨⟨?_, h.map.kept (ta.block bm h.ml hv), hr, fun q hq => ?_, h.below.trans (below_touch ta h.below.size (fun k e => (h.row.lt k e).1)), h.lb, h.lg⟩, key bm h.ml hv⟩
  · have h1 : Pl w' g (fun k => k = bm ∨ v.ownBlock = some k) F [(7, size)] := h.pool.touch ta (fun k e => .inr e)
    rcases hl with e2 | e2
    · rw [e2]; exact h1
    · obtain ⟨AF, cF, AO, cO, hp⟩ := h.pool
      have hp' := hp.touch ta (fun k e => Or.inr e)
      have hgl := hp.gl
      refine ⟨AF, cF, AO, cO, hp'.c0, hp'.c1, hp'.f0, hp'.eF, hp'.eO, fun hpos b hb => ⟨(hp.nF hpos b hb).1, fun e => ?_⟩, fun hpos b hb => ⟨(hp.nO hpos b hb).1, fun e => ?_⟩, hp.lF, hp.zF, hp.lO, hp.zO, fun e => ?_, fun k e => ?_, hp.ne⟩
      · rcases e with e | e
        · exact (hp.nF hpos b hb).2 (.inl e)
        · obtain ⟨b', hb', hlt⟩ := hp.eF.block hpos
          rw [hb] at hb'
          rw [e2] at e
          simp only [Option.some.injEq] at hb' e
          omega
      · rcases e with e | e
        · exact (hp.nO hpos b hb).2 (.inl e)
        · obtain ⟨b', hb', hlt⟩ := hp.eO.block hpos
          rw [hb] at hb'
          rw [e2] at e
          simp only [Option.some.injEq] at hb' e
          omega
      · rcases e with e | e
        · exact hp.gX (.inl e)
        · rw [e2] at e
          simp only [Option.some.injEq] at e
          omega
      · rcases e with e | e
        · rw [e]; omega
        · exact hlt k e
  · rcases List.mem_append.1 hq with hq | hq
    · exact exk q (h.ex q hq)
    · rw [List.mem_singleton] at hq; subst hq; exact exk q hx
/-- The first chain is out of the row. -/
theorem OnS.pop (h : OnS w0 w g bm size F os v (p :: ps)) (hb : v'.ownBlock = v.ownBlock) (hr : Seg w w0.heap.size 23 v' (ps.map hdP)) : OnS w0 w g bm size F os v' ps ∧ ExOk w g bm v' p := by
  refine ⟨⟨by rw [hb]; exact h.pool, h.map, hr, fun q hq => ?_, h.below, h.lb, h.lg⟩, ?_⟩
  · unfold ExOk; rw [hb]; exact h.ex q (List.mem_cons_of_mem _ hq)
  · unfold ExOk; rw [hb]; exact h.ex p (by simp)
end
theorem elem_x : Try.prog.elem 55 = 23 := by have := Try.underlying55; simp only [Program.elem, this]
theorem under_x : Try.prog.underlying 55 = some (.slice (Try.prog.elem 55)) := by rw [elem_x]; exact Try.underlying55
theorem info_x : (Try.prog.info? 23).map (fun i => (i.zero, i.size, i.bytes)) = some (some (.slice none 0 0), 1, 24) := by kernel_rfl
theorem size1_x : (Try.prog.info? 23).map (·.size) = some 1 := by kernel_rfl
theorem sizeof_x (W : World) : (sizeOf (Try.prog.elem 55)).run Try.prog W = .ok 1 W := by
  rw [elem_x]
  have h := size1_x
  cases hq : Try.prog.info? 23 with
  | none => simp [hq] at h
  | some i => simp [hq] at h; simp [sizeOf, typeInfo, hq, h]
/-- 'chains[1:]'. -/
theorem run_tail1 (W : World) (b off n cap : Nat) : (Instr.slice 55 (.slice (some ⟨b, off, none⟩) (n + 1) cap) (some (.int .i64 1)) none none).run Try.prog W = .ok (.slice (if cap = 1 then some ⟨b, off, none⟩ else some ⟨b, off + 1, none⟩) n (cap - 1)) W := by
  rw [run_slice_l W 55 _ (n + 1) cap under_x .i64 1 (by omega) (by omega), sizeof_x]
  simp only [Result.andThen_ok, sliced]
  have e1 : (1 : Int).toNat = 1 := rfl
  rw [e1, Option.map_some, add_nat2, Nat.add_sub_cancel, Nat.mul_one]
/-- 'append(chains, x)'. -/
theorem append_chain {w : World} {ops : Array Oper} {rest : List Oper} {o : Oper} {a : Act} {Q : Exit → Act → World → Prop} (hgd : o.guard = none) (s x : Operand)
    (ho : o.op = .call { callee := .builtin .append, args := #[s, x], argTypes := #[55, 55] })
    (base : Nat) (v : Value) (xs : List Value) (hs : a.eval s = v) (hown : Seg w base 23 v xs) (B : Nat) (A : Option Addr) (n c : Nat) (hx : a.eval x = .slice (some ⟨B, 0, none⟩) 1 1) (hu : w.cell? ⟨B, 0, none⟩ = some (.slice A n c))
    (hn : xs.length ≤ 100000) (hbase : base ≤ w.heap.size)
    (h : ∀ v' w', Seg w' base 23 v' (xs ++ [.slice A n c]) → w.grownBy w' v.ownBlock → (v'.ownBlock = v.ownBlock ∨ v'.ownBlock = some w.heap.size) → wpList Try.prog ops Q rest (a.put o.dst v') w') : wpList Try.prog ops Q (o :: rest) a w := by
  obtain ⟨i0, hi, hz0, hz1, hz2⟩ := info_parts info_x
  obtain ⟨v', w', hr, h2, h3, h4⟩ := hown.append (P := Try.prog) 55 o.type Try.underlying55 i0 (.slice none 0 0) 24 hi hz0 hz1 hz2 (by omega) rfl B (.slice A n c) hu rfl hn hbase
  refine wpList_plain hgd fun K hK => ?_
  unfold Oper.wp execOp
  simp only [ho, resolve, invoke, builtin, Sem.run_bind, Sem.run_pure, Result.andThen_ok, List.map_toArray, List.map_cons, List.map_nil, hs, hx, hr]
  exact hK _ _ (h v' w' h2 h3 h4)
end Go.Proofs.Ytjeiechkndfhmaa
