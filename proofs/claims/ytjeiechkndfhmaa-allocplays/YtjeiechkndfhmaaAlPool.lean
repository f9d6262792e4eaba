/-
  A pool in memory, and what changes elsewhere leave of it; contracts of the set's small methods and of the pool's none. No conditions.
-/
import Derived.Test.YtjeiechkndfhmaaAlGather
import Derived.Test.YtjeiechkndfhmaaExLess
import Derived.Test.YtjeiechkndfhmaaAppFoot
namespace Go.Proofs.Ytjeiechkndfhmaa
open Go.RowKit Arr Ex

/-- The pool at block g: its free sectors F, its own sectors O. The rows lie in none of the blocks X. -/
structure PlV (w : World) (g : Nat) (X : Nat → Prop) (F O : List (Int × Int)) (AF : Option Addr) (cF : Nat) (AO : Option Addr) (cO : Nat) : Prop where
  c0 : w.cell? ⟨g, 0, none⟩ = some (.slice AF F.length cF)
  c1 : w.cell? ⟨g, 1, none⟩ = some (.slice AO O.length cO)
  f0 : w.frozen? ⟨g, 0, none⟩ = false
  eF : Exts w w.heap.size AF F
  eO : Exts w w.heap.size AO O
  nF : 0 < F.length → ∀ b, Option.map Addr.block AF = some b → b ≠ g ∧ ¬ X b
  nO : 0 < O.length → ∀ b, Option.map Addr.block AO = some b → b ≠ g ∧ ¬ X b
  lF : F.length ≤ cF
  zF : AF = none → cF = 0
  lO : O.length ≤ cO
  zO : AO = none → cO = 0
  gX : ¬ X g
  xl : ∀ k, X k → k < w.heap.size
  ne : O ≠ []
def Pl (w : World) (g : Nat) (X : Nat → Prop) (F O : List (Int × Int)) : Prop := ∃ AF cF AO cO, PlV w g X F O AF cF AO cO
section
variable {w w' : World} {g : Nat} {X X' : Nat → Prop} {F O : List (Int × Int)} {AF AO : Option Addr} {cF cO : Nat}
theorem PlV.gl (h : PlV w g X F O AF cF AO cO) : g < w.heap.size := lt_of_cell h.c0
theorem Exts.block {B : Nat} {A : Option Addr} {l : List (Int × Int)} (h : Exts w B A l) (hp : 0 < l.length) : ∃ b, Option.map Addr.block A = some b ∧ b < B := by
  obtain ⟨b, off, rfl, hb, _⟩ := h.cells hp
  exact ⟨b, rfl, hb⟩
theorem Exts.touch {B : Nat} {A : Option Addr} {l : List (Int × Int)} (h : Exts w B A l) {G : Nat → Prop} (ht : Touch G w w') (hB : B ≤ w.heap.size) (hA : 0 < l.length → ∀ b, Option.map Addr.block A = some b → ¬ G b) : Exts w' B A l :=
  ⟨fun hp => by
    obtain ⟨b, off, e, hb', hc⟩ := h.cells hp
    have hn := hA hp b (by rw [e]; rfl)
    have eb := ht.block b (Nat.lt_of_lt_of_le hb' hB) hn
    exact ⟨b, off, e, hb', fun i hi => ⟨(heap_cell2 eb).trans (hc i hi).1, (heap_cell2 eb).trans (hc i hi).2⟩⟩, h.int⟩
theorem PlV.touch (h : PlV w g X F O AF cF AO cO) {G : Nat → Prop} (ht : Touch G w w') (hG : ∀ k, G k → X k) : PlV w' g X F O AF cF AO cO :=
  have eg := ht.block g h.gl (fun e => h.gX (hG g e))
  ⟨(heap_cell2 eg).trans h.c0, (heap_cell2 eg).trans h.c1, (World.frozen?_of_block (w := w) (a := ⟨g, 0, none⟩) eg).trans h.f0,
    (h.eF.touch ht (Nat.le_refl _) (fun hp b hb e => (h.nF hp b hb).2 (hG b e))).more ht.size, (h.eO.touch ht (Nat.le_refl _) (fun hp b hb e => (h.nO hp b hb).2 (hG b e))).more ht.size,
    h.nF, h.nO, h.lF, h.zF, h.lO, h.zO, h.gX, fun k hk => Nat.lt_of_lt_of_le (h.xl k hk) ht.size, h.ne⟩
theorem Pl.touch (h : Pl w g X F O) {G : Nat → Prop} (ht : Touch G w w') (hG : ∀ k, G k → X k) : Pl w' g X F O := by
  obtain ⟨AF, cF, AO, cO, h⟩ := h
  exact ⟨AF, cF, AO, cO, h.touch ht hG⟩
theorem Pl.below (h : Pl w g X F O) (hb : Below w.heap.size w w') : Pl w' g X F O := h.touch (Touch.of (fun _ => False) hb) (fun _ e => e.elim)
theorem Pl.gl (h : Pl w g X F O) : g < w.heap.size := by
  obtain ⟨AF, cF, AO, cO, h⟩ := h
  exact h.gl
/-- Blocks that were not there when the pool was as it is may be forbidden, too. -/
theorem Pl.forbid (h : Pl w g X F O) (hn : ∀ k, X' k → k < w'.heap.size ∧ (X k ∨ w.heap.size ≤ k)) (hb : Below w.heap.size w w') : Pl w' g X' F O := by
  have h' := h.below hb
  obtain ⟨AF, cF, AO, cO, h⟩ := h
  obtain ⟨AF', cF', AO', cO', h'⟩ := h'
  have e0 := (hb.cell (p := ⟨g, 0, none⟩) h.gl).trans h.c0
  have e1 := (hb.cell (p := ⟨g, 1, none⟩) h.gl).trans h.c1
  have q0 := e0.symm.trans h'.c0
  have q1 := e1.symm.trans h'.c1
  simp only [Option.some.injEq, Value.slice.injEq] at q0 q1
  obtain ⟨rfl, _, rfl⟩ := q0
  obtain ⟨rfl, _, rfl⟩ := q1
  refine ⟨AF, cF, AO, cO, h'.c0, h'.c1, h'.f0, h'.eF, h'.eO, fun hp b hbb => ⟨(h.nF hp b hbb).1, fun e => ?_⟩, fun hp b hbb => ⟨(h.nO hp b hbb).1, fun e => ?_⟩, h.lF, h.zF, h.lO, h.zO, fun e => ?_, fun k hk => (hn k hk).1, h.ne⟩
  · obtain ⟨b', hb', hlt⟩ := h.eF.block hp
    rw [hbb] at hb'
    simp only [Option.some.injEq] at hb'
    rcases (hn b e).2 with h1 | h1
    · exact (h.nF hp b hbb).2 h1
    · omega
  · obtain ⟨b', hb', hlt⟩ := h.eO.block hp
    rw [hbb] at hb'
    simp only [Option.some.injEq] at hb'
    rcases (hn b e).2 with h1 | h1
    · exact (h.nO hp b hbb).2 h1
    · omega
  · rcases (hn g e).2 with h1 | h1
    · exact h.gX h1
    · have := h.gl; omega
/-- Other sectors are free: the cell holds another row, which is new. -/
theorem PlV.put (h : PlV w g X F O AF cF AO cO) {w1 : World} (hb : Below w.heap.size w w1) {v : Value} {F' : List (Int × Int)} (ho : Own2 w1 w.heap.size v F') (hi : ∀ x, x ∈ F' → I64 x) : Pl (w1.setCell ⟨g, 0, none⟩ v) g X F' O ∧ Only g w (w1.setCell ⟨g, 0, none⟩ v) := by
  have hgl := h.gl
  have hs := hb.size
  obtain ⟨A, c, rfl, hl, hz, hlo, hx⟩ := ho.shape
  have eg := hb.block g hgl
  have c0 : w1.cell? ⟨g, 0, none⟩ = some (.slice AF F.length cF) := (heap_cell2 eg).trans h.c0
  have c1 : w1.cell? ⟨g, 1, none⟩ = some (.slice AO O.length cO) := (heap_cell2 eg).trans h.c1
  have f0 : w1.frozen? ⟨g, 0, none⟩ = false := (World.frozen?_of_block (w := w) (a := ⟨g, 0, none⟩) eg).trans h.f0
  have ht : Only g w1 (w1.setCell ⟨g, 0, none⟩ (.slice A F'.length c)) := (Only.refl g w1).setCell _ _
  refine ⟨⟨A, c, AO, cO, World.cell?_setCell_same' _ _ _ (by rw [c0]; rfl), (World.cell?_setCell_other _ _ _ _ (fun e => by have := (Addr.mk.inj e).2.1; simp at this)).trans c1, by rw [World.frozen?_setCell]; exact f0,
    ((hx hi).only ht (Nat.le_refl _) (fun b hbb => by have := hlo b hbb; omega)).more (by simp), ?_, fun _ b hbb => ?_, h.nO, hl, hz, h.lO, h.zO, h.gX, fun k hk => by have := h.xl k hk; simp; omega, h.ne⟩, (Only.of hb).trans ht⟩
  · have e1 : Exts w1 w.heap.size AO O := h.eO.below hb
    exact (e1.touch (G := fun k => k = g) ⟨ht.os, ht.tape, ht.output, ht.size, ht.block⟩ hs (fun hp b hbb => (h.nO hp b hbb).1)).more (by simp; omega)
  · have := hlo b hbb
    exact ⟨by omega, fun e => by have := h.xl b e; omega⟩
end
/-- The set's methods are extent's functions. -/
theorem aless_any {w : World} {e0 e1 : Value} {a b : List (Int × Int)} (h : Calls Try.prog 32 #[e0, e1] w (LessP a b w)) : Calls Try.prog 24 #[e0, e1] w (LessP a b w) := by
  have C := Lib.hid h
  clear h
  go_enter Try.func24, Try.ntmps24
  go_wp2_with fail
  refine C.out.mono ?_
  rintro e w' ⟨v, l, rfl, rest⟩
  have HF := Lib.hid rest
  clear rest
  go_wp2
  go_ret2
  exact ⟨v, l, rfl, HF.out⟩
theorem acut_any {w : World} {e0 e1 : Value} {l : List (Int × Int)} {n : Int} (h : Calls Try.prog 33 #[e0, e1] w (CutP l n w)) : Calls Try.prog 27 #[e0, e1] w (CutP l n w) := by
  have C := Lib.hid h
  clear h
  go_enter Try.func27, Try.ntmps27
  go_wp2_with fail
  refine C.out.mono ?_
  rintro e w' ⟨vh, vt, h, t, rfl, rest⟩
  have HF := Lib.hid rest
  clear rest
  go_wp2
  go_ret3
  exact ⟨vh, vt, h, t, rfl, HF.out⟩
theorem atotal_any {w : World} {e0 : Value} {z : Int} (h : Calls Try.prog 35 #[e0] w (Bel (.int .i64 z) w)) : Calls Try.prog 29 #[e0] w (Bel (.int .i64 z) w) := by
  have C := Lib.hid h
  clear h
  go_enter Try.func29, Try.ntmps29
  go_wp2_with fail
  refine C.out.mono ?_
  rintro e w' ⟨rfl, rest⟩
  have HF := Lib.hid rest
  clear rest
  go_wp2
  go_ret
  exact ⟨rfl, HF.out⟩
/-- append onto a row of the call's own, at the pool's type. -/
theorem append_set {w : World} {ops : Array Oper} {rest : List Oper} {o : Oper} {a : Act} {Q : Exit → Act → World → Prop} (hgd : o.guard = none) (s x : Operand)
    (ho : o.op = .call { callee := .builtin .append, args := #[s, x], argTypes := #[57, 57] })
    (base : Nat) (v : Value) (l : List (Int × Int)) (hs : a.eval s = v) (hown : Own2 w base v l) (ad : Addr) (m c : Nat) (news : List (Int × Int)) (hx : a.eval x = .slice (some ad) m c) (hl : news.length = m) (hb : Exts w w.heap.size (some ad) news)
    (hn : l.length + m ≤ 1000000) (hbase : base ≤ w.heap.size)
    (h : ∀ v' w', Own2 w' base v' (l ++ news) → Below base w w' → wpList Try.prog ops Q rest (a.put o.dst v') w') : wpList Try.prog ops Q (o :: rest) a w := by
  obtain ⟨i0, hi, hz0, hz1, hz2⟩ := info_parts info_ext
  have hlen : (l ++ news).length = l.length + m := by simp [hl]
  have hnews : ∀ j u, (cs2 news)[j]? = some u → w.cell? (ad.add j) = some u := by
    intro j u hu
    have hj : j < news.length * 2 := by have := (List.getElem?_eq_some_iff.1 hu).1; rwa [length_cs2] at this
    obtain ⟨b, off, he, _, hcell⟩ := hb.cells (by omega)
    simp only [Option.some.injEq] at he
    subst he
    rw [add_nat2]
    obtain ⟨c0, c1⟩ := cs2_get news (j / 2) (by omega)
    obtain ⟨d0, d1⟩ := hcell (j / 2) (by omega)
    rcases Nat.mod_two_eq_zero_or_one j with hm | hm
    · have e : j / 2 * 2 = j := by omega
      rw [e] at c0 d0
      rw [d0, ← hu, c0]
    · have e : j / 2 * 2 + 1 = j := by omega
      rw [Nat.add_assoc, e] at d1
      rw [e] at c1
      rw [d1, ← hu, c1]
  obtain ⟨v', w', hr, h2, h3, _, h5⟩ := run_append_own_at (P := Try.prog) w base 57 o.type 34 i0 _ 2 16 Try.underlying57 hi hz0 hz1 hz2 rfl (by decide) v l.length (cs2 l) hown ad m c (cs2 news) (by rw [length_cs2, hl]) hnews
    (cs2_cell news) (by unfold maxLen; omega) (by omega) hbase
  refine wpList_plain hgd fun K hK => ?_
  unfold Oper.wp execOp
  simp only [ho, resolve, invoke, builtin, Sem.run_bind, Sem.run_pure, Result.andThen_ok, List.map_toArray, List.map_cons, List.map_nil, hs, hx, hr]
  exact hK _ _ (h v' w' (by unfold Own2; rw [hlen, cs2_append]; exact h2) ((Below.refl base w).grown h3 hbase (fun k hk => (hown.lt k hk).1)))
set_option maxHeartbeats 1000000 in
theorem aclone_any (w : World) (A : Option Addr) (n c : Nat) (l : List (Int × Int)) (hl : l.length = n) (hc : A = none → c = 0) (hn : n ≤ 1000000) (h : Exts w w.heap.size A l) :
    Calls Try.prog 36 #[.slice A n c] w (Made l w) := by
  rcases A with _ | ad
  · obtain rfl : c = 0 := hc rfl
    have h0 : l = [] := by
      rcases Nat.eq_zero_or_pos l.length with h0 | h0
      · exact List.eq_nil_of_length_eq_zero h0
      · obtain ⟨_, _, e, _⟩ := h.cells h0; cases e
    subst h0
    obtain rfl : n = 0 := hl.symm
    have hnil := fun (wx : World) => Lib.run_eql_slice_nil (P := Try.prog) wx 57 34 none 0 0 0 0 Try.underlying57
    clear h
    go_enter Try.func36, Try.ntmps36
    go_wp2
    go_ret
    exact ⟨_, rfl, own2_nil _ _, Below.refl _ _⟩
  · have hnil := fun (wx : World) => Lib.run_eql_slice_nil (P := Try.prog) wx 57 34 (some ad) n c 0 0 Try.underlying57
    have HX := Lib.hid (h.below (below_alloc w (.cells #[] 34)))
    have HL := Lib.hid hl
    clear h hl hc
    go_enter Try.func36, Try.ntmps36
    go_wp2_with (at_builtin; refine append_set rfl (.tmp 5) (.tmp 6) rfl w.heap.size (.slice (some ⟨w.heap.size, 0, none⟩) 0 0) [] rfl (own2_empty w) ad n c l rfl HL.out (HX.out.more (by simp)) (by simp; omega) (by simp) ?_; intro v' w1 hown hbel)
    have HF := Lib.hid (show Made l w (.returned v') w1 from ⟨v', rfl, hown, (below_alloc w _).trans hbel⟩)
    clear hown hbel
    go_wp2
    go_ret
    exact HF.out
theorem acopied_any {w : World} {e0 : Value} {l : List (Int × Int)} (h : Calls Try.prog 36 #[e0] w (Made l w)) : Calls Try.prog 30 #[e0] w (Made l w) := by
  have C := Lib.hid h
  clear h
  go_enter Try.func30, Try.ntmps30
  go_wp2_with fail
  refine C.out.mono ?_
  rintro e w' ⟨v, rfl, rest⟩
  have HF := Lib.hid rest
  clear rest
  go_wp2
  go_ret
  exact ⟨v, rfl, HF.out⟩
theorem anone_nil (w : World) : Calls Try.prog 26 #[.pointer none] w fun e w' => e = .returned (.bool true) ∧ w' = w := by
  go_enter Try.func26, Try.ntmps26
  go_wp2
  go_ret
  exact ⟨rfl, rfl⟩
theorem anone_any {w : World} {g : Nat} {X : Nat → Prop} {F O : List (Int × Int)} (h : Pl w g X F O) : Calls Try.prog 26 #[.pointer (some ⟨g, 0, none⟩)] w fun e w' => e = .returned (.bool false) ∧ w' = w := by
  obtain ⟨AF, cF, AO, cO, h⟩ := h
  have c1 := h.c1
  have hO : O.length ≠ 0 := fun e => h.ne (List.eq_nil_of_length_eq_zero e)
  have t1 : ((O.length : Int) == 0) = false := by simp; exact h.ne
  clear h
  generalize O.length = n at *
  go_enter Try.func26, Try.ntmps26
  go_wp2
  go_ret
  exact ⟨rfl, rfl⟩
end Go.Proofs.Ytjeiechkndfhmaa
