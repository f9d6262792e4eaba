/-
  Contracts of the disk's Fuse and Image, and of slices.Clone at bools. Conditions: the disk lies in memory as its methods leave it; the list lies in memory.
-/
import Derived.Test.YtfjaiolgbcindaaDkNew
import Derived.Test.YtfjaiolgbcindaaDkNil
namespace Go.Proofs.Ytfjaiolgbcindaa
open Go.RowKit Arr Dsk
set_option linter.unusedSimpArgs false

theorem list_app {P : Program} {w : World} {ops : Array Oper} {rest : List Oper} {o : Oper} {a : Act} {Q : Exit → Act → World → Prop} (hgd : o.guard = none) (s x : Operand) (t : TypeId) (ho : o.op = .call { callee := .builtin .append, args := #[s, x], argTypes := #[t, t] }) (v u : Value) (hs : a.eval s = v) (hx : a.eval x = u) {v' : Value} {w' : World}
    (hr : (Builtin.append_ #[t, t] o.type #[v, u]).run P w = .ok v' w') (h : wpList P ops Q rest (a.put o.dst v') w') : wpList P ops Q (o :: rest) a w :=
  wpList_plain hgd fun _ hK => wp_app s x t ho v u hs hx hr (hK _ _ h)
theorem info_bool : (Try.prog.info? 4).map (fun i => (i.zero, i.size, i.bytes)) = some (some (.bool false), 1, 1) := by kernel_rfl
/-- What a copy of bools is. -/
def BoolsP (l : List Bool) (n : Nat) (w : World) (en : Ending) (w' : World) : Prop := ∃ A c, en = .returned (.slice A n c) ∧ n ≤ c ∧ Bls w' (fun b => w.heap.size ≤ b) A l ∧ Below w.heap.size w w'
theorem bools_nil (w : World) (n c : Nat) (l : List Bool) (hl : l.length = n) (ok : Nat → Prop) (h : Bls w ok none l) : Calls Try.prog 31 #[.slice none n c] w (BoolsP l n w) := by
  have hn : n = 0 := by
    rcases Nat.eq_zero_or_pos l.length with h0 | h0
    · omega
    · obtain ⟨_, _, he, _⟩ := h h0; cases he
  subst hn
  have hl0 : l = [] := List.eq_nil_of_length_eq_zero hl
  subst hl0
  have hnil := fun (wx : World) => Lib.run_eql_slice_nil (P := Try.prog) wx 33 4 none 0 c 0 0 Try.underlying33
  clear hl h
  go_enter Try.func31, Try.ntmps31
  go_wp2
  go_ret
  exact ⟨none, 0, rfl, Nat.le_refl _, Bls.nil _ _ _, Below.refl _ _⟩
theorem bools_some (w : World) (ad : Addr) (n c : Nat) (l : List Bool) (hl : l.length = n) (hn : n ≤ 4294967296) (h : ∀ (j : Nat) (u : Value), (l.map Value.bool)[j]? = some u → w.cell? (ad.add j) = some u) : Calls Try.prog 31 #[.slice (some ad) n c] w (BoolsP l n w) := by
  have hnil := fun (wx : World) => Lib.run_eql_slice_nil (P := Try.prog) wx 33 4 (some ad) n c 0 0 Try.underlying33
  obtain ⟨i0, hi, hz0, hz1, hz2⟩ := info_parts info_bool
  have hba := below_alloc w (.cells #[] 4)
  have he : (w.alloc (.cells #[] 4)).ownsRow w.heap.size 4 1 (.slice (some ⟨w.heap.size, 0, none⟩) 0 0) 0 [] := World.ownsRow_made w #[] 0 (Nat.le_refl _) (by unfold maxLen; omega) rfl
  obtain ⟨v', w4, hr, hown, hgr, hnn, hat⟩ := run_append_own_at (P := Try.prog) (w.alloc (.cells #[] 4)) w.heap.size 33 33 4 i0 (.bool false) 1 1 Try.underlying33 hi hz0 hz1 hz2 rfl (by decide) (.slice (some ⟨w.heap.size, 0, none⟩) 0 0) 0 [] he ad n c (l.map Value.bool) (by rw [List.length_map, hl, Nat.mul_one])
    (fun j u hu => (hba.cell (lt_of_cell (h j u hu))).trans (h j u hu))
    (by intro u hu; obtain ⟨x, _, rfl⟩ := List.mem_map.1 hu; rfl) (by unfold maxLen; omega) (by omega) (by simp)
  rw [Nat.zero_add, List.nil_append] at hown
  have HF := Lib.hid (show ∃ A c', v' = .slice A n c' ∧ n ≤ c' ∧ Bls w4 (fun k => w.heap.size ≤ k) A l from by
    rcases hown.2 with ⟨h1, _⟩ | ⟨gb, cap, cur, h1, h2, h3, h4, _⟩
    · have := hnn.1 h1; simp at this
    · refine ⟨_, _, h1, h4, fun hl0 => ⟨gb, 0, rfl, (Array.getElem?_eq_some_iff.1 h3).1, h2, fun i hi' => ?_⟩⟩
      have hc := hown.cells (g := gb) (by rw [h1]; rfl) i (.bool (l.getD i false)) (by rw [List.getElem?_map, List.getElem?_eq_getElem hi']; simp [hi'])
      rw [add_nat] at hc
      exact hc)
  have HB := Lib.hid (((Below.refl w.heap.size w).alloc (Nat.le_refl _) (.cells #[] 4)).grown hgr (by simp) (fun k hk => by simp [Value.ownBlock] at hk; omega))
  have HR := Lib.hid hr
  clear hown hgr hnn hat he hba h hi hz0 hz1 hz2 hr
  obtain ⟨A', c', rfl, hc', hb'⟩ := HF.out
  have HBL := Lib.hid hb'
  clear hb' HF
  go_enter Try.func31, Try.ntmps31
  go_wp2_with (at_builtin; refine list_app rfl (.tmp 5) (.tmp 6) 33 rfl _ _ rfl rfl HR.out ?_)
  go_ret
  exact ⟨A', c', rfl, hc', HBL.out, HB.out⟩
theorem bools_any (w : World) (A : Option Addr) (n c : Nat) (l : List Bool) (hl : l.length = n) (hn : n ≤ 4294967296) (ok : Nat → Prop) (h : Bls w ok A l) : Calls Try.prog 31 #[.slice A n c] w (BoolsP l n w) := by
  cases A with
  | none => exact bools_nil w n c l hl ok h
  | some a =>
    refine bools_some w a n c l hl hn (fun j u hu => ?_)
    rw [List.getElem?_map] at hu
    obtain ⟨x, hx1, rfl⟩ := Option.map_eq_some_iff.1 hu
    obtain ⟨hj, rfl⟩ := List.getElem?_eq_some_iff.1 hx1
    obtain ⟨b, off, e, _, _, hc⟩ := h (by omega)
    simp only [Option.some.injEq] at e
    subst e
    rw [add_nat, hc j hj]
    simp [hj]
section
variable {w : World} {g : Nat} {κ : Nat → Nat} {s : St} {kb kc : Nat} {v : Value} {ws : List Wt} {A5 : Option Addr} {c5 : Nat}
/-- New blocks are of the fuse's list. -/
theorem DskV.rekind (h : DskV w g κ s kb kc v ws A5 c5) {w2 : World} (hb : Below w.heap.size w w2) {κ' : Nat → Nat} (hκ : ∀ k, k < w.heap.size → κ' k = κ k) (hn : ∀ k, w.heap.size ≤ k → κ' k ≠ 0 → κ' k = 5 ∧ k < w2.heap.size) : DskV w2 g κ' s kb kc v ws A5 c5 := by
  have h0 := h.touch (F := fun _ => False) (Touch.of _ hb) (fun _ _ h => h)
  have ht : Touch (fun _ => False) w w2 := Touch.of _ hb
  have hgl := h.gl
  have hkl := h.kl
  refine ⟨(hκ g hgl).trans h.own, fun k hk => ?_, fun k hk => ?_, (hκ kb hkl).trans h.k2, h0.c0, h0.c1, h0.c2, h0.c3, h0.c4, h0.c5, h0.c6, h0.free, h.room, h0.kept, h0.row, fun b hb' => ?_, h.wsE, h.wsT ht (fun _ _ h => h) hκ, h.keepT ht (fun _ _ h => h) hκ, h.wf⟩
  · by_cases hkw : k < w.heap.size
    · rw [hκ k hkw] at hk; exact h.one k hk
    · have := hn k (by omega) (by omega); omega
  · by_cases hkw : k < w.heap.size
    · have := hb.size; omega
    · exact (hn k (by omega) hk).2
  · have h3 := h.vk b hb'
    rw [hκ b (h.lt b (by omega))]; exact h3
theorem fuse_any (h : Dsk w g κ s) (st : Int) (h1 : -9223372036854775808 ≤ st) (h2 : st ≤ 9223372036854775807) (A : Option Addr) (n c : Nat) (l : List Bool) (hl : l.length = n) (hn : n ≤ 4294967296) (ok : Nat → Prop) (hb : Bls w ok A l) :
    Calls Try.prog 17 #[.pointer (some ⟨g, 0, none⟩), .int .i64 st, .slice A n c] w (DskP g κ (s.fuse st l) (.tuple #[]) w) := by
  have C := Lib.hid (none_any h)
  have CB := Lib.hid (bools_any w A n c l hl hn ok hb)
  have HW := Lib.hid (h.wf.fuse st l h1 h2)
  have HL := Lib.hid hl
  obtain ⟨kb, kc, v, ws, A5, c5, h⟩ := h
  have HD := Lib.hid h
  clear h hb hl h1 h2
  go_enter Try.func17, Try.ntmps17
  go_wp2_with fail
  refine C.out.mono ?_
  rintro en w' ⟨rfl, rfl⟩
  go_wp2_with fail
  refine CB.out.mono ?_
  rintro en w2 ⟨A', c', rfl, hc', hb', hB⟩
  obtain ⟨κ', hκ⟩ : ∃ κ' : Nat → Nat, κ' = fun k => if k < w.heap.size then κ k else if k < w2.heap.size then 5 else 0 := ⟨_, rfl⟩
  have hold : ∀ k, k < w.heap.size → κ' k = κ k := fun k hk => by rw [hκ]; simp only [if_pos hk]
  have D2 := HD.out.rekind hB hold (fun k hk hn => by
    rw [hκ] at hn ⊢
    simp only [if_neg (by omega : ¬ k < w.heap.size)] at hn ⊢
    split at hn
    · rename_i h5; rw [if_pos h5]; exact ⟨rfl, h5⟩
    · omega)
  have hb5 : Bls w2 (fun b => κ' b = 5) A' l := fun h0 => by
    obtain ⟨b, off, e, a1, a2, a3⟩ := hb' h0
    exact ⟨b, off, e, a1, by rw [hκ]; simp only [if_neg (by omega : ¬ b < w.heap.size), if_pos a1], a3⟩
  have c4 := D2.c4
  have c5 := D2.c5
  have f4 := D2.free 4
  have f5 := D2.free 5
  have FX := Lib.hid (D2.setFuse st A' c' l hb5 HW.out)
  have FT := Lib.hid (((Touch.of (fun k => κ k ≠ 0) hB).setCell (b := g) (.inl (by rw [HD.out.own]; omega)) 4 (.int .i64 st)).setCell (b := g) (.inl (by rw [HD.out.own]; omega)) 5 (.slice A' l.length c'))
  rw [HL.out] at FX FT
  have HO := Lib.hid hold
  clear hb' hB hb5 D2 hold hκ C CB
  go_wp2
  go_end0
  exact ⟨rfl, κ', ⟨_, _, _, _, _, _, FX.out⟩, FT.out, HO.out⟩
/-- What Image leaves. -/
theorem image_any (h : Dsk w g κ s) : Calls Try.prog 15 #[.pointer (some ⟨g, 0, none⟩)] w fun en w' => ∃ A c, en = .returned (.slice A (s.n * s.sz) c) ∧ Bys w' w'.heap.size A s.kept.flatten ∧ Below w.heap.size w w' := by
  have C := Lib.hid (none_any h)
  obtain ⟨kb, kc, v, ws, A5, c5, h⟩ := h
  have c1 := h.c1
  have hw := h.wf
  have hlen : s.kept.flatten.length = s.n * s.sz := by rw [flat_len s.kept (fun c hc => (hw.kb c hc).1), hw.kl]
  have hmul : s.n * s.sz ≤ 1048576 * 256 := Nat.mul_le_mul hw.n1 hw.z1
  have hby : ∀ x, x ∈ s.kept.flatten → x < 256 := fun x hx => by
    obtain ⟨b, hb, hxb⟩ := List.mem_flatten.1 hx
    exact (hw.kb b hb).2 x hxb
  have CL := Lib.hid (clone_anyN (some ⟨kb, 0, none⟩) (s.n * s.sz) kc s.kept.flatten hlen (by omega) w w.heap.size (Nat.le_refl _) ⟨hby, fun h0 => ⟨kb, 0, rfl, h.kl, fun i hi => by rw [Nat.zero_add]; exact h.kept.cell i hi⟩⟩)
  clear h hw hlen hmul hby
  generalize s.n * s.sz = m at *
  generalize s.kept.flatten = l at *
  go_enter Try.func15, Try.ntmps15
  go_wp2_with fail
  refine C.out.mono ?_
  rintro en w' ⟨rfl, rfl⟩
  go_wp2_with fail
  refine CL.out.mono ?_
  rintro en w2 ⟨A', c', rfl, _, _, hb', _, hB⟩
  have H1 := Lib.hid hb'
  have H2 := Lib.hid hB
  clear hb' hB
  go_wp2
  go_ret
  exact ⟨A', c', rfl, H1.out, H2.out⟩
end
end Go.Proofs.Ytfjaiolgbcindaa
