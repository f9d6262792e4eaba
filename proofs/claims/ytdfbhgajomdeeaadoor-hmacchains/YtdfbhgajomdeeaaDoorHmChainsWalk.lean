/-
  The law HmacChains, walked: it answers true. Conditions: the tables stand in their variables.
-/
import Derived.Test.YtdfbhgajomdeeaaDoorHmAwake
import Derived.Test.YtdfbhgajomdeeaaDoorHmChain
import Derived.Test.YtdfbhgajomdeeaaDoorHmRefs
import Derived.Test.YtdfbhgajomdeeaaDoorCutBys
import Derived.Deep.CutRange
namespace Go.Proofs.YtdfbhgajomdeeaaDoor.Arr
open Go.ChangeShapes Go.WideShapes Go.ChangeAt Go.RowKit
variable {P : Program}
/-- An element's place, told, in a head that only reads. -/
theorem stillIndex {ops : Array Oper} {rest : List Oper} {dst : Option Tmp} {t ty : TypeId} {pos : String} {after : Array Edge} {x y : Operand} {a : Act} {w : World} {Q : Act → Prop} (vx vy v : Value) (hx : a.eval x = vx) (hy : a.eval y = vy)
    (hr : (Instr.indexAt t vx vy).run P w = .ok v w) (h : wpStill P ops w Q rest (a.put dst v)) : wpStill P ops w Q ({ dst := dst, op := .indexAddr t x y, type := ty, pos := pos, after := after, guard := none } :: rest) a := by
  refine wpStill_step fun K hK => ?_
  have hw : Region.wanted { dst := dst, op := .indexAddr t x y, type := ty, pos := pos, after := after, guard := none } (yielded ops a.tmps) = true := rfl
  rw [if_pos hw]
  unfold Oper.still execOp
  simp only [hx, hy, hr, Sem.run_bind, Sem.run_pure, Result.andThen_ok]
  rw [Oper.stillUpon_value]
  exact hK _ h
end Go.Proofs.YtdfbhgajomdeeaaDoor.Arr
namespace Go.Proofs.YtdfbhgajomdeeaaDoor
open Go.RowKit Arr Sh Hm

theorem elem_rows : Tryd.prog.elem 34 = 22 := by have := Tryd.underlying34; simp only [Program.elem, this]
theorem under_rows : Tryd.prog.underlying 34 = some (.slice (Tryd.prog.elem 34)) := by rw [elem_rows]; exact Tryd.underlying34
theorem sizeof_row (W : World) : (sizeOf (Tryd.prog.elem 34)).run Tryd.prog W = .ok 1 W := by
  obtain ⟨i0, h1, hz0, hz1, hz2⟩ := info_parts info_bytes
  rw [elem_rows]
  simp [sizeOf, typeInfo, h1, hz1]
theorem run_cutP_h (A : Option Addr) (n c h : Nat) (h2 : h ≤ c) (W : World) :
    (Instr.slice 34 (.slice A n c) none (some (.int .i64 (h : Int))) none).run Tryd.prog W = .ok (.slice (cutA A c 0) h c) W := by
  rw [run_slice_h W 34 _ n c under_rows .i64 _ (by omega) (by omega), sizeof_row]
  simp only [Result.andThen_ok, sliced, Int.toNat_natCast, Nat.mul_one]
  rfl
theorem run_cutP_l (A : Option Addr) (n c l : Nat) (h2 : l ≤ n) (W : World) :
    (Instr.slice 34 (.slice A n c) (some (.int .i64 (l : Int))) none none).run Tryd.prog W = .ok (.slice (cutA A c l) (n - l) (c - l)) W := by
  rw [run_slice_l W 34 _ n c under_rows .i64 _ (by omega) (by omega), sizeof_row]
  simp only [Result.andThen_ok, sliced, Int.toNat_natCast, Nat.mul_one]
  rfl
theorem Parts.take {w : World} {B : Nat} {A : Option Addr} {ps : List Pt} (h : Parts w B A ps) (c k : Nat) (hc : ps.length ≤ c) : Parts w B (cutA A c 0) (ps.take k) := by
  refine ⟨fun hp => ?_, fun i hi => ?_⟩
  · have hl : 0 < ps.length := by simp at hp; omega
    obtain ⟨b, off, rfl, hb, hcell⟩ := h.heads hl
    refine ⟨b, off, ?_, hb, fun i hi => ?_⟩
    · rw [cutA, if_neg (by omega), Option.map_some, add_nat, Nat.add_zero]
    · have hi' : i < ps.length := by simp at hi; omega
      rw [List.getElem_take]; exact hcell i hi'
  · have hi' : i < ps.length := by simp at hi; omega
    rw [List.getElem_take]; exact h.each i hi'
theorem Parts.drop {w : World} {B : Nat} {A : Option Addr} {ps : List Pt} (h : Parts w B A ps) (c k : Nat) (hc : ps.length ≤ c) : Parts w B (cutA A c k) (ps.drop k) := by
  refine ⟨fun hp => ?_, fun i hi => ?_⟩
  · have hl : k < ps.length := by simp at hp; omega
    obtain ⟨b, off, rfl, hb, hcell⟩ := h.heads (by omega)
    refine ⟨b, off + k, ?_, hb, fun i hi => ?_⟩
    · rw [cutA, if_neg (by omega), Option.map_some, add_nat]
    · have hi' : k + i < ps.length := by simp at hi; omega
      rw [List.getElem_drop, Nat.add_assoc]; exact hcell (k + i) hi'
  · have hi' : k + i < ps.length := by simp at hi; omega
    rw [List.getElem_drop]; exact h.each (k + i) hi'

/-- What holds behind the first chain's making. -/
structure Cl (w : World) (gl : Nat) (bg f : List Nat) (w' : World) : Prop where
  beg : Holds w' w.heap.size .u8 bg
  blk : w'.heap[gl]? = some (.cells (na .u8 f) 28 (0, 0))
  bel : Below w.heap.size w w'
section
variable {w w' w'' : World} {gl : Nat} {bg f : List Nat}
theorem Cl.lt (h : Cl w gl bg f w') : gl < w'.heap.size := (Array.getElem?_eq_some_iff.1 h.blk).1
theorem Cl.up (h : Cl w gl bg f w') {B : Nat} (h1 : w.heap.size < B) (h2 : gl < B) (hb : Below B w' w'') : Cl w gl bg f w'' :=
  ⟨h.beg.below hb h1, by rw [hb.block gl h2]; exact h.blk, h.bel.trans (hb.mono (by omega))⟩
theorem Cl.next (h : Cl w gl bg f w') (hb0 : 0 < bg.length) (hb : Below w'.heap.size w' w'') : Cl w gl bg f w'' := h.up (h.beg.lt hb0) h.lt hb
theorem Cl.drew (h : Cl w gl bg f w') : Cl w gl bg f w'.drew := ⟨h.beg.drew, h.blk, below_drew h.bel⟩
theorem Cl.apart (h : Cl w gl bg f w') (g : Nat) (vs : List Value) (h1 : w.heap.size < g) (h2 : gl ≠ g) : Cl w gl bg f (w'.setCells g 0 vs) :=
  ⟨h.beg.apart _ _ _ (by omega), (((Only.refl g w').setCells vs 0).block gl h.lt h2).trans h.blk, below_setCells (by omega) _ _ _ h.bel⟩
theorem Cl.row (h : Cl w gl bg f w') : Holds w' gl .u8 f := Holds.ofBlock h.blk
end
/-- A row of tags that the call owns. -/
theorem holds_of_row {w : World} {base e n : Nat} {v : Value} {l : List Nat} (h : w.ownsRow base e 32 v n (nv .u8 l)) (hv : v ≠ .slice none 0 0) :
    ∃ g c, v = .slice (some ⟨g, 0, none⟩) n c ∧ base ≤ g ∧ g < w.heap.size ∧ Holds w g .u8 l := by
  rcases h.2 with ⟨rfl, _⟩ | ⟨g, cap, cur, rfl, hb, hg, h1, h2, h3, h4⟩
  · exact absurd rfl hv
  · have hl : l.length = n * 32 := by have := h.1; rwa [length_nv] at this
    have key : ∀ i, i < l.length → w.cell? ⟨g, i, none⟩ = some (.int .u8 ((l.getD i 0 : Nat) : Int)) := fun i hi => by
      rw [cell_of_row _ _ _ _ _ _ hg]
      have h5 : (cur.toList.take (n * 32))[i]? = (nv .u8 l)[i]? := by rw [h4]
      rw [nv_get .u8 l i hi, List.getElem?_take, if_pos (by omega)] at h5
      simpa using h5
    refine ⟨g, cap, rfl, hb, (Array.getElem?_eq_some_iff.1 hg).1, fun j v hv => ?_, fun j hj => ⟨?_, ?_⟩⟩
    · have hj : j < l.length := by
        have := (List.getElem?_eq_some_iff.1 hv).1
        rwa [length_nv] at this
      rw [nv_get .u8 l j hj] at hv
      rw [Nat.zero_add, key j hj]
      exact hv
    · rw [Nat.zero_add, key j hj]; rfl
    · rw [Nat.zero_add]; exact frozen_of_row _ _ _ _ _ hg
/-- A block of tags, as a row. -/
theorem row_of_block {w : World} {g n : Nat} {l : List Nat} (h : w.heap[g]? = some (.cells (na .u8 l) 28 (0, 0))) (hl : l.length = 32 * n) (hn : n ≤ 8) : w.ownsRow g 28 32 (.slice (some ⟨g, 0, none⟩) n n) n (nv .u8 l) :=
  ⟨by rw [length_nv, hl, Nat.mul_comm], .inr ⟨g, n, na .u8 l, rfl, Nat.le_refl _, h, Nat.le_refl _, by unfold maxLen; omega, by rw [size_na, hl, Nat.mul_comm], by
    have : (na .u8 l).toList = nv .u8 l := by simp
    rw [this, List.take_of_length_le (by rw [length_nv, hl, Nat.mul_comm]; exact Nat.le_refl _)]⟩⟩
/-- Two blocks of tags, one behind the other: 'append(a, b...)'. -/
theorem append_tags {w : World} {ops : Array Oper} {rest : List Oper} {o : Oper} {a : Act} {Q : Exit → Act → World → Prop} (hgd : o.guard = none) (s x : Operand) (ho : o.op = .call { callee := .builtin .append, args := #[s, x], argTypes := #[35, 35] })
    (g1 g2 k m : Nat) (f1 f2 : List Nat) (hs : a.eval s = .slice (some ⟨g1, 0, none⟩) k k) (hx : a.eval x = .slice (some ⟨g2, 0, none⟩) m m) (h1 : w.heap[g1]? = some (.cells (na .u8 f1) 28 (0, 0))) (h2 : w.heap[g2]? = some (.cells (na .u8 f2) 28 (0, 0))) (hl1 : f1.length = 32 * k) (hl2 : f2.length = 32 * m) (hk : k ≤ 8) (hm : m ≤ 8)
    (h : ∀ gg cg w', g1 ≤ gg → gg < w'.heap.size → Holds w' gg .u8 (f1 ++ f2) → Below g1 w w' → wpList Tryd.prog ops Q rest (a.put o.dst (.slice (some ⟨gg, 0, none⟩) (k + m) cg)) w') : wpList Tryd.prog ops Q (o :: rest) a w := by
  obtain ⟨i0, hi0, hz0, hz1, hz2⟩ := info_parts info_tag
  have hO := row_of_block (n := k) h1 hl1 hk
  have hg1 : g1 ≤ w.heap.size := Nat.le_of_lt (Array.getElem?_eq_some_iff.1 h1).1
  refine wpList_append_own _ hgd s x 35 ho g1 28 i0 (.agg (na .u8 (zs 32))) 32 32 Tryd.underlying35 hi0 hz0 hz1 hz2 rfl (by omega) (.slice (some ⟨g1, 0, none⟩) k k) k (nv .u8 f1) hs hO ⟨g2, 0, none⟩ m m (nv .u8 f2) hx (by rw [length_nv, hl2, Nat.mul_comm]) (fun j u hu => ?_) (nv_one _ _) (by unfold maxLen; omega) (by omega) hg1 (fun v' w' hown hgr hnil => ?_)
  · have hj : j < f2.length := by have := (List.getElem?_eq_some_iff.1 hu).1; rwa [length_nv] at this
    rw [add_nat, Nat.zero_add, (Holds.ofBlock h2).cell j hj, ← hu, nv_get _ _ _ hj]
  · have e : nv .u8 f1 ++ nv .u8 f2 = nv .u8 (f1 ++ f2) := by simp [nv]
    rw [e] at hown
    obtain ⟨gg, cg, rfl, hb, hl, hh⟩ := holds_of_row hown (fun hn => by have := (hnil.1 hn).1; cases this)
    exact h gg cg w' hb hl hh ((Below.refl g1 w).grown hgr hg1 (fun j hj => (hO.lt j hj).1))
/-- What holds when the second chain is made. -/
structure C4 (w : World) (gl g1 gf : Nat) (bg f f1 fr : List Nat) (w' : World) : Prop where
  cl : Cl w gl bg f w'
  blk : w'.heap[g1]? = some (.cells (na .u8 f1) 28 (0, 0))
  frm : Holds w' gf .u8 fr

set_option maxHeartbeats 1000000 in
theorem chains_long (A0 : Option Addr) (n0 c0 : Nat) (bg : List Nat) (A : Option Addr) (N c : Nat) (hl : 200 < n0 ∨ 8 < N) (w : World) (hv : VarsS w) :
    Calls Tryd.prog 4 #[.slice A0 n0 c0, .agg (na .u8 bg), .slice A N c] w (True' w) := by
  have B1 := Lib.hid (below_alloc w (.cells (na .u8 bg) 28))
  have C1 := Lib.hid (awake_any _ (hv.below B1.out (Nat.le_refl _)))
  clear hv
  by_cases h0 : 200 < n0
  · have t1 : decide ((n0 : Int) > 200) = true := by simp; omega
    have t2 : decide (200 < (n0 : Int)) = true := by simp; omega
    clear hl
    go_enter Tryd.func4, Tryd.ntmps4
    go_wp2_with fail
    refine C1.out.mono ?_
    rintro e w2 ⟨rfl, hB2⟩
    have B2 := Lib.hid (B1.out.trans (hB2.mono B1.out.size))
    clear hB2
    go_wp2
    go_ret
    exact ⟨rfl, B2.out⟩
  · have t1 : decide ((n0 : Int) > 200) = false := by simp; omega
    have t2 : decide (200 < (n0 : Int)) = false := by simp; omega
    have t3 : decide ((N : Int) > 8) = true := by simp; omega
    have t4 : decide (8 < (N : Int)) = true := by simp; omega
    clear hl
    go_enter Tryd.func4, Tryd.ntmps4
    go_wp2_with fail
    refine C1.out.mono ?_
    rintro e w2 ⟨rfl, hB2⟩
    have B2 := Lib.hid (B1.out.trans (hB2.mono B1.out.size))
    clear hB2
    go_wp2
    go_ret
    exact ⟨rfl, B2.out⟩

set_option maxHeartbeats 4000000 in
set_option maxRecDepth 10000 in
theorem chains_main (ks : List Nat) (A0 : Option Addr) (n0 c0 : Nat) (h0 : ks.length = n0) (hc0 : n0 ≤ c0) (hA0 : A0 = none → c0 = 0) (hn0 : n0 ≤ 200) (bg : List Nat) (hbl : bg.length = 32) (hbb : ∀ x, x ∈ bg → x < 256) (ps : List Pt) (A : Option Addr) (N c : Nat) (hN : ps.length = N) (hNc : N ≤ c) (hN8 : N ≤ 8) (hAi : ∀ i (hi : i < ps.length), ps[i].A = none → ps[i].c = 0)
    (w : World) (hv : VarsS w) (hk : Bys w w.heap.size A0 ks) (hp : Parts w w.heap.size A ps) :
    Calls Tryd.prog 4 #[.slice A0 n0 c0, .agg (na .u8 bg), .slice A N c] w (True' w) := by
  have b1 := below_alloc w (.cells (na .u8 bg) 28)
  have s1 : (w.alloc (.cells (na .u8 bg) 28)).heap.size = w.heap.size + 1 := World.size_alloc ..
  have H1 := Lib.hid (Holds.new w 28 .u8 bg)
  have C1 := Lib.hid (awake_any _ (hv.below b1 (Nat.le_refl _)))
  have B1 := Lib.hid b1
  have S1 := Lib.hid s1
  have t1 : decide ((n0 : Int) > 200) = false := by simp; omega
  have t2 : decide (200 < (n0 : Int)) = false := by simp; omega
  have t3 : decide ((N : Int) > 8) = false := by simp; omega
  have t4 : decide (8 < (N : Int)) = false := by simp; omega
  have HN := Lib.hid hN
  have HP := Lib.hid hp
  have CCH : Go.RowKit.Hid (∀ (w' : World) (a' : List Nat) (ps' : List Pt) (A' : Option Addr) (N' c' : Nat), a'.length = 32 → (∀ x, x ∈ a' → x < 256) → ps'.length = N' → N' ≤ 8 → (∀ i (h : i < ps'.length), ps'[i].bs.length ≤ 100) → Below w.heap.size w w' → Parts w' w'.heap.size A' ps' → Calls Tryd.prog 12 #[.slice A0 n0 c0, .agg (na .u8 a'), .slice A' N' c'] w' (GivesT (fl ks a' (ps'.map (·.bs)) N') N' w')) := Lib.hid (fun w' a' ps' A' N' c' e1 e2 e3 e4 e5 e6 e7 =>
    Chain_any ks A0 n0 c0 h0 hc0 (by omega) a' e1 e2 ps' A' N' c' e3 (by omega) (fun i h => by have := e5 i h; omega) w' ((hk.below e6).more e6.size) e7 (hv.below e6 (Nat.le_refl _)))
  have CNX : Go.RowKit.Hid (∀ (w' : World) (ah : List Nat) (t : Nat) (ht : t < ps.length), ah.length = 32 → (∀ x, x ∈ ah → x < 256) → ps[t].bs.length ≤ 100 → Below w.heap.size w w' → Calls Tryd.prog 13 #[.slice A0 n0 c0, .agg (na .u8 ah), .slice ps[t].A ps[t].bs.length ps[t].c] w' (GivesB (link ks ah ps[t].bs) w')) := Lib.hid (fun w' ah t ht e1 e2 e3 e4 =>
    next_any ks A0 n0 c0 h0 hn0 hA0 ah e1 e2 ps[t].bs ps[t].A ps[t].bs.length ps[t].c rfl e3 (hAi t ht) w' ((hk.below e4).more e4.size) (((hp.each t ht).2.below e4).more e4.size))
  clear hv hk hp hN h0 hA0 hc0 hAi b1 s1
  go_enter Tryd.func4, Tryd.ntmps4
  go_upto_region 1 with fail
  generalize w.alloc (.cells (na .u8 bg) 28) = w1 at *
  go_wp2_with fail
  refine C1.out.mono ?_
  rintro e w2 ⟨rfl, hB2⟩
  have hs1 := S1.out
  have B2 := Lib.hid (B1.out.trans (hB2.mono B1.out.size))
  have H2 := Lib.hid (H1.out.below hB2 (by omega))
  clear hB2 C1 H1 B1
  go_wp2_with fail
  go_loop [31] (fun i => ∃ t : Nat, t ≤ N ∧ i = .int .i64 (t : Nat) ∧ Go.RowKit.Hid (∀ i (h : i < ps.length), i < t → ps[i].bs.length ≤ 100)) (fun i => N - (intOf i).toNat)
  case atStart => exact ⟨0, by omega, rfl, Lib.hid (fun i _ h => by omega)⟩
  case round =>
    obtain ⟨t, ht, rfl, hsm⟩ := hrel
    by_cases hlt : t < N
    · have tt : decide ((t : Int) < (N : Int)) = true := by simp; omega
      have ti : (t : Int) < (N : Int) := by omega
      have tl : t < ps.length := by rw [HN.out]; exact hlt
      obtain ⟨pb, po, rfl, hpb, hpc⟩ := (HP.out.below B2.out).heads (by omega)
      have cp := hpc t tl
      by_cases hbig : 100 < ps[t].bs.length
      · have u1 : decide ((ps[t].bs.length : Int) > 100) = true := by simp; omega
        have u2 : decide (100 < (ps[t].bs.length : Int)) = true := by simp; omega
        clear hpc CCH CNX
        generalize ps[t].bs.length = pl at *
        generalize ps[t].A = pA at *
        generalize ps[t].c = pc at *
        go_wp2
        go_ret
        exact ⟨rfl, B2.out⟩
      · have u1 : decide ((ps[t].bs.length : Int) > 100) = false := by simp; omega
        have u2 : decide (100 < (ps[t].bs.length : Int)) = false := by simp; omega
        have HS2 : Go.RowKit.Hid (∀ i (h : i < ps.length), i < t + 1 → ps[i].bs.length ≤ 100) := Lib.hid (fun i h hi => by
          rcases Nat.lt_or_ge i t with h1 | h1
          · exact hsm.out i h h1
          · obtain rfl : i = t := by omega
            omega)
        clear hpc CCH CNX hbig
        generalize ps[t].bs.length = pl at *
        generalize ps[t].A = pA at *
        generalize ps[t].c = pc at *
        go_wp2
        go_round
        case rel => exact ⟨t + 1, by omega, by go_num, HS2⟩
        case measure => simp [intOf]; omega
    · obtain rfl : N = t := by omega
      have tt : decide ((N : Int) < (N : Int)) = false := by simp
      have HSM : Go.RowKit.Hid (∀ i (h : i < ps.length), ps[i].bs.length ≤ 100) := Lib.hid (fun i h => hsm.out i h (by rw [← HN.out]; exact h))
      have C2 := Lib.hid (CCH.out w2 bg ps A N c hbl hbb HN.out hN8 HSM.out B2.out ((HP.out.later B2.out)))
      clear hsm
      obtain ⟨its, eits⟩ : ∃ its, its = ps.map (·.bs) := ⟨_, rfl⟩
      rw [← eits] at C2
      have EITS := Lib.hid eits
      have hil : its.length = N := by rw [eits, List.length_map, HN.out]
      have HIL := Lib.hid hil
      have FLN := Lib.hid (length_fl ks bg its N (by omega))
      have FLP := Lib.hid (fun i hi => fl_part ks bg its N i (by omega) hi)
      clear eits hil
      generalize hf : fl ks bg its N = f at *
      have HF := Lib.hid hf
      clear hf
      go_upto_region 11 with fail
      go_wp2_with (first | (with_reducible refine Arr.load o32 w.heap.size bg hbl H2.out rfl ?_) | fail)
      refine C2.out.mono ?_
      rintro e w3 ⟨gl, rfl, hgl, hblk, hB3⟩
      have hb3 := H2.out.below hB3 (H2.out.lt (by omega))
      have hcl3 : Cl w gl bg f w3 := ⟨hb3, hblk, B2.out.trans (hB3.mono B2.out.size)⟩
      have n3 := Holds.new w3 28 .u8 (zs 32)
      have m3 := n3.put bg (by rw [hbl, length_zs])
      have hlt3 := hcl3.lt
      have hwlt3 := hb3.lt (by omega)
      have hcl4 := (hcl3.next (by omega) (below_alloc w3 (.cells (na .u8 (zs 32)) 28))).apart w3.heap.size (nv .u8 bg) hwlt3 (by omega)
      have HB3 := Lib.hid hb3
      have N3 := Lib.hid n3
      have M3 := Lib.hid m3
      have CL4 := Lib.hid hcl4
      have nb : ((N : Int) != (N : Int)) = false := by simp
      clear hb3 n3 m3 hcl3 hcl4 hblk hB3 C2 H2 B2
      go_upto_region 15 with (first | (with_reducible refine Arr.load o32 w.heap.size bg hbl HB3.out rfl ?_) | (with_reducible refine Arr.alloc (t := 28) _ z32 ?_) | (with_reducible refine Arr.store o32 w3.heap.size (zs 32) bg (length_zs _) N3.out hbl rfl rfl ?_) | fail)
      generalize (w3.alloc (.cells (na .u8 (zs 32)) 28)).setCells w3.heap.size 0 (nv .u8 bg) = w4 at *
      clear HB3 N3
      have hgsl : gl ≠ w3.heap.size := by omega
      have hgsw : w.heap.size < w3.heap.size := hwlt3
      clear hlt3 hwlt3
      generalize w3.heap.size = gs at *
      go_wp2_with fail
      go_loopw [51] (fun i wr => ∃ q : Nat, q ≤ N ∧ i = .int .i64 (q : Nat) ∧ Cl w gl bg f wr ∧ Holds wr gs .u8 (hd ks bg its q)) (fun i _ => N - (intOf i).toNat)
      case atStart => exact ⟨0, by omega, rfl, CL4.out, M3.out⟩
      case round =>
        clear CL4 M3
        obtain ⟨q, hq, rfl, hcl, hls⟩ := hrel
        by_cases hqN : q < N
        · as_aux_lemma =>
          have tq : decide ((q : Int) < (N : Int)) = true := by simp; omega
          have tqi : (q : Int) < (N : Int) := by omega
          have ql : q < ps.length := by rw [HN.out]; exact hqN
          obtain ⟨pb, po, rfl, hpb, hpc⟩ := (HP.out.below hcl.bel).heads (by omega)
          have cp := hpc q ql
          have hlh : (hd ks bg its q).length = 32 := length_hd ks bg its q hbl (by have := HIL.out; omega)
          have hln : (hd ks bg its (q + 1)).length = 32 := length_hd ks bg its (q + 1) hbl (by have := HIL.out; omega)
          have CN := CNX.out wr (hd ks bg its q) q ql hlh (hd_lt ks bg its q hbb (by have := HIL.out; omega)) (HSM.out q ql) hcl.bel
          have elk : link ks (hd ks bg its q) ps[q].bs = hd ks bg its (q + 1) := by
            have hqi : q < its.length := by have := HIL.out; omega
            rw [hd_succ ks bg its q hqi]
            congr 1
            simp only [EITS.out, List.getElem_map]
          rw [elk] at CN
          have HCN := Lib.hid CN
          have hfp := FLP.out q hqN
          have HCL := Lib.hid hcl
          have HLS := Lib.hid hls
          have hgs := hls.lt (by omega)
          have HFP := Lib.hid hfp
          have hFLl := FLN.out
          clear hpc CN elk hfp CCH CNX hcl hls
          generalize hnt : hd ks bg its (q + 1) = nt at *
          have HNT := Lib.hid hnt
          clear hnt
          generalize hd ks bg its q = ah at *
          generalize ps[q].bs.length = pl at *
          generalize ps[q].A = pA at *
          generalize ps[q].c = pc at *
          go_upto_region 18 with fail
          go_wp2_with (first | (with_reducible refine Arr.load o32 gs ah hlh HLS.out rfl ?_) | fail)
          refine HCN.out.mono ?_
          rintro e w6 ⟨rfl, hB6⟩
          have hs6 := HLS.out.below hB6 hgs
          have hcl6 := HCL.out.next (by omega) hB6
          have HS6 := Lib.hid hs6
          have hcl7 := hcl6.apart gs (nv .u8 nt) hgsw hgsl
          have hs7 := hs6.put nt (by rw [hln, hlh])
          have CL7 := Lib.hid hcl7
          have S7 := Lib.hid hs7
          clear hs6 hcl6 hcl7 hs7 hB6 HCN HLS HCL
          go_upto_region 19 with (first | (with_reducible refine Arr.store o32 gs ah nt hlh HS6.out hln rfl rfl ?_) | fail)
          generalize w6.setCells gs 0 (nv .u8 nt) = w7 at *
          clear HS6
          refine region_still (by kernel_rfl) (by kernel_rfl) ?_
          intro wd hwd
          have hcl8 : Cl w gl bg f wd := by rw [hwd]; exact CL7.out.drew
          have hs8 : Holds wd gs .u8 nt := by rw [hwd]; exact S7.out.drew
          clear hwd CL7 S7
          have hpt := (Holds.at0 hcl8.row).part (32 * q) 32 (by omega)
          rw [Nat.zero_add, HFP.out] at hpt
          have CL8 := Lib.hid hcl8
          have S8 := Lib.hid hs8
          have HPT := Lib.hid hpt
          have HIA := Lib.hid (tag_at wd gl N N q hqN)
          have heq : ∀ W : World, (Op.equalIn 10000 28 (.agg (na .u8 nt)) (.agg (na .u8 nt))).run Tryd.prog W = .ok true W := fun W => by
            have := eql o32 W nt nt hln hln
            simpa using this
          clear hcl8 hs8 hpt
          still_step
          still_step
          refine Arr.stillIndex (t := 35) (.slice (some ⟨gl, 0, none⟩) N N) (.int .i64 (q : Int)) (.pointer (some ⟨gl, 32 * q, none⟩)) rfl rfl HIA.out ?_
          simp only [Act.put, List.setIfInBounds_toArray, List.set_cons_zero, List.set_cons_succ]
          refine stillLoad o32 gl (32 * q) nt hln HPT.out rfl ?_
          simp only [Act.put, List.setIfInBounds_toArray, List.set_cons_zero, List.set_cons_succ]
          refine stillLoad o32 gs 0 nt hln S8.out rfl ?_
          simp only [Act.put, List.setIfInBounds_toArray, List.set_cons_zero, List.set_cons_succ]
          still_step
          refine wpStill_nil ?_
          go_wp2
          go_roundw
          case rel => exact ⟨q + 1, by omega, by go_num, CL8.out, by rw [HNT.out]; exact S8.out⟩
          case measure => simp [intOf]; omega
        · obtain rfl : N = q := by omega
          have tq : decide ((N : Int) < (N : Int)) = false := by simp
          obtain ⟨k, ek⟩ : ∃ k, k = N / 2 := ⟨_, rfl⟩
          have hkN : k ≤ N := by omega
          have fk : (N : Int) / 2 = (k : Int) := by rw [ek]; simp
          have fk2 : Int.tdiv (N : Int) 2 = (k : Int) := by rw [Int.tdiv_eq_ediv_of_nonneg (by omega)]; exact fk
          have HCL := Lib.hid hcl
          clear hcl hls ek CNX hgsl hgsw
          go_upto_region 23 with fail
          clear fk fk2
          have hrh := run_cutP_h A N c k (by omega)
          refine region_tail 5 (by kernel_rfl) (by kernel_rfl) ?_
          intro wd hwd
          have hcld : Cl w gl bg f wd := by rw [hwd]; exact HCL.out.drew
          clear hwd HCL
          have C5 := CCH.out wd bg (ps.take k) (cutA A c 0) k c hbl hbb (by rw [List.length_take, HN.out]; omega) (by omega) (fun i h => by rw [List.getElem_take]; exact HSM.out i _) hcld.bel ((HP.out.later hcld.bel).take c k (by rw [HN.out]; exact hNc))
          have e5 : fl ks bg ((ps.take k).map (·.bs)) k = fl ks bg its k := by rw [List.map_take, ← EITS.out, fl_take _ _ _ _ _ (Nat.le_refl _)]
          rw [e5] at C5
          have HC5 := Lib.hid C5
          have CLD := Lib.hid hcld
          have hf1 := length_fl ks bg its k (by rw [HIL.out]; exact hkN)
          have HF1 := Lib.hid hf1
          have FP1 := Lib.hid (fun i hi => fl_part ks bg its k i (by rw [HIL.out]; exact hkN) hi)
          have FDR := Lib.hid (fl_drop ks bg its k (N - k))
          have hlk : (hd ks bg its k).length = 32 := length_hd ks bg its k hbl (by rw [HIL.out]; exact hkN)
          have HLB := Lib.hid (hd_lt ks bg its k hbb (by rw [HIL.out]; exact hkN))
          have HK0 : Go.RowKit.Hid (k = 0 → hd ks bg its k = bg) := Lib.hid (fun e => by rw [e]; rfl)
          have C6 : Go.RowKit.Hid (∀ wd : World, Below w.heap.size w wd → Calls Tryd.prog 12 #[.slice A0 n0 c0, .agg (na .u8 (hd ks bg its k)), .slice (cutA A c k) (N - k) (c - k)] wd (GivesT (fl ks (hd ks bg its k) (its.drop k) (N - k)) (N - k) wd)) := Lib.hid (fun wd hB => by
            have := CCH.out wd (hd ks bg its k) (ps.drop k) (cutA A c k) (N - k) (c - k) hlk HLB.out (by rw [List.length_drop, HN.out]) (by omega) (fun i h => by rw [List.getElem_drop]; exact HSM.out _ _) hB ((HP.out.later hB).drop c k (by rw [HN.out]; exact hNc))
            rwa [List.map_drop, ← EITS.out] at this)
          have LF2 : (fl ks (hd ks bg its k) (its.drop k) (N - k)).length = 32 * (N - k) := length_fl _ _ _ _ (by rw [List.length_drop, HIL.out]; exact Nat.le_refl _)
          have hkk : k + (N - k) = N := by omega
          rw [hkk, HF.out] at FDR
          have FLQ : Go.RowKit.Hid (∀ q, q < N → ∃ nt, nt.length = 32 ∧ (f.drop (32 * q)).take 32 = nt) := Lib.hid (fun q hq => ⟨_, by rw [List.length_take, List.length_drop, FLN.out]; omega, rfl⟩)
          have hFP1 : Go.RowKit.Hid (0 < k → ((fl ks bg its k).drop (32 * (k - 1))).take 32 = hd ks bg its k) := Lib.hid (fun h => by
            have := FP1.out (k - 1) (by omega)
            rwa [show k - 1 + 1 = k by omega] at this)
          clear hcld C5 e5 CCH hf1 FP1 HF FLP HIL EITS HSM HP HN
          generalize fl ks (hd ks bg its k) (its.drop k) (N - k) = f2 at *
          generalize hd ks bg its k = fr at *
          generalize fl ks bg its k = f1 at *
          simp only [List.take_succ_cons, List.take_zero, List.drop_succ_cons, List.drop_zero]
          still_step
          refine stillLoad o32 w.heap.size 0 bg hbl CLD.out.beg rfl ?_
          simp only [Act.put, List.setIfInBounds_toArray, List.set_cons_zero, List.set_cons_succ]
          still_step
          still_step
          still_step
          refine wpStill_nil ?_
          go_wp2_with fail
          refine HC5.out.mono ?_
          rintro e w8 ⟨g1, rfl, hg1, hblk1, hB8⟩
          have hcl8 := CLD.out.next (by omega) hB8
          have hgl1 : gl < g1 := Nat.lt_of_lt_of_le CLD.out.lt hg1
          have hwg1 : w.heap.size < g1 := Nat.lt_of_lt_of_le (CLD.out.beg.lt (by omega)) hg1
          have hg1l : g1 < w8.heap.size := (Array.getElem?_eq_some_iff.1 hblk1).1
          have n8 := Holds.new w8 28 .u8 (zs 32)
          have b8 := below_alloc w8 (.cells (na .u8 (zs 32)) 28)
          have h4 : C4 w gl g1 w8.heap.size bg f f1 bg ((w8.alloc (.cells (na .u8 (zs 32)) 28)).setCells w8.heap.size 0 (nv .u8 bg)) :=
            ⟨(hcl8.next (by omega) b8).apart w8.heap.size (nv .u8 bg) (by omega) (by omega), ((((Only.refl w8.heap.size (w8.alloc (.cells (na .u8 (zs 32)) 28))).setCells (nv .u8 bg) 0).block g1 (by rw [World.size_alloc]; omega) (by omega)).trans (b8.block g1 hg1l)).trans hblk1, n8.put bg (by rw [hbl, length_zs])⟩
          have CB8 := Lib.hid hcl8.beg
          have N8 := Lib.hid n8
          have H4 := Lib.hid h4
          clear hcl8 n8 b8 h4 hblk1 hB8 HC5 CLD
          go_upto_region 25 with (first | (with_reducible refine Arr.load o32 w.heap.size bg hbl CB8.out rfl ?_) | (with_reducible refine Arr.alloc (t := 28) _ z32 ?_) | (with_reducible refine Arr.store o32 w8.heap.size (zs 32) bg (length_zs _) N8.out hbl rfl rfl ?_) | fail)
          generalize (w8.alloc (.cells (na .u8 (zs 32)) 28)).setCells w8.heap.size 0 (nv .u8 bg) = w9 at *
          clear CB8 N8 hrh
          have hgf : g1 < w8.heap.size := hg1l
          clear hg1l
          generalize w8.heap.size = gf at *
          simp only [Act.put, List.setIfInBounds_toArray, List.set_cons_zero, List.set_cons_succ]
          go_cut [84] from 77 to 83 (fun v wx => v = .bool (decide (0 < k)) ∧ wx = w9)
          case first =>
            by_cases hk0 : 0 < k
            · have u1 : decide ((k : Int) > 0) = true := by simp; omega
              have u2 : decide (0 < (k : Int)) = true := by simp; omega
              have u3 : ((k : Int) == (k : Int)) = true := by simp
              have u4 : decide (0 < k) = true := decide_eq_true hk0
              have HD := Lib.hid u4
              go_wp2
              go_meet
              exact ⟨by rw [HD.out], rfl⟩
            · have u1 : decide ((k : Int) > 0) = false := by simp; omega
              have u2 : decide (0 < (k : Int)) = false := by simp; omega
              have u4 : decide (0 < k) = false := decide_eq_false hk0
              have HD := Lib.hid u4
              go_wp2
              go_meet
              exact ⟨by rw [HD.out], rfl⟩
          case rest =>
            obtain ⟨rfl, rfl⟩ := hcut
            go_upto_if 84 with fail
            go_cut [] from 84 to 89 (fun wx => C4 w gl g1 gf bg f f1 fr wx)
            case first =>
              by_cases hk0 : 0 < k
              · have u4 : decide (0 < k) = true := decide_eq_true hk0
                obtain ⟨kp, ekp⟩ : ∃ kp, kp = k - 1 := ⟨_, rfl⟩
                have fkp : (k : Int) - 1 = (kp : Int) := by omega
                have hkp : kp < k := by omega
                have wkp : IntKind.i64.wrap (kp : Int) = (kp : Int) := by rw [IntKind.wrap_i64]; omega
                have hp1 := hFP1.out hk0
                rw [← ekp] at hp1
                have hpt := (Holds.at0 (Holds.ofBlock H4.out.blk)).part (32 * kp) 32 (by rw [HF1.out]; omega)
                rw [Nat.zero_add, hp1] at hpt
                have HPT := Lib.hid hpt
                have HIA := Lib.hid (fun W : World => tag_at W g1 k k kp hkp)
                have h5 : C4 w gl g1 gf bg f f1 fr (_) := ⟨H4.out.cl.apart gf (nv .u8 fr) (by omega) (by omega), (((Only.refl gf _).setCells (nv .u8 fr) 0).block g1 (Array.getElem?_eq_some_iff.1 H4.out.blk).1 (by omega)).trans H4.out.blk, H4.out.frm.put fr (by rw [hlk, hbl])⟩
                have H5 := Lib.hid h5
                have EKP := Lib.hid ekp
                clear hpt hp1 h5 ekp hk0
                go_wp2_with (first | (with_reducible refine Arr.list_index (t := 35) (.slice (some ⟨g1, 0, none⟩) k k) (.int .i64 (kp : Int)) (.pointer (some ⟨g1, 32 * kp, none⟩)) rfl rfl (HIA.out _) ?_) | (with_reducible refine Arr.loadAt o32 g1 (32 * kp) fr hlk HPT.out rfl ?_) | (with_reducible refine Arr.store o32 gf bg fr hbl H4.out.frm hlk rfl rfl ?_) | fail)
                go_meet
                exact H5.out
              · have u4 : decide (0 < k) = false := decide_eq_false hk0
                have EF := Lib.hid (HK0.out (by omega))
                go_wp2
                go_meet
                rw [EF.out]
                exact H4.out
            case rest =>
              clear H4 hFP1 HK0
              have H6 := Lib.hid hcut
              clear hcut
              go_upto_region 27 with fail
              have hrl := run_cutP_l A N c k hkN
              refine region_tail 5 (by kernel_rfl) (by kernel_rfl) ?_
              intro wd hwd
              have h6d : C4 w gl g1 gf bg f f1 fr wd := by rw [hwd]; exact ⟨H6.out.cl.drew, H6.out.blk, H6.out.frm.drew⟩
              clear hwd H6
              have HC6 := Lib.hid (C6.out wd h6d.cl.bel)
              have H6D := Lib.hid h6d
              clear h6d C6
              simp only [List.take_succ_cons, List.take_zero, List.drop_succ_cons, List.drop_zero]
              still_step
              refine stillLoad o32 gf 0 fr hlk H6D.out.frm rfl ?_
              simp only [Act.put, List.setIfInBounds_toArray, List.set_cons_zero, List.set_cons_succ]
              still_step
              still_step
              still_step
              refine wpStill_nil ?_
              go_wp2_with fail
              refine HC6.out.mono ?_
              rintro e w10 ⟨g2, rfl, hg2, hblk2, hB10⟩
              have hg1d := (Array.getElem?_eq_some_iff.1 H6D.out.blk).1
              have hcl10 := H6D.out.cl.next (by omega) hB10
              have hblk1 : w10.heap[g1]? = some (.cells (na .u8 f1) 28 (0, 0)) := (hB10.block g1 hg1d).trans H6D.out.blk
              obtain ⟨m, em⟩ : ∃ m, m = N - k := ⟨_, rfl⟩
              rw [← em] at hkk LF2 ⊢
              have fm : (N : Int) - (k : Int) = (m : Int) := by omega
              have nk : ((k : Int) != (k : Int)) = false := by simp
              have nm : ((m : Int) != (m : Int)) = false := by simp
              have wm : IntKind.i64.wrap (m : Int) = (m : Int) := by rw [IntKind.wrap_i64]; omega
              have hm8 : m ≤ 8 := by omega
              have hk8 : k ≤ 8 := by omega
              have HBL1 := Lib.hid hblk1
              have HBL2 := Lib.hid hblk2
              have CL10 := Lib.hid hcl10
              have HKK := Lib.hid hkk
              clear hcl10 hblk1 hblk2 hB10 HC6 H6D em hg1d hkk
              go_upto_region 30 with fail
              clear fm nk nm wm
              have eI : (k : Int) + (m : Int) = (N : Int) := by have := HKK.out; omega
              go_upto_block 4 with (at_builtin; refine append_tags rfl (.tmp 109) (.tmp 110) rfl g1 g2 k m f1 f2 rfl rfl HBL1.out HBL2.out HF1.out LF2 hk8 hm8 ?_; intro gg cg w11 hgg hggl hhr hbel)
              rw [HKK.out]
              clear eI
              rw [FDR.out] at hhr
              have CL11 := Lib.hid (CL10.out.up hwg1 hgl1 hbel)
              have HR := Lib.hid hhr
              have hne : gl ≠ gg := by omega
              clear hbel hhr CL10 HBL1 HBL2 HKK hgg
              go_wp2_with fail
              go_loopw [113] (fun i wr => ∃ q : Nat, q ≤ N ∧ i = .int .i64 (q : Nat) ∧ Cl w gl bg f wr ∧ Holds wr gg .u8 f ∧ gg < wr.heap.size) (fun i _ => N - (intOf i).toNat)
              case atStart => exact ⟨0, by omega, rfl, CL11.out, HR.out, hggl⟩
              case round =>
                clear CL11 HR hggl
                obtain ⟨q, hq, rfl, hcl, hr, hgl2⟩ := hrel
                by_cases hqN : q < N
                · as_aux_lemma =>
                  have tq2 : decide ((q : Int) < (N : Int)) = true := by simp; omega
                  have tqi : (q : Int) < (N : Int) := by omega
                  obtain ⟨nt, hln, hpf⟩ := FLQ.out q hqN
                  have hFl := FLN.out
                  have hp1 := (Holds.at0 hr).part (32 * q) 32 (by omega)
                  rw [Nat.zero_add, hpf] at hp1
                  have HP1 := Lib.hid hp1
                  have HIA := Lib.hid (tag_at wr gg N cg q hqN)
                  have n2 := Holds.new wr 28 .u8 (zs 32)
                  have b2 := below_alloc wr (.cells (na .u8 (zs 32)) 28)
                  have hclb := hcl.beg.lt (by omega)
                  have hcll := hcl.lt
                  have c2 := (hcl.next (by omega) b2).apart wr.heap.size (nv .u8 nt) hclb (by omega)
                  have r2 := (hr.below b2 hgl2).apart wr.heap.size 0 (nv .u8 nt) (by omega)
                  have l2 : gg < ((wr.alloc (.cells (na .u8 (zs 32)) 28)).setCells wr.heap.size 0 (nv .u8 nt)).heap.size := by rw [size_setCells, World.size_alloc]; omega
                  have N2 := Lib.hid n2
                  have M2 := Lib.hid (n2.put nt (by rw [hln, length_zs]))
                  have C2 := Lib.hid c2
                  have R2 := Lib.hid r2
                  have HPF := Lib.hid hpf
                  clear n2 b2 c2 r2 hp1 hcl hr hpf hclb hcll hgl2
                  go_upto_region 33 with (first | (with_reducible refine Arr.list_index (t := 35) (.slice (some ⟨gg, 0, none⟩) N cg) (.int .i64 (q : Int)) (.pointer (some ⟨gg, 32 * q, none⟩)) rfl rfl HIA.out ?_) | (with_reducible refine Arr.loadAt o32 gg (32 * q) nt hln HP1.out rfl ?_) | (with_reducible refine Arr.alloc (t := 28) _ z32 ?_) | (with_reducible refine Arr.store o32 wr.heap.size (zs 32) nt (length_zs _) N2.out hln rfl rfl ?_) | fail)
                  generalize (wr.alloc (.cells (na .u8 (zs 32)) 28)).setCells wr.heap.size 0 (nv .u8 nt) = w12 at *
                  clear HIA HP1 N2
                  generalize wr.heap.size = gt at *
                  refine region_still (by kernel_rfl) (by kernel_rfl) ?_
                  intro wd2 hwd2
                  have c3 : Cl w gl bg f wd2 := by rw [hwd2]; exact C2.out.drew
                  have m3 : Holds wd2 gt .u8 nt := by rw [hwd2]; exact M2.out.drew
                  have r3 : Holds wd2 gg .u8 f := by rw [hwd2]; exact R2.out.drew
                  have l3 : gg < wd2.heap.size := by rw [hwd2]; exact l2
                  clear hwd2 C2 M2 R2 l2
                  have hp2 := (Holds.at0 c3.row).part (32 * q) 32 (by omega)
                  rw [Nat.zero_add, HPF.out] at hp2
                  have HP2 := Lib.hid hp2
                  have HIB := Lib.hid (tag_at wd2 gl N N q hqN)
                  have C3 := Lib.hid c3
                  have M3 := Lib.hid m3
                  have R3 := Lib.hid r3
                  have heq : ∀ W : World, (Op.equalIn 10000 28 (.agg (na .u8 nt)) (.agg (na .u8 nt))).run Tryd.prog W = .ok true W := fun W => by
                    have := eql o32 W nt nt hln hln
                    simpa using this
                  clear c3 m3 r3 hp2
                  refine stillLoad o32 gt 0 nt hln M3.out rfl ?_
                  simp only [Act.put, List.setIfInBounds_toArray, List.set_cons_zero, List.set_cons_succ]
                  still_step
                  still_step
                  refine Arr.stillIndex (t := 35) (.slice (some ⟨gl, 0, none⟩) N N) (.int .i64 (q : Int)) (.pointer (some ⟨gl, 32 * q, none⟩)) rfl rfl HIB.out ?_
                  simp only [Act.put, List.setIfInBounds_toArray, List.set_cons_zero, List.set_cons_succ]
                  refine stillLoad o32 gl (32 * q) nt hln HP2.out rfl ?_
                  simp only [Act.put, List.setIfInBounds_toArray, List.set_cons_zero, List.set_cons_succ]
                  still_step
                  refine wpStill_nil ?_
                  go_wp2
                  go_roundw
                  case rel => exact ⟨q + 1, by omega, by go_num, C3.out, R3.out, l3⟩
                  case measure => simp [intOf]; omega
                · obtain rfl : N = q := by omega
                  have tq2 : decide ((N : Int) < (N : Int)) = false := by simp
                  have HCE := Lib.hid hcl.bel
                  clear hcl hr hgl2
                  go_wp2
                  go_ret
                  exact ⟨rfl, HCE.out⟩
/-- HMACCHAINS: it answers true. -/
theorem chains_walk (ks : List Nat) (A0 : Option Addr) (c0 : Nat) (bg : List Nat) (ps : List Pt) (A : Option Addr) (c : Nat) (w : World) (hv : VarsS w) (hk : Bys w w.heap.size A0 ks) (hc0 : ks.length ≤ c0) (hA0 : A0 = none → c0 = 0) (hbl : bg.length = 32) (hbb : ∀ i, bg.getD i 0 < 256) (hp : Parts w w.heap.size A ps) (hNc : ps.length ≤ c) (hAi : ∀ i (hi : i < ps.length), ps[i].A = none → ps[i].c = 0) :
    Calls Tryd.prog 4 #[.slice A0 ks.length c0, .agg (na .u8 bg), .slice A ps.length c] w fun e w' => e = .returned (.bool true) ∧ Below w.heap.size w w' := by
  by_cases hlong : 200 < ks.length ∨ 8 < ps.length
  · exact chains_long A0 ks.length c0 bg A ps.length c hlong w hv
  · exact chains_main ks A0 ks.length c0 rfl hc0 hA0 (by omega) bg hbl (fun x hx => by
      obtain ⟨i, hi, rfl⟩ := List.getElem_of_mem hx
      have := hbb i
      simpa [hi] using this) ps A ps.length c rfl hNc (by omega) hAi w hv hk hp
end Go.Proofs.YtdfbhgajomdeeaaDoor
