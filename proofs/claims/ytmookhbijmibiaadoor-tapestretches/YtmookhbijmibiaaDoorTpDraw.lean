/-
  Contracts of tape.onward, each and draws. Conditions: the tape lies in memory as New leaves it.
-/
import Derived.Test.YtmookhbijmibiaaDoorTpFns
import Derived.Test.YtmookhbijmibiaaDoorCut
import Derived.Test.YtmookhbijmibiaaDoorAesStill
import Derived.Deep.OwnRows
namespace Go.Proofs.YtmookhbijmibiaaDoor
open Go.RowKit Arr

/-- v is a slice of the bytes bs, in a block from lo on. -/
def Lies (w : World) (lo : Nat) (v : Value) (bs : List Nat) : Prop :=
  ∃ A c, v = .slice A bs.length c ∧ bs.length ≤ c ∧ (A = none → c = 0) ∧ Bys w w.heap.size A bs ∧ ∀ b, Option.map Addr.block A = some b → lo ≤ b
section
variable {w w' : World} {g lo p : Nat} {v : Value} {bs : List Nat}
theorem Lies.only (h : Lies w lo v bs) (ho : Only g w w') (hg : g < lo) : Lies w' lo v bs := by
  obtain ⟨A, c, h1, h2, h3, h4, h5⟩ := h
  refine ⟨A, c, h1, h2, h3, ⟨h4.1, fun hl => ?_⟩, h5⟩
  obtain ⟨b, off, rfl, hb, hc⟩ := h4.2 hl
  have hlo := h5 b rfl
  exact ⟨b, off, rfl, Nat.lt_of_lt_of_le hb ho.size, fun i hi => (ho.cell (p := ⟨b, off + i, none⟩) hb (show b ≠ g by omega)).trans (hc i hi)⟩
theorem Lies.from (h : Lies w lo v bs) {k : Nat} (hk : k ≤ lo) : Lies w k v bs := by
  obtain ⟨A, c, h1, h2, h3, h4, h5⟩ := h
  exact ⟨A, c, h1, h2, h3, h4, fun b hb => Nat.le_trans hk (h5 b hb)⟩
theorem Lies.one (h : Lies w lo v bs) : v.oneCell' = true := by obtain ⟨A, c, rfl, _⟩ := h; rfl
/-- The place goes on. -/
theorem Tp.put (h : Tp w g bs p) (q : Nat) (hq : q ≤ bs.length) : Tp (w.setCell ⟨g, 2, none⟩ (.int .i64 (q : Int))) g bs q := by
  obtain ⟨A, c, h1, h2, h3, h4⟩ := h.whole
  exact ⟨(World.cell?_setCell_other _ _ _ _ (by simp)).trans h.made, ⟨A, c, (World.cell?_setCell_other _ _ _ _ (by simp)).trans h1, h2, h3, h4.keep fun q hq => World.cell?_setCell_other _ _ _ _ (fun x => by subst x; exact Nat.lt_irrefl _ hq)⟩, World.cell?_setCell_same _ _ _ h.place, (World.frozen?_setCell ..).trans h.free, hq, h.small⟩
theorem Tp.drew (h : Tp w g bs p) : Tp w.drew g bs p := h.drewN 1
end

/-- What a call leaves that takes n bytes of a tape: they, and the place behind them. -/
def Taken (g : Nat) (bs : List Nat) (p n : Nat) (w : World) (e : Ending) (w' : World) : Prop :=
  ∃ v, e = .returned v ∧ Lies w' w.heap.size v ((bs.drop p).take n) ∧ Tp w' g bs (p + n) ∧ Only g w w'

set_option maxRecDepth 10000 in
set_option maxHeartbeats 1000000 in
theorem onward_any {w : World} {g p : Nat} {bs : List Nat} (h : Tp w g bs p) (n : Nat) (hn : p + n ≤ bs.length) :
    Calls Tryd.prog 29 #[.pointer (some ⟨g, 0, none⟩), .int .i64 (n : Int)] w (Taken g bs p n w) := by
  have hsm := h.small
  obtain ⟨q, hq⟩ : ∃ q, q = p + n := ⟨_, rfl⟩
  have wq : IntKind.i64.wrap ((p : Int) + (n : Int)) = (q : Int) := by rw [IntKind.wrap_i64]; omega
  have h2 := h.place
  have h3 := h.free
  have T1 := Lib.hid (h.put q (by omega))
  have O1 := Lib.hid ((Only.refl g w).setCell 2 (.int .i64 (q : Int)))
  have HQ := Lib.hid hq
  have HN := Lib.hid hn
  clear h hq hn
  go_enter Tryd.func29, Tryd.ntmps29
  go_wp2_with fail
  generalize w.setCell ⟨g, 2, none⟩ (.int .i64 (q : Int)) = w1 at *
  clear h2 h3 wq
  refine region_tail 10 (by kernel_rfl) (by kernel_rfl) ?_
  intro wd hwd
  have Td : Tp wd g bs q := by rw [hwd]; exact T1.out.drew
  have Od : Only g w wd := by rw [hwd]; exact O1.out.drew
  obtain ⟨A, c, c1, hc, hA, hb⟩ := Td.whole
  have c2 := Td.place
  have hQ := HQ.out
  have hN := HN.out
  have RL := run_cut_lh A bs.length c p q (by omega) (by omega)
  have HC := Lib.hid (clone_anyN (cutA A c p) (q - p) (c - p) ((bs.drop p).take (q - p)) (by simp; omega) (by omega) wd wd.heap.size (Nat.le_refl _) (bys_cut (hb.more (Nat.le_of_lt Td.lt)) c hc p q (by omega) (by omega)))
  have TD := Lib.hid Td
  have OD := Lib.hid Od
  clear Td Od T1 O1 hb hA hc hQ hN hwd
  generalize bs.length = N at *
  generalize cutA A c p = A' at *
  simp only [List.take_succ_cons, List.take_zero, List.drop_succ_cons, List.drop_zero]
  repeat still_step
  refine wpStill_nil ?_
  go_wp2_with fail
  refine HC.out.mono ?_
  rintro e w2 ⟨A2, k2, rfl, hk2, hA2, hb2, hN2, hB2⟩
  have hs := OD.out.size
  have hQ := HQ.out
  have hN := HN.out
  have ee : q - p = n := by omega
  rw [ee] at hk2 hb2
  have hlen : ((bs.drop p).take n).length = n := by simp; have := TD.out.le; omega
  have HT := Lib.hid (show Taken g bs p n w (.returned (.slice A2 (q - p) k2)) w2 from
    ⟨_, rfl, ⟨A2, k2, by rw [hlen, ee], by rw [hlen]; exact hk2, hA2, hb2, fun b hb => Nat.le_trans hs (hN2 b hb)⟩, by rw [← hQ]; exact TD.out.below hB2, OD.out.trans (Only.of hB2)⟩)
  clear hs hQ hN ee hlen hk2 hb2 hN2 hB2 hA2 c1 c2 RL HC
  go_wp2
  go_ret
  exact HT.out

/-- The i-th stretch of s bytes. -/
def piece (bs : List Nat) (p s i : Nat) : List Nat := (bs.drop (p + i * s)).take s
/-- A row of n slices of bytes in block gl, of which the first k are stretches of s bytes, in blocks behind it. -/
structure Kys (w : World) (gl n k : Nat) (bs : List Nat) (p s : Nat) : Prop where
  there : ∀ i, i < n → (∃ u, w.cell? ⟨gl, i, none⟩ = some u) ∧ w.frozen? ⟨gl, i, none⟩ = false
  cells : ∀ i, i < k → ∃ v, w.cell? ⟨gl, i, none⟩ = some v ∧ Lies w (gl + 1) v (piece bs p s i)
section
variable {w w' : World} {g gl n k p s : Nat} {bs : List Nat}
theorem Kys.only (h : Kys w gl n k bs p s) (ho : Only g w w') (hg : g < gl) (hkn : k ≤ n) : Kys w' gl n k bs p s := by
  have key : ∀ i, i < n → gl < w.heap.size := fun i hi => by obtain ⟨⟨u, hu⟩, _⟩ := h.there i hi; exact lt_of_cell hu
  refine ⟨fun i hi => ?_, fun i hi => ?_⟩
  · have hl := key i hi
    rw [ho.cell (p := ⟨gl, i, none⟩) hl (show gl ≠ g by omega), ho.frozen (p := ⟨gl, i, none⟩) hl (show gl ≠ g by omega)]
    exact h.there i hi
  · obtain ⟨v, hv, hlv⟩ := h.cells i hi
    exact ⟨v, (ho.cell (p := ⟨gl, i, none⟩) (key i (by omega)) (show gl ≠ g by omega)).trans hv, hlv.only ho (by omega)⟩
theorem Kys.set (h : Kys w gl n k bs p s) (hk : k < n) {v : Value} (hv : Lies w (gl + 1) v (piece bs p s k)) : Kys (w.setCell ⟨gl, k, none⟩ v) gl n (k + 1) bs p s := by
  have ho := (Only.refl gl w).setCell k v
  have ne : ∀ i, i ≠ k → (⟨gl, k, none⟩ : Addr) ≠ ⟨gl, i, none⟩ := fun i hi e => hi (Addr.mk.inj e).2.1.symm
  obtain ⟨⟨u, hu⟩, _⟩ := h.there k hk
  refine ⟨fun i hi => ?_, fun i hi => ?_⟩
  · rw [World.frozen?_setCell]
    refine ⟨?_, (h.there i hi).2⟩
    by_cases e : i = k
    · subst e; exact ⟨_, World.cell?_setCell_same _ _ _ hu⟩
    · rw [World.cell?_setCell_other _ _ _ _ (ne i e)]; exact (h.there i hi).1
  · by_cases e : i = k
    · subst e; exact ⟨_, World.cell?_setCell_same _ _ _ hu, hv.only ho (by omega)⟩
    · obtain ⟨x, hx, hlx⟩ := h.cells i (by omega)
      exact ⟨x, (World.cell?_setCell_other _ _ _ _ (ne i e)).trans hx, hlx.only ho (by omega)⟩
theorem Kys.new (w : World) (t : TypeId) (cs : Array Value) (bs : List Nat) (p s : Nat) : Kys (w.alloc (.cells cs t)) w.heap.size cs.size 0 bs p s := by
  have hlast := heap_alloc_last w (.cells cs t)
  exact ⟨fun i hi => ⟨⟨cs[i], by rw [cell_of_row _ _ _ _ _ _ hlast]; simp [hi]⟩, frozen_of_row _ _ _ _ _ hlast⟩, fun i hi => by omega⟩
/-- The tape stands where a block behind it is written. -/
theorem Tp.only (h : Tp w g bs p) {b : Nat} (ho : Only b w w') (hb : g < b) : Tp w' g bs p := by
  obtain ⟨A, c, h1, h2, h3, h4⟩ := h.whole
  have hl := h.lt
  have e : ∀ j, w'.cell? ⟨g, j, none⟩ = w.cell? ⟨g, j, none⟩ := fun j => ho.cell (p := ⟨g, j, none⟩) hl (show g ≠ b by omega)
  exact ⟨(e 0).trans h.made, ⟨A, c, (e 1).trans h1, h2, h3, h4.keep fun q hq => ho.cell (Nat.lt_trans hq hl) (by omega)⟩, (e 2).trans h.place, (ho.frozen (p := ⟨g, 2, none⟩) hl (show g ≠ b by omega)).trans h.free, h.le, h.small⟩
end

/-- The tape stands where another block is written, ahead of its bytes. -/
theorem Tp.ahead {w w' : World} {g p : Nat} {bs : List Nat} (h : Tp w g bs p) {b lo : Nat} (hf : Far w g lo) (ho : Only b w w') (hb : b < lo) (hg : b ≠ g) : Tp w' g bs p := by
  obtain ⟨A, c, h1, h2, h3, h4⟩ := h.whole
  have hl := h.lt
  have e : ∀ j, w'.cell? ⟨g, j, none⟩ = w.cell? ⟨g, j, none⟩ := fun j => ho.cell (p := ⟨g, j, none⟩) hl (show g ≠ b from fun x => hg x.symm)
  refine ⟨(e 0).trans h.made, ⟨A, c, (e 1).trans h1, h2, h3, h4.1, fun hp => ?_⟩, (e 2).trans h.place, (ho.frozen (p := ⟨g, 2, none⟩) hl (show g ≠ b from fun x => hg x.symm)).trans h.free, h.le, h.small⟩
  obtain ⟨b', off, rfl, h5, h6⟩ := h4.2 hp
  have := hf _ _ _ h1 b' rfl
  exact ⟨b', off, rfl, h5, fun i hi => (ho.cell (p := ⟨b', off + i, none⟩) (Nat.lt_trans h5 hl) (show b' ≠ b by omega)).trans (h6 i hi)⟩

/-- What a call leaves that takes n pieces of s bytes of a tape. -/
def TakenK (g : Nat) (bs : List Nat) (p n s : Nat) (w : World) (e : Ending) (w' : World) : Prop :=
  ∃ gl, e = .returned (.slice (some ⟨gl, 0, none⟩) n n) ∧ w.heap.size ≤ gl ∧ Kys w' gl n n bs p s ∧ Tp w' g bs (p + n * s) ∧ Only g w w'

theorem info_keys : (Tryd.prog.info? 22).map (fun i => (i.zero, i.size, i.bytes)) = some (some (.slice none 0 0), 1, 24) := by kernel_rfl

set_option maxRecDepth 10000 in
set_option maxHeartbeats 1000000 in
theorem each_any {w : World} {g p : Nat} {bs : List Nat} (h : Tp w g bs p) (n s : Nat) (hn : n ≤ 4096) (hs : p + n * s ≤ bs.length) :
    Calls Tryd.prog 28 #[.int .i64 (n : Int), .int .i64 (s : Int), .func (.func 29) #[.pointer (some ⟨g, 0, none⟩)] #[]] w (TakenK g bs p n s w) := by
  have hmk := run_make_row' (P := Tryd.prog) 45 22 (.slice none 0 0) 24 Tryd.underlying45 info_keys rfl .i64 .i64 n (by omega) (by omega)
  have K0 := Kys.new w 22 (madeCells #[Value.slice none 0 0] n) bs p s
  rw [size_madeCells] at K0
  have K0 := Lib.hid K0
  have T0 := Lib.hid (h.below (below_alloc w (.cells (madeCells #[Value.slice none 0 0] n) 22)))
  have O0 := Lib.hid (Only.of (g := g) (below_alloc w (.cells (madeCells #[Value.slice none 0 0] n) 22)))
  have hg := h.lt
  have HS := Lib.hid hs
  clear h hs
  generalize madeCells #[Value.slice none 0 0] n = cs at *
  go_enter Tryd.func28, Tryd.ntmps28
  go_wp2
  clear hmk
  go_loopw [13] (fun i wr => ∃ k : Nat, k ≤ n ∧ i = .int .i64 (k : Nat) ∧ Kys wr w.heap.size n k bs p s ∧ Tp wr g bs (p + k * s) ∧ Only g w wr) (fun i _ => n - (intOf i).toNat)
  case atStart => exact ⟨0, by omega, rfl, K0.out, by rw [Nat.zero_mul]; exact T0.out, O0.out⟩
  case round =>
    clear K0 T0 O0
    obtain ⟨k, hk, rfl, hK, hT, hO⟩ := hrel
    by_cases hlt : k < n
    · have t1 : decide ((k : Int) < (n : Int)) = true := by simp; omega
      have hm : (k + 1) * s ≤ n * s := Nat.mul_le_mul_right s hlt
      have hb : p + k * s + s ≤ bs.length := by have := HS.out; rw [Nat.add_mul, Nat.one_mul] at hm; omega
      have C := Lib.hid (onward_any hT s hb)
      have HK := Lib.hid hK
      have HO := Lib.hid hO
      have hsz := Lib.hid hO.size
      have hgr : w.heap.size < wr.heap.size := by obtain ⟨⟨u, hu⟩, _⟩ := hK.there k hlt; exact lt_of_cell hu
      clear hK hT hO hm hb
      go_wp2_with fail
      refine C.out.mono ?_
      rintro e w2 ⟨v, rfl, hL, hT2, hO2⟩
      have HK2 := HK.out.only hO2 hg hk
      obtain ⟨⟨u, hu⟩, hf⟩ := HK2.there k hlt
      have X1 := Lib.hid (HK2.set hlt (hL.from (by omega)))
      have X2 := Lib.hid (hT2.only ((Only.refl w.heap.size w2).setCell k v) hg)
      have X3 := Lib.hid ((HO.out.trans hO2).setNew (b := w.heap.size) (Nat.le_refl _) k v)
      have XE := Lib.hid (show p + k * s + s = p + (k + 1) * s by rw [Nat.add_mul, Nat.one_mul]; omega)
      obtain ⟨A2, c2, rfl, _⟩ := hL
      clear HK2 hT2 hO2 HK HO C hsz
      generalize ((bs.drop (p + k * s)).take s).length = nl at *
      go_wp2
      go_roundw
      case rel => exact ⟨k + 1, by omega, by go_num, X1.out, by rw [← XE.out]; exact X2.out, X3.out⟩
      case measure => simp [intOf]; omega
    · obtain rfl : k = n := by omega
      have t1 : decide ((k : Int) < (k : Int)) = false := by simp
      have HF := Lib.hid (show TakenK g bs p k s w (.returned (.slice (some ⟨w.heap.size, 0, none⟩) k k)) wr from ⟨_, rfl, Nat.le_refl _, hK, hT, hO⟩)
      clear hK hT hO
      go_wp2
      go_ret
      exact HF.out
end Go.Proofs.YtmookhbijmibiaaDoor
