/-
  Contract of the reference's Write. Conditions: the disk lies in memory as its calls leave it; its steps are fewer than 2^32; the bytes lie below what is its own.
-/
import Derived.Test.YtfjaiolgbcindaaDkRefRead
import Derived.Deep.CutRange
namespace Go.Proofs.Ytfjaiolgbcindaa
open Go.RowKit Arr Dsk
set_option linter.unusedSimpArgs false
section
variable {w : World} {g B : Nat} {ρ : Nat → Nat} {r : St}
set_option maxRecDepth 10000 in
set_option maxHeartbeats 2000000 in
theorem rwrite_ok (h : Rdk w g B ρ r) (hB : B ≤ w.heap.size) (hon : r.on = true) (h0 : r.left ≠ 0) (hm : r.steps ≤ 4294967294) (i : Nat) (A : Option Addr) (n c : Nat) (b : List Nat) (hl : b.length = n) (hc : n ≤ c) (hA : A = none → c = 0) (hb : ByL w (fun k => k < B) A b) (hi : i < r.n) (hz : n = r.sz) :
    Calls Try.prog 24 #[.pointer (some ⟨g, 0, none⟩), .int .i64 (i : Int), .slice A n c] w (RdkP g B ρ (r.count.add i b) (.int .i64 0) w) := by
  have CB := Lib.hid (burnt_any h hon hm)
  rw [if_neg h0, decide_eq_false h0] at CB
  have hwf := h.wf
  have HWF := Lib.hid (hwf.added hon i b hi (by omega) hb.1)
  have hws := hwf.ws
  have HWS := Lib.hid (show r.count.waits.length ≤ 4294967295 from by have e : r.count.waits = r.waits := rfl; rw [e]; omega)
  obtain ⟨vk, va, vb, ps, qs, KA, kc, h⟩ := h
  obtain ⟨kb, ck, AA, ca, AB, cb, rfl, rfl, rfl, hp1, hq1⟩ := h.form
  have c4 := h.c4
  rw [hon] at c4
  have c4' : w.cell? ⟨g, 4, none⟩ = some (.bool false) := c4
  have c0 := h.c0
  have c1 := h.c1
  rw [hp1] at c0
  have hgl := h.gl
  have t1 : decide ((i : Int) < 0) = false := by simp
  have t2 : decide ((i : Int) ≥ (r.n : Int)) = false := by simp; omega
  have hi' : (i : Int) < (r.n : Int) := by omega
  subst hz
  have t3 : ((r.sz : Int) == (r.sz : Int)) = true := by simp
  have t4 : ((r.sz : Int) != (r.sz : Int)) = false := by simp
  have HL := Lib.hid hl
  have HX := Lib.hid hb
  have HC := Lib.hid (And.intro hc hA)
  clear h hwf hws c4 hb hl hc hA hi hp1 hq1 hon h0
  generalize r.sz = n at *
  generalize r.n = rn at *
  generalize r.count = r1 at *
  clear hm
  go_enter Try.func24, Try.ntmps24
  go_wp2_with fail
  refine CB.out.mono ?_
  rintro en w1 ⟨rfl, ρ1, hd, hT, hE⟩
  have HT := Lib.hid hT
  have HE := Lib.hid hE
  have X1 := HX.out.touch (ok' := fun k => k < B) hT (fun k e e' => by
    unfold wr4 at e'
    have hk1 : ρ1 k = ρ k := hE k (by omega)
    obtain ⟨_, _, _, _, _, _, _, hh⟩ := hd
    have := hh.lo k (by rw [hk1]; omega)
    omega) (fun _ _ e => e)
  obtain ⟨vk, va, vb, ps, qs, KA, kc, h⟩ := hd
  obtain ⟨kb1, ck1, AA1, ca1, AB1, cb1, rfl, rfl, rfl, hp9, hq1⟩ := h.form
  have hq2 : qs.length ≤ 4294967295 := by rw [hq1]; exact HWS.out
  clear hp9 hq1
  obtain ⟨va', w3, hr1, ho1, hg1, ha1⟩ := app1_run (ty := 38) Try.underlying38 info_int rfl (by decide) h.rowA (by have := HWS.out; omega) (.int .i64 (i : Int)) rfl
  obtain ⟨AA2, ca2, rfl, _⟩ := own_form ho1
  have hs1 : (w1.alloc (.cells #[.int .i64 (i : Int)] 3)).heap.size = w1.heap.size + 1 := by simp
  have tA : Touch (fun k => ρ1 k = 3) w1 w3 := (Touch.of (fun k => ρ1 k = 3) (below_alloc w1 _)).grown hg1 (fun k hk => .inl (h.kA k hk))
  have tA' : Touch (fun k => ρ1 k = 3 ∨ ρ1 k = 1) w1 (w3.setCell ⟨g, 2, none⟩ (.slice AA2 (r1.waits.length + 1) ca2)) := (tA.more (F' := fun k => ρ1 k = 3 ∨ ρ1 k = 1) (fun k e => .inl e)).setCell (b := g) (.inl (.inr h.own)) 2 _
  have rB := owns_touchN h.rowB tA' (fun k hk e => by have := h.kB k hk; omega)
  obtain ⟨vb', w6, hr2, ho2, hg2, ha2⟩ := app1_run (w := w3.setCell ⟨g, 2, none⟩ (.slice AA2 (r1.waits.length + 1) ca2)) (ty := 37) Try.underlying37 info_slb rfl (by decide) rB hq2 (.slice A n c) rfl
  obtain ⟨AB2, cb2, rfl, _⟩ := own_form ho2
  have hv : (Sl.mk A c b).v = .slice A n c := by show Value.slice A b.length c = _; rw [HL.out]
  have ADD := Lib.hid (h.added (by have := hT.size; omega) i ⟨A, c, b⟩ hg1 ho1 ha1 hg2 (by rw [hv]; exact ho2) ha2 ⟨by rw [HL.out]; exact HC.out.1, HC.out.2, X1⟩ HWF.out)
  have c2 := h.c2
  have c3 : (w3.setCell ⟨g, 2, none⟩ (.slice AA2 (r1.waits.length + 1) ca2)).cell? ⟨g, 3, none⟩ = some (.slice AB1 qs.length cb1) := by
    rw [World.cell?_setCell_other _ _ _ _ (by simp), tA.cell (p := ⟨g, 3, none⟩) h.gl (by rw [h.own]; omega)]; exact h.c3
  have c2' : w3.cell? ⟨g, 2, none⟩ = some (.slice AA1 r1.waits.length ca1) := (tA.cell (p := ⟨g, 2, none⟩) h.gl (by rw [h.own]; omega)).trans c2
  have f2' : w3.frozen? ⟨g, 2, none⟩ = false := (tA.frozen (p := ⟨g, 2, none⟩) h.gl (by rw [h.own]; omega)).trans (h.free 2)
  have hg3 : g < w3.heap.size := by have := tA.size; have := h.gl; omega
  have nBg : (Value.slice AB1 qs.length cb1).ownBlock ≠ some g := fun e => by have := h.kB g e; rw [h.own] at this; omega
  have c6 : w6.cell? ⟨g, 3, none⟩ = some (.slice AB1 qs.length cb1) := by
    rw [World.cell?_of_block (w := (w3.setCell ⟨g, 2, none⟩ (.slice AA2 (r1.waits.length + 1) ca2)).alloc (.cells #[.slice A n c] 32)) (a := ⟨g, 3, none⟩) (hg2.block g (by simp; omega) (fun e => nBg e.symm)), (below_alloc (w3.setCell ⟨g, 2, none⟩ (.slice AA2 (r1.waits.length + 1) ca2)) (.cells #[.slice A n c] 32)).cell (p := ⟨g, 3, none⟩) (by simp; omega)]
    exact c3
  have f6 : w6.frozen? ⟨g, 3, none⟩ = false := by
    rw [World.frozen?_of_block (w := (w3.setCell ⟨g, 2, none⟩ (.slice AA2 (r1.waits.length + 1) ca2)).alloc (.cells #[.slice A n c] 32)) (a := ⟨g, 3, none⟩) (hg2.block g (by simp; omega) (fun e => nBg e.symm)), (below_alloc (w3.setCell ⟨g, 2, none⟩ (.slice AA2 (r1.waits.length + 1) ca2)) (.cells #[.slice A n c] 32)).frozen (p := ⟨g, 3, none⟩) (by simp; omega), World.frozen?_setCell, tA.frozen (p := ⟨g, 3, none⟩) h.gl (by rw [h.own]; omega)]
    exact h.free 3
  have HR1 := Lib.hid hr1
  have HR2 := Lib.hid hr2
  clear hr1 hr2 ho1 ho2 hg1 hg2 ha1 ha2 tA tA' rB hv X1 h hT hE hg3 nBg CB
  obtain ⟨nA, hnA⟩ : ∃ m, m = r1.waits.length := ⟨_, rfl⟩
  rw [← hnA] at HR1 HR2 ADD c2 c2' c3
  clear hnA
  go_upto_region 9 with fail
  go_upto_region 10 with (at_builtin; refine list_app rfl (.tmp 35) (.tmp 37) 38 rfl (.slice AA1 nA ca1) (.slice (some ⟨w1.heap.size, 0, none⟩) 1 1) rfl rfl HR1.out ?_)
  generalize w3.setCell ⟨g, 2, none⟩ (.slice AA2 (nA + 1) ca2) = w4 at *
  go_wp2_with (at_builtin; refine list_app rfl (.tmp 45) (.tmp 47) 37 rfl (.slice AB1 qs.length cb1) (.slice (some ⟨w4.heap.size, 0, none⟩) 1 1) rfl rfl HR2.out ?_)
  go_ret
  obtain ⟨ρ', a1, a2, a3⟩ := ADD.out
  exact ⟨rfl, ρ', ⟨_, _, _, _, _, _, _, a1⟩, HT.out.trans a2 (fun k hk => by
    by_cases hkw : k < w.heap.size
    · left; unfold wr4 at hk ⊢; rw [HE.out k hkw] at hk; exact hk
    · right; omega), fun k hk => (a3 k (Nat.lt_of_lt_of_le hk HT.out.size)).trans (HE.out k hk)⟩
end
end Go.Proofs.Ytfjaiolgbcindaa
