/-
  The contract of extent's Cut. Condition: the slice holds the extents.
-/
import Derived.Test.YtjeiechkndfhmaaExJoin
import Derived.Test.YtjeiechkndfhmaaExCutNum
import Derived.Test.YtjeiechkndfhmaaGrownTail
namespace Go.Proofs.Ytjeiechkndfhmaa
open Go.RowKit Arr Ex

theorem Own2.kept {w w' : World} {base : Nat} {v : Value} {l : List (Int × Int)} (h : Own2 w base v l) (hk : ∀ g, v.ownBlock = some g → w'.heap[g]? = w.heap[g]?) : Own2 w' base v l :=
  ⟨h.1, h.2.elim .inl fun ⟨g, cap, cur, e1, e2, e3, rest⟩ => .inr ⟨g, cap, cur, e1, e2, (hk g (by rw [e1]; rfl)).trans e3, rest⟩⟩
theorem heap_cell2 {w w' : World} {b o : Nat} (h : w'.heap[b]? = w.heap[b]?) : w'.cell? ⟨b, o, none⟩ = w.cell? ⟨b, o, none⟩ := World.cell?_of_block (w := w) (a := ⟨b, o, none⟩) h
/-- May it be cut there? -/
def cutOk (l : List (Int × Int)) (n : Int) : Bool := chain l && decide (0 ≤ n) && decide (n ≤ total l)
/-- What Cut leaves. -/
def CutP (l : List (Int × Int)) (n : Int) (w : World) (e : Ending) (w' : World) : Prop :=
  ∃ vh vt h t, e = .returned (.tuple #[vh, vt, .bool (cutOk l n)]) ∧ Own2 w' w.heap.size vh h ∧ Own2 w' w.heap.size vt t ∧ Below w.heap.size w w' ∧ (cutOk l n = true → h = hdL n l ∧ t = tlL n l) ∧ (cutOk l n = false → h = [] ∧ t = [])
theorem cutP_not {l : List (Int × Int)} {n : Int} {w w' : World} (h : cutOk l n = false) (hb : Below w.heap.size w w') : CutP l n w (.returned (.tuple #[.slice none 0 0, .slice none 0 0, .bool false])) w' :=
  ⟨_, _, [], [], by rw [h], own2_nil _ _, own2_nil _ _, hb, (fun e => by rw [h] at e; cases e), fun _ => ⟨rfl, rfl⟩⟩
/-- The state between two extents. -/
structure CutS (w wr : World) (l : List (Int × Int)) (n : Int) (k : Nat) (m : Int) (Vh Vt : Value) (h t : List (Int × Int)) : Prop where
  oh : Own2 wr w.heap.size Vh h
  ot : Own2 wr w.heap.size Vt t
  ne : ∀ g, Vh.ownBlock = some g → Vt.ownBlock ≠ some g
  below : Below w.heap.size w wr
  eh : h ++ hdL m (l.drop k) = hdL n l
  et : t ++ tlL m (l.drop k) = tlL n l
  er : rst m (l.drop k) = rst n l
  lh : h.length ≤ k
  lt : t.length ≤ k
  lo : 0 ≤ m
  hi : m ≤ n
set_option maxRecDepth 100000 in
set_option maxHeartbeats 4000000 in
theorem cut_any (w : World) (A : Option Addr) (N c : Nat) (l : List (Int × Int)) (hl : l.length = N) (hc : A = none → c = 0) (hn : N ≤ 1000) (h : Exts w w.heap.size A l) (n : Int) (hz : -9223372036854775808 ≤ n ∧ n ≤ 9223372036854775807) :
    Calls Try.prog 33 #[.slice A N c, .int .i64 n] w (CutP l n w) := by
  have mixed : Try.prog.follows .mixedOrders = true := by kernel_rfl
  have CC := Lib.hid (chain_any w A N c l hl hc (by omega) h)
  have HE := Lib.hid h
  have HN := Lib.hid hl
  have HS := Lib.hid hn
  have HZ := Lib.hid hz
  clear h hl hn hz
  go_enter Try.func33, Try.ntmps33
  by_cases hch : chain l = true
  · rw [hch] at CC
    have hmay := ((chain_iff l).1 hch).1
    have HM := Lib.hid hmay
    go_wp2_with fail
    refine CC.out.mono ?_
    rintro e w1 ⟨rfl, hb1⟩
    have HB1 := Lib.hid hb1
    by_cases hneg : n < 0
    · have t0 : decide (n < 0) = true := by simpa using hneg
      have HF := Lib.hid (cutP_not (l := l) (n := n) (by unfold cutOk; rw [show decide (0 ≤ n) = false by simpa using hneg]; simp) hb1)
      clear hb1 CC hmay hch
      go_wp2
      go_ret3
      exact HF.out
    · have t0 : decide (n < 0) = false := by simpa using hneg
      have hn0 : 0 ≤ n := by omega
      obtain ⟨hr0, hr1⟩ := rst_eq l n hn0 hmay
      have HR := Lib.hid (And.intro hr0 hr1)
      have HOK := Lib.hid (show cutOk l n = decide (n ≤ total l) by unfold cutOk; rw [hch, show decide (0 ≤ n) = true by simpa using hn0]; rfl)
      clear CC hmay hch hr0 hr1
      go_wp2
      go_loopw [1, 4, 5, 19] (fun v vh vt i wr => ∃ (k : Nat) (m : Int) (Vh Vt : Value) (h t : List (Int × Int)), Vh = vh ∧ Vt = vt ∧ k ≤ N ∧ i = .int .i64 k ∧ v = .int .i64 m ∧ CutS w wr l n k m Vh Vt h t) (fun _ _ _ i _ => N - (intOf i).toNat)
      case atStart => exact ⟨0, n, _, _, [], [], rfl, rfl, Nat.zero_le _, rfl, rfl, ⟨own2_nil _ _, own2_nil _ _, (fun g e => by cases e), HB1.out, rfl, rfl, rfl, Nat.zero_le _, Nat.zero_le _, hn0, Int.le_refl _⟩⟩
      case round =>
        obtain ⟨k, m, Vh, Vt, h, t, rfl, rfl, hk, rfl, rfl, hs⟩ := hrel
        have HST := Lib.hid hs
        clear hb1
        by_cases hlt : k < N
        · have hki : k < l.length := by rw [HN.out]; exact hlt
          have hst := drop_cons hki
          have hmy := HM.out _ (List.getElem_mem hki)
          obtain ⟨b, off, x, y, rfl, hb, hxy, hi, q0, q1⟩ := (HE.out.below hs.below).at hki
          rw [hxy] at hst hmy
          have hmx := (may_iff _).1 hmy
          dsimp only at hmx
          have eh := hs.eh
          have et := hs.et
          have er := hs.er
          rw [hst, hdL_cons, ← List.append_assoc] at eh
          rw [hst, tlL_cons, ← List.append_assoc] at et
          rw [hst, rst_cons] at er
          dsimp only at eh et er
          have HEQ := Lib.hid (And.intro eh (And.intro et er))
          have HMY := Lib.hid hmy
          have HMX := Lib.hid hmx
          have hm0 := hs.lo
          have hm1 := hs.hi
          have HMM := Lib.hid (And.intro hm0 hm1)
          have t1 : decide ((k : Int) < (N : Int)) = true := by simp; omega
          have wk : IntKind.i64.wrap ((k : Int) + 1) = (k : Int) + 1 := by have := HS.out; rw [IntKind.wrap_i64]; omega
          have hbase := hs.below.size
          have hal := below_alloc wr (.cells #[.int .i64 x, .int .i64 y] 34)
          have HOH := Lib.hid (hs.oh.alloc (.cells #[.int .i64 x, .int .i64 y] 34))
          have HOT := Lib.hid (hs.ot.alloc (.cells #[.int .i64 x, .int .i64 y] 34))
          have HBL := Lib.hid (hs.below.trans (hal.mono hbase))
          have HNH := Lib.hid (show Vh.ownBlock ≠ some wr.heap.size from fun e => by have := hs.oh.lt _ e; omega)
          have HNT := Lib.hid (show Vt.ownBlock ≠ some wr.heap.size from fun e => by have := hs.ot.lt _ e; omega)
          have b0 : (wr.alloc (.cells #[.int .i64 x, .int .i64 y] 34)).cell? ⟨wr.heap.size, 0, none⟩ = some (.int .i64 x) := by rw [World.cell?_alloc_new]; rfl
          have b1 : (wr.alloc (.cells #[.int .i64 x, .int .i64 y] 34)).cell? ⟨wr.heap.size, 1, none⟩ = some (.int .i64 y) := by rw [World.cell?_alloc_new]; rfl
          have hsz : wr.heap.size < (wr.alloc (.cells #[.int .i64 x, .int .i64 y] 34)).heap.size := by simp
          obtain ⟨hd0, hd1, hd2⟩ : 0 ≤ min m y ∧ min m y ≤ y ∧ min m y ≤ m := ⟨by omega, by omega, by omega⟩
          clear eh et er hst hi hxy hal hs hmy
          go_wp2_with fail
          generalize wr.alloc (.cells #[.int .i64 x, .int .i64 y] 34) = wa at *
          generalize wr.heap.size = nb at *
          have CW := Lib.hid (with_any wa w.heap.size Vh h HOH.out (by have := HST.out.lh; have := HS.out; omega) HBL.out.size x (x + min m y) (by omega) (by omega) (by omega))
          refine CW.out.mono ?_
          rintro e w7 ⟨vh', rfl, hoh7, hbel7, hblk7, hkept7⟩
          have hn7 := hkept7 nb hsz (fun e => HNH.out e.symm)
          have c0 := (heap_cell2 (o := 0) hn7).trans b0
          have c1 := (heap_cell2 (o := 1) hn7).trans b1
          have hsz7 : nb < w7.heap.size := Nat.lt_of_lt_of_le hsz hbel7.size
          have HOT7 := Lib.hid (HOT.out.kept fun g hg => hkept7 g (HOT.out.lt g hg).2 (fun e => HST.out.ne g e.symm hg))
          have HB7 := Lib.hid (HBL.out.trans hbel7)
          have HO7 := Lib.hid hoh7
          have HNE7 := Lib.hid (show ∀ g, vh'.ownBlock = some g → Vt.ownBlock ≠ some g from fun g hg hg' => by
            rcases hblk7 with h1 | ⟨g1, h1, h2⟩
            · exact HST.out.ne g (h1 ▸ hg) hg'
            · rw [h1] at hg
              obtain rfl := Option.some.inj hg
              have := (HOT.out.lt g1 hg').2; omega)
          clear hoh7 hbel7 hblk7 hkept7 hn7 CW HOH HOT HBL HNH b0 b1 hsz
          have B0 := fun n os => cell_grown (show (⟨nb, 0, none⟩ : Addr).block < w7.heap.size from hsz7) c0 n os
          have B1 := fun n os => cell_grown (show (⟨nb, 1, none⟩ : Addr).block < w7.heap.size from hsz7) c1 n os
          have CX := Lib.hid (fun n os => (behind_run (Sort.grow (w7.drewN n) os) x y HMY.out).mono fun e w' (h : e = .returned (.int .i64 (x + y)) ∧ w' = _) => (⟨h.1, 0, _, h.2.trans (Sort.alloc_eq_grow _ _)⟩ : e = .returned (.int .i64 (x + y)) ∧ ∃ q os', w' = Sort.grow ((Sort.grow (w7.drewN n) os).drewN q) os'))
          have wd : IntKind.i64.wrap (x + min m y) = x + min m y := wrap_in (by omega) (by omega)
          go_wp2_with fail
          refine region_grown_tail 7 (by kernel_rfl) (by kernel_rfl) ?_
          simp only [List.take_succ_cons, List.take_zero, List.drop_succ_cons, List.drop_zero]
          repeat (quiet_step (first | (go_at_call 42; refine Calls.grown_of (CX.out _ _))))
          refine wpQuiet_nil ?_
          intro wz hwz
          obtain ⟨⟨nq, osq⟩, rfl⟩ := hwz
          have HG := Lib.hid (below_grown w7 nq osq)
          have HOT8 := Lib.hid (HOT7.out.below HG.out)
          have HO8 := Lib.hid (HO7.out.below HG.out)
          have HB8 := Lib.hid (HB7.out.trans (HG.out.mono HB7.out.size))
          have HT8 := Lib.hid (show ∀ g, Vt.ownBlock = some g → g < w7.heap.size from fun g hg => (HOT7.out.lt g hg).2)
          have HH8 := Lib.hid (show ∀ g, vh'.ownBlock = some g → g < w7.heap.size from fun g hg => (HO7.out.lt g hg).2)
          have HZ8 := Lib.hid HG.out.size
          clear B0 B1 CX HG HOT7 HO7 HB7
          generalize Sort.grow (w7.drewN nq) osq = w8 at *
          have CW := Lib.hid (with_any w8 w.heap.size Vt t HOT8.out (by have := HST.out.lt; have := HS.out; omega) HB8.out.size (x + min m y) (x + y) (by omega) (by omega) (by omega))
          have HDD := Lib.hid (And.intro hd0 (And.intro hd1 hd2))
          go_wp2_with fail
          refine CW.out.mono ?_
          rintro e w9 ⟨vt', rfl, hot9, hbel9, hblk9, hkept9⟩
          have wm : IntKind.i64.wrap (m - min m y) = m - min m y := by have := HZ.out; have := HMM.out; exact wrap_in (by omega) (by omega)
          have HF := Lib.hid (show CutS w w9 l n (k + 1) (m - min m y) vh' vt' (h ++ pc x (x + min m y)) (t ++ pc (x + min m y) (x + y)) from by
            have e := HEQ.out
            refine ⟨HO8.out.kept fun g hg => hkept9 g (Nat.lt_of_lt_of_le (HH8.out g hg) HZ8.out) (fun e => HNE7.out g hg e.symm), hot9, fun g hg hg' => ?_, HB8.out.trans hbel9, e.1, e.2.1, e.2.2, ?_, ?_, by omega, by have := HMM.out; omega⟩
            · rcases hblk9 with h1 | ⟨g1, h1, h2⟩
              · exact HNE7.out g hg (h1 ▸ hg')
              · rw [h1] at hg'
                obtain rfl := Option.some.inj hg'
                have := HH8.out g1 hg; have := HZ8.out; omega
            · have := length_pc x (x + min m y); have := HST.out.lh; rw [List.length_append]; omega
            · have := length_pc (x + min m y) (x + y); have := HST.out.lt; rw [List.length_append]; omega)
          clear hot9 hbel9 hblk9 hkept9 CW
          go_wp2
          go_roundw
          case rel => exact ⟨k + 1, m - min m y, _, _, _, _, rfl, rfl, by omega, by go_num, rfl, HF.out⟩
          case measure => simp [intOf]; omega
        · obtain rfl : k = N := by omega
          have t1 : decide ((k : Int) < (k : Int)) = false := by simp
          have hd : l.drop k = [] := List.drop_of_length_le (by rw [HN.out]; exact Nat.le_refl _)
          have eh := hs.eh
          have et := hs.et
          have er := hs.er
          rw [hd] at eh et er
          have er : m = rst n l := er
          have eh : h = hdL n l := by simpa [hdL] using eh
          have et : t = tlL n l := by simpa [tlL] using et
          by_cases hm : m > 0
          · have t2 : decide (m > 0) = true := by simpa using hm
            have HF := Lib.hid (cutP_not (l := l) (n := n) (by rw [HOK.out]; have := HR.out.2.1 (by omega); simp; omega) hs.below)
            clear hd eh et er hs
            go_wp2
            go_ret3
            exact HF.out
          · have t2 : decide (m > 0) = false := by simpa using hm
            have ok : cutOk l n = true := by
              rw [HOK.out, decide_eq_true_eq]
              apply Classical.byContradiction
              intro hc
              have := HR.out.2.2 (by omega); omega
            have HF := Lib.hid (show CutP l n w (.returned (.tuple #[Vh, Vt, .bool true])) wr from ⟨Vh, Vt, h, t, by rw [ok], hs.oh, hs.ot, hs.below, fun _ => ⟨eh, et⟩, fun e => by rw [ok] at e; cases e⟩)
            clear hd eh et er hs ok
            go_wp2
            go_ret3
            exact HF.out
  · rw [Bool.not_eq_true] at hch
    rw [hch] at CC
    have HT := Lib.hid (show cutOk l n = false by unfold cutOk; rw [hch]; rfl)
    go_wp2_with fail
    refine CC.out.mono ?_
    rintro e w1 ⟨rfl, hb1⟩
    have HF := Lib.hid (cutP_not HT.out hb1)
    clear hb1 CC
    go_wp2
    go_ret3
    exact HF.out
end Go.Proofs.Ytjeiechkndfhmaa
