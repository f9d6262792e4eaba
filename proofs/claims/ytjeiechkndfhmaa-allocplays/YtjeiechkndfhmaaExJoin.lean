/-
  Contracts of extent's Total and Join. Condition: the slices hold their extents.
-/
import Derived.Test.YtjeiechkndfhmaaExConcat
import Derived.Test.YtjeiechkndfhmaaAesStill
import Derived.Deep.QuietTactic
import Derived.BigQuiet
import Derived.Shelf.SlSortCmp.QuietGrown
namespace Go.Proofs.Ytjeiechkndfhmaa
open Go.RowKit Arr Ex

/-- How many sectors a chain has. -/
def totC (l : List (Int × Int)) : Int := if chain l = true then total l else 0
theorem may_bound {l : List (Int × Int)} (h : ∀ x, x ∈ l → may x = true) : 0 ≤ total l ∧ total l ≤ l.length * 1048576 := by
  induction l with
  | nil => simp [total]
  | cons x l ih =>
    have hx := (may_iff x).1 (h x (by simp))
    obtain ⟨h1, h2⟩ := ih (fun y hy => h y (by simp [hy]))
    rw [total_cons, List.length_cons]
    omega
theorem total_take (l : List (Int × Int)) (k : Nat) (hk : k < l.length) : total (l.take (k + 1)) = total (l.take k) + l[k].2 := by
  rw [List.take_add_one, List.getElem?_eq_getElem hk, total_append]; simp [total]
set_option maxRecDepth 100000 in
set_option maxHeartbeats 1000000 in
theorem total_any (w : World) (A : Option Addr) (c N : Nat) (l : List (Int × Int)) (hN : l.length = N) (hc : A = none → c = 0) (hs : N ≤ 1000000) (h : Exts w w.heap.size A l) :
    Calls Try.prog 35 #[.slice A N c] w (Bel (.int .i64 (totC l)) w) := by
  have HE := Lib.hid h
  have HN := Lib.hid hN
  have HS := Lib.hid hs
  have CC := Lib.hid (chain_any w A N c l hN hc hs h)
  clear h hN hs
  go_enter Try.func35, Try.ntmps35
  by_cases hch : chain l = true
  · rw [hch] at CC
    have hmay := ((chain_iff l).1 hch).1
    have HM := Lib.hid hmay
    have HT := Lib.hid (show totC l = total l by unfold totC; rw [if_pos hch])
    go_wp2_with fail
    refine CC.out.mono ?_
    rintro e w1 ⟨rfl, hb1⟩
    have HB1 := Lib.hid hb1
    clear hb1 CC hmay hch
    go_wp2
    go_loopw [3, 11] (fun t i wr => ∃ (k : Nat), k ≤ N ∧ i = .int .i64 k ∧ t = .int .i64 (total (l.take k)) ∧ Below w.heap.size w wr) (fun _ i _ => N - (intOf i).toNat)
    case atStart => exact ⟨0, Nat.zero_le _, rfl, by simp [total], HB1.out⟩
    case round =>
      obtain ⟨k, hk, rfl, rfl, hB⟩ := hrel
      have HB := Lib.hid hB
      by_cases hlt : k < N
      · have hki : k < l.length := by rw [HN.out]; exact hlt
        obtain ⟨b, off, x, y, rfl, hb, hxy, hi, q0, q1⟩ := (HE.out.below hB).at hki
        have t1 : decide ((k : Int) < (N : Int)) = true := by simp; omega
        have wk : IntKind.i64.wrap ((k : Int) + 1) = (k : Int) + 1 := by have := HS.out; rw [IntKind.wrap_i64]; omega
        have hst := total_take l k hki
        rw [hxy] at hst
        have hst : total (l.take (k + 1)) = total (l.take k) + y := hst
        have hbd := may_bound (l := l.take (k + 1)) (fun z hz => HM.out z (List.mem_of_mem_take hz))
        have hbl : (l.take (k + 1)).length ≤ N := by simp; omega
        have wt : IntKind.i64.wrap (total (l.take k) + y) = total (l.take (k + 1)) := by
          rw [← hst]
          have := HS.out
          exact wrap_in (by omega) (by omega)
        generalize total (l.take k) = t0 at *
        generalize ht1 : total (l.take (k + 1)) = tt at *
        have HTT := Lib.hid (And.intro ht1 hst)
        clear hst hbd hbl ht1 hxy hB hi
        go_wp2
        go_roundw
        case rel => exact ⟨k + 1, by omega, by go_num, by first | (rw [HTT.out.1]; done) | rw [HTT.out.1, HTT.out.2], HB.out.alloc HB.out.size _⟩
        case measure => simp [intOf]; omega
      · obtain rfl : k = N := by omega
        have t1 : decide ((k : Int) < (k : Int)) = false := by simp
        have HR := Lib.hid (show totC l = total (l.take k) by rw [HT.out, List.take_of_length_le (by rw [HN.out]; exact Nat.le_refl _)])
        clear hB
        generalize total (l.take k) = t0 at *
        go_wp2
        go_ret
        exact ⟨by rw [HR.out]; rfl, HB.out⟩
  · rw [Bool.not_eq_true] at hch
    rw [hch] at CC
    have HT := Lib.hid (show totC l = 0 by unfold totC; rw [if_neg (by rw [hch]; exact Bool.false_ne_true)])
    go_wp2_with fail
    refine CC.out.mono ?_
    rintro e w1 ⟨rfl, hb1⟩
    have HB1 := Lib.hid hb1
    clear hb1 CC
    go_wp2
    go_ret
    exact ⟨by rw [HT.out]; rfl, HB1.out⟩

theorem Own2.low {w : World} {base base' : Nat} {v : Value} {l : List (Int × Int)} (h : Own2 w base v l) (hb : base' ≤ base) : Own2 w base' v l :=
  ⟨h.1, h.2.elim .inl fun ⟨g, cap, cur, e1, e2, rest⟩ => .inr ⟨g, cap, cur, e1, Nat.le_trans hb e2, rest⟩⟩
/-- What Join leaves. -/
def JoinP (a b : List (Int × Int)) (w : World) (e : Ending) (w' : World) : Prop :=
  ∃ v l, e = .returned (.tuple #[v, .bool (joins a b)]) ∧ Own2 w' w.heap.size v l ∧ Below w.heap.size w w' ∧ (joins a b = true → right l = true ∧ (∀ u, Mem u l ↔ Mem u a ∨ Mem u b) ∧ total l = total a + total b) ∧ (joins a b = false → l = []) ∧ l.length ≤ a.length + b.length
theorem joinP_not {a b : List (Int × Int)} {w w' : World} (h : joins a b = false) (hb : Below w.heap.size w w') : JoinP a b w (.returned (.tuple #[.slice none 0 0, .bool false])) w' :=
  ⟨_, [], by rw [h], own2_nil _ _, hb, (fun e => by rw [h] at e; cases e), fun _ => rfl, Nat.zero_le _⟩
theorem stp_nil (x : Int × Int) : stp [] x = [x] := rfl
theorem stp_eq {ini : List (Int × Int)} {y x : Int × Int} (h : y.1 + y.2 = x.1) : stp (ini ++ [y]) x = ini ++ [(y.1, y.2 + x.2)] := by
  unfold stp; rw [List.getLast?_append, List.getLast?_singleton]; simp [h]
theorem stp_ne {ini : List (Int × Int)} {y x : Int × Int} (h : ¬ y.1 + y.2 = x.1) : stp (ini ++ [y]) x = ini ++ [y] ++ [x] := by
  unfold stp; rw [List.getLast?_append, List.getLast?_singleton]; simp [h]
theorem grow_take {l : List (Int × Int)} (h : apart 0 0 l = true) (k : Nat) : ∃ m, Ex.Grow (mrg (l.take k)) m := by
  obtain ⟨h1, _, h3⟩ := (apart_iff 0 (by omega) l 0).1 h
  exact (fold_grow (l.take k) [] 0 (Grow.nil 0) (fun x hx => ⟨h1 x (List.mem_of_mem_take hx), ((may_iff x).1 (h1 x (List.mem_of_mem_take hx))).1⟩) (h3.sublist (List.take_sublist k l))).1
theorem below_grown (w : World) (n : Nat) (os : Array Obj) : Below w.heap.size w (Sort.grow (w.drewN n) os) :=
  ⟨rfl, rfl, rfl, by rw [Sort.size_grow]; exact Nat.le_add_right _ _, fun k hk => by rw [heap_grow os (by exact hk)]; rfl⟩
set_option maxRecDepth 100000 in
set_option maxHeartbeats 4000000 in
theorem join_any (w : World) (A0 A1 : Option Addr) (n0 c0 n1 c1 : Nat) (a b : List (Int × Int)) (h0 : a.length = n0) (h1 : b.length = n1) (hn0 : n0 ≤ 1000) (hn1 : n1 ≤ 1000) (hA0 : A0 = none → c0 = 0) (hA1 : A1 = none → c1 = 0)
    (hb0 : Exts w w.heap.size A0 a) (hb1 : Exts w w.heap.size A1 b) :
    Calls Try.prog 34 #[.slice A0 n0 c0, .slice A1 n1 c1] w (JoinP a b w) := by
  have mixed : Try.prog.follows .mixedOrders = true := by kernel_rfl
  have HI := Lib.hid (And.intro hb0.int hb1.int)
  have hal := below_alloc w (.cells #[.slice A0 n0 c0, .slice A1 n1 c1] 23)
  have CC := Lib.hid (concat_any w.heap.size A0 A1 n0 c0 n1 c1 a b h0 h1 hn0 hn1 hA0 hA1 (w.alloc (.cells #[.slice A0 n0 c0, .slice A1 n1 c1] 23)) (by rw [World.cell?_alloc_new]; rfl) (by rw [World.cell?_alloc_new]; rfl) ((hb0.below hal).more (by simp)) ((hb1.below hal).more (by simp)))
  have HA := Lib.hid hb0
  have HB := Lib.hid hb1
  have HL := Lib.hid (And.intro h0 h1)
  have HAL := Lib.hid hal
  clear hb0 hb1 h0 h1 hal
  go_enter Try.func34, Try.ntmps34
  go_wp2_with fail
  refine CC.out.mono ?_
  rintro e w1 ⟨vb, rfl, hob, hbb⟩
  have HW1 := Lib.hid (HAL.out.trans (hbb.mono (by simp)))
  have hob : Own2 w1 w.heap.size vb (a ++ b) := hob.low (by simp)
  obtain ⟨Ab, cb, rfl, _, hAb, _, hxb⟩ := hob.shape
  have HX := Lib.hid (hxb fun x hx => (List.mem_append.1 hx).elim (HI.out.1 x) (HI.out.2 x))
  have HAb := Lib.hid hAb
  have hlab : (a ++ b).length = n0 + n1 := by rw [List.length_append, HL.out.1, HL.out.2]
  have C1 := Lib.hid (right_any w1 A0 c0 n0 a HL.out.1 ((HA.out.below HW1.out).more HW1.out.size) (by omega))
  rw [hlab]
  clear hob hbb hxb CC HAL HI hAb
  have HLAB := Lib.hid hlab
  clear hlab
  by_cases hra : right a = true
  · rw [hra] at C1
    go_wp2_with fail
    refine C1.out.mono ?_
    rintro e w2 ⟨rfl, hb2⟩
    have HW2 := Lib.hid hb2
    have HW3 := Lib.hid (HW1.out.trans (hb2.mono HW1.out.size))
    have C2 := Lib.hid (right_any w2 A1 c1 n1 b HL.out.2 ((HB.out.below HW3.out).more HW3.out.size) (by omega))
    clear hb2 C1
    by_cases hrb : right b = true
    · rw [hrb] at C2
      go_wp2_with fail
      refine C2.out.mono ?_
      rintro e w3 ⟨rfl, hb3⟩
      have HW4 := Lib.hid (HW2.out.trans (hb3.mono HW2.out.size))
      have HW5 := Lib.hid (HW3.out.trans (hb3.mono HW3.out.size))
      have HX3 := Lib.hid (HX.out.later HW4.out)
      have C3 := Lib.hid (chain_any w3 Ab (n0 + n1) cb (a ++ b) HLAB.out HAb.out (by omega) HX3.out)
      clear hb3 C2 HX
      by_cases hch : chain (a ++ b) = true
      · rw [hch] at C3
        have HJ := Lib.hid (show joins a b = true by unfold joins; rw [hra, hrb, hch]; rfl)
        go_wp2_with fail
        refine C3.out.mono ?_
        rintro e w4 ⟨rfl, hb4⟩
        have HW6 := Lib.hid (HW5.out.trans (hb4.mono HW5.out.size))
        have C4 := Lib.hid (rising_any w4 Ab (n0 + n1) cb (a ++ b) HLAB.out HAb.out (by omega) (HX3.out.later hb4))
        clear hb4 C3
        go_wp2_with fail
        refine C4.out.mono ?_
        rintro e w5 ⟨vr, l, rfl, hp, hr, ho, hb5⟩
        have hap := chain_sorted hp hr
        rw [hch] at hap
        have HAP := Lib.hid hap
        have hmay := ((apart_iff 0 (by omega) l 0).1 hap).1
        have HMAY := Lib.hid hmay
        have hl := hp.length_eq
        rw [HLAB.out] at hl
        obtain ⟨Ar, cr, rfl, _, _, _, hxr⟩ := ho.shape
        have HXR := Lib.hid (hxr fun x hx => i64_may (hmay x hx))
        have HW7 := Lib.hid (HW6.out.trans (hb5.mono HW6.out.size))
        have HPERM := Lib.hid hp
        rw [← hl]
        generalize hN : n0 + n1 = N at *
        have HN := Lib.hid hl.symm
        have hN1 : N ≤ 2000 := by omega
        clear hp hr ho hb5 hap hmay hl hxr hch C4 HX3
        go_wp2
        go_loopw [7, 31] (fun v i wr => ∃ (k : Nat), k ≤ N ∧ i = .int .i64 k ∧ Own2 wr w5.heap.size v (mrg (l.take k)) ∧ Below w5.heap.size w5 wr) (fun _ i _ => N - (intOf i).toNat)
        case atStart => exact ⟨0, Nat.zero_le _, rfl, own2_nil _ _, Below.refl _ _⟩
        case round =>
          obtain ⟨k, hk, rfl, hown, hB⟩ := hrel
          have HB5 := Lib.hid hB
          have HO := Lib.hid hown
          by_cases hlt : k < N
          · have hki : k < l.length := by rw [HN.out]; exact hlt
            obtain ⟨b', off, x, y, rfl, hb, hxy, hi, q0, q1⟩ := (HXR.out.below hB).at hki
            have hmx := (may_iff _).1 (HMAY.out l[k] (List.getElem_mem hki))
            rw [hxy] at hmx
            dsimp only at hmx
            have t1 : decide ((k : Int) < (N : Int)) = true := by simp; omega
            have wk : IntKind.i64.wrap ((k : Int) + 1) = (k : Int) + 1 := by rw [IntKind.wrap_i64]; omega
            have hst := mrg_take l k hki
            rw [hxy] at hst
            have HST := Lib.hid hst
            have hlm : (mrg (l.take k)).length ≤ 2000 := Nat.le_trans (length_mrg _) (by simp; omega)
            have HMX := Lib.hid hmx
            have hgr := grow_take HAP.out k
            clear hB hst hi hxy
            generalize hacc : mrg (l.take k) = acc at *
            clear hacc
            have ho1 := hown.alloc (.cells #[.int .i64 x, .int .i64 y] 34)
            have hb6 := HB5.out.alloc HB5.out.size (.cells #[.int .i64 x, .int .i64 y] 34)
            have hnb : w5.heap.size ≤ wr.heap.size := HB5.out.size
            rcases List.eq_nil_or_concat acc with rfl | ⟨ini, z, rfl⟩
            · obtain ⟨Av, cv, rfl, _, _, _, _⟩ := ho1.shape
              have HO1 := Lib.hid ho1
              have HB6 := Lib.hid hb6
              have HXS := Lib.hid (show mrg (l.take (k + 1)) = [] ++ [(x, y)] by rw [HST.out, stp_nil]; rfl)
              have wl : IntKind.i64.wrap ((0 : Int) - 1) = -1 := by rw [IntKind.wrap_i64]; omega
              clear ho1 hb6 hown hgr HST
              go_wp2_with fail
              go_quiet (fail)
              have HB7 := Lib.hid (below_drewN HB6.out nq)
              have HO7 := Lib.hid (HO1.out.drewN nq)
              have c0 : ((wr.alloc (.cells #[.int .i64 x, .int .i64 y] 34)).drewN nq).cell? ⟨wr.heap.size, 0, none⟩ = some (.int .i64 x) := by
                show (wr.alloc (.cells #[.int .i64 x, .int .i64 y] 34)).cell? _ = _
                rw [World.cell?_alloc_new]; rfl
              have c1 : ((wr.alloc (.cells #[.int .i64 x, .int .i64 y] 34)).drewN nq).cell? ⟨wr.heap.size, 1, none⟩ = some (.int .i64 y) := by
                show (wr.alloc (.cells #[.int .i64 x, .int .i64 y] 34)).cell? _ = _
                rw [World.cell?_alloc_new]; rfl
              clear HB6 HO1
              generalize (wr.alloc (.cells #[.int .i64 x, .int .i64 y] 34)).drewN nq = wd at *
              have HXD := Lib.hid (exts_lit wd (x, y) (i64_may ((may_iff _).2 HMX.out)))
              have HOD := Lib.hid (HO7.out.alloc (.cells #[.int .i64 x, .int .i64 y] 34))
              have HBD := Lib.hid (HB7.out.alloc HB7.out.size (.cells #[.int .i64 x, .int .i64 y] 34))
              go_wp2_with (at_builtin; refine append_exts rfl (.tmp 60) (.tmp 62) rfl w5.heap.size _ [] rfl HOD.out (some ⟨wd.heap.size, 0, none⟩) 1 1 [(x, y)] rfl (fun h => by cases h) rfl (by simpa using HXD.out) (by simp) HBD.out.size ?_; intro v' w7 hown' hbel' _ _)
              rw [← HXS.out] at hown'
              go_roundw
              case rel => exact ⟨k + 1, by omega, by go_num, hown', HBD.out.trans hbel'⟩
              case measure => simp [intOf]; omega
            · rw [List.concat_eq_append] at *
              obtain ⟨z1, z2⟩ := z
              obtain ⟨mm, hgr⟩ := hgr
              have hmz := hgr.may (z1, z2) (by simp)
              have hmz' := (may_iff _).1 hmz
              dsimp only at hmz'
              obtain ⟨g, cv, rfl, hg5, hglt⟩ := World.ownsRow.form hown (by simp)
              have hLn : (ini ++ [(z1, z2)]).length = ini.length + 1 := by simp
              have hlm' : ini.length + 1 ≤ 2000 := by omega
              have hown' : wr.ownsRow w5.heap.size 34 2 (.slice (some ⟨g, 0, none⟩) (ini ++ [(z1, z2)]).length cv) (ini ++ [(z1, z2)]).length (cs2 (ini ++ [(z1, z2)])) := hown
              have e0 := World.ownsRow.cellAt hown' (ini.length * 2) (by omega)
              have e1 := World.ownsRow.cellAt hown' (ini.length * 2 + 1) (by omega)
              obtain ⟨k0, k1⟩ := cs2_get (ini ++ [(z1, z2)]) ini.length (by omega)
              rw [k0, List.getElem_concat_length rfl] at e0
              rw [k1, List.getElem_concat_length rfl] at e1
              have fz := World.ownsRow.frozenAt hown' (ini.length * 2 + 1)
              clear k0 k1 hown' hgr hown
              have HEQ := Lib.hid hLn
              rw [hLn] at ho1 ⊢
              generalize hL : ini.length + 1 = L at *
              have HLL := Lib.hid hL
              generalize hM : ini.length = M at *
              have HM := Lib.hid hM
              have hne : wr.heap.size ≠ g := by omega
              have HO1 := Lib.hid ho1
              have HB6 := Lib.hid hb6
              have g0 : (wr.alloc (.cells #[.int .i64 x, .int .i64 y] 34)).cell? ⟨g, M * 2, none⟩ = some (.int .i64 z1) := (below_alloc wr _).cell (p := ⟨g, M * 2, none⟩) hglt |>.trans e0
              have g1 : (wr.alloc (.cells #[.int .i64 x, .int .i64 y] 34)).cell? ⟨g, M * 2 + 1, none⟩ = some (.int .i64 z2) := (below_alloc wr _).cell (p := ⟨g, M * 2 + 1, none⟩) hglt |>.trans e1
              have f1 : (wr.alloc (.cells #[.int .i64 x, .int .i64 y] 34)).frozen? ⟨g, M * 2 + 1, none⟩ = false := (below_alloc wr _).frozen (p := ⟨g, M * 2 + 1, none⟩) hglt |>.trans fz
              have b0 : (wr.alloc (.cells #[.int .i64 x, .int .i64 y] 34)).cell? ⟨wr.heap.size, 0, none⟩ = some (.int .i64 x) := by rw [World.cell?_alloc_new]; rfl
              have b1 : (wr.alloc (.cells #[.int .i64 x, .int .i64 y] 34)).cell? ⟨wr.heap.size, 1, none⟩ = some (.int .i64 y) := by rw [World.cell?_alloc_new]; rfl
              have hsz : wr.heap.size < (wr.alloc (.cells #[.int .i64 x, .int .i64 y] 34)).heap.size := by simp
              have wl : IntKind.i64.wrap ((L : Int) - 1) = (M : Int) := by rw [IntKind.wrap_i64]; omega
              have p0 : decide ((M : Int) ≥ 0) = true := by simp
              have p1 : (M : Int) < (L : Int) := by omega
              clear e0 e1 fz ho1 hb6 hL hM hLn
              go_wp2_with fail
              generalize wr.alloc (.cells #[.int .i64 x, .int .i64 y] 34) = wa at *
              generalize wr.heap.size = nb at *
              have G0 := fun n os => cell_grown (show (⟨g, M * 2, none⟩ : Addr).block < wa.heap.size by show g < _; omega) g0 n os
              have G1 := fun n os => cell_grown (show (⟨g, M * 2 + 1, none⟩ : Addr).block < wa.heap.size by show g < _; omega) g1 n os
              have B0 := fun n os => cell_grown (show (⟨nb, 0, none⟩ : Addr).block < wa.heap.size by exact hsz) b0 n os
              have CB := Lib.hid (fun n os => (behind_run (Sort.grow (wa.drewN n) os) z1 z2 hmz).mono fun e w' (h : e = .returned (.int .i64 (z1 + z2)) ∧ w' = _) => (⟨h.1, 0, _, h.2.trans (Sort.alloc_eq_grow _ _)⟩ : e = .returned (.int .i64 (z1 + z2)) ∧ ∃ q os', w' = Sort.grow ((Sort.grow (wa.drewN n) os).drewN q) os'))
              by_cases hxz : z1 + z2 = x
              · have t2 : decide (z1 + z2 = x) = true := by simpa using hxz
                have HXS := Lib.hid (show mrg (l.take (k + 1)) = ini ++ [(z1, z2 + y)] by rw [HST.out]; exact stp_eq hxz)
                go_quiet_grown (first | (go_at_call 42; refine Calls.grown_of (CB.out _ _)))
                have HG := Lib.hid (below_grown wa nq osq)
                have d0 := G0 nq osq
                have d1 := G1 nq osq
                have d2 := (HG.out.cell (p := ⟨nb, 1, none⟩) hsz).trans b1
                have d3 := (HG.out.frozen (p := ⟨g, M * 2 + 1, none⟩) (by show g < _; omega)).trans f1
                have HOD := Lib.hid (HO1.out.below HG.out)
                have HBD := Lib.hid (HB6.out.trans (HG.out.mono (by omega)))
                clear G0 G1 B0 CB g0 g1 f1 b0 b1 HO1 HB6 HG
                generalize Sort.grow (wa.drewN nq) osq = wd at *
                have wy : IntKind.i64.wrap (z2 + y) = z2 + y := by have := HMX.out; exact wrap_in (by omega) (by omega)
                go_wp2_with fail
                refine region_tail 10 (by kernel_rfl) (by kernel_rfl) ?_
                intro we hwe
                have e1 : we.cell? ⟨g, M * 2 + 1, none⟩ = some (.int .i64 z2) := by rw [hwe]; exact d1
                have e2 : we.cell? ⟨nb, 1, none⟩ = some (.int .i64 y) := by rw [hwe]; exact d2
                have e3 : we.frozen? ⟨g, M * 2 + 1, none⟩ = false := by rw [hwe]; exact d3
                have HOE := Lib.hid (show Own2 we w5.heap.size (.slice (some ⟨g, 0, none⟩) L cv) (ini ++ [(z1, z2)]) by rw [hwe]; exact HOD.out)
                have HBE := Lib.hid (show Below w5.heap.size w5 we by rw [hwe]; exact HBD.out.drew)
                clear hwe d0 d1 d2 d3 HOD HBD
                simp only [List.take_succ_cons, List.take_zero, List.drop_succ_cons, List.drop_zero]
                obtain ⟨X1, X2⟩ := HOE.out.longer (by rw [HM.out, HLL.out]) (z2 + y)
                rw [HM.out] at X1 X2
                have HX1 := Lib.hid X1
                have HX2 := Lib.hid (HBE.out.grown X2 HBE.out.size (fun q hq => by simp only [Option.some.injEq] at hq; omega))
                rw [← HXS.out] at HX1
                clear X1 X2
                repeat still_step
                refine wpStill_nil ?_
                go_wp2
                go_roundw
                case rel => exact ⟨k + 1, by omega, by go_num, HX1.out, HX2.out⟩
                case measure => simp [intOf]; omega
              · have t2 : decide (z1 + z2 = x) = false := by simpa using hxz
                have HXS := Lib.hid (show mrg (l.take (k + 1)) = ini ++ [(z1, z2)] ++ [(x, y)] by rw [HST.out]; exact stp_ne hxz)
                go_quiet_grown (first | (go_at_call 42; refine Calls.grown_of (CB.out _ _)))
                have HG := Lib.hid (below_grown wa nq osq)
                have d1 := B0 nq osq
                have d2 := (HG.out.cell (p := ⟨nb, 1, none⟩) hsz).trans b1
                have HO7 := Lib.hid (HO1.out.below HG.out)
                have HB7 := Lib.hid (HB6.out.trans (HG.out.mono (by omega)))
                clear G0 G1 B0 CB g0 g1 f1 b0 b1 HO1 HB6 HG
                generalize Sort.grow (wa.drewN nq) osq = wd at *
                have HXD := Lib.hid (exts_lit wd (x, y) (i64_may ((may_iff _).2 HMX.out)))
                have HOD := Lib.hid (HO7.out.alloc (.cells #[.int .i64 x, .int .i64 y] 34))
                have HBD := Lib.hid (HB7.out.alloc HB7.out.size (.cells #[.int .i64 x, .int .i64 y] 34))
                go_wp2_with (at_builtin; refine append_exts rfl (.tmp 60) (.tmp 62) rfl w5.heap.size _ (ini ++ [(z1, z2)]) rfl HOD.out (some ⟨wd.heap.size, 0, none⟩) 1 1 [(x, y)] rfl (fun h => by cases h) rfl (by simpa using HXD.out) (by have := HEQ.out; omega) HBD.out.size ?_; intro v' w7 hown' hbel' _ _)
                rw [← HXS.out] at hown'
                go_roundw
                case rel => exact ⟨k + 1, by omega, by go_num, hown', HBD.out.trans hbel'⟩
                case measure => simp [intOf]; omega
          · obtain rfl : k = N := by omega
            have t1 : decide ((k : Int) < (k : Int)) = false := by simp
            have hfull : mrg (l.take k) = mrg l := by rw [List.take_of_length_le (by rw [HN.out]; exact Nat.le_refl _)]
            rw [hfull] at hown
            obtain ⟨s1, s2, s3⟩ := mrg_spec HAP.out
            have HF := Lib.hid (show JoinP a b w (.returned (.tuple #[u7, .bool true])) wr from ⟨_, mrg l, by rw [HJ.out], hown.low HW7.out.size, HW7.out.trans (hB.mono HW7.out.size), fun _ => ⟨s1, fun u => by rw [s2, ← mem_perm HPERM.out, mem_append], by rw [s3, ← total_perm HPERM.out, total_append]⟩, (fun e => by rw [HJ.out] at e; cases e), (by
              have := length_mrg l
              have := HPERM.out.length_eq
              rw [List.length_append] at this
              omega)⟩)
            clear hown hB s1 s2 s3 hfull
            go_wp2
            go_ret2
            exact HF.out
      · rw [Bool.not_eq_true] at hch
        rw [hch] at C3
        have HJ := Lib.hid (show joins a b = false by unfold joins; rw [hra, hrb, hch]; rfl)
        go_wp2_with fail
        refine C3.out.mono ?_
        rintro e w4 ⟨rfl, hb4⟩
        have HW6 := Lib.hid (HW5.out.trans (hb4.mono HW5.out.size))
        clear hb4 C3
        go_wp2
        go_ret2
        exact joinP_not HJ.out HW6.out
    · rw [Bool.not_eq_true] at hrb
      rw [hrb] at C2
      have HJ := Lib.hid (show joins a b = false by unfold joins; rw [hrb]; simp)
      go_wp2_with fail
      refine C2.out.mono ?_
      rintro e w3 ⟨rfl, hb3⟩
      have HW5 := Lib.hid (HW3.out.trans (hb3.mono HW3.out.size))
      clear hb3 C2
      go_wp2
      go_ret2
      exact joinP_not HJ.out HW5.out
  · rw [Bool.not_eq_true] at hra
    rw [hra] at C1
    have HJ := Lib.hid (show joins a b = false by unfold joins; rw [hra]; rfl)
    go_wp2_with fail
    refine C1.out.mono ?_
    rintro e w2 ⟨rfl, hb2⟩
    have HW3 := Lib.hid (HW1.out.trans (hb2.mono HW1.out.size))
    clear hb2 C1
    go_wp2
    go_ret2
    exact joinP_not HJ.out HW3.out
end Go.Proofs.Ytjeiechkndfhmaa
