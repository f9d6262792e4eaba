/-
  Contracts of the reference's times and above. Conditions: the digits lie in their rows.
-/
import Derived.Test.YtjcpnephgbehmaaDoorRootNum
import Derived.Test.YtjcpnephgbehmaaDoorShaRefFns
import Derived.Test.YtjcpnephgbehmaaDoorOwnMany
import Derived.Test.YtjcpnephgbehmaaDoorOwnArr
import Derived.Deep.OwnRows
namespace Go.Proofs.YtjcpnephgbehmaaDoor
open Go.RowKit Arr Sh Ro

/-- A row of ints that is read. -/
def TabI (w : World) (b : Nat) (l : List Nat) : Prop := ∀ j, j < l.length → w.cell? ⟨b, j, none⟩ = some (.int .i64 ((l.getD j 0 : Nat) : Int))
theorem TabI.lt {w : World} {b : Nat} {l : List Nat} (h : TabI w b l) (hl : 0 < l.length) : b < w.heap.size := lt_of_cell (h 0 hl)
theorem TabI.below {w w' : World} {b B : Nat} {l : List Nat} (h : TabI w b l) (hb : Below B w w') (hg : b < B) : TabI w' b l := fun j hj => (hb.cell (p := ⟨b, j, none⟩) hg).trans (h j hj)
theorem tabI_of {w : World} {g : Nat} {l : List Nat} (h : Holds w g .i64 l) : TabI w g l := fun j hj => h.cell j hj
theorem info_i64 : (Tryd.prog.info? 3).map (fun i => (i.zero, i.size, i.bytes)) = some (some (.int .i64 0), 1, 8) := by kernel_rfl
theorem made_ints (s : Nat) : madeCells #[.int .i64 0] s = na .i64 (zs s) := by
  apply Array.ext_getElem?
  intro i
  by_cases hi : i < s
  · rw [na_get _ _ _ (by rw [length_zs]; exact hi), zs_get]
    simp [madeCells, hi, Nat.mod_one]
  · rw [Array.getElem?_eq_none (by rw [size_madeCells]; omega), Array.getElem?_eq_none (by rw [size_na, length_zs]; omega)]
theorem wrap_big (n : Nat) (h : n < 4611686018427387904) : IntKind.i64.wrap (n : Int) = (n : Int) := by rw [IntKind.wrap_i64]; omega
/-- What a call leaves that hands new ints back. -/
def MadeInts (l : List Nat) (w : World) (e : Ending) (w' : World) : Prop := ∃ g c, e = .returned (.slice (some ⟨g, 0, none⟩) l.length c) ∧ Holds w' g .i64 l ∧ w.heap.size ≤ g ∧ Below w.heap.size w w'

set_option maxHeartbeats 4000000 in
set_option maxRecDepth 10000 in
theorem times5_any (a b : List Nat) (ha : Dg a) (hb : Dg b) (la lb : Nat) (hla : a.length = la) (hlb : b.length = lb) (h0 : la ≤ 20) (h1 : lb ≤ 20) (h2 : 0 < la) (h3 : 0 < lb) (ga gb ca cb : Nat) (w : World) (hA : TabI w ga a) (hB : TabI w gb b) :
    Calls Tryd.prog 30 #[.slice (some ⟨ga, 0, none⟩) la ca, .slice (some ⟨gb, 0, none⟩) lb cb] w (MadeInts (timesL a b) w) := by
  have hmk : ∀ W : World, (Instr.makeSlice 50 (.int .i64 ((la : Int) + (lb : Int))) (.int .i64 ((la : Int) + (lb : Int)))).run Tryd.prog W = .ok (.slice (some ⟨W.heap.size, 0, none⟩) (la + lb) (la + lb)) (W.alloc (.cells (na .i64 (zs (la + lb))) 3)) := by
    rw [← made_ints, show (la : Int) + (lb : Int) = ((la + lb : Nat) : Int) by omega]
    exact run_make_row' (P := Tryd.prog) 50 3 (.int .i64 0) 8 Tryd.underlying50 info_i64 rfl .i64 .i64 (la + lb) (by omega) (by omega)
  have A1 := Lib.hid (Holds.new w 3 .i64 (zs (la + lb)))
  have A2 := Lib.hid (below_alloc w (.cells (na .i64 (zs (la + lb))) 3))
  have hgw := hA.lt (by omega)
  have hgw2 := hB.lt (by omega)
  have HA := Lib.hid hA
  have HB := Lib.hid hB
  have HDa := Lib.hid ha
  have HDb := Lib.hid hb
  have HLa := Lib.hid hla
  have HLb := Lib.hid hlb
  have HT : Go.RowKit.Hid (outL b (a.drop 0) 0 (zs (la + lb)) = timesL a b) := Lib.hid (by rw [timesL, hla, hlb]; rfl)
  have HTL : Go.RowKit.Hid ((timesL a b).length = la + lb) := Lib.hid (by rw [(timesL_ok a b ha hb).2, hla, hlb])
  have LZ := length_zs (la + lb)
  clear hA hB ha hb hla hlb
  go_enter Tryd.func30, Tryd.ntmps30
  go_wp2_with fail
  clear hmk
  generalize w.alloc (.cells (na .i64 (zs (la + lb))) 3) = w1 at *
  go_loopw [6] (fun i wr => ∃ (i0 : Nat) (o : List Nat), i0 ≤ la ∧ i = .int .i64 (i0 : Nat) ∧ o.length = la + lb ∧ Dg o ∧ (∀ j, i0 + lb ≤ j → o.getD j 0 = 0) ∧ outL b (a.drop i0) i0 o = timesL a b ∧ Holds wr w.heap.size .i64 o ∧ Below w.heap.size w wr) (fun i _ => la - (intOf i).toNat)
  case atStart => exact ⟨0, zs (la + lb), by omega, rfl, LZ, Dg.zs _, fun j _ => zs_get _ _, HT.out, A1.out, A2.out⟩
  case round =>
    clear A1 A2 HT LZ
    obtain ⟨i, o, hi, rfl, hol, hod, hoz, hoo, hH, hBl⟩ := hrel
    generalize wr = wo at *
    have tt0 : a.length = la := HLa.out
    by_cases hlt : i < la
    · have t1 : decide ((i : Int) < (la : Int)) = true := by simp; omega
      have ti : (i : Int) < (la : Int) := by omega
      have hai := HDa.out i
      have hdr : a.drop i = a.getD i 0 :: a.drop (i + 1) := by
        rw [List.drop_eq_getElem_cons (by omega)]
        simp [show i < a.length by omega]
      rw [hdr, outL] at hoo
      have hfin := fin_ok (a.getD i 0) i hai b o hod HDb.out.mem (fun j hj => hoz j (by have := HLb.out; omega))
      rw [HLb.out] at hoo hfin
      have HOO := Lib.hid hoo
      have HFIN := Lib.hid hfin
      have cA : ∀ wx, Below w.heap.size w wx → wx.cell? ⟨ga, i, none⟩ = some (.int .i64 ((a.getD i 0 : Nat) : Int)) := fun wx h => (HA.out.below h hgw) i (by omega)
      have CA := Lib.hid cA
      have HH := Lib.hid hH
      have HBo := Lib.hid hBl
      have HOD := Lib.hid hod
      have HOL := Lib.hid hol
      clear hoo hfin cA hH hBl hod hoz hol hdr tt0 HA HDa HLa
      generalize a.getD i 0 = ai at *
      go_wp2_with fail
      go_loopw [7, 8] (fun c k wx => ∃ (k0 c0 : Nat) (o' : List Nat), k0 ≤ lb ∧ k = .int .i64 (k0 : Nat) ∧ c = .int .i64 (c0 : Nat) ∧ c0 < 65536 ∧ o'.length = la + lb ∧ Dg o' ∧ inn ai i (b.drop k0) k0 o' c0 = inn ai i b 0 o 0 ∧ Holds wx w.heap.size .i64 o' ∧ Below w.heap.size w wx) (fun _ k _ => lb - (intOf k).toNat)
      case atStart => exact ⟨0, 0, o, by omega, rfl, rfl, by omega, HOL.out, HOD.out, rfl, HH.out, HBo.out⟩
      case round =>
        clear HH HBo HOD HOL
        obtain ⟨k, c, o', hk, rfl, rfl, hc, hol, hod, hin, hH, hBl⟩ := hrel
        have hlb0 : b.length = lb := HLb.out
        by_cases hlk : k < lb
        · have t2 : decide ((k : Int) < (lb : Int)) = true := by simp; omega
          have tk : (k : Int) < (lb : Int) := by omega
          have hbk := HDb.out k
          have hdr : b.drop k = b.getD k 0 :: b.drop (k + 1) := by
            rw [List.drop_eq_getElem_cons (by omega)]
            simp [show k < b.length by omega]
          rw [hdr, inn] at hin
          have cA := CA.out wr hBl
          have cB : wr.cell? ⟨gb, k, none⟩ = some (.int .i64 ((b.getD k 0 : Nat) : Int)) := (HB.out.below hBl hgw2) k (by omega)
          obtain ⟨q, hq⟩ : ∃ q, q = i + k := ⟨_, rfl⟩
          have eq : (i : Int) + (k : Int) = (q : Int) := by omega
          have iq : (q : Int) < (la : Int) + (lb : Int) := by omega
          have wq := wrap_nat q (by omega)
          rw [← hq] at hin
          have cO := hH.cell q (by omega)
          have fO := hH.frozen q (by omega)
          have hoq := hod q
          have hpr := mul_lt ai (b.getD k 0) hai hbk
          obtain ⟨pr, epr⟩ : ∃ pr, pr = ai * b.getD k 0 := ⟨_, rfl⟩
          rw [← epr] at hin hpr
          have ep : (ai : Int) * ((b.getD k 0 : Nat) : Int) = (pr : Int) := by rw [epr]; simp
          generalize b.getD k 0 = bk at *
          have HO0 := Lib.hid (show o'.getD q 0 = o'.getD q 0 from rfl)
          generalize hx : o'.getD q 0 = x at *
          obtain ⟨s1, es1⟩ : ∃ s, s = x + pr := ⟨_, rfl⟩
          obtain ⟨s2, es2⟩ : ∃ s, s = s1 + c := ⟨_, rfl⟩
          rw [← es1, ← es2] at hin
          have f1 : (x : Int) + (pr : Int) = (s1 : Int) := by omega
          have f2 : (s1 : Int) + (c : Int) = (s2 : Int) := by omega
          have w1 := wrap_big pr (by omega)
          have w2 := wrap_big s1 (by omega)
          have w3 := wrap_big s2 (by omega)
          obtain ⟨m, em⟩ : ∃ m, m = s2 % 65536 := ⟨_, rfl⟩
          obtain ⟨d, ed⟩ : ∃ d, d = s2 / 65536 := ⟨_, rfl⟩
          rw [← em, ← ed] at hin
          have f3 : (s2 : Int) % 65536 = (m : Int) := by omega
          have f4 : (s2 : Int) / 65536 = (d : Int) := by omega
          have hd : d < 65536 := by omega
          have hm : m < 65536 := by omega
          have X1 := Lib.hid (hH.set q m (by omega))
          have X2 := Lib.hid (hBl.setCell (p := ⟨w.heap.size, q, none⟩) (Nat.le_refl _) (.int .i64 (m : Int)))
          have X3 := Lib.hid (hod.set q m hm)
          have X4 : Go.RowKit.Hid ((o'.set q m).length = la + lb) := Lib.hid (by rw [List.length_set]; exact hol)
          have X5 := Lib.hid hin
          clear hin hdr hod hol hlb0 hq epr es1 es2 em ed hx HO0 hpr hbk hoq hH hBl hm
          go_wp2_with fail
          go_quiet (fail)
          have Y1 : Go.RowKit.Hid (Holds ((wr.drewN nq).setCell ⟨w.heap.size, q, none⟩ (.int .i64 (m : Int))) w.heap.size .i64 (o'.set q m)) := Lib.hid X1.out
          have Y2 : Go.RowKit.Hid (Below w.heap.size w ((wr.drewN nq).setCell ⟨w.heap.size, q, none⟩ (.int .i64 (m : Int)))) := Lib.hid ⟨X2.out.os, X2.out.tape, X2.out.output, X2.out.size, X2.out.block⟩
          have cO2 : (wr.drewN nq).cell? ⟨w.heap.size, q, none⟩ = some (.int .i64 (x : Int)) := cO
          have fO2 : (wr.drewN nq).frozen? ⟨w.heap.size, q, none⟩ = false := fO
          clear X1 X2 cO fO cA cB
          generalize wr.drewN nq = wz at *
          go_wp2
          go_roundw
          case rel => exact ⟨k + 1, d, o'.set q m, by omega, by go_num, rfl, hd, X4.out, X3.out, X5.out, Y1.out, Y2.out⟩
          case measure => simp [intOf]; omega
        · obtain rfl : k = lb := by omega
          have hnil : b.drop k = [] := List.drop_of_length_le (by omega)
          rw [hnil, inn] at hin
          have hf := HFIN.out
          have ho := HOO.out
          rw [← hin] at hf ho
          have ef : fin i k (o', c) = o'.set (i + k) (o'.getD (i + k) 0 + c) := rfl
          rw [ef] at hf ho
          obtain ⟨q, hq⟩ : ∃ q, q = i + k := ⟨_, rfl⟩
          rw [← hq] at hf ho
          have t2 : decide ((k : Int) < (k : Int)) = false := by simp
          have eq : (i : Int) + (k : Int) = (q : Int) := by omega
          have iq : (q : Int) < (la : Int) + (k : Int) := by omega
          have wq := wrap_nat q (by omega)
          have cO := hH.cell q (by omega)
          have fO := hH.frozen q (by omega)
          have hoq := hod q
          have X1 := hH.set q (o'.getD q 0 + c) (by omega)
          have X2 := hBl.setCell (p := ⟨w.heap.size, q, none⟩) (Nat.le_refl _) (.int .i64 ((o'.getD q 0 + c : Nat) : Int))
          obtain ⟨f1, f2, f3⟩ := hf
          have f2' : (o'.set q (o'.getD q 0 + c)).length = la + k := by rw [List.length_set]; exact hol
          obtain ⟨s1, es1⟩ : ∃ s, s = o'.getD q 0 + c := ⟨_, rfl⟩
          rw [← es1] at X1 X2 f1 f2' f3 ho
          have e1 : ((o'.getD q 0 : Nat) : Int) + (c : Int) = (s1 : Int) := by omega
          have w2 := wrap_big s1 (by omega)
          have Y1 := Lib.hid X1
          have Y2 := Lib.hid X2
          have Y3 := Lib.hid f1
          have Y4 := Lib.hid f2'
          have Y5 := Lib.hid f3
          have Y6 := Lib.hid ho
          clear X1 X2 f1 f2 f2' f3 ho hin hnil ef hq es1 hoq hod hol hH hBl HFIN HOO hlb0
          generalize o'.getD q 0 = x at *
          go_wp2
          go_roundw
          case rel => exact ⟨i + 1, o'.set q s1, by omega, by go_num, Y4.out, Y3.out, fun j hj => Y5.out j (by omega), Y6.out, Y1.out, Y2.out⟩
          case measure => simp [intOf]; omega
    · obtain rfl : i = la := by omega
      have hnil : a.drop i = [] := List.drop_of_length_le (by omega)
      rw [hnil, outL] at hoo
      have t1 : decide ((i : Int) < (i : Int)) = false := by simp
      rw [hoo] at hH
      have HH := Lib.hid hH
      have HBo := Lib.hid hBl
      clear hH hBl hoo hod hoz hol hnil tt0
      go_wp2
      go_ret
      exact ⟨w.heap.size, i + lb, by rw [HTL.out]; rfl, HH.out, Nat.le_refl _, HBo.out⟩
end Go.Proofs.YtjcpnephgbehmaaDoor
