/-
  The contract of sbox.Swap: any list of 256 bytes. No conditions.
-/
import Derived.Test.YtonoidhlbnbhcaaDoorArr
import Derived.Test.YtonoidhlbnbhcaaDoorSwapNum
import Derived.Test.YtonoidhlbnbhcaaDoorRows
namespace Go.Proofs.YtonoidhlbnbhcaaDoor
open Go.RowKit Arr Sw

theorem o23 : Arr.Of Tryd.prog 51 5 256 .u8 := ⟨by kernel_rfl, by kernel_rfl, by kernel_rfl, by kernel_rfl⟩
theorem z23 : (Tryd.prog.info? 51).bind (·.zero) = some (.agg (na .u8 (zs 256))) := by kernel_rfl
theorem b23 : Tryd.prog.built 51 [] = some (na .u8 (zs 256)) := by kernel_rfl
/-- None met. -/
def fs : List Value := List.replicate 256 (.bool false)
theorem zb : (Tryd.prog.info? 81).bind (·.zero) = some (.agg fs.toArray) := by kernel_rfl
/-- What was met, as values. -/
def mv (l : List Nat) (k : Nat) : List Value := (met l k).map fun b => .bool b
theorem length_mv (l : List Nat) (k : Nat) : (mv l k).length = 256 := by rw [mv, List.length_map, length_met]
theorem mv_get (l : List Nat) (k b : Nat) (hb : b < 256) : (mv l k)[b]? = some (.bool (decide (b ∈ l.take k))) := by rw [mv, List.getElem?_map, met_get l k b hb]; rfl
theorem mv_none (l : List Nat) : mv l 0 = fs := by rw [mv, met_none, List.map_replicate]; rfl
theorem mv_more (l : List Nat) (k : Nat) (hk : k < l.length) : mv l (k + 1) = (mv l k).set (l.getD k 0) (.bool true) := by rw [mv, met_more l k hk, List.map_set]; rfl
theorem pl_zs (l : List Nat) : pl l 0 = zs 256 := pl_none l

/-- What a call of Swap leaves. -/
def Swapped (l : List Nat) (w : World) (e : Ending) (w' : World) : Prop :=
  ∃ (x : List Nat) (ok : Bool), e = .returned (.tuple #[.agg (na .u8 x), .bool ok]) ∧ ((ok = true ∧ l.Nodup ∧ x = sw l) ∨ (ok = false ∧ ¬ l.Nodup ∧ x = zs 256)) ∧ Below w.heap.size w w'

set_option maxHeartbeats 2000000 in
theorem swap_any (l : List Nat) (hl : l.length = 256) (hb : Sw.Bytes l) (w : World) : Calls Tryd.prog 26 #[.agg (na .u8 l)] w (Swapped l w) := by
  obtain ⟨w1, e1⟩ : ∃ w1, w1 = w.alloc (.cells (na .u8 l) 51) := ⟨_, rfl⟩
  obtain ⟨w2, e2⟩ : ∃ w2, w2 = w1.alloc (.cells (na .u8 (zs 256)) 51) := ⟨_, rfl⟩
  obtain ⟨w3, e3⟩ : ∃ w3, w3 = w2.alloc (.cells (na .u8 (zs 256)) 51) := ⟨_, rfl⟩
  obtain ⟨w4, e4⟩ : ∃ w4, w4 = w3.alloc (.cells fs.toArray 81) := ⟨_, rfl⟩
  have s1 : w1.heap.size = w.heap.size + 1 := by rw [e1, World.size_alloc]
  have s2 : w2.heap.size = w.heap.size + 1 + 1 := by rw [e2, World.size_alloc, s1]
  have s3 : w3.heap.size = w.heap.size + 1 + 1 + 1 := by rw [e3, World.size_alloc, s2]
  have A1 : Holds w1 w.heap.size .u8 l := e1 ▸ Holds.new w _ .u8 l
  have A2 : Holds w2 (w.heap.size + 1) .u8 (zs 256) := by rw [← s1, e2]; exact Holds.new w1 _ .u8 _
  have A3 : Holds w3 (w.heap.size + 1 + 1) .u8 (zs 256) := by rw [← s2, e3]; exact Holds.new w2 _ .u8 _
  have A4 : HV w4 (w.heap.size + 1 + 1 + 1) fs := by rw [← s3, e4]; exact HV.new w3 _ fs
  have B1 : Holds w4 w.heap.size .u8 l := by rw [e4, e3, e2]; exact ((A1.alloc _).alloc _).alloc _
  have B2 : Holds w4 (w.heap.size + 1) .u8 (zs 256) := by rw [e4, e3]; exact (A2.alloc _).alloc _
  have B3 : Holds w4 (w.heap.size + 1 + 1) .u8 (zs 256) := by rw [e4]; exact A3.alloc _
  have B5 : Below w.heap.size w w4 := by
    rw [e4, e3, e2, e1]
    exact ((((Below.refl w.heap.size w).alloc (Nat.le_refl _) _).alloc (by simp) _).alloc (by simp; omega) _).alloc (by simp; omega) _
  rw [e3, e2, e1] at e4
  subst e4
  clear A1 A2 A3 e1 e2 e3 s1 s2 s3 w1 w2 w3
  have B1 := Lib.hid B1
  have B2 := Lib.hid B2
  have B3 := Lib.hid B3
  have B4 := Lib.hid A4; clear A4
  have B5 := Lib.hid B5
  have hl' := Lib.hid hl
  go_enter Tryd.func26, Tryd.ntmps26
  go_wp2_with (first | (with_reducible refine Arr.alloc (t := 51) _ z23 ?_) | (with_reducible refine Arr.alloc (t := 81) _ zb ?_) | (with_reducible refine Arr.load o23 w.heap.size l hl'.out B1.out rfl ?_))
  go_loopw [9] (fun i wr => ∃ k : Nat, k ≤ 256 ∧ i = .int .i64 (k : Nat) ∧ (l.take k).Nodup ∧ Holds wr (w.heap.size + 1) .u8 (zs 256) ∧ Holds wr (w.heap.size + 1 + 1) .u8 (pl l k) ∧ HV wr (w.heap.size + 1 + 1 + 1) (mv l k) ∧ Below w.heap.size w wr) (fun i _ => 256 - (intOf i).toNat)
  case atStart => exact ⟨0, by omega, rfl, by simp, B2.out, by rw [pl_zs]; exact B3.out, by rw [mv_none]; exact B4.out, B5.out⟩
  case round =>
    clear B1 B2 B3 B4 B5
    obtain ⟨k, hk, rfl, h0, h1, h2, h3, h4⟩ := hrel
    have H0 := Lib.hid h0; clear h0
    have H1 := Lib.hid h1; clear h1
    have H2 := Lib.hid h2; clear h2
    have H3 := Lib.hid h3; clear h3
    have H4 := Lib.hid h4; clear h4
    by_cases hlt : k < 256
    · have hg := Arr.index o23 wr l hl'.out .i64 k hlt
      have hc := hb k
      have hk' : k < l.length := by omega
      have hcell := H3.out.cell (l.getD k 0) _ (mv_get l k _ hc)
      have hfro := H3.out.frozen (l.getD k 0) (by rw [length_mv]; exact hc)
      have ht : decide ((k : Int) < 256) = true := by simp; omega
      by_cases hm : l.getD k 0 ∈ l.take k
      · have HN := Lib.hid (not_nodup l k hk' hm)
        rw [decide_eq_true hm] at hcell
        clear hm hk'
        generalize l.getD k 0 = c at *
        go_wp2_with (first | (with_reducible refine Arr.build_none _ b23 ?_) | (with_reducible refine Arr.store o23 (w.heap.size + 1) (zs 256) (zs 256) (length_zs _) H1.out (length_zs _) rfl rfl ?_))
        exact bodyPost_ret (v := .tuple #[.agg (na .u8 (zs 256)), .bool false]) (results_arr2 o23 rfl _ _ (w.heap.size + 1) (zs 256) (length_zs _) (H1.out.put _ (by rw [length_zs])) rfl _ rfl) rfl ⟨_, _, rfl, .inr ⟨rfl, HN.out, rfl⟩, below_setCells (by omega) _ _ _ H4.out⟩
      · have HN := Lib.hid (nodup_more l k hk' H0.out hm)
        have HM := Lib.hid (mv_more l k hk')
        have HP := Lib.hid (pl_more l k hk' hm)
        have hcell2 := H2.out.cell (l.getD k 0) (by rw [length_pl]; exact hc)
        have hfro2 := H2.out.frozen (l.getD k 0) (by rw [length_pl]; exact hc)
        rw [decide_eq_false hm] at hcell
        have hw : (k : Int) % 256 = (k : Int) := by omega
        clear hm hk'
        generalize l.getD k 0 = c at *
        generalize (pl l k).getD c 0 = old at *
        have X2 : Holds ((wr.setCell ⟨w.heap.size + 1 + 1 + 1, c, none⟩ (.bool true)).setCell ⟨w.heap.size + 1 + 1, c, none⟩ (.int .u8 (k : Int))) (w.heap.size + 1 + 1) .u8 (pl l (k + 1)) := by
          rw [HP.out]; exact (H2.out.beside _ _ (by simp)).set c k (by rw [length_pl]; exact hc)
        have X3 : HV ((wr.setCell ⟨w.heap.size + 1 + 1 + 1, c, none⟩ (.bool true)).setCell ⟨w.heap.size + 1 + 1, c, none⟩ (.int .u8 (k : Int))) (w.heap.size + 1 + 1 + 1) (mv l (k + 1)) := by
          rw [HM.out]; exact (H3.out.set c _ (by rw [length_mv]; exact hc)).beside _ _ (by simp)
        have X1 := (H1.out.beside ⟨w.heap.size + 1 + 1 + 1, c, none⟩ (.bool true) (show w.heap.size + 1 + 1 + 1 ≠ w.heap.size + 1 by omega)).beside ⟨w.heap.size + 1 + 1, c, none⟩ (.int .u8 (k : Int)) (show w.heap.size + 1 + 1 ≠ w.heap.size + 1 by omega)
        have X4 := (H4.out.setCell (p := ⟨w.heap.size + 1 + 1 + 1, c, none⟩) (show w.heap.size ≤ w.heap.size + 1 + 1 + 1 by omega) (.bool true)).setCell (p := ⟨w.heap.size + 1 + 1, c, none⟩) (show w.heap.size ≤ w.heap.size + 1 + 1 by omega) (.int .u8 (k : Int))
        have X1 := Lib.hid X1
        have X2 := Lib.hid X2
        have X3 := Lib.hid X3
        have X4 := Lib.hid X4
        go_wp2
        go_roundw
        case rel => exact ⟨k + 1, by omega, by go_num, HN.out, X1.out, X2.out, X3.out, X4.out⟩
        case measure => simp [intOf]; omega
    · obtain rfl : k = 256 := by omega
      have HN := Lib.hid (show l.Nodup by have := H0.out; rwa [List.take_of_length_le (by rw [hl'.out]; omega)] at this)
      go_wp2_with (first | (with_reducible refine Arr.load o23 (w.heap.size + 1 + 1) (pl l 256) (length_pl _ _) H2.out rfl ?_) | (with_reducible refine Arr.store o23 (w.heap.size + 1) (zs 256) (pl l 256) (length_zs _) H1.out (length_pl _ _) rfl rfl ?_))
      exact bodyPost_ret (v := .tuple #[.agg (na .u8 (pl l 256)), .bool true]) (results_arr2 o23 rfl _ _ (w.heap.size + 1) (pl l 256) (length_pl _ _) (H1.out.put _ (by rw [length_pl, length_zs])) rfl _ rfl) rfl ⟨_, _, rfl, .inl ⟨rfl, HN.out, rfl⟩, below_setCells (by omega) _ _ _ H4.out⟩
end Go.Proofs.YtonoidhlbnbhcaaDoor
