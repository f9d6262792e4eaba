/-
  Contracts of the small functions of the layer aes over states. No conditions.
-/
import Derived.Test.YtonoidhlbnbhcaaDoorBoxAll
import Derived.Test.YtonoidhlbnbhcaaDoorNumAll
import Derived.Test.YtonoidhlbnbhcaaDoorAesStill
namespace Go.Proofs.YtonoidhlbnbhcaaDoor
open Go.RowKit Arr Gf Ae

theorem o16 : Arr.Of Tryd.prog 45 5 16 .u8 := ⟨by kernel_rfl, by kernel_rfl, by kernel_rfl, by kernel_rfl⟩
theorem z16 : (Tryd.prog.info? 45).bind (·.zero) = some (.agg (na .u8 (zs 16))) := by kernel_rfl
theorem b16 : Tryd.prog.built 45 [] = some (na .u8 (zs 16)) := by kernel_rfl

/-- Two new blocks: one holds b, one noughts. -/
theorem two_new (w : World) (b : List Nat) (t : TypeId) :
    Holds ((w.alloc (.cells (na .u8 b) t)).alloc (.cells (na .u8 (zs 16)) t)) w.heap.size .u8 b ∧ Holds ((w.alloc (.cells (na .u8 b) t)).alloc (.cells (na .u8 (zs 16)) t)) (w.heap.size + 1) .u8 (zs 16) ∧
    Below w.heap.size w ((w.alloc (.cells (na .u8 b) t)).alloc (.cells (na .u8 (zs 16)) t)) := by
  have s1 : (w.alloc (.cells (na .u8 b) t)).heap.size = w.heap.size + 1 := World.size_alloc ..
  have h := Holds.new (w.alloc (.cells (na .u8 b) t)) t .u8 (zs 16)
  rw [s1] at h
  exact ⟨(Holds.new w t .u8 b).alloc _, h, ((Below.refl w.heap.size w).alloc (Nat.le_refl _) _).alloc (by rw [s1]; omega) _⟩

set_option maxHeartbeats 1000000 in
theorem boxed_any (b t : List Nat) (hb : St b) (ht : t.length = 256) (g o : Nat) (w : World) (hg : HAt w g o .u8 t) : Calls Tryd.prog 58 #[.agg (na .u8 b), .pointer (some ⟨g, o, none⟩)] w (GivesA (subL t b) w) := by
  obtain ⟨B1, B2, B3⟩ := two_new w b 45
  have hgw : g < w.heap.size := hg.lt (by omega)
  have hl := Lib.hid hb.1
  have B1 := Lib.hid B1
  have B2 := Lib.hid B2
  have B3 := Lib.hid B3
  have HG := Lib.hid hg; clear hg
  go_enter Tryd.func58, Tryd.ntmps58
  go_wp2_with (first | (with_reducible refine Arr.alloc (t := 45) _ z16 ?_) | (with_reducible refine Arr.load o16 w.heap.size b hl.out B1.out rfl ?_))
  go_loopw [8] (fun i wr => ∃ k : Nat, k ≤ 16 ∧ i = .int .i64 (k : Nat) ∧ Holds wr w.heap.size .u8 (upto (fun i => t.getD (b.getD i 0) 0) (fun i => b.getD i 0) 16 k) ∧ Holds wr (w.heap.size + 1) .u8 (zs 16) ∧ Below w.heap.size w wr) (fun i _ => 16 - (intOf i).toNat)
  case atStart => exact ⟨0, by omega, rfl, by rw [upto_zero _ _ _ hl.out]; exact B1.out, B2.out, B3.out⟩
  case round =>
    clear B1 B2 B3
    obtain ⟨k, hk, rfl, h1, h2, h3⟩ := hrel
    have H1 := Lib.hid h1; clear h1
    have H2 := Lib.hid h2; clear h2
    have H3 := Lib.hid h3; clear h3
    by_cases hlt : k < 16
    · have hi := Arr.index o16 wr b hl.out .i64 k hlt
      have hlt' : decide ((k : Int) < 16) = true := by simp; omega
      have ha := hb.2 k
      have hbx := (HG.out.below H3.out hgw).cell (b.getD k 0) (by omega)
      have hcell := H1.out.cell k (by rw [length_upto]; exact hlt)
      have hfro := H1.out.frozen k (by rw [length_upto]; exact hlt)
      have HS := upto_succ (fun i => t.getD (b.getD i 0) 0) (fun i => b.getD i 0) 16 k hlt
      have X1 := H1.out.set k (t.getD (b.getD k 0) 0) (by rw [length_upto]; exact hlt)
      rw [← HS] at X1
      clear HS
      generalize (upto (fun i => t.getD (b.getD i 0) 0) (fun i => b.getD i 0) 16 k).getD k 0 = old at *
      have X2 := H2.out.beside ⟨w.heap.size, k, none⟩ (.int .u8 ((t.getD (b.getD k 0) 0 : Nat) : Int)) (show w.heap.size ≠ w.heap.size + 1 by omega)
      have X3 := H3.out.setCell (p := ⟨w.heap.size, k, none⟩) (Nat.le_refl _) (.int .u8 ((t.getD (b.getD k 0) 0 : Nat) : Int))
      have X1 := Lib.hid X1
      have X2 := Lib.hid X2
      have X3 := Lib.hid X3
      generalize t.getD (b.getD k 0) 0 = c at *
      generalize b.getD k 0 = a at *
      go_wp2
      go_roundw
      case rel => exact ⟨k + 1, by omega, by go_num, X1.out, X2.out, X3.out⟩
      case measure => simp [intOf]; omega
    · obtain rfl : k = 16 := by omega
      have e : upto (fun i => t.getD (b.getD i 0) 0) (fun i => b.getD i 0) 16 16 = subL t b := upto_all ..
      rw [e] at H1
      have lm : (subL t b).length = 16 := by simp [subL]
      generalize subL t b = m at *
      clear e
      go_wp2_with (first | (with_reducible refine Arr.load o16 w.heap.size m lm H1.out rfl ?_) | (with_reducible refine Arr.store o16 (w.heap.size + 1) (zs 16) m (length_zs _) H2.out lm rfl rfl ?_))
      exact bodyPost_ret (v := .agg (na .u8 m)) (results_arr o16 rfl _ _ (w.heap.size + 1) m lm (H2.out.put _ (by rw [lm, length_zs])) rfl) rfl ⟨rfl, below_setCells (by omega) _ _ _ H3.out⟩
end Go.Proofs.YtonoidhlbnbhcaaDoor
