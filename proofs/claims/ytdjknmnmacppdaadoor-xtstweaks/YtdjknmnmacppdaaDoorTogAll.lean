/-
  Contracts of the small functions of the layer aes over states. No conditions.
  Contracts of aes.together and aes.turned. No conditions.
-/
import Derived.Test.YtdjknmnmacppdaaDoorBoxAll
import Derived.Test.YtdjknmnmacppdaaDoorNumAll
import Derived.Test.YtdjknmnmacppdaaDoorAesStill
namespace Go.Proofs.YtdjknmnmacppdaaDoor
open Go.RowKit Arr Gf Ae

theorem o16 : Arr.Of Tryd.prog 34 5 16 .u8 := ⟨by kernel_rfl, by kernel_rfl, by kernel_rfl, by kernel_rfl⟩
theorem z16 : (Tryd.prog.info? 34).bind (·.zero) = some (.agg (na .u8 (zs 16))) := by kernel_rfl
theorem b16 : Tryd.prog.built 34 [] = some (na .u8 (zs 16)) := by kernel_rfl

/-- Two new blocks: one holds b, one noughts. -/
theorem two_new (w : World) (b : List Nat) (t : TypeId) :
    Holds ((w.alloc (.cells (na .u8 b) t)).alloc (.cells (na .u8 (zs 16)) t)) w.heap.size .u8 b ∧ Holds ((w.alloc (.cells (na .u8 b) t)).alloc (.cells (na .u8 (zs 16)) t)) (w.heap.size + 1) .u8 (zs 16) ∧
    Below w.heap.size w ((w.alloc (.cells (na .u8 b) t)).alloc (.cells (na .u8 (zs 16)) t)) := by
  have s1 : (w.alloc (.cells (na .u8 b) t)).heap.size = w.heap.size + 1 := World.size_alloc ..
  have h := Holds.new (w.alloc (.cells (na .u8 b) t)) t .u8 (zs 16)
  rw [s1] at h
  exact ⟨(Holds.new w t .u8 b).alloc _, h, ((Below.refl w.heap.size w).alloc (Nat.le_refl _) _).alloc (by rw [s1]; omega) _⟩

set_option maxHeartbeats 1000000 in
theorem boxed_any (b t : List Nat) (hb : St b) (ht : t.length = 256) (g o : Nat) (w : World) (hg : HAt w g o .u8 t) : Calls Tryd.prog 38 #[.agg (na .u8 b), .pointer (some ⟨g, o, none⟩)] w (GivesA (subL t b) w) := by
  obtain ⟨B1, B2, B3⟩ := two_new w b 34
  have hgw : g < w.heap.size := hg.lt (by omega)
  have hl := Lib.hid hb.1
  have B1 := Lib.hid B1
  have B2 := Lib.hid B2
  have B3 := Lib.hid B3
  have HG := Lib.hid hg; clear hg
  go_enter Tryd.func38, Tryd.ntmps38
  go_wp2_with (first | (with_reducible refine Arr.alloc (t := 34) _ z16 ?_) | (with_reducible refine Arr.load o16 w.heap.size b hl.out B1.out rfl ?_))
  go_loopw [8] (fun i wr => ∃ k : Nat, k ≤ 16 ∧ i = .int .i64 (k : Nat) ∧ Holds wr w.heap.size .u8 (upto (fun i => t.getD (b.getD i 0) 0) (fun i => b.getD i 0) 16 k) ∧ Holds wr (w.heap.size + 1) .u8 (zs 16) ∧ Below w.heap.size w wr) (fun i _ => 16 - (intOf i).toNat)
  case atStart => exact ⟨0, by omega, rfl, by rw [upto_zero _ _ _ hl.out]; exact B1.out, B2.out, B3.out⟩
  case round =>
    clear B1 B2 B3
    obtain ⟨k, hk, rfl, h1, h2, h3⟩ := hrel
    have H1 := Lib.hid h1; clear h1
    have H2 := Lib.hid h2; clear h2
    have H3 := Lib.hid h3; clear h3
    by_cases hlt : k < 16
    · have hi := Arr.index o16 wr b hl.out .i64 k hlt
      have hlt' : decide ((k : Int) < 16) = true := by simp; omega
      have ha := hb.2 k
      have hbx := (HG.out.below H3.out hgw).cell (b.getD k 0) (by omega)
      have hcell := H1.out.cell k (by rw [length_upto]; exact hlt)
      have hfro := H1.out.frozen k (by rw [length_upto]; exact hlt)
      have HS := upto_succ (fun i => t.getD (b.getD i 0) 0) (fun i => b.getD i 0) 16 k hlt
      have X1 := H1.out.set k (t.getD (b.getD k 0) 0) (by rw [length_upto]; exact hlt)
      rw [← HS] at X1
      clear HS
      generalize (upto (fun i => t.getD (b.getD i 0) 0) (fun i => b.getD i 0) 16 k).getD k 0 = old at *
      have X2 := H2.out.beside ⟨w.heap.size, k, none⟩ (.int .u8 ((t.getD (b.getD k 0) 0 : Nat) : Int)) (show w.heap.size ≠ w.heap.size + 1 by omega)
      have X3 := H3.out.setCell (p := ⟨w.heap.size, k, none⟩) (Nat.le_refl _) (.int .u8 ((t.getD (b.getD k 0) 0 : Nat) : Int))
      have X1 := Lib.hid X1
      have X2 := Lib.hid X2
      have X3 := Lib.hid X3
      generalize t.getD (b.getD k 0) 0 = c at *
      generalize b.getD k 0 = a at *
      go_wp2
      go_roundw
      case rel => exact ⟨k + 1, by omega, by go_num, X1.out, X2.out, X3.out⟩
      case measure => simp [intOf]; omega
    · obtain rfl : k = 16 := by omega
      have e : upto (fun i => t.getD (b.getD i 0) 0) (fun i => b.getD i 0) 16 16 = subL t b := upto_all ..
      rw [e] at H1
      have lm : (subL t b).length = 16 := by simp [subL]
      generalize subL t b = m at *
      clear e
      go_wp2_with (first | (with_reducible refine Arr.load o16 w.heap.size m lm H1.out rfl ?_) | (with_reducible refine Arr.store o16 (w.heap.size + 1) (zs 16) m (length_zs _) H2.out lm rfl rfl ?_))
      exact bodyPost_ret (v := .agg (na .u8 m)) (results_arr o16 rfl _ _ (w.heap.size + 1) m lm (H2.out.put _ (by rw [lm, length_zs])) rfl) rfl ⟨rfl, below_setCells (by omega) _ _ _ H3.out⟩
end Go.Proofs.YtdjknmnmacppdaaDoor
namespace Go.Proofs.YtdjknmnmacppdaaDoor
open Go.RowKit Arr Gf Ae

set_option maxHeartbeats 1000000 in
theorem together_any (a b : List Nat) (ha : St a) (hb : St b) (w : World) : Calls Tryd.prog 36 #[.agg (na .u8 a), .agg (na .u8 b)] w (GivesA (xorL a b) w) := by
  have s1 : (w.alloc (.cells (na .u8 a) 34)).heap.size = w.heap.size + 1 := World.size_alloc ..
  have s2 : ((w.alloc (.cells (na .u8 a) 34)).alloc (.cells (na .u8 b) 34)).heap.size = w.heap.size + 1 + 1 := by rw [World.size_alloc, s1]
  have B1 := ((Holds.new w 34 .u8 a).alloc (.cells (na .u8 b) 34)).alloc (.cells (na .u8 (zs 16)) 34)
  have B2 := (Holds.new (w.alloc (.cells (na .u8 a) 34)) 34 .u8 b).alloc (.cells (na .u8 (zs 16)) 34)
  have B3 := Holds.new ((w.alloc (.cells (na .u8 a) 34)).alloc (.cells (na .u8 b) 34)) 34 .u8 (zs 16)
  have B4 := (((Below.refl w.heap.size w).alloc (Nat.le_refl _) (.cells (na .u8 a) 34)).alloc (by rw [s1]; omega) (.cells (na .u8 b) 34)).alloc (by rw [s2]; omega) (.cells (na .u8 (zs 16)) 34)
  rw [s1] at B2
  rw [s2] at B3
  clear s1 s2
  have hla := Lib.hid ha.1
  have hlb := Lib.hid hb.1
  have B1 := Lib.hid B1
  have B2 := Lib.hid B2
  have B3 := Lib.hid B3
  have B4 := Lib.hid B4
  go_enter Tryd.func36, Tryd.ntmps36
  go_wp2_with (first | (with_reducible refine Arr.alloc (t := 34) _ z16 ?_) | fail)
  go_loopw [6] (fun i wr => ∃ k : Nat, k ≤ 16 ∧ i = .int .i64 (k : Nat) ∧ Holds wr w.heap.size .u8 (upto (fun i => a.getD i 0 ^^^ b.getD i 0) (fun i => a.getD i 0) 16 k) ∧ Holds wr (w.heap.size + 1) .u8 b ∧ Holds wr (w.heap.size + 1 + 1) .u8 (zs 16) ∧ Below w.heap.size w wr) (fun i _ => 16 - (intOf i).toNat)
  case atStart => exact ⟨0, by omega, rfl, by rw [upto_zero _ _ _ hla.out]; exact B1.out, B2.out, B3.out, B4.out⟩
  case round =>
    clear B1 B2 B3 B4
    obtain ⟨k, hk, rfl, h1, h2, h3, h4⟩ := hrel
    have H1 := Lib.hid h1; clear h1
    have H2 := Lib.hid h2; clear h2
    have H3 := Lib.hid h3; clear h3
    have H4 := Lib.hid h4; clear h4
    by_cases hlt : k < 16
    · have hlt' : decide ((k : Int) < 16) = true := by simp; omega
      have hx : bits .xor .u8 ((a.getD k 0 : Nat) : Int) ((b.getD k 0 : Nat) : Int) = ((a.getD k 0 ^^^ b.getD k 0 : Nat) : Int) := u8_xor_nat _ _ (ha.2 k) (hb.2 k)
      have HS := upto_succ (fun i => a.getD i 0 ^^^ b.getD i 0) (fun i => a.getD i 0) 16 k hlt
      have hv := upto_get (fun i => a.getD i 0 ^^^ b.getD i 0) (fun i => a.getD i 0) 16 k k hlt
      rw [if_neg (by omega)] at hv
      have lu := length_upto (fun i => a.getD i 0 ^^^ b.getD i 0) (fun i => a.getD i 0) 16 k
      have HS := Lib.hid HS
      generalize upto (fun i => a.getD i 0 ^^^ b.getD i 0) (fun i => a.getD i 0) 16 k = u at *
      have hxy := hx
      generalize hc : a.getD k 0 ^^^ b.getD k 0 = c at *
      have hx0 : (0 : Int) ≤ (c : Int) := by omega
      clear hc
      go_wp2_with fail
      refine region_tail 8 (by kernel_rfl) (by kernel_rfl) ?_
      intro wd hwd
      have G1 : Holds wd w.heap.size .u8 u := by rw [hwd]; exact H1.out.drew
      have G2 : Holds wd (w.heap.size + 1) .u8 b := by rw [hwd]; exact H2.out.drew
      have G3 : Holds wd (w.heap.size + 1 + 1) .u8 (zs 16) := by rw [hwd]; exact H3.out.drew
      have G4 : Below w.heap.size w wd := by rw [hwd]; exact below_drew H4.out
      clear hwd H1 H2 H3 H4
      have c1 := G1.cell k (by omega)
      have f1 := G1.frozen k (by omega)
      have c2 := G2.cell k (by have := hlb.out; omega)
      rw [hv] at c1
      have X1 := G1.set k c (by omega)
      rw [← HS.out] at X1
      have X2 := G2.beside ⟨w.heap.size, k, none⟩ (.int .u8 (c : Int)) (show w.heap.size ≠ w.heap.size + 1 by omega)
      have X3 := G3.beside ⟨w.heap.size, k, none⟩ (.int .u8 (c : Int)) (show w.heap.size ≠ w.heap.size + 1 + 1 by omega)
      have X4 := G4.setCell (p := ⟨w.heap.size, k, none⟩) (Nat.le_refl _) (.int .u8 (c : Int))
      clear G1 G2 G3 G4 hv lu HS
      have X1 := Lib.hid X1
      have X2 := Lib.hid X2
      have X3 := Lib.hid X3
      have X4 := Lib.hid X4
      generalize a.getD k 0 = p at *
      generalize b.getD k 0 = q at *
      have hki : (k : Int) < 16 := by omega
      simp only [List.take_succ_cons, List.take_zero, List.drop_succ_cons, List.drop_zero]
      repeat still_step
      refine wpStill_nil ?_
      go_wp2
      go_roundw
      case rel => exact ⟨k + 1, by omega, by go_num, X1.out, X2.out, X3.out, X4.out⟩
      case measure => simp [intOf]; omega
    · obtain rfl : k = 16 := by omega
      have e : upto (fun i => a.getD i 0 ^^^ b.getD i 0) (fun i => a.getD i 0) 16 16 = xorL a b := upto_all ..
      rw [e] at H1
      have lm : (xorL a b).length = 16 := by simp [xorL]
      generalize xorL a b = m at *
      clear e
      go_wp2_with (first | (with_reducible refine Arr.load o16 w.heap.size m lm H1.out rfl ?_) | (with_reducible refine Arr.store o16 (w.heap.size + 1 + 1) (zs 16) m (length_zs _) H3.out lm rfl rfl ?_))
      exact bodyPost_ret (v := .agg (na .u8 m)) (results_arr o16 rfl _ _ (w.heap.size + 1 + 1) m lm (H3.out.put _ (by rw [lm, length_zs])) rfl) rfl ⟨rfl, below_setCells (by omega) _ _ _ H4.out⟩

set_option maxHeartbeats 1000000 in
theorem turned16_any (b : List Nat) (hb : St b) (p : Nat) (hp : p < 4) (w : World) : Calls Tryd.prog 37 #[.agg (na .u8 b), .int .i64 (p : Int)] w (GivesA (turnL p b) w) := by
  have s1 : (w.alloc (.cells (na .u8 b) 34)).heap.size = w.heap.size + 1 := World.size_alloc ..
  have s2 : ((w.alloc (.cells (na .u8 b) 34)).alloc (.cells (na .u8 (zs 16)) 34)).heap.size = w.heap.size + 1 + 1 := by rw [World.size_alloc, s1]
  have B1 := ((Holds.new w 34 .u8 b).alloc (.cells (na .u8 (zs 16)) 34)).alloc (.cells (na .u8 (zs 16)) 34)
  have B2 := (Holds.new (w.alloc (.cells (na .u8 b) 34)) 34 .u8 (zs 16)).alloc (.cells (na .u8 (zs 16)) 34)
  have B3 := Holds.new ((w.alloc (.cells (na .u8 b) 34)).alloc (.cells (na .u8 (zs 16)) 34)) 34 .u8 (zs 16)
  have B4 := (((Below.refl w.heap.size w).alloc (Nat.le_refl _) (.cells (na .u8 b) 34)).alloc (by rw [s1]; omega) (.cells (na .u8 (zs 16)) 34)).alloc (by rw [s2]; omega) (.cells (na .u8 (zs 16)) 34)
  rw [s1] at B2
  rw [s2] at B3
  clear s1 s2
  have hlb := Lib.hid hb.1
  have B1 := Lib.hid B1
  have B2 := Lib.hid B2
  have B3 := Lib.hid B3
  have B4 := Lib.hid B4
  go_enter Tryd.func37, Tryd.ntmps37
  go_wp2_with (first | (with_reducible refine Arr.alloc (t := 34) _ z16 ?_) | fail)
  go_loopw [8] (fun i wr => ∃ k : Nat, k ≤ 16 ∧ i = .int .i64 (k : Nat) ∧ Holds wr w.heap.size .u8 b ∧ Holds wr (w.heap.size + 1) .u8 (zs 16) ∧ Holds wr (w.heap.size + 1 + 1) .u8 (upto (fun i => b.getD (from' p i) 0) (fun _ => 0) 16 k) ∧ Below w.heap.size w wr) (fun i _ => 16 - (intOf i).toNat)
  case atStart => exact ⟨0, by omega, rfl, B1.out, B2.out, by rw [upto_noughts]; exact B3.out, B4.out⟩
  case round =>
    clear B1 B2 B3 B4
    obtain ⟨k, hk, rfl, h1, h2, h3, h4⟩ := hrel
    have H1 := Lib.hid h1; clear h1
    have H2 := Lib.hid h2; clear h2
    have H3 := Lib.hid h3; clear h3
    have H4 := Lib.hid h4; clear h4
    by_cases hlt : k < 16
    · have hlt' : decide ((k : Int) < 16) = true := by simp; omega
      have HS := upto_succ (fun i => b.getD (from' p i) 0) (fun _ => 0) 16 k hlt
      have lu := length_upto (fun i => b.getD (from' p i) 0) (fun _ => 0) 16 k
      have HS := Lib.hid HS
      generalize upto (fun i => b.getD (from' p i) 0) (fun _ => 0) 16 k = u at *
      have hfl := from_lt p k
      have r1 : (k : Int).tmod 4 = ((k % 4 : Nat) : Int) := by rw [Int.tmod_eq_emod_of_nonneg (by omega)]; omega
      have hm : p * (k % 4) < 16 := by
        have h1 : p * (k % 4) ≤ 3 * 3 := Nat.mul_le_mul (by omega) (by omega)
        omega
      have r2 : (k : Int) + 4 * (p : Int) * ((k % 4 : Nat) : Int) = ((k + 4 * p * (k % 4) : Nat) : Int) := by simp
      have r3 : ((k + 4 * p * (k % 4) : Nat) : Int).tmod 16 = ((from' p k : Nat) : Int) := by
        rw [Int.tmod_eq_emod_of_nonneg (by omega), from']; omega
      have hm' : 4 * p * (k % 4) < 64 := by rw [Nat.mul_assoc]; omega
      have c1 := H1.out.cell (from' p k) (by have := hlb.out; omega)
      have c3 := H3.out.cell k (by omega)
      have f3 := H3.out.frozen k (by omega)
      have X3 := H3.out.set k (b.getD (from' p k) 0) (by omega)
      rw [← HS.out] at X3
      have X1 := H1.out.beside ⟨w.heap.size + 1 + 1, k, none⟩ (.int .u8 ((b.getD (from' p k) 0 : Nat) : Int)) (show w.heap.size + 1 + 1 ≠ w.heap.size by omega)
      have X2 := H2.out.beside ⟨w.heap.size + 1 + 1, k, none⟩ (.int .u8 ((b.getD (from' p k) 0 : Nat) : Int)) (show w.heap.size + 1 + 1 ≠ w.heap.size + 1 by omega)
      have X4 := H4.out.setCell (p := ⟨w.heap.size + 1 + 1, k, none⟩) (show w.heap.size ≤ w.heap.size + 1 + 1 by omega) (.int .u8 ((b.getD (from' p k) 0 : Nat) : Int))
      clear H1 H2 H3 H4 HS
      have X1 := Lib.hid X1
      have X2 := Lib.hid X2
      have X3 := Lib.hid X3
      have X4 := Lib.hid X4
      generalize b.getD (from' p k) 0 = c at *
      generalize u.getD k 0 = old at *
      generalize from' p k = f at *
      have w1 : IntKind.i64.wrap (4 * (p : Int)) = 4 * (p : Int) := by rw [IntKind.wrap_i64]; omega
      have e0 : 4 * (p : Int) * ((k : Int) % 4) = ((4 * p * (k % 4) : Nat) : Int) := by simp
      generalize 4 * p * (k % 4) = m at *
      have w2 : ((k : Int) + (m : Int)) % 16 = (f : Int) := by rw [← r3, Int.tmod_eq_emod_of_nonneg (by omega)]; omega
      clear r1 r2 r3 hm
      go_wp2
      go_roundw
      case rel => exact ⟨k + 1, by omega, by go_num, X1.out, X2.out, X3.out, X4.out⟩
      case measure => simp [intOf]; omega
    · obtain rfl : k = 16 := by omega
      have e : upto (fun i => b.getD (from' p i) 0) (fun _ => 0) 16 16 = turnL p b := upto_all ..
      rw [e] at H3
      have lm : (turnL p b).length = 16 := by simp [turnL]
      generalize turnL p b = m at *
      clear e
      go_wp2_with (first | (with_reducible refine Arr.load o16 (w.heap.size + 1 + 1) m lm H3.out rfl ?_) | (with_reducible refine Arr.store o16 (w.heap.size + 1) (zs 16) m (length_zs _) H2.out lm rfl rfl ?_))
      exact bodyPost_ret (v := .agg (na .u8 m)) (results_arr o16 rfl _ _ (w.heap.size + 1) m lm (H2.out.put _ (by rw [lm, length_zs])) rfl) rfl ⟨rfl, below_setCells (by omega) _ _ _ H4.out⟩
end Go.Proofs.YtdjknmnmacppdaaDoor
