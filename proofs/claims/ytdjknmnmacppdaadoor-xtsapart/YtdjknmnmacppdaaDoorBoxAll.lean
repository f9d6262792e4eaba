/-
  The contract of sbox.Swap: any list of 256 bytes. No conditions.
  Contracts of gf's functions on bytes. No conditions.
  Contracts of sbox's functions on bytes. No conditions.
  Contracts of sbox.Box and sbox.Back. No conditions.
-/
import Derived.Test.YtdjknmnmacppdaaDoorArrAll
import Derived.Test.YtdjknmnmacppdaaDoorNumAll
import Derived.Test.YtdjknmnmacppdaaDoorRows
import Derived.WalkKit
import Derived.Lib.Hide
import Derived.Laws.BitsAllLaws
namespace Go.Proofs.YtdjknmnmacppdaaDoor
open Go.RowKit Arr Sw

theorem o23 : Arr.Of Tryd.prog 55 5 256 .u8 := ⟨by kernel_rfl, by kernel_rfl, by kernel_rfl, by kernel_rfl⟩
theorem z23 : (Tryd.prog.info? 55).bind (·.zero) = some (.agg (na .u8 (zs 256))) := by kernel_rfl
theorem b23 : Tryd.prog.built 55 [] = some (na .u8 (zs 256)) := by kernel_rfl
/-- None met. -/
def fs : List Value := List.replicate 256 (.bool false)
theorem zb : (Tryd.prog.info? 80).bind (·.zero) = some (.agg fs.toArray) := by kernel_rfl
/-- What was met, as values. -/
def mv (l : List Nat) (k : Nat) : List Value := (met l k).map fun b => .bool b
theorem length_mv (l : List Nat) (k : Nat) : (mv l k).length = 256 := by rw [mv, List.length_map, length_met]
theorem mv_get (l : List Nat) (k b : Nat) (hb : b < 256) : (mv l k)[b]? = some (.bool (decide (b ∈ l.take k))) := by rw [mv, List.getElem?_map, met_get l k b hb]; rfl
theorem mv_none (l : List Nat) : mv l 0 = fs := by rw [mv, met_none, List.map_replicate]; rfl
theorem mv_more (l : List Nat) (k : Nat) (hk : k < l.length) : mv l (k + 1) = (mv l k).set (l.getD k 0) (.bool true) := by rw [mv, met_more l k hk, List.map_set]; rfl
theorem pl_zs (l : List Nat) : pl l 0 = zs 256 := pl_none l

/-- What a call of Swap leaves. -/
def Swapped (l : List Nat) (w : World) (e : Ending) (w' : World) : Prop :=
  ∃ (x : List Nat) (ok : Bool), e = .returned (.tuple #[.agg (na .u8 x), .bool ok]) ∧ ((ok = true ∧ l.Nodup ∧ x = sw l) ∨ (ok = false ∧ ¬ l.Nodup ∧ x = zs 256)) ∧ Below w.heap.size w w'

set_option maxHeartbeats 2000000 in
theorem swap_any (l : List Nat) (hl : l.length = 256) (hb : Sw.Bytes l) (w : World) : Calls Tryd.prog 28 #[.agg (na .u8 l)] w (Swapped l w) := by
  obtain ⟨w1, e1⟩ : ∃ w1, w1 = w.alloc (.cells (na .u8 l) 55) := ⟨_, rfl⟩
  obtain ⟨w2, e2⟩ : ∃ w2, w2 = w1.alloc (.cells (na .u8 (zs 256)) 55) := ⟨_, rfl⟩
  obtain ⟨w3, e3⟩ : ∃ w3, w3 = w2.alloc (.cells (na .u8 (zs 256)) 55) := ⟨_, rfl⟩
  obtain ⟨w4, e4⟩ : ∃ w4, w4 = w3.alloc (.cells fs.toArray 80) := ⟨_, rfl⟩
  have s1 : w1.heap.size = w.heap.size + 1 := by rw [e1, World.size_alloc]
  have s2 : w2.heap.size = w.heap.size + 1 + 1 := by rw [e2, World.size_alloc, s1]
  have s3 : w3.heap.size = w.heap.size + 1 + 1 + 1 := by rw [e3, World.size_alloc, s2]
  have A1 : Holds w1 w.heap.size .u8 l := e1 ▸ Holds.new w _ .u8 l
  have A2 : Holds w2 (w.heap.size + 1) .u8 (zs 256) := by rw [← s1, e2]; exact Holds.new w1 _ .u8 _
  have A3 : Holds w3 (w.heap.size + 1 + 1) .u8 (zs 256) := by rw [← s2, e3]; exact Holds.new w2 _ .u8 _
  have A4 : HV w4 (w.heap.size + 1 + 1 + 1) fs := by rw [← s3, e4]; exact HV.new w3 _ fs
  have B1 : Holds w4 w.heap.size .u8 l := by rw [e4, e3, e2]; exact ((A1.alloc _).alloc _).alloc _
  have B2 : Holds w4 (w.heap.size + 1) .u8 (zs 256) := by rw [e4, e3]; exact (A2.alloc _).alloc _
  have B3 : Holds w4 (w.heap.size + 1 + 1) .u8 (zs 256) := by rw [e4]; exact A3.alloc _
  have B5 : Below w.heap.size w w4 := by
    rw [e4, e3, e2, e1]
    exact ((((Below.refl w.heap.size w).alloc (Nat.le_refl _) _).alloc (by simp) _).alloc (by simp; omega) _).alloc (by simp; omega) _
  rw [e3, e2, e1] at e4
  subst e4
  clear A1 A2 A3 e1 e2 e3 s1 s2 s3 w1 w2 w3
  have B1 := Lib.hid B1
  have B2 := Lib.hid B2
  have B3 := Lib.hid B3
  have B4 := Lib.hid A4; clear A4
  have B5 := Lib.hid B5
  have hl' := Lib.hid hl
  go_enter Tryd.func28, Tryd.ntmps28
  go_wp2_with (first | (with_reducible refine Arr.alloc (t := 55) _ z23 ?_) | (with_reducible refine Arr.alloc (t := 80) _ zb ?_) | (with_reducible refine Arr.load o23 w.heap.size l hl'.out B1.out rfl ?_))
  go_loopw [9] (fun i wr => ∃ k : Nat, k ≤ 256 ∧ i = .int .i64 (k : Nat) ∧ (l.take k).Nodup ∧ Holds wr (w.heap.size + 1) .u8 (zs 256) ∧ Holds wr (w.heap.size + 1 + 1) .u8 (pl l k) ∧ HV wr (w.heap.size + 1 + 1 + 1) (mv l k) ∧ Below w.heap.size w wr) (fun i _ => 256 - (intOf i).toNat)
  case atStart => exact ⟨0, by omega, rfl, by simp, B2.out, by rw [pl_zs]; exact B3.out, by rw [mv_none]; exact B4.out, B5.out⟩
  case round =>
    clear B1 B2 B3 B4 B5
    obtain ⟨k, hk, rfl, h0, h1, h2, h3, h4⟩ := hrel
    have H0 := Lib.hid h0; clear h0
    have H1 := Lib.hid h1; clear h1
    have H2 := Lib.hid h2; clear h2
    have H3 := Lib.hid h3; clear h3
    have H4 := Lib.hid h4; clear h4
    by_cases hlt : k < 256
    · have hg := Arr.index o23 wr l hl'.out .i64 k hlt
      have hc := hb k
      have hk' : k < l.length := by omega
      have hcell := H3.out.cell (l.getD k 0) _ (mv_get l k _ hc)
      have hfro := H3.out.frozen (l.getD k 0) (by rw [length_mv]; exact hc)
      have ht : decide ((k : Int) < 256) = true := by simp; omega
      by_cases hm : l.getD k 0 ∈ l.take k
      · have HN := Lib.hid (not_nodup l k hk' hm)
        rw [decide_eq_true hm] at hcell
        clear hm hk'
        generalize l.getD k 0 = c at *
        go_wp2_with (first | (with_reducible refine Arr.build_none _ b23 ?_) | (with_reducible refine Arr.store o23 (w.heap.size + 1) (zs 256) (zs 256) (length_zs _) H1.out (length_zs _) rfl rfl ?_))
        exact bodyPost_ret (v := .tuple #[.agg (na .u8 (zs 256)), .bool false]) (results_arr2 o23 rfl _ _ (w.heap.size + 1) (zs 256) (length_zs _) (H1.out.put _ (by rw [length_zs])) rfl _ rfl) rfl ⟨_, _, rfl, .inr ⟨rfl, HN.out, rfl⟩, below_setCells (by omega) _ _ _ H4.out⟩
      · have HN := Lib.hid (nodup_more l k hk' H0.out hm)
        have HM := Lib.hid (mv_more l k hk')
        have HP := Lib.hid (pl_more l k hk' hm)
        have hcell2 := H2.out.cell (l.getD k 0) (by rw [length_pl]; exact hc)
        have hfro2 := H2.out.frozen (l.getD k 0) (by rw [length_pl]; exact hc)
        rw [decide_eq_false hm] at hcell
        have hw : (k : Int) % 256 = (k : Int) := by omega
        clear hm hk'
        generalize l.getD k 0 = c at *
        generalize (pl l k).getD c 0 = old at *
        have X2 : Holds ((wr.setCell ⟨w.heap.size + 1 + 1 + 1, c, none⟩ (.bool true)).setCell ⟨w.heap.size + 1 + 1, c, none⟩ (.int .u8 (k : Int))) (w.heap.size + 1 + 1) .u8 (pl l (k + 1)) := by
          rw [HP.out]; exact (H2.out.beside _ _ (by simp)).set c k (by rw [length_pl]; exact hc)
        have X3 : HV ((wr.setCell ⟨w.heap.size + 1 + 1 + 1, c, none⟩ (.bool true)).setCell ⟨w.heap.size + 1 + 1, c, none⟩ (.int .u8 (k : Int))) (w.heap.size + 1 + 1 + 1) (mv l (k + 1)) := by
          rw [HM.out]; exact (H3.out.set c _ (by rw [length_mv]; exact hc)).beside _ _ (by simp)
        have X1 := (H1.out.beside ⟨w.heap.size + 1 + 1 + 1, c, none⟩ (.bool true) (show w.heap.size + 1 + 1 + 1 ≠ w.heap.size + 1 by omega)).beside ⟨w.heap.size + 1 + 1, c, none⟩ (.int .u8 (k : Int)) (show w.heap.size + 1 + 1 ≠ w.heap.size + 1 by omega)
        have X4 := (H4.out.setCell (p := ⟨w.heap.size + 1 + 1 + 1, c, none⟩) (show w.heap.size ≤ w.heap.size + 1 + 1 + 1 by omega) (.bool true)).setCell (p := ⟨w.heap.size + 1 + 1, c, none⟩) (show w.heap.size ≤ w.heap.size + 1 + 1 by omega) (.int .u8 (k : Int))
        have X1 := Lib.hid X1
        have X2 := Lib.hid X2
        have X3 := Lib.hid X3
        have X4 := Lib.hid X4
        go_wp2
        go_roundw
        case rel => exact ⟨k + 1, by omega, by go_num, HN.out, X1.out, X2.out, X3.out, X4.out⟩
        case measure => simp [intOf]; omega
    · obtain rfl : k = 256 := by omega
      have HN := Lib.hid (show l.Nodup by have := H0.out; rwa [List.take_of_length_le (by rw [hl'.out]; omega)] at this)
      go_wp2_with (first | (with_reducible refine Arr.load o23 (w.heap.size + 1 + 1) (pl l 256) (length_pl _ _) H2.out rfl ?_) | (with_reducible refine Arr.store o23 (w.heap.size + 1) (zs 256) (pl l 256) (length_zs _) H1.out (length_pl _ _) rfl rfl ?_))
      exact bodyPost_ret (v := .tuple #[.agg (na .u8 (pl l 256)), .bool true]) (results_arr2 o23 rfl _ _ (w.heap.size + 1) (pl l 256) (length_pl _ _) (H1.out.put _ (by rw [length_pl, length_zs])) rfl _ rfl) rfl ⟨_, _, rfl, .inl ⟨rfl, HN.out, rfl⟩, below_setCells (by omega) _ _ _ H4.out⟩
end Go.Proofs.YtdjknmnmacppdaaDoor
namespace Go.Proofs.YtdjknmnmacppdaaDoor
open Go.RowKit Gf

theorem ret_int' {k : IntKind} {x y : Int} (h : x = y) : Ending.returned (.int k x) = .returned (.int k y) := by rw [h]

theorem xt_low (a : Nat) (ha : a < 256) (h : a / 128 = 0) : xt a = a * 2 % 256 := by
  have : ∀ a, a < 256 → a / 128 = 0 → xt a = a * 2 % 256 := by decide +kernel
  exact this a ha h
theorem xt_high (a : Nat) (ha : a < 256) (h : a / 128 = 1) : xt a = (a * 2 % 256) ^^^ 27 := by
  have : ∀ a, a < 256 → a / 128 = 1 → xt a = (a * 2 % 256) ^^^ 27 := by decide +kernel
  exact this a ha h

theorem timesX_any (a : Nat) (ha : a < 256) (w : World) : Calls Tryd.prog 48 #[.int .u8 (a : Int)] w fun e w' => e = .returned (.int .u8 (xt a : Nat)) ∧ w = w' := by
  rcases (show a / 128 = 0 ∨ a / 128 = 1 by omega) with h | h
  · have h1 : ((a : Int) / 128 == 1) = false := by simp; omega
    have HR := Lib.hid (xt_low a ha h)
    clear h
    go_enter Tryd.func48, Tryd.ntmps48
    go_wp2
    go_ret
    exact ⟨ret_int' (by rw [HR.out]; simp), rfl⟩
  · have h1 : ((a : Int) / 128 == 1) = true := by simp; omega
    have HR := Lib.hid (xt_high a ha h)
    clear h
    go_enter Tryd.func48, Tryd.ntmps48
    go_wp2
    go_ret
    exact ⟨ret_int' (by rw [HR.out, ← u8_xor_nat _ _ (Nat.mod_lt _ (by omega)) (by omega)]; simp), rfl⟩

theorem and_one (y : Nat) (hy : y < 256) : bits .and .u8 (y : Int) 1 = ((y % 2 : Nat) : Int) := by
  have := u8_and_nat y 1 hy (by omega)
  rw [Nat.and_one_is_mod] at this
  exact this

/-- One round of the product. -/
theorem mul_round {k x y z t : Nat} (h : z ^^^ mulN (k + 1) x y = t) : (z ^^^ (y % 2 * x)) ^^^ mulN k (xt x) (y / 2) = t := by
  rw [← h, Nat.xor_assoc]
  rfl

theorem times_any (a b : Nat) (ha : a < 256) (hb : b < 256) (w : World) : Calls Tryd.prog 29 #[.int .u8 (a : Int), .int .u8 (b : Int)] w fun e w' => e = .returned (.int .u8 (T a b : Nat)) ∧ w = w' := by
  have H0 := Lib.hid (show (0 : Nat) ^^^ mulN 8 a b = T a b by simp [T])
  generalize T a b = t at *
  go_enter Tryd.func29, Tryd.ntmps29
  go_wp2
  go_loop [0, 1, 5] (fun u v p => ∃ k x y z : Nat, k ≤ 8 ∧ y < 2 ^ k ∧ x < 256 ∧ z < 256 ∧ u = .int .u8 x ∧ v = .int .u8 y ∧ p = .int .u8 z ∧ z ^^^ mulN k x y = t) (fun _ v _ => (intOf v).toNat)
  case atStart => exact ⟨8, a, b, 0, Nat.le_refl _, hb, ha, by omega, rfl, rfl, rfl, H0.out⟩
  case round =>
    obtain ⟨k, x, y, z, hk, hy, hx, hz, rfl, rfl, rfl, hm⟩ := hrel
    by_cases hy0 : y = 0
    · subst hy0
      rw [mulN_zero, Nat.xor_zero] at hm
      have HM := Lib.hid hm; clear hm H0
      go_wp2
      go_ret
      exact ⟨ret_int' (by rw [HM.out]), rfl⟩
    · obtain ⟨j, rfl⟩ : ∃ j, k = j + 1 := ⟨k - 1, by
        have : k ≠ 0 := fun e => by subst e; simp at hy; exact hy0 hy
        omega⟩
      have h0 : ((y : Int) == 0) = false := by simp; omega
      have hy8 : y < 256 := by have : 2 ^ (j + 1) ≤ 2 ^ 8 := Nat.pow_le_pow_right (by omega) hk; omega
      have hy' : y / 2 < 2 ^ j := by rw [Nat.pow_succ] at hy; omega
      have HM := Lib.hid (mul_round hm); clear hm H0
      have HX := Lib.hid (timesX_any x hx w)
      have hb1 := and_one y hy8
      rcases Nat.mod_two_eq_zero_or_one y with h2 | h2
      · rw [h2] at hb1
        have H2 := Lib.hid h2; clear h2
        go_wp2_with fail
        refine HX.out.mono ?_
        rintro e w' ⟨rfl, rfl⟩
        go_wp2
        go_round
        case rel => exact ⟨j, xt x, y / 2, z, by omega, hy', xt_lt x hx, hz, by go_num, by go_num, rfl, by have := HM.out; rw [H2.out, Nat.zero_mul, Nat.xor_zero] at this; exact this⟩
        case measure => simp [intOf]; omega
      · rw [h2] at hb1
        have H2 := Lib.hid h2; clear h2
        go_wp2_with fail
        refine HX.out.mono ?_
        rintro e w' ⟨rfl, rfl⟩
        go_wp2
        go_round
        case rel => exact ⟨j, xt x, y / 2, z ^^^ x, by omega, hy', xt_lt x hx, xor_lt hz hx, by go_num, by go_num, by rw [u8_xor_nat z x hz hx], by have := HM.out; rw [H2.out, Nat.one_mul] at this; exact this⟩
        case measure => simp [intOf]; omega

theorem and_one64 (n : Int) : bits .and .i64 n 1 = n % 2 := by
  show IntKind.i64.wrap ((BitVec.ofInt 64 n &&& BitVec.ofInt 64 1).toNat : Int) = _
  have e : (BitVec.ofInt 64 (1 : Int)).toNat = 2 ^ 1 - 1 := by decide
  rw [BitVec.toNat_and, e, Nat.and_two_pow_sub_one_eq_mod, BitVec.toNat_ofInt, IntKind.wrap_i64]
  omega

theorem pow_even {p x y t : Nat} (hx : x < 256) (h2 : y % 2 = 0) (h : T p (pw x y) = t) : T p (pw (T x x) (y / 2)) = t := by
  rw [pw_sq x _ hx, show 2 * (y / 2) = y by omega, h]
theorem pow_odd {p x y t : Nat} (hp : p < 256) (hx : x < 256) (h2 : y % 2 = 1) (h : T p (pw x y) = t) : T (T p x) (pw (T x x) (y / 2)) = t := by
  rw [pw_sq x _ hx, T_assoc _ _ _ hp hx (pw_lt x _ hx), T_comm x _ hx (pw_lt x _ hx), ← h]
  congr 1
  conv => rhs; rw [show y = 2 * (y / 2) + 1 by omega]
  rfl

theorem turn_of (n : Int) : (wrap64 (n.tmod 255 + 255)).tmod 255 = n % 255 := by
  have e : n.tmod 255 = n % 255 ∨ n.tmod 255 = n % 255 - 255 := by
    rw [Int.tmod_eq_emod]
    split <;> simp
  have e1 : wrap64 (n.tmod 255 + 255) = n.tmod 255 + 255 := by simp only [wrap64]; omega
  rw [e1, Int.tmod_eq_emod_of_nonneg (by omega)]
  omega

/-- What Power is to answer. -/
def powr (a : Nat) (n : Int) : Nat := if n = 0 then 1 else if a = 0 then 0 else pw a (n % 255).toNat

def Byte (x : Nat) (w : World) (e : Ending) (w' : World) : Prop := e = .returned (.int .u8 (x : Int)) ∧ w = w'

theorem power_none (a : Nat) (w : World) : Calls Tryd.prog 52 #[.int .u8 (a : Int), .int .i64 0] w (Byte 1 w) := by
  go_enter Tryd.func52, Tryd.ntmps52
  go_wp2
  go_ret
  exact ⟨rfl, rfl⟩
theorem power_zero (n : Int) (hn : n ≠ 0) (w : World) : Calls Tryd.prog 52 #[.int .u8 0, .int .i64 n] w (Byte 0 w) := by
  have h1 : (n == 0) = false := by simpa using hn
  go_enter Tryd.func52, Tryd.ntmps52
  go_wp2
  go_ret
  exact ⟨rfl, rfl⟩
theorem power_some (a : Nat) (ha : a < 256) (h0 : a ≠ 0) (n : Int) (hn : n ≠ 0) (w : World) : Calls Tryd.prog 52 #[.int .u8 (a : Int), .int .i64 n] w (Byte (pw a (n % 255).toNat) w) := by
  have h1 : (n == 0) = false := by simpa using hn
  have h2 : ((a : Int) == 0) = false := by simp; omega
  obtain ⟨m, hm⟩ : ∃ m : Nat, m = (n % 255).toNat := ⟨_, rfl⟩
  have H0 := Lib.hid (show T 1 (pw a m) = pw a (n % 255).toNat by rw [one_T _ (pw_lt a _ ha), hm])
  have ht : (wrap64 (n.tmod 255 + 255)).tmod 255 = (m : Int) := by rw [turn_of]; omega
  have hm' : m < 255 := by omega
  clear hm
  generalize pw a (n % 255).toNat = t at *
  go_enter Tryd.func52, Tryd.ntmps52
  go_wp2
  go_loop [0, 5, 6] (fun u v p => ∃ x y z : Nat, y < 255 ∧ x < 256 ∧ z < 256 ∧ u = .int .u8 x ∧ v = .int .i64 y ∧ p = .int .u8 z ∧ T z (pw x y) = t) (fun _ v _ => (intOf v).toNat)
  case atStart => exact ⟨a, m, 1, hm', ha, by omega, rfl, by go_num, rfl, H0.out⟩
  case round =>
    obtain ⟨x, y, z, hy, hx, hz, rfl, rfl, rfl, hq⟩ := hrel
    by_cases hy0 : y = 0
    · subst hy0
      have HM := Lib.hid hq; clear hq H0
      go_wp2
      go_ret
      exact ⟨ret_int' (by rw [← HM.out]; show _ = ((T z 1 : Nat) : Int); rw [T_one z hz]), rfl⟩
    · have h0 : decide (0 < (y : Int)) = true := by simp; omega
      have hb1 := and_one64 (y : Int)
      have HX := Lib.hid (times_any x x hx hx w)
      have HZ := Lib.hid (times_any z x hz hx w)
      have HQ := Lib.hid hq; clear hq H0
      rcases Nat.mod_two_eq_zero_or_one y with h2 | h2
      · have e2 : (y : Int) % 2 = 0 := by omega
        rw [e2] at hb1; clear e2
        have H2 := Lib.hid h2; clear h2
        go_wp2_with fail
        refine HX.out.mono ?_
        rintro e w' ⟨rfl, rfl⟩
        go_wp2
        go_round
        case rel => exact ⟨T x x, y / 2, z, by omega, T_lt _ _ hx, hz, rfl, by go_num, rfl, pow_even hx H2.out HQ.out⟩
        case measure => simp [intOf]; omega
      · have e2 : (y : Int) % 2 = 1 := by omega
        rw [e2] at hb1; clear e2
        have H2 := Lib.hid h2; clear h2
        go_wp2_with fail
        refine HZ.out.mono ?_
        rintro e w' ⟨rfl, rfl⟩
        go_wp2_with fail
        refine HX.out.mono ?_
        rintro e w' ⟨rfl, rfl⟩
        go_wp2
        go_round
        case rel => exact ⟨T x x, y / 2, T z x, by omega, T_lt _ _ hx, T_lt _ _ hz, rfl, by go_num, rfl, pow_odd hz hx H2.out HQ.out⟩
        case measure => simp [intOf]; omega
/-- POWER. -/
theorem power_any (a : Nat) (ha : a < 256) (n : Int) (w : World) : Calls Tryd.prog 52 #[.int .u8 (a : Int), .int .i64 n] w (Byte (powr a n) w) := by
  unfold powr
  split
  · next h => subst h; exact power_none a w
  · split
    · next h h0 => subst h0; exact power_zero n h w
    · next h h0 => exact power_some a ha h0 n h w

theorem powr_254 (a : Nat) : powr a 254 = inv a := by
  unfold powr
  rw [if_neg (by omega)]
  split
  · next h => subst h; exact inv_zero.symm
  · rfl

theorem inverse_any (a : Nat) (ha : a < 256) (w : World) : Calls Tryd.prog 46 #[.int .u8 (a : Int)] w (Byte (inv a) w) := by
  have H := power_any a ha 254 w
  rw [powr_254] at H
  have HC := Lib.hid H; clear H
  go_enter Tryd.func46, Tryd.ntmps46
  go_wp2_with fail
  refine HC.out.mono ?_
  rintro e w' ⟨rfl, rfl⟩
  go_wp2
  go_ret
  exact ⟨rfl, rfl⟩

end Go.Proofs.YtdjknmnmacppdaaDoor
namespace Go.Proofs.YtdjknmnmacppdaaDoor
open Go.RowKit Gf Sb

theorem rot_is (x t : Nat) (hx : x < 256) (ht : t < 5) (h0 : 0 < t) (w : World) : Calls Tryd.prog 56 #[.int .u8 (x : Int), .int .i64 (t : Int)] w (Byte (rot8 x t) w) := by
  have h1 : bits .or .u8 ((x * 2 ^ t % 256 : Nat) : Int) ((x / 2 ^ (8 - t) : Nat) : Int) = (rot8 x t : Nat) := by
    rw [u8_or_nat _ _ (Nat.mod_lt _ (by omega)) (Nat.lt_of_le_of_lt (Nat.div_le_self _ _) hx)]; rfl
  have HR := Lib.hid h1; clear h1
  rcases (show t = 1 ∨ t = 2 ∨ t = 3 ∨ t = 4 by omega) with rfl | rfl | rfl | rfl
  all_goals
    have hb1 : bits .and .u64 1 7 = 1 := by decide
    have hb2 : bits .and .u64 2 7 = 2 := by decide
    have hb3 : bits .and .u64 3 7 = 3 := by decide
    have hb4 : bits .and .u64 4 7 = 4 := by decide
    go_enter Tryd.func56, Tryd.ntmps56
    go_wp2
    go_ret
    exact ⟨ret_int' (by rw [← HR.out]; simp), rfl⟩

theorem turned_any (v : Nat) (hv : v < 256) (w : World) : Calls Tryd.prog 47 #[.int .u8 (v : Int)] w (Byte (tb v) w) := by
  have H0 := Lib.hid (show bits .xor .u8 (v : Int) 99 = ((tn v 0 : Nat) : Int) from u8_xor_nat v 99 hv (by omega))
  go_enter Tryd.func47, Tryd.ntmps47
  go_wp2
  go_loop [3, 4] (fun u p => ∃ k : Nat, k ≤ 4 ∧ u = .int .u8 (tn v k : Nat) ∧ p = .int .i64 ((k : Int) + 1)) (fun _ p => (5 - intOf p).toNat)
  case atStart => exact ⟨0, by omega, by rw [← H0.out], rfl⟩
  case round =>
    obtain ⟨k, hk, rfl, rfl⟩ := hrel
    by_cases h4 : k = 4
    · subst h4
      have ht : decide (((4 : Nat) : Int) + 1 ≤ 4) = false := by decide
      go_wp2
      go_ret
      exact ⟨rfl, rfl⟩
    · have ht : decide ((k : Int) + 1 ≤ 4) = true := by simp; omega
      have hx := u8_xor_nat (tn v k) (rot8 v (k + 1)) (tn_lt v k hv (by omega)) (rot8_lt v _ hv (by omega))
      have HC := rot_is v (k + 1) hv (by omega) (by omega) w
      rw [show (((k + 1 : Nat)) : Int) = (k : Int) + 1 from rfl] at HC
      have HR := Lib.hid HC; clear HC
      go_wp2_with fail
      refine HR.out.mono ?_
      rintro e w' ⟨rfl, rfl⟩
      go_wp2
      go_round
      case rel => exact ⟨k + 1, by omega, rfl, by go_num⟩
      case measure => simp [intOf]; omega

end Go.Proofs.YtdjknmnmacppdaaDoor
namespace Go.Proofs.YtdjknmnmacppdaaDoor
open Go.RowKit Arr Gf Sb

/-- What n rounds more make of the box. -/
def fill : Nat → Nat → Nat → List Nat → List Nat
  | 0, _, _, l => l
  | n + 1, e, v, l => fill n (T e 3) (T v 246) (l.set e (tb v))
/-- The box with its first byte alone. -/
def box0 : List Nat := (zs 256).set 0 99
theorem box0_len : box0.length = 256 := by rw [box0, List.length_set, length_zs]
theorem fill_all : fill 255 1 1 box0 = boxL := by decide +kernel
theorem inv_3 : inv 3 = 246 := by rw [← p254_eq 3 (by omega)]; decide +kernel
theorem boxL_bytes : Sw.Bytes boxL := boxL_lt

theorem na_box0 : na .u8 box0 = ((nv .u8 (zs 256)).set 0 (.int .u8 99)).toArray := by rw [na, box0, nv_set]; rfl

/-- What a call leaves that hands an array of bytes back. -/
def GivesA (m : List Nat) (w : World) (e : Ending) (w' : World) : Prop := e = .returned (.agg (na .u8 m)) ∧ Below w.heap.size w w'

set_option maxHeartbeats 2000000 in
theorem box_any (w : World) : Calls Tryd.prog 27 #[] w (GivesA boxL w) := by
  have s1 : (w.alloc (.cells (na .u8 (zs 256)) 55)).heap.size = w.heap.size + 1 := World.size_alloc ..
  have A1 := (Holds.new w 55 .u8 (zs 256)).alloc (.cells (na .u8 box0) 55)
  have A2 := Holds.new (w.alloc (.cells (na .u8 (zs 256)) 55)) 55 .u8 box0
  rw [s1] at A2
  have A3 := ((Below.refl w.heap.size w).alloc (Nat.le_refl _) (.cells (na .u8 (zs 256)) 55)).alloc (by rw [s1]; omega) (.cells (na .u8 box0) 55)
  have C1 := inverse_any 3 (by omega) ((w.alloc (.cells (na .u8 (zs 256)) 55)).alloc (.cells (na .u8 box0) 55))
  have z0 : (na .u8 (zs 256)).size = 256 := by rw [size_na, length_zs]
  have z1 : (nv .u8 (zs 256))[0]? = some (.int .u8 0) := by rw [nv_get .u8 _ 0 (by rw [length_zs]; omega), zs_get]; rfl
  rw [na_box0] at A1 A2 A3 C1
  rw [inv_3] at C1
  have B1 := Lib.hid A1
  have B2 := Lib.hid A2
  have B3 := Lib.hid A3
  have C1 := Lib.hid C1
  clear A1 A2 A3 s1
  go_enter Tryd.func27, Tryd.ntmps27
  go_wp2_with (first | (with_reducible refine Arr.alloc (t := 55) _ z23 ?_) | fail)
  refine C1.out.mono ?_
  rintro e w' ⟨rfl, rfl⟩
  go_wp2_with fail
  generalize (w.alloc (.cells (na .u8 (zs 256)) 55)).alloc (.cells ((nv .u8 (zs 256)).set 0 (.int .u8 99)).toArray 55) = w0 at *
  go_loopw [3, 4, 7] (fun a b i wr => ∃ (k e v : Nat) (l : List Nat), k ≤ 255 ∧ i = .int .i64 (k : Nat) ∧ a = .int .u8 (e : Nat) ∧ b = .int .u8 (v : Nat) ∧ e < 256 ∧ v < 256 ∧ l.length = 256 ∧ fill (255 - k) e v l = boxL ∧ Holds wr w.heap.size .u8 (zs 256) ∧ Holds wr (w.heap.size + 1) .u8 l ∧ Below w.heap.size w wr) (fun _ _ i _ => 255 - (intOf i).toNat)
  case atStart => exact ⟨0, 1, 1, box0, by omega, rfl, rfl, rfl, by omega, by omega, box0_len, fill_all, B1.out, B2.out, B3.out⟩
  case round =>
    clear B1 B2 B3 C1 z0 z1
    obtain ⟨k, e, v, l, hk, rfl, rfl, rfl, he, hv, hl, hf, h1, h2, h3⟩ := hrel
    have H1 := Lib.hid h1; clear h1
    have H2 := Lib.hid h2; clear h2
    have H3 := Lib.hid h3; clear h3
    have hl' := Lib.hid hl
    by_cases hlt : k < 255
    · have ht : decide ((k : Int) < 255) = true := by simp; omega
      rw [show 255 - k = (255 - (k + 1)) + 1 by omega] at hf
      have HF := Lib.hid (show fill (255 - (k + 1)) (T e 3) (T v 246) (l.set e (tb v)) = boxL from hf)
      have C1 := Lib.hid (turned_any v hv wr)
      have C2 := fun w => times_any e 3 he (by omega) w
      have C3 := fun w => times_any v 246 hv (by omega) w
      have l1 := T_lt e 3 he
      have l2 := T_lt v 246 hv
      have hcell := H2.out.cell e (by rw [hl]; exact he)
      have hfro := H2.out.frozen e (by rw [hl]; exact he)
      have X1 := H1.out.beside ⟨w.heap.size + 1, e, none⟩ (.int .u8 ((tb v : Nat) : Int)) (show w.heap.size + 1 ≠ w.heap.size by omega)
      have X2 := H2.out.set e (tb v) (by rw [hl]; exact he)
      have X3 := H3.out.setCell (p := ⟨w.heap.size + 1, e, none⟩) (show w.heap.size ≤ w.heap.size + 1 by omega) (.int .u8 ((tb v : Nat) : Int))
      clear hf
      generalize tb v = t at *
      generalize T e 3 = e' at *
      generalize T v 246 = v' at *
      generalize l.getD e 0 = old at *
      have X1 := Lib.hid X1
      have X2 := Lib.hid X2
      have X3 := Lib.hid X3
      have C2 := Lib.hid C2
      have C3 := Lib.hid C3
      go_wp2_with fail
      refine C1.out.mono ?_
      rintro e w' ⟨rfl, rfl⟩
      go_wp2_with fail
      refine (C2.out _).mono ?_
      rintro e w' ⟨rfl, rfl⟩
      go_wp2_with fail
      refine (C3.out _).mono ?_
      rintro e w' ⟨rfl, rfl⟩
      go_wp2
      go_roundw
      case rel => exact ⟨k + 1, e', v', _, by omega, by go_num, rfl, rfl, l1, l2, by rw [List.length_set, hl], HF.out, X1.out, X2.out, X3.out⟩
      case measure => simp [intOf]; omega
    · obtain rfl : k = 255 := by omega
      obtain rfl : l = boxL := hf
      generalize boxL = l at *
      go_wp2_with (first | (with_reducible refine Arr.load o23 (w.heap.size + 1) l hl'.out H2.out rfl ?_) | (with_reducible refine Arr.store o23 w.heap.size (zs 256) l (length_zs _) H1.out hl'.out rfl rfl ?_))
      exact bodyPost_ret (v := .agg (na .u8 l)) (results_arr o23 rfl _ _ w.heap.size l hl'.out (H1.out.put _ (by rw [hl'.out, length_zs])) rfl) rfl ⟨rfl, below_setCells (Nat.le_refl _) _ _ _ H3.out⟩

/-- The box back. -/
def backL : List Nat := Sw.sw boxL
theorem backL_len : backL.length = 256 := Sw.length_sw _

end Go.Proofs.YtdjknmnmacppdaaDoor
